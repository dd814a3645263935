/- The law on EpochsOk, walked. Written by mkelaw.py. -/
import Derived.Test.YtockgojdmaladaoEpochLaw
import Derived.Test.YtockgojdmaladaoEpochOkSpec
import Derived.Test.YtockgojdmaladaoEpochOkImpl
import Derived.Deep.RegionHeld3
namespace Go.Proofs.Ytockgojdmaladao
open Go.RowKit Go.Sort
set_option maxRecDepth 100000 in
set_option maxHeartbeats 8000000 in
theorem epochsOk_walk (pa ga : Option Addr) (pc gc : Nat) (E : Ep) (w : World) (hE : EAt w pa ga E w.heap.size) (hm : E.pins.length ≤ maxLen) (hm' : E.gone.length ≤ maxLen) :
    Calls Try.prog 6 #[.agg #[.int .i64 E.now, .slice pa E.pins.length pc, .slice ga E.gone.length gc]] w fun e w' => e = .returned (.bool true) ∧ Below w.heap.size w w' := by
  obtain ⟨wb, hwb⟩ : ∃ wb, w.alloc (.cells #[.int .i64 E.now, .slice pa E.pins.length pc, .slice ga E.gone.length gc] 52) = wb := ⟨_, rfl⟩
  have hb : Below w.heap.size w wb := by rw [← hwb]; exact (Below.refl _ _).alloc (Nat.le_refl _) _
  have hbs : w.heap.size < wb.heap.size := by rw [← hwb]; simp
  have hK_wb : WBox wb w.heap.size (.int .i64 E.now) (.slice pa E.pins.length pc) (.slice ga E.gone.length gc) := by rw [← hwb]; exact WBox.new _ _ _ _
  have hE_wb : EAt wb pa ga E wb.heap.size := hE.on hb
  have hw_wb : Below w.heap.size w wb := hb
  have hB_wb : Below wb.heap.size wb wb := Below.refl _ _
  have HB : Hid (∀ wi, Below wb.heap.size wb wi → WBox wi w.heap.size (.int .i64 E.now) (.slice pa E.pins.length pc) (.slice ga E.gone.length gc) ∧ EAt wi pa ga E wi.heap.size ∧ Below w.heap.size w wi) := fun wi hi => ⟨hK_wb.on hi, hE_wb.on hi, hb.trans (hi.mono hb.size)⟩
  have c0 := szEpochs_any wb pa ga pc gc E.pins.length E.gone.length E.now hm hm'
  have HW : Hid (w.alloc (.cells #[.int .i64 E.now, .slice pa E.pins.length pc, .slice ga E.gone.length gc] 52) = wb) := hwb
  obtain ⟨b0, b1, b2⟩ := hK_wb.cells
  rw [← hwb] at b0 b1 b2
  clear hwb hE hb
  go_enter Try.func6, Try.ntmps6
  go_wp2_with fail
  rw [HW.out] at b0 b1 b2 ⊢
  refine c0.mono ?_
  rintro e w1 ⟨r, rfl, hr, hb1⟩
  clear c0 b0 b1 b2
  have hB_w1 : Below wb.heap.size wb w1 := hB_wb.trans (hb1.mono hB_wb.size)
  obtain ⟨hK_w1, hE_w1, hw_w1⟩ := HB.out w1 hB_w1
  clear hK_wb hE_wb hw_wb hB_wb 
  rcases hr with rfl | ⟨hr0, hr1⟩
  · go_wp2_with fail
    go_ret
    exact ⟨rfl, hw_w1⟩
  have hl : E.pins.length ≤ 1048576 := by omega
  have hl' : E.gone.length ≤ 1048576 := by omega
  have hr2 : ¬ r < 0 := by omega
  clear hr1 hr0 hm hm'
  obtain ⟨R, hR⟩ : ∃ R, okE E = R := ⟨_, rfl⟩
  have hbb : (R != R) = false := by simp
  have CS : Hid (∀ (wi : World) (a1 a2 : Option Addr) (k1 k2 : Nat), EAt wi a1 a2 E wi.heap.size → Calls Try.prog 31 #[.agg #[.int .i64 E.now, .slice a1 E.pins.length k1, .slice a2 E.gone.length k2]] wi fun e w' => e = .returned (.bool R) ∧ Below wi.heap.size wi w') := by intro wi a1 a2 k1 k2 h; rw [← hR]; exact specEpochsOk_any wi a1 a2 k1 k2 E h hl hl'
  have CI : Hid (∀ (wi : World) (a1 a2 : Option Addr) (k1 k2 : Nat), EAt wi a1 a2 E wi.heap.size → Calls Try.prog 33 #[.agg #[.int .i64 E.now, .slice a1 E.pins.length k1, .slice a2 E.gone.length k2]] wi fun e w' => e = .returned (.bool R) ∧ Below wi.heap.size wi w') := by intro wi a1 a2 k1 k2 h; rw [← hR]; exact implEpochsOk_any wi a1 a2 k1 k2 E h hl hl'
  clear hR
  obtain ⟨b0, b1, b2⟩ := hK_w1.cells
  go_wp2_with fail
  refine (toEpochs_any w1 pa ga pc gc E hE_w1 hl hl').mono ?_
  rintro e w2 ⟨vw2, rfl, how2, hbw2⟩
  obtain ⟨aw2, kw2, dw2, lw2, rfl, hAw2⟩ := how2.at
  clear b0 b1 b2 
  have hB_w2 : Below wb.heap.size wb w2 := hB_w1.trans (hbw2.mono hB_w1.size)
  obtain ⟨hK_w2, hE_w2, hw_w2⟩ := HB.out w2 hB_w2
  clear hK_w1 hE_w1 hw_w1 hB_w1 
  have cS := CS.out w2 aw2 dw2 kw2 lw2 hAw2
  go_wp2_with fail
  refine cS.mono ?_
  rintro e w3 ⟨rfl, hbw3⟩
  clear cS how2 hAw2
  have hB_w3 : Below wb.heap.size wb w3 := hB_w2.trans (hbw3.mono hB_w2.size)
  obtain ⟨hK_w3, hE_w3, hw_w3⟩ := HB.out w3 hB_w3
  clear hK_w2 hE_w2 hw_w2 hB_w2 
  obtain ⟨b0, b1, b2⟩ := hK_w3.cells
  go_wp2_with fail
  refine (toEpochs_any w3 pa ga pc gc E hE_w3 hl hl').mono ?_
  rintro e w5 ⟨vw5, rfl, how5, hbw5⟩
  obtain ⟨aw5, kw5, dw5, lw5, rfl, hAw5⟩ := how5.at
  clear b0 b1 b2 
  have hB_w5 : Below wb.heap.size wb w5 := hB_w3.trans (hbw5.mono hB_w3.size)
  obtain ⟨hK_w5, hE_w5, hw_w5⟩ := HB.out w5 hB_w5
  clear hK_w3 hE_w3 hw_w3 hB_w3 
  obtain ⟨w6, hw6⟩ : ∃ x, w5.alloc (.cells #[.int .i64 E.now, .slice aw5 E.pins.length kw5, .slice dw5 E.gone.length lw5] 45) = x := ⟨_, rfl⟩
  have hbw6 : Below w5.heap.size w5 w6 := by rw [← hw6]; exact (Below.refl _ _).alloc (Nat.le_refl _) _
  have evX_w6 : EV w6 w3.heap.size w5.heap.size aw5 kw5 dw5 lw5 E := by rw [← hw6]; exact EV.new how5 hbw5.size
  have HWw6 : Hid (w5.alloc (.cells #[.int .i64 E.now, .slice aw5 E.pins.length kw5, .slice dw5 E.gone.length lw5] 45) = w6) := hw6
  have hB_w6 : Below wb.heap.size wb w6 := hB_w5.trans (hbw6.mono hB_w5.size)
  obtain ⟨hK_w6, hE_w6, hw_w6⟩ := HB.out w6 hB_w6
  clear hK_w5 hE_w5 hw_w5 hB_w5 
  obtain ⟨b0, b1, b2⟩ := hK_w6.cells
  obtain ⟨x0, x1, x2⟩ := evX_w6.box.cells
  rw [← hw6] at b0 b1 b2 x0 x1 x2
  clear hw6
  have cI := CI.out w6 aw5 dw5 kw5 lw5 evX_w6.at
  go_wp2_with fail
  rw [HWw6.out] at b0 b1 b2 x0 x1 x2 ⊢
  refine cI.mono ?_
  rintro e w9 ⟨rfl, hbw9⟩
  clear cI how5 hAw5
  clear b0 b1 b2 x0 x1 x2
  have hB_w9 : Below wb.heap.size wb w9 := hB_w6.trans (hbw9.mono hB_w6.size)
  obtain ⟨hK_w9, hE_w9, hw_w9⟩ := HB.out w9 hB_w9
  have evX_w9 := evX_w6.on hbw9
  clear hK_w6 hE_w6 hw_w6 hB_w6 evX_w6
  obtain ⟨b0, b1, b2⟩ := hK_w9.cells
  obtain ⟨x0, x1, x2⟩ := evX_w9.box.cells
  have KS : ∀ W, Below w9.heap.size w9 W → Below w9.heap.size w9 W ∧ W.cell? ⟨w5.heap.size, 0, none⟩ = some (.int .i64 E.now) ∧ W.cell? ⟨w5.heap.size, 1, none⟩ = some (.slice aw5 E.pins.length kw5) ∧ W.cell? ⟨w5.heap.size, 2, none⟩ = some (.slice dw5 E.gone.length lw5) ∧ W.cell? ⟨w.heap.size, 0, none⟩ = some (.int .i64 E.now) ∧ W.cell? ⟨w.heap.size, 1, none⟩ = some (.slice pa E.pins.length pc) ∧ W.cell? ⟨w.heap.size, 2, none⟩ = some (.slice ga E.gone.length gc) := fun W h => ⟨h, (h.cell (World.block_lt_of_cell? w9 _ x0)).trans x0, (h.cell (World.block_lt_of_cell? w9 _ x1)).trans x1, (h.cell (World.block_lt_of_cell? w9 _ x2)).trans x2, (h.cell (World.block_lt_of_cell? w9 _ b0)).trans b0, (h.cell (World.block_lt_of_cell? w9 _ b1)).trans b1, (h.cell (World.block_lt_of_cell? w9 _ b2)).trans b2⟩
  have hdr : Below w9.heap.size w9 w9.drew := ⟨rfl, rfl, rfl, Nat.le_refl _, fun _ _ => rfl⟩
  have HT : Hid (∀ W, Below w9.heap.size w9 W → EAt W pa ga E W.heap.size ∧ EAt W aw5 dw5 E W.heap.size) := fun W h => ⟨hE_w9.on h, evX_w9.at.on h⟩
  go_wp2_with fail
  go_region_held3 (fun W => Below w9.heap.size w9 W ∧ W.cell? ⟨w5.heap.size, 0, none⟩ = some (.int .i64 E.now) ∧ W.cell? ⟨w5.heap.size, 1, none⟩ = some (.slice aw5 E.pins.length kw5) ∧ W.cell? ⟨w5.heap.size, 2, none⟩ = some (.slice dw5 E.gone.length lw5) ∧ W.cell? ⟨w.heap.size, 0, none⟩ = some (.int .i64 E.now) ∧ W.cell? ⟨w.heap.size, 1, none⟩ = some (.slice pa E.pins.length pc) ∧ W.cell? ⟨w.heap.size, 2, none⟩ = some (.slice ga E.gone.length gc)) (first | with_reducible exact KS _ hdr | with_reducible exact KS _ hC | with_reducible exact KS _ hD)
    (first
      | (go_at_call 32; refine (toEpochs_any _ pa ga pc gc E (HT.out _ hdr).1 hl hl').mono ?_; rintro e w10 ⟨v10, rfl, ho10, hb10⟩; obtain ⟨a10, k10, d10, l10, rfl, hA10⟩ := ho10.at; have hC : Below w9.heap.size w9 w10 := hdr.trans (hb10.mono hdr.size))
      | (go_at_call 27; refine (eqEpochs_same _ aw5 dw5 a10 d10 kw5 lw5 k10 l10 E (HT.out _ hC).2 hA10 hl (by omega)).mono ?_; rintro e w11 ⟨rfl, hb11⟩; have hD : Below w9.heap.size w9 w11 := hC.trans (hb11.mono hC.size)))
  go_wp2_with fail
  go_ret
  exact ⟨rfl, hw_w9.trans (hD.mono hw_w9.size)⟩
end Go.Proofs.Ytockgojdmaladao
