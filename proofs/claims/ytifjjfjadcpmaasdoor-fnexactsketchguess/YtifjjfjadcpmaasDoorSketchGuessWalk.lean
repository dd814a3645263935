/- The law on SketchGuess, walked. Written by mkslaw.py. -/
import Derived.Test.YtifjjfjadcpmaasDoorSkLaw3
import Derived.Test.YtifjjfjadcpmaasDoorSkGuessSpec
import Derived.Test.YtifjjfjadcpmaasDoorSkGuessImpl
import Derived.Deep.RegionHeld3
namespace Go.Proofs.YtifjjfjadcpmaasDoor
open Go.RowKit Go.Sort
set_option maxRecDepth 100000 in
set_option maxHeartbeats 8000000 in
theorem sketchGuess_walk (a : Option Addr) (c : Nat) (S : Sk) (key : ByteArray) (w : World) (hE : SSAt w a S.rows w.heap.size) (hm : S.rows.length ≤ maxLen) (hm' : ∀ j (hj : j < S.rows.length), S.rows[j].length ≤ maxLen) (hkw : key.size ≤ maxLen) (ht : Tab w) :
    Calls Tryd.prog 6 #[.agg #[.slice a S.rows.length c, .int .i64 S.added], .string key] w fun e w' => e = .returned (.bool true) ∧ Below w.heap.size w w' := by
  obtain ⟨wb, hwb⟩ : ∃ wb, w.alloc (.cells #[.slice a S.rows.length c, .int .i64 S.added] 38) = wb := ⟨_, rfl⟩
  have hb : Below w.heap.size w wb := by rw [← hwb]; exact (Below.refl _ _).alloc (Nat.le_refl _) _
  have hbs : w.heap.size < wb.heap.size := by rw [← hwb]; simp
  have hK_wb : KBox wb w.heap.size (.slice a S.rows.length c) (.int .i64 S.added) := by rw [← hwb]; exact KBox.new _ _ _
  have hE_wb : SSAt wb a S.rows wb.heap.size := hE.on hb
  have hw_wb : Below w.heap.size w wb := hb
  have hB_wb : Below wb.heap.size wb wb := Below.refl _ _
  have HB : Hid (∀ wi, Below wb.heap.size wb wi → KBox wi w.heap.size (.slice a S.rows.length c) (.int .i64 S.added) ∧ SSAt wi a S.rows wi.heap.size ∧ Below w.heap.size w wi) := fun wi hi => ⟨hK_wb.on hi, hE_wb.on hi, hb.trans (hi.mono hb.size)⟩
  have HTB : Hid (∀ wi, Below wb.heap.size wb wi → Tab wi) := fun wi hi => (ht.below hb (Nat.le_refl _)).below hi (Nat.le_refl _)
  have c0 := szSketch_any wb a c S hE_wb hm hm'
  have HW : Hid (w.alloc (.cells #[.slice a S.rows.length c, .int .i64 S.added] 38) = wb) := hwb
  obtain ⟨b0, b1⟩ := hK_wb.cells
  rw [← hwb] at b0 b1
  clear hwb hE hb ht
  go_enter Tryd.func6, Tryd.ntmps6
  have hksz : key.size ≤ 9223372036854775807 := by unfold maxLen at hkw; omega
  by_cases hkl : 1048576 < key.size
  · have hkl2 : (1048576 : Int) < (key.size : Int) := by omega
    clear hkw
    go_wp2_with fail
    go_ret
    exact ⟨rfl, by rw [HW.out]; exact hw_wb⟩
  have hkl2 : ¬ (1048576 : Int) < (key.size : Int) := by omega
  have hk : key.size ≤ 1048576 := by omega
  clear hkw hkl
  go_wp2_with fail
  rw [HW.out] at b0 b1 ⊢
  refine c0.mono ?_
  rintro e w1 ⟨r, rfl, hr, hb1⟩
  clear c0 b0 b1
  have hB_w1 : Below wb.heap.size wb w1 := hB_wb.trans (hb1.mono hB_wb.size)
  obtain ⟨hK_w1, hE_w1, hw_w1⟩ := HB.out w1 hB_w1
  clear hK_wb hE_wb hw_wb hB_wb 
  rcases hr with rfl | ⟨hr0, hsz⟩
  · go_wp2_with fail
    go_ret
    exact ⟨rfl, hw_w1⟩
  have hr2 : ¬ r < 0 := by omega
  clear hr0 hm hm'
  obtain ⟨R, hR⟩ : ∃ R, guessS S key = R := ⟨_, rfl⟩
  have hbb : (R != R) = false := by simp
  have hsl : S.rows.length ≤ 1048576 := by unfold SkSz at hsz; omega
  have CS : Hid (∀ (wi : World) (a1 : Option Addr) (k1 : Nat), SSAt wi a1 S.rows wi.heap.size → Calls Tryd.prog 21 #[.agg #[.slice a1 S.rows.length k1, .int .i64 S.added], .string key] wi fun e w' => e = .returned (.int .i64 R) ∧ Below wi.heap.size wi w') := by intro wi a1 k1 h; rw [← hR]; exact specSketchGuess_any wi a1 k1 S key h hsl hk
  have CI : Hid (∀ (wi : World) (a1 : Option Addr) (k1 : Nat), SSAt wi a1 S.rows wi.heap.size → Tab wi → Calls Tryd.prog 22 #[.agg #[.slice a1 S.rows.length k1, .int .i64 S.added], .string key] wi fun e w' => e = .returned (.int .i64 R) ∧ Below wi.heap.size wi w') := by intro wi a1 k1 h ht; rw [← hR]; exact implSketchGuess_any wi a1 k1 S key h hsl hk ht
  clear hR
  obtain ⟨b0, b1⟩ := hK_w1.cells
  go_wp2_with fail
  refine (toSketch_any w1 a c S hE_w1 hsz).mono ?_
  rintro e w2 ⟨vw2, rfl, how2, hbw2⟩
  obtain ⟨aw2, kw2, rfl, hAw2⟩ := how2.at
  clear b0 b1 
  have hB_w2 : Below wb.heap.size wb w2 := hB_w1.trans (hbw2.mono hB_w1.size)
  obtain ⟨hK_w2, hE_w2, hw_w2⟩ := HB.out w2 hB_w2
  clear hK_w1 hE_w1 hw_w1 hB_w1 
  have cS := CS.out w2 aw2 kw2 hAw2
  go_wp2_with fail
  refine cS.mono ?_
  rintro e w3 ⟨rfl, hbw3⟩
  clear cS how2 hAw2
  have hB_w3 : Below wb.heap.size wb w3 := hB_w2.trans (hbw3.mono hB_w2.size)
  obtain ⟨hK_w3, hE_w3, hw_w3⟩ := HB.out w3 hB_w3
  clear hK_w2 hE_w2 hw_w2 hB_w2 
  obtain ⟨b0, b1⟩ := hK_w3.cells
  go_wp2_with fail
  refine (toSketch_any w3 a c S hE_w3 hsz).mono ?_
  rintro e w5 ⟨vw5, rfl, how5, hbw5⟩
  obtain ⟨aw5, kw5, rfl, hAw5⟩ := how5.at
  clear b0 b1 
  have hB_w5 : Below wb.heap.size wb w5 := hB_w3.trans (hbw5.mono hB_w3.size)
  obtain ⟨hK_w5, hE_w5, hw_w5⟩ := HB.out w5 hB_w5
  clear hK_w3 hE_w3 hw_w3 hB_w3 
  obtain ⟨w6, hw6⟩ : ∃ x, w5.alloc (.cells #[.slice aw5 S.rows.length kw5, .int .i64 S.added] 40) = x := ⟨_, rfl⟩
  have hbw6 : Below w5.heap.size w5 w6 := by rw [← hw6]; exact (Below.refl _ _).alloc (Nat.le_refl _) _
  have evX_w6 : SV w6 w3.heap.size w5.heap.size aw5 kw5 S := by rw [← hw6]; exact SV.new how5 hbw5.size
  have sw6 : w6.heap.size = w5.heap.size + 1 := by rw [← hw6]; simp
  have HWw6 : Hid (w5.alloc (.cells #[.slice aw5 S.rows.length kw5, .int .i64 S.added] 40) = w6) := hw6
  have hB_w6 : Below wb.heap.size wb w6 := hB_w5.trans (hbw6.mono hB_w5.size)
  obtain ⟨hK_w6, hE_w6, hw_w6⟩ := HB.out w6 hB_w6
  clear hK_w5 hE_w5 hw_w5 hB_w5 
  obtain ⟨b0, b1⟩ := hK_w6.cells
  obtain ⟨x0, x1⟩ := evX_w6.box.cells
  rw [← hw6] at b0 b1 x0 x1
  clear hw6
  have cI := CI.out w6 aw5 kw5 evX_w6.at (HTB.out _ hB_w6)
  go_wp2_with fail
  rw [HWw6.out] at b0 b1 x0 x1 ⊢
  refine cI.mono ?_
  rintro e w7 ⟨rfl, hbw7⟩
  clear cI
  clear b0 b1 x0 x1
  have hB_w7 : Below wb.heap.size wb w7 := hB_w6.trans (hbw7.mono hB_w6.size)
  obtain ⟨hK_w7, hE_w7, hw_w7⟩ := HB.out w7 hB_w7
  have evX_w7 := evX_w6.on hbw7
  clear hK_w6 hE_w6 hw_w6 hB_w6 evX_w6
  clear how5 hAw5 sw6
  obtain ⟨b0, b1⟩ := hK_w7.cells
  obtain ⟨x0, x1⟩ := evX_w7.box.cells
  have KS : ∀ W, Below w7.heap.size w7 W → Below w7.heap.size w7 W ∧ W.cell? ⟨w5.heap.size, 0, none⟩ = some (.slice aw5 S.rows.length kw5) ∧ W.cell? ⟨w5.heap.size, 1, none⟩ = some (.int .i64 S.added) ∧ W.cell? ⟨w.heap.size, 0, none⟩ = some (.slice a S.rows.length c) ∧ W.cell? ⟨w.heap.size, 1, none⟩ = some (.int .i64 S.added) := fun W h => ⟨h, (h.cell (World.block_lt_of_cell? w7 _ x0)).trans x0, (h.cell (World.block_lt_of_cell? w7 _ x1)).trans x1, (h.cell (World.block_lt_of_cell? w7 _ b0)).trans b0, (h.cell (World.block_lt_of_cell? w7 _ b1)).trans b1⟩
  have hdr : Below w7.heap.size w7 w7.drew := ⟨rfl, rfl, rfl, Nat.le_refl _, fun _ _ => rfl⟩
  have HT : Hid (∀ W, Below w7.heap.size w7 W → SSAt W a S.rows W.heap.size ∧ SSAt W aw5 S.rows W.heap.size) := fun W h => ⟨hE_w7.on h, evX_w7.at.on h⟩
  go_wp2_with fail
  go_region_held3 (fun W => Below w7.heap.size w7 W ∧ W.cell? ⟨w5.heap.size, 0, none⟩ = some (.slice aw5 S.rows.length kw5) ∧ W.cell? ⟨w5.heap.size, 1, none⟩ = some (.int .i64 S.added) ∧ W.cell? ⟨w.heap.size, 0, none⟩ = some (.slice a S.rows.length c) ∧ W.cell? ⟨w.heap.size, 1, none⟩ = some (.int .i64 S.added)) (first | with_reducible exact KS _ hdr | with_reducible exact KS _ hC | with_reducible exact KS _ hD)
    (first
      | (go_at_call 16; refine (toSketch_any _ a c S (HT.out _ hdr).1 hsz).mono ?_; rintro e w8 ⟨v10, rfl, ho10, hb10⟩; obtain ⟨a10, k10, rfl, hA10⟩ := ho10.at; have hC : Below w7.heap.size w7 w8 := hdr.trans (hb10.mono hdr.size))
      | (go_at_call 18; refine (eqSketch_same _ aw5 a10 kw5 k10 S (HT.out _ hC).2 hA10 hsz).mono ?_; rintro e w9 ⟨rfl, hb11⟩; have hD : Below w7.heap.size w7 w9 := hC.trans (hb11.mono hC.size)))
  clear KS HT hdr ho10 hA10 hb10 hb11 hC
  go_wp2_with fail
  go_ret
  exact ⟨rfl, hw_w7.trans (hD.mono hw_w7.size)⟩
end Go.Proofs.YtifjjfjadcpmaasDoor
