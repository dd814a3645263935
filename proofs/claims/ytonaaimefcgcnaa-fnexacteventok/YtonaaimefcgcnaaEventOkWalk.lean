/- The law on EventOk, walked. Written by mkevent.py. -/
import Derived.Test.YtonaaimefcgcnaaEvLaw
import Derived.Test.YtonaaimefcgcnaaEvOk
import Derived.Deep.RegionHeld3
namespace Go.Proofs.Ytonaaimefcgcnaa
open Go.RowKit Go.Sort
set_option maxRecDepth 100000 in
set_option maxHeartbeats 8000000 in
theorem eventOk_walk (a : Option Addr) (c : Nat) (S : Ev) (w : World) (hE : IAt w a S.left w.heap.size) (hmt : S.tx.size ≤ maxLen) (hm : S.left.length ≤ maxLen) :
    Calls Try.prog 3 #[.agg #[.int .i64 S.kind, .int .i64 S.id, .string S.tx, .int .i64 S.n, .slice a S.left.length c]] w fun e w' => e = .returned (.bool true) ∧ Below w.heap.size w w' := by
  obtain ⟨wb, hwb⟩ : ∃ wb, w.alloc (.cells #[.int .i64 S.kind, .int .i64 S.id, .string S.tx, .int .i64 S.n, .slice a S.left.length c] 24) = wb := ⟨_, rfl⟩
  have hb : Below w.heap.size w wb := by rw [← hwb]; exact (Below.refl _ _).alloc (Nat.le_refl _) _
  have hbs : w.heap.size < wb.heap.size := by rw [← hwb]; simp
  have hK_wb : LEBox wb w.heap.size (.int .i64 S.kind) (.int .i64 S.id) (.string S.tx) (.int .i64 S.n) (.slice a S.left.length c) := by rw [← hwb]; exact LEBox.new _ _ _ _ _ _
  have hE_wb : IAt wb a S.left wb.heap.size := hE.on hb
  have hw_wb : Below w.heap.size w wb := hb
  have hB_wb : Below wb.heap.size wb wb := Below.refl _ _
  have HB : Hid (∀ wi, Below wb.heap.size wb wi → LEBox wi w.heap.size (.int .i64 S.kind) (.int .i64 S.id) (.string S.tx) (.int .i64 S.n) (.slice a S.left.length c) ∧ IAt wi a S.left wi.heap.size ∧ Below w.heap.size w wi) := fun wi hi => ⟨hK_wb.on hi, hE_wb.on hi, hb.trans (hi.mono hb.size)⟩
  have c0 := szEvent_any wb a c S hmt hm
  have HW : Hid (w.alloc (.cells #[.int .i64 S.kind, .int .i64 S.id, .string S.tx, .int .i64 S.n, .slice a S.left.length c] 24) = wb) := hwb
  obtain ⟨b0, b1, b2, b3, b4⟩ := hK_wb.cells
  rw [← hwb] at b0 b1 b2 b3 b4
  clear hwb hE hb
  go_enter Try.func3, Try.ntmps3
  go_wp2_with fail
  rw [HW.out] at b0 b1 b2 b3 b4 ⊢
  refine c0.mono ?_
  rintro e w1 ⟨r, rfl, hr, hb1⟩
  clear c0 b0 b1 b2 b3 b4
  have hB_w1 : Below wb.heap.size wb w1 := hB_wb.trans (hb1.mono hB_wb.size)
  obtain ⟨hK_w1, hE_w1, hw_w1⟩ := HB.out w1 hB_w1
  clear hK_wb hE_wb hw_wb hB_wb 
  rcases hr with rfl | ⟨hr0, hr1⟩
  · go_wp2_with fail
    go_ret
    exact ⟨rfl, hw_w1⟩
  have hlt : S.tx.size ≤ 1048576 := by omega
  have hl : S.left.length ≤ 1048576 := by omega
  have hr2 : ¬ r < 0 := by omega
  clear hr1 hr0 hm hmt
  obtain ⟨R, hRES⟩ : ∃ R, okEv S = R := ⟨_, rfl⟩
  have CS : Hid (∀ (wi : World) (a1 : Option Addr) (k1 : Nat), IAt wi a1 S.left wi.heap.size → Calls Try.prog 8 #[.agg #[.int .i64 S.kind, .int .i64 S.id, .string S.tx, .int .i64 S.n, .slice a1 S.left.length k1]] wi fun e w' => e = .returned (.bool R) ∧ Below wi.heap.size wi w') := by
    intro wi a1 k1 _
    rw [← hRES]
    exact specEventOk_any wi a1 k1 S
  have CI : Hid (∀ (wi : World) (a1 : Option Addr) (k1 : Nat), IAt wi a1 S.left wi.heap.size → Calls Try.prog 10 #[.agg #[.int .i64 S.kind, .int .i64 S.id, .string S.tx, .int .i64 S.n, .slice a1 S.left.length k1]] wi fun e w' => e = .returned (.bool R) ∧ Below wi.heap.size wi w') := by
    intro wi a1 k1 _
    rw [← hRES]
    exact implEventOk_any wi a1 k1 S
  clear hRES
  obtain ⟨b0, b1, b2, b3, b4⟩ := hK_w1.cells
  go_wp2_with fail
  refine (toEvent_any w1 a c S hE_w1 hl).mono ?_
  rintro e w2 ⟨vw2, rfl, how2, hbw2⟩
  obtain ⟨aw2, kw2, rfl, hAw2⟩ := how2.at
  clear b0 b1 b2 b3 b4 
  have hB_w2 : Below wb.heap.size wb w2 := hB_w1.trans (hbw2.mono hB_w1.size)
  obtain ⟨hK_w2, hE_w2, hw_w2⟩ := HB.out w2 hB_w2
  clear hK_w1 hE_w1 hw_w1 hB_w1 
  have cS := CS.out w2 aw2 kw2 hAw2
  go_wp2_with fail
  refine cS.mono ?_
  rintro e w3 ⟨rfl, hbw3⟩
  clear cS how2 hAw2
  have hB_w3 : Below wb.heap.size wb w3 := hB_w2.trans (hbw3.mono hB_w2.size)
  obtain ⟨hK_w3, hE_w3, hw_w3⟩ := HB.out w3 hB_w3
  clear hK_w2 hE_w2 hw_w2 hB_w2 
  obtain ⟨b0, b1, b2, b3, b4⟩ := hK_w3.cells
  go_wp2_with fail
  refine (toEvent_any w3 a c S hE_w3 hl).mono ?_
  rintro e w5 ⟨vw5, rfl, how5, hbw5⟩
  obtain ⟨aw5, kw5, rfl, hAw5⟩ := how5.at
  clear b0 b1 b2 b3 b4 
  have hB_w5 : Below wb.heap.size wb w5 := hB_w3.trans (hbw5.mono hB_w3.size)
  obtain ⟨hK_w5, hE_w5, hw_w5⟩ := HB.out w5 hB_w5
  clear hK_w3 hE_w3 hw_w3 hB_w3 
  obtain ⟨w6, hw6⟩ : ∃ x, w5.alloc (.cells #[.int .i64 S.kind, .int .i64 S.id, .string S.tx, .int .i64 S.n, .slice aw5 S.left.length kw5] 27) = x := ⟨_, rfl⟩
  have hbw6 : Below w5.heap.size w5 w6 := by rw [← hw6]; exact (Below.refl _ _).alloc (Nat.le_refl _) _
  have evX_w6 : EV w6 w3.heap.size w5.heap.size aw5 kw5 S := by rw [← hw6]; exact EV.new how5 hbw5.size
  have sw6 : w6.heap.size = w5.heap.size + 1 := by rw [← hw6]; simp
  have HWw6 : Hid (w5.alloc (.cells #[.int .i64 S.kind, .int .i64 S.id, .string S.tx, .int .i64 S.n, .slice aw5 S.left.length kw5] 27) = w6) := hw6
  have hB_w6 : Below wb.heap.size wb w6 := hB_w5.trans (hbw6.mono hB_w5.size)
  obtain ⟨hK_w6, hE_w6, hw_w6⟩ := HB.out w6 hB_w6
  clear hK_w5 hE_w5 hw_w5 hB_w5 
  obtain ⟨b0, b1, b2, b3, b4⟩ := hK_w6.cells
  obtain ⟨x0, x1, x2, x3, x4⟩ := evX_w6.box.cells
  rw [← hw6] at b0 b1 b2 b3 b4 x0 x1 x2 x3 x4
  clear hw6
  have cI := CI.out w6 aw5 kw5 evX_w6.at
  go_wp2_with fail
  rw [HWw6.out] at b0 b1 b2 b3 b4 x0 x1 x2 x3 x4 ⊢
  refine cI.mono ?_
  rintro e w7 ⟨rfl, hbw7⟩
  clear cI
  clear b0 b1 b2 b3 b4 x0 x1 x2 x3 x4
  have hB_w7 : Below wb.heap.size wb w7 := hB_w6.trans (hbw7.mono hB_w6.size)
  obtain ⟨hK_w7, hE_w7, hw_w7⟩ := HB.out w7 hB_w7
  have evX_w7 := evX_w6.on hbw7
  clear hK_w6 hE_w6 hw_w6 hB_w6 evX_w6
  obtain ⟨b0, b1, b2, b3, b4⟩ := hK_w7.cells
  obtain ⟨x0, x1, x2, x3, x4⟩ := evX_w7.box.cells
  have hbb : (R != R) = false := by simp
  have KS : ∀ W, Below w7.heap.size w7 W → Below w7.heap.size w7 W ∧ W.cell? ⟨w5.heap.size, 0, none⟩ = some (.int .i64 S.kind) ∧ W.cell? ⟨w5.heap.size, 1, none⟩ = some (.int .i64 S.id) ∧ W.cell? ⟨w5.heap.size, 2, none⟩ = some (.string S.tx) ∧ W.cell? ⟨w5.heap.size, 3, none⟩ = some (.int .i64 S.n) ∧ W.cell? ⟨w5.heap.size, 4, none⟩ = some (.slice aw5 S.left.length kw5) ∧ W.cell? ⟨w.heap.size, 0, none⟩ = some (.int .i64 S.kind) ∧ W.cell? ⟨w.heap.size, 1, none⟩ = some (.int .i64 S.id) ∧ W.cell? ⟨w.heap.size, 2, none⟩ = some (.string S.tx) ∧ W.cell? ⟨w.heap.size, 3, none⟩ = some (.int .i64 S.n) ∧ W.cell? ⟨w.heap.size, 4, none⟩ = some (.slice a S.left.length c) := fun W h => ⟨h, (h.cell (World.block_lt_of_cell? w7 _ x0)).trans x0, (h.cell (World.block_lt_of_cell? w7 _ x1)).trans x1, (h.cell (World.block_lt_of_cell? w7 _ x2)).trans x2, (h.cell (World.block_lt_of_cell? w7 _ x3)).trans x3, (h.cell (World.block_lt_of_cell? w7 _ x4)).trans x4, (h.cell (World.block_lt_of_cell? w7 _ b0)).trans b0, (h.cell (World.block_lt_of_cell? w7 _ b1)).trans b1, (h.cell (World.block_lt_of_cell? w7 _ b2)).trans b2, (h.cell (World.block_lt_of_cell? w7 _ b3)).trans b3, (h.cell (World.block_lt_of_cell? w7 _ b4)).trans b4⟩
  have hdr : Below w7.heap.size w7 w7.drew := ⟨rfl, rfl, rfl, Nat.le_refl _, fun _ _ => rfl⟩
  have HT : Hid (∀ W, Below w7.heap.size w7 W → IAt W a S.left W.heap.size ∧ IAt W aw5 S.left W.heap.size) := fun W h => ⟨hE_w7.on h, evX_w7.at.on h⟩
  go_wp2_with fail
  go_region_held3 (fun W => Below w7.heap.size w7 W ∧ W.cell? ⟨w5.heap.size, 0, none⟩ = some (.int .i64 S.kind) ∧ W.cell? ⟨w5.heap.size, 1, none⟩ = some (.int .i64 S.id) ∧ W.cell? ⟨w5.heap.size, 2, none⟩ = some (.string S.tx) ∧ W.cell? ⟨w5.heap.size, 3, none⟩ = some (.int .i64 S.n) ∧ W.cell? ⟨w5.heap.size, 4, none⟩ = some (.slice aw5 S.left.length kw5) ∧ W.cell? ⟨w.heap.size, 0, none⟩ = some (.int .i64 S.kind) ∧ W.cell? ⟨w.heap.size, 1, none⟩ = some (.int .i64 S.id) ∧ W.cell? ⟨w.heap.size, 2, none⟩ = some (.string S.tx) ∧ W.cell? ⟨w.heap.size, 3, none⟩ = some (.int .i64 S.n) ∧ W.cell? ⟨w.heap.size, 4, none⟩ = some (.slice a S.left.length c)) (first | with_reducible exact KS _ hdr | with_reducible exact KS _ hC | with_reducible exact KS _ hD)
    (first
      | (go_at_call 9; refine (toEvent_any _ a c S (HT.out _ hdr).1 hl).mono ?_; rintro e w10 ⟨v10, rfl, ho10, hb10⟩; obtain ⟨a10, k10, rfl, hA10⟩ := ho10.at; have hC : Below w7.heap.size w7 w10 := hdr.trans (hb10.mono hdr.size))
      | (go_at_call 11; refine (eqEvent_same _ aw5 a10 kw5 k10 S (HT.out _ hC).2 hA10 (by omega)).mono ?_; rintro e w11 ⟨rfl, hb11⟩; have hD : Below w7.heap.size w7 w11 := hC.trans (hb11.mono hC.size)))
  clear KS HT hdr ho10 hA10 hb10 hb11 hC
  clear b0 b1 b2 b3 b4 x0 x1 x2 x3 x4
  have hB_w11 : Below wb.heap.size wb w11 := hB_w7.trans (hD.mono hB_w7.size)
  obtain ⟨hK_w11, hE_w11, hw_w11⟩ := HB.out w11 hB_w11
  have evX_w11 := evX_w7.on hD
  clear hK_w7 hE_w7 hw_w7 hB_w7 evX_w7
  try (rename_i hHeld; clear hHeld)
  go_wp2_with fail
  go_ret
  exact ⟨rfl, hw_w11⟩
end Go.Proofs.Ytonaaimefcgcnaa
