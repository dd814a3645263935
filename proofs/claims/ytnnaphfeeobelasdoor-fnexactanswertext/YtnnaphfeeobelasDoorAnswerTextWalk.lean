/- The law on AnswerText, walked (out of FieldOfWalk, by mkanswer.py). -/
import Derived.Test.YtnnaphfeeobelasDoorHeadSize
import Derived.Test.YtnnaphfeeobelasDoorAnswerSpec
import Derived.Test.YtnnaphfeeobelasDoorAnswerImpl
import Derived.Deep.RegionHeld3
namespace Go.Proofs.YtnnaphfeeobelasDoor
open Go.RowKit Go.Sort
set_option maxRecDepth 100000 in
set_option maxHeartbeats 8000000 in
theorem answerText_walk (pa : Option Addr) (pc : Nat) (line : ByteArray) (L : List (ByteArray × ByteArray)) (name : ByteArray) (w : World) (hE : DAt w pa L w.heap.size) (hS : ∀ j (hj : j < L.length), L[j].1.size ≤ maxLen ∧ L[j].2.size ≤ maxLen) (hm : L.length ≤ maxLen) (hm' : line.size ≤ maxLen) (_ : name.size ≤ maxLen) (htab : Lib.TabIs Tryd.prog w "internal/strconv.uint64pow10" .u64 Lib.pow10Tab) :
    Calls Tryd.prog 3 #[.agg #[.string line, .slice pa L.length pc], .string name] w fun e w' => e = .returned (.bool true) ∧ Below w.heap.size w w' := by
  have HTB : Hid (∀ wi, Below w.heap.size w wi → Lib.TabIs Tryd.prog wi "internal/strconv.uint64pow10" .u64 Lib.pow10Tab) := fun wi hi => tab_below gPow htab hi
  clear htab
  obtain ⟨wb, hwb⟩ : ∃ wb, w.alloc (.cells #[.string line, .slice pa L.length pc] 24) = wb := ⟨_, rfl⟩
  have hb : Below w.heap.size w wb := by rw [← hwb]; exact (Below.refl _ _).alloc (Nat.le_refl _) _
  have hbs : w.heap.size < wb.heap.size := by rw [← hwb]; simp
  have hK_wb : HBx wb w.heap.size 24 (.string line) (.slice pa L.length pc) := by rw [← hwb]; exact HBx.new _ _ _ _
  have hE_wb : DAt wb pa L wb.heap.size := hE.on hb
  have hw_wb : Below w.heap.size w wb := hb
  have hB_wb : Below wb.heap.size wb wb := Below.refl _ _
  have HB : Hid (∀ wi, Below wb.heap.size wb wi → HBx wi w.heap.size 24 (.string line) (.slice pa L.length pc) ∧ DAt wi pa L wi.heap.size ∧ Below w.heap.size w wi) := fun wi hi => ⟨hK_wb.on hi, hE_wb.on hi, hb.trans (hi.mono hb.size)⟩
  have c0 := szHead_any wb pa pc ⟨line, L⟩ 1048576 (by omega) (by omega) hE_wb hS hm hm'
  dsimp only at c0
  have HW : Hid (w.alloc (.cells #[.string line, .slice pa L.length pc] 24) = wb) := hwb
  obtain ⟨b0, b1⟩ := hK_wb.cells
  rw [← hwb] at b0 b1
  clear hwb hE hb
  by_cases hnb : name.size ≤ 1048576
  case neg =>
    have hnb' : (1048576 : Int) < (name.size : Int) := by omega
    clear c0
    go_enter Tryd.func3, Tryd.ntmps3
    go_wp2_with fail
    go_ret
    exact ⟨rfl, by rw [HW.out]; exact hw_wb⟩
  have hnb' : ¬ (1048576 : Int) < (name.size : Int) := by omega
  go_enter Tryd.func3, Tryd.ntmps3
  go_wp2_with fail
  rw [HW.out] at b0 b1 ⊢
  refine c0.mono ?_
  rintro e w1 ⟨r, rfl, hr, hb1⟩
  clear c0 b0 b1
  have hB_w1 : Below wb.heap.size wb w1 := hB_wb.trans (hb1.mono hB_wb.size)
  obtain ⟨hK_w1, hE_w1, hw_w1⟩ := HB.out w1 hB_w1
  clear hK_wb hE_wb hw_wb hB_wb
  rcases hr with rfl | ⟨hr0, hr1⟩
  · go_wp2_with fail
    go_ret
    exact ⟨rfl, hw_w1⟩
  have hz : HdSz line L := by unfold HdSz; have hwt : wgtT L = wgtD L := rfl; omega
  have hl : L.length ≤ 1048576 := by omega
  have hr2 : ¬ r < 0 := by omega
  clear hr1 hr0 hm hm'
  obtain ⟨S, hS0⟩ : ∃ S, (answerS line L name).1 = S := ⟨_, rfl⟩
  obtain ⟨R, hR⟩ : ∃ R, (answerS line L name).2 = R := ⟨_, rfl⟩
  have CS : Hid (∀ (wi : World) (a1 : Option Addr) (k1 : Nat), DAt wi a1 L wi.heap.size → Calls Tryd.prog 5 #[.agg #[.string line, .slice a1 L.length k1], .string name] wi fun e w' => e = .returned (.tuple #[.string S, .bool R]) ∧ Below wi.heap.size wi w') := by intro wi a1 k1 h; rw [← hR, ← hS0]; exact specAnswer_any wi a1 k1 line L name h hz hnb
  have CI : Hid (∀ (wi : World) (a1 : Option Addr) (k1 : Nat), Below w.heap.size w wi → DAt wi a1 L wi.heap.size → Calls Tryd.prog 7 #[.agg #[.string line, .slice a1 L.length k1], .string name] wi fun e w' => e = .returned (.tuple #[.string S, .bool R]) ∧ Below wi.heap.size wi w') := by intro wi a1 k1 hbw h; rw [← hR, ← hS0]; exact implAnswer_any wi a1 k1 line L name h hz hnb (HTB.out wi hbw)
  have hbb : (R != R) = false := by simp
  clear hR hS0
  obtain ⟨b0, b1⟩ := hK_w1.cells
  go_wp2_with fail
  refine (toHead_any w1 pa pc ⟨line, L⟩ hE_w1 hl).mono ?_
  rintro e w2 ⟨vw2, rfl, how2, hbw2⟩
  obtain ⟨aw2, kw2, rfl, hAw2⟩ := how2.at
  clear b0 b1
  have hB_w2 : Below wb.heap.size wb w2 := hB_w1.trans (hbw2.mono hB_w1.size)
  obtain ⟨hK_w2, hE_w2, hw_w2⟩ := HB.out w2 hB_w2
  clear hK_w1 hE_w1 hw_w1 hB_w1
  have cS := CS.out w2 aw2 kw2 hAw2
  go_wp2_with fail
  refine cS.mono ?_
  rintro e w3 ⟨rfl, hbw3⟩
  clear cS how2 hAw2
  have hB_w3 : Below wb.heap.size wb w3 := hB_w2.trans (hbw3.mono hB_w2.size)
  obtain ⟨hK_w3, hE_w3, hw_w3⟩ := HB.out w3 hB_w3
  clear hK_w2 hE_w2 hw_w2 hB_w2
  obtain ⟨b0, b1⟩ := hK_w3.cells
  go_wp2_with fail
  refine (toHead_any w3 pa pc ⟨line, L⟩ hE_w3 hl).mono ?_
  rintro e w5 ⟨vw5, rfl, how5, hbw5⟩
  obtain ⟨aw5, kw5, rfl, hAw5⟩ := how5.at
  clear b0 b1
  have hB_w5 : Below wb.heap.size wb w5 := hB_w3.trans (hbw5.mono hB_w3.size)
  obtain ⟨hK_w5, hE_w5, hw_w5⟩ := HB.out w5 hB_w5
  clear hK_w3 hE_w3 hw_w3 hB_w3
  dsimp only at hAw5 ⊢
  obtain ⟨w6, hw6⟩ : ∃ x, w5.alloc (.cells #[.string line, .slice aw5 L.length kw5] 30) = x := ⟨_, rfl⟩
  have hbw6 : Below w5.heap.size w5 w6 := by rw [← hw6]; exact (Below.refl _ _).alloc (Nat.le_refl _) _
  have hX_w6 : HBx w6 w5.heap.size 30 (.string line) (.slice aw5 L.length kw5) := by rw [← hw6]; exact HBx.new _ _ _ _
  have hY_w6 : DAt w6 aw5 L w6.heap.size := hAw5.on hbw6
  have HWw6 : Hid (w5.alloc (.cells #[.string line, .slice aw5 L.length kw5] 30) = w6) := hw6
  have hB_w6 : Below wb.heap.size wb w6 := hB_w5.trans (hbw6.mono hB_w5.size)
  obtain ⟨hK_w6, hE_w6, hw_w6⟩ := HB.out w6 hB_w6
  clear hK_w5 hE_w5 hw_w5 hB_w5
  obtain ⟨b0, b1⟩ := hK_w6.cells
  obtain ⟨x0, x1⟩ := hX_w6.cells
  rw [← hw6] at b0 b1 x0 x1
  clear hw6
  have cI := CI.out w6 aw5 kw5 hw_w6 hY_w6
  go_wp2_with fail
  rw [HWw6.out] at b0 b1 x0 x1 ⊢
  refine cI.mono ?_
  rintro e w9 ⟨rfl, hbw9⟩
  clear cI how5 hAw5
  clear b0 b1 x0 x1
  have hB_w9 : Below wb.heap.size wb w9 := hB_w6.trans (hbw9.mono hB_w6.size)
  obtain ⟨hK_w9, hE_w9, hw_w9⟩ := HB.out w9 hB_w9
  have hX_w9 := hX_w6.on hbw9
  have hY_w9 := hY_w6.on hbw9
  clear hK_w6 hE_w6 hw_w6 hB_w6 hX_w6 hY_w6
  obtain ⟨b0, b1⟩ := hK_w9.cells
  obtain ⟨x0, x1⟩ := hX_w9.cells
  have KS : ∀ W, Below w9.heap.size w9 W → Below w9.heap.size w9 W ∧ W.cell? ⟨w5.heap.size, 0, none⟩ = some (.string line) ∧ W.cell? ⟨w5.heap.size, 1, none⟩ = some (.slice aw5 L.length kw5) ∧ W.cell? ⟨w.heap.size, 0, none⟩ = some (.string line) ∧ W.cell? ⟨w.heap.size, 1, none⟩ = some (.slice pa L.length pc) := fun W h => ⟨h, (h.cell (World.block_lt_of_cell? w9 _ x0)).trans x0, (h.cell (World.block_lt_of_cell? w9 _ x1)).trans x1, (h.cell (World.block_lt_of_cell? w9 _ b0)).trans b0, (h.cell (World.block_lt_of_cell? w9 _ b1)).trans b1⟩
  have hdr : Below w9.heap.size w9 w9.drew := ⟨rfl, rfl, rfl, Nat.le_refl _, fun _ _ => rfl⟩
  have HT : Hid (∀ W, Below w9.heap.size w9 W → DAt W pa L W.heap.size ∧ DAt W aw5 L W.heap.size) := fun W h => ⟨hE_w9.on h, hY_w9.on h⟩
  go_wp2_with fail
  go_region_held3 (fun W => Below w9.heap.size w9 W ∧ W.cell? ⟨w5.heap.size, 0, none⟩ = some (.string line) ∧ W.cell? ⟨w5.heap.size, 1, none⟩ = some (.slice aw5 L.length kw5) ∧ W.cell? ⟨w.heap.size, 0, none⟩ = some (.string line) ∧ W.cell? ⟨w.heap.size, 1, none⟩ = some (.slice pa L.length pc)) (first | with_reducible exact KS _ hdr | with_reducible exact KS _ hC | with_reducible exact KS _ hD)
    (first
      | (go_at_call 6; refine (toHead_any _ pa pc ⟨line, L⟩ (HT.out _ hdr).1 hl).mono ?_; rintro e w10 ⟨v10, rfl, ho10, hb10⟩; obtain ⟨a10, k10, rfl, hA10⟩ := ho10.at; have hC : Below w9.heap.size w9 w10 := hdr.trans (hb10.mono hdr.size))
      | (go_at_call 8; refine (eqHead_same _ aw5 a10 kw5 k10 ⟨line, L⟩ (HT.out _ hC).2 hA10 hl).mono ?_; rintro e w11 ⟨rfl, hb11⟩; have hD : Below w9.heap.size w9 w11 := hC.trans (hb11.mono hC.size)))
  go_wp2_with fail
  go_ret
  exact ⟨rfl, hw_w9.trans (hD.mono hw_w9.size)⟩
end Go.Proofs.YtnnaphfeeobelasDoor
