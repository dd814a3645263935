/- The program's new sketch. -/
import Derived.Test.YtbcjkinalghokatSkListsImpl
namespace Go.Proofs.Ytbcjkinalghokat
open Go.RowKit Go.Sort

set_option maxRecDepth 100000 in
set_option maxHeartbeats 4000000 in
theorem implSketchNew_any (w : World) :
    Calls Try.prog 21 #[] w fun e w' => ∃ v, e = .returned v ∧ SkOwn w' w.heap.size w'.heap.size v newS ∧ Below w.heap.size w w' := by
  obtain ⟨w1, hw1⟩ : ∃ x, w.alloc (.cells #[.slice none 0 0, .int .i64 0] 25) = x := ⟨_, rfl⟩
  have hb1 : Below w.heap.size w w1 := by rw [← hw1]; exact (Below.refl _ _).alloc (Nat.le_refl _) _
  have hR : SkBox w1 w.heap.size (.slice none 0 0) (.int .i64 0) := by rw [← hw1]; exact SkBox.new _ _ _
  have HW : Hid (w.alloc (.cells #[.slice none 0 0, .int .i64 0] 25) = w1) := hw1
  have c1 := lists_any w1 (List.replicate 3 (List.replicate 16 0)) rfl all16_zero
  clear hw1
  go_enter Try.func21, Try.ntmps21
  go_wp2_with fail
  rw [HW.out]
  refine c1.mono ?_
  rintro e w2 ⟨v, rfl, ho, hb2⟩
  obtain ⟨a, c, rfl, _⟩ := ho.at
  have hR2 := hR.on hb2
  have hbw := hb1.trans (hb2.mono hb1.size)
  obtain ⟨r0, r1⟩ := hR2.cells
  have f0 := hR2.thaw 0
  have f1 := hR2.thaw 1
  have HO : Hid (OwnSS w2 w1.heap.size w2.heap.size (.slice a 3 c) newS.rows) := ho
  rw [show (List.replicate 3 (List.replicate 16 (0 : Int))).length = 3 from rfl]
  clear c1 ho hR hb2 HW
  go_wp2_with fail
  obtain ⟨q0, q1⟩ := (hR2.put (.slice a 3 c) (.int .i64 0)).cells
  refine bodyPost_ret (v := .agg #[.slice a 3 c, .int .i64 0]) (by simp [results, Try.results21, go_sem, q0, q1]) rfl ⟨_, rfl, ⟨_, rfl, ?_⟩, Below.put2 hbw (Nat.le_refl _) _ _⟩
  refine (HO.out.put2 hR2 _ _).mono hb1.size ?_
  simp
end Go.Proofs.Ytbcjkinalghokat
