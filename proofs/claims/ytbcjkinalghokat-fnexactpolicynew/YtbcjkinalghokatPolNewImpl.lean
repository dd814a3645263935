/- A new policy: the program's. -/
import Derived.Test.YtbcjkinalghokatPolKit
import Derived.Test.YtbcjkinalghokatSkNewImpl
namespace Go.Proofs.Ytbcjkinalghokat
open Go.RowKit Go.Sort

set_option maxRecDepth 100000 in
set_option maxHeartbeats 4000000 in
theorem implPolicyNew_any (w : World) :
    Calls Try.prog 8 #[] w fun e w' => ∃ v, e = .returned v ∧ POwn w' w.heap.size w'.heap.size v newP ∧ Below w.heap.size w w' := by
  obtain ⟨w1, hw1⟩ : ∃ x, w.alloc (.cells #[.slice none 0 0, .slice none 0 0, .slice none 0 0, .int .i64 0] 27) = x := ⟨_, rfl⟩
  have hb1 : Below w.heap.size w w1 := by rw [← hw1]; exact (Below.refl _ _).alloc (Nat.le_refl _) _
  have hR : PBox w1 w.heap.size (.slice none 0 0) (.slice none 0 0) (.slice none 0 0) (.int .i64 0) := by rw [← hw1]; exact PBox.new _ _ _ _ _
  have HW : Hid (w.alloc (.cells #[.slice none 0 0, .slice none 0 0, .slice none 0 0, .int .i64 0] 27) = w1) := hw1
  have c1 := implSketchNew_any w1
  clear hw1
  go_enter Try.func8, Try.ntmps8
  go_wp2_with fail
  rw [HW.out]
  refine c1.mono ?_
  rintro e w2 ⟨v, rfl, ⟨u, rfl, ho⟩, hb2⟩
  obtain ⟨a, c, rfl, _⟩ := ho.at
  have hR2 := hR.on hb2
  have hbw := hb1.trans (hb2.mono hb1.size)
  obtain ⟨r0, r1, r2, r3⟩ := hR2.cells
  have f0 := hR2.thaw 0
  have f1 := hR2.thaw 1
  have f2 := hR2.thaw 2
  have f3 := hR2.thaw 3
  have HO : Hid (POwn w2 w1.heap.size w2.heap.size (.agg #[.slice none 0 0, .slice none 0 0, .slice a newS.rows.length c, .int .i64 0]) newP) := ⟨_, _, _, rfl, OwnV.nil _ _ _, OwnV.nil _ _ _, fun k hk => by simp [Value.ownBlock] at hk, fun k hk => by simp [Value.ownBlock] at hk, ho⟩
  obtain ⟨n, hn⟩ : ∃ n, newS.rows.length = n := ⟨_, rfl⟩
  have hz : newS.added = 0 := rfl
  rw [hn] at HO ⊢
  rw [hz]
  clear c1 ho hR hb2 HW hn hz
  go_wp2_with fail
  obtain ⟨q0, q1, q2, q3⟩ := (hR2.put (.slice none 0 0) (.slice none 0 0) (.slice a n c) (.int .i64 0)).cells
  refine bodyPost_ret (v := .agg #[.slice none 0 0, .slice none 0 0, .slice a n c, .int .i64 0]) (by simp [results, Try.results8, go_sem, q0, q1, q2, q3]) rfl ⟨_, rfl, ?_, Below.put4 hbw (Nat.le_refl _) _ _ _ _⟩
  refine (HO.out.put4 hR2 _ _ _ _).mono hb1.size ?_
  simp
end Go.Proofs.Ytbcjkinalghokat
