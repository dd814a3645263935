/- The walks over a text behind its length. -/
import Derived.Test.YtednbcdomkhhmaiShortImpl
import Derived.Test.YtednbcdomkhhmaiVarText
namespace Go.Proofs.Ytednbcdomkhhmai
open Go.RowKit

set_option maxHeartbeats 400000 in
theorem specShort_any (s : ByteArray) (w : World) (hs : s.size ≤ 1048576) :
    Calls Try.prog 10 #[.string s] w fun e w' => e = .returned (.tuple #[.string (shText s), .bool (shOk s)]) ∧ Below w.heap.size w w' := by
  by_cases h : s.size ≤ 20000
  · rw [show shOk s = true by simp [shOk, h], show shText s = ⟨(varF 8 s.size).toArray⟩ ++ s by simp [shText, h]]
    have hv := varF_length 8 s.size
    have hm : s.size ≤ 9223372036854775807 := by omega
    go_enter Try.func10, Try.ntmps10
    go_wp2_with (go_at_call 13; refine (l01Var_any s.size _ hm).mono ?_; rintro e w' ⟨rfl, hb⟩)
    go_ret2
    exact ⟨rfl, hb⟩
  · rw [show shOk s = false by simp [shOk]; omega, show shText s = ⟨#[]⟩ by simp [shText, h]]
    go_enter Try.func10, Try.ntmps10
    go_wp2
    go_ret2
    exact ⟨rfl, Below.refl _ _⟩

set_option maxHeartbeats 400000 in
theorem shortText_walk (s0 : ByteArray) (hs0 : s0.size ≤ maxLen) (w : World) :
    Calls Try.prog 5 #[.string s0] w fun e w' => e = .returned (.bool true) ∧ Below w.heap.size w w' := by
  unfold maxLen at hs0
  by_cases h : s0.size ≤ 1048576
  · go_enter Try.func5, Try.ntmps5
    go_wp2_with (first | (go_at_call 10; refine (specShort_any s0 _ h).mono ?_; rintro e w' ⟨rfl, hb⟩) | (go_at_call 11; refine (implShort_any s0 _ h).mono ?_; rintro e w2 ⟨rfl, hb2⟩))
    go_ret
    exact ⟨rfl, hb.trans (hb2.mono hb.size)⟩
  · go_enter Try.func5, Try.ntmps5
    go_wp2
    go_ret
    exact ⟨rfl, Below.refl _ _⟩
end Go.Proofs.Ytednbcdomkhhmai
