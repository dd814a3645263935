/- The walk over ShortText: the program's own text. -/
import Derived.Test.YtepfblabdibggaaVarImpl
namespace Go.Proofs.Ytepfblabdibggaa
open Go.RowKit

set_option maxHeartbeats 400000 in
theorem implShort_any (s : ByteArray) (w : World) (hs : s.size ≤ 1048576) :
    Calls Try.prog 45 #[.string s] w fun e w' => e = .returned (.tuple #[.string (shText s), .bool (shOk s)]) ∧ Below w.heap.size w w' := by
  by_cases h : s.size ≤ 20000
  · rw [show shOk s = true by simp [shOk, h], show shText s = ⟨(varF 8 s.size).toArray⟩ ++ s by simp [shText, h]]
    have hv := varF_length 8 s.size
    have hm : s.size ≤ 1000000000 := by omega
    go_enter Try.func45, Try.ntmps45
    go_wp2_with (go_at_call 46; refine (implVarText_in s.size _ hm).mono ?_; rintro e w' ⟨rfl, hb⟩)
    go_ret2
    exact ⟨rfl, hb⟩
  · rw [show shOk s = false by simp [shOk]; omega, show shText s = ⟨#[]⟩ by simp [shText, h]]
    go_enter Try.func45, Try.ntmps45
    go_wp2
    go_ret2
    exact ⟨rfl, Below.refl _ _⟩
end Go.Proofs.Ytepfblabdibggaa
