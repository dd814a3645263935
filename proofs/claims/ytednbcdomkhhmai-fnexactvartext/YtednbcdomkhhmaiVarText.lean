/- The walk over VarText: the other text. -/
import Derived.Test.YtednbcdomkhhmaiVar
import Derived.Test.YtednbcdomkhhmaiVarImpl
namespace Go.Proofs.Ytednbcdomkhhmai
open Go.RowKit

set_option maxHeartbeats 400000 in
theorem specVarText_any (n : Int) (w : World) (wn : (Lit.int .i64 n).wf = true) :
    Calls Try.prog 6 #[.int .i64 n] w fun e w' => e = .returned (.tuple #[.string ⟨(vText n).toArray⟩, .bool (vOk n)]) ∧ Below w.heap.size w w' := by
  by_cases h : 0 ≤ n ∧ n ≤ 1000000000
  · obtain ⟨m, rfl⟩ : ∃ m : Nat, n = m := ⟨n.toNat, by omega⟩
    rw [vOk_in (by omega), vText_in (by omega)]
    have hin := inB_yes h.1 h.2
    have h2 : m ≤ 9223372036854775807 := by omega
    clear wn h
    go_enter Try.func6, Try.ntmps6
    go_wp2_with (first | (go_at_call 13; refine (l01Var_any m _ h2).mono ?_; rintro e w' ⟨rfl, hb⟩) | (go_at_call 12; refine (l01In_any _ _ _ _).mono ?_; rintro e w' ⟨rfl, rfl⟩))
    go_ret2
    exact ⟨rfl, hb⟩
  · rw [vOk_out h, vText_out h]
    have hin := inB_no h
    clear wn h
    go_enter Try.func6, Try.ntmps6
    go_wp2_with (go_at_call 12; refine (l01In_any _ _ _ _).mono ?_; rintro e w' ⟨rfl, rfl⟩)
    go_ret2
    exact ⟨rfl, Below.refl _ _⟩
end Go.Proofs.Ytednbcdomkhhmai
