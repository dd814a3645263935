/- What the walks of this seat share. -/
import Derived.Test.YtonaaimefcgcnaaBytes
import Derived.Test.YtonaaimefcgcnaaChecked
namespace Go.Proofs.Ytonaaimefcgcnaa
open Go.RowKit

theorem Try.info5 : (Try.prog.info? 5).map (fun i => (i.zero, i.size, i.bytes)) = some (some (.int .u8 0), 1, 1) := by kernel_rfl

/-- x lies between a and b. -/
def inN (x a b : Int) : Bool := decide (a ≤ x ∧ x ≤ b)

theorem in_any (x a b : Int) (w : World) :
    Calls Try.prog 24 #[.int .i64 x, .int .i64 a, .int .i64 b] w fun e w' => e = .returned (.bool (inN x a b)) ∧ w' = w := by
  unfold inN
  by_cases h1 : a ≤ x
  · by_cases h2 : x ≤ b
    · rw [decide_eq_true (show a ≤ x ∧ x ≤ b from ⟨h1, h2⟩)]
      go_enter Try.func24, Try.ntmps24
      go_wp2
      go_ret
      exact ⟨rfl, rfl⟩
    · rw [decide_eq_false (show ¬ (a ≤ x ∧ x ≤ b) by omega)]
      have h3 : decide (x ≤ b) = false := by simpa using h2
      go_enter Try.func24, Try.ntmps24
      go_wp2
      go_ret
      exact ⟨rfl, rfl⟩
  · rw [decide_eq_false (show ¬ (a ≤ x ∧ x ≤ b) by omega)]
    have h3 : decide (a ≤ x) = false := by simpa using h1
    go_enter Try.func24, Try.ntmps24
    go_wp2
    go_ret
    exact ⟨rfl, rfl⟩
end Go.Proofs.Ytonaaimefcgcnaa
