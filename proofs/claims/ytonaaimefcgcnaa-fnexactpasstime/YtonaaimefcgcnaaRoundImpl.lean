/- A number brought into a round. -/
import Derived.Test.YtonaaimefcgcnaaKeysCopyJ
import Derived.Test.YtonaaimefcgcnaaRowedJ
namespace Go.Proofs.Ytonaaimefcgcnaa
open Go.RowKit
theorem roundP_gen (n m : Int) (h0 : 0 < m) (h1 : m ≤ 1000000001) : (wrap64 (n.tmod m + m)).tmod m = n % m := by
  have hw : ∀ x : Int, -m < x → x < m → wrap64 (x + m) = x + m := by
    intro x h2 h3
    unfold wrap64
    omega
  by_cases hn : 0 ≤ n
  · have h2 := Int.emod_nonneg n (show m ≠ 0 by omega)
    have h3 := Int.emod_lt_of_pos n h0
    rw [Int.tmod_eq_emod_of_nonneg hn, hw _ (by omega) h3, Int.tmod_eq_emod_of_nonneg (by omega), Int.add_emod_right, Int.emod_emod]
  · have h2 := Int.emod_nonneg (-n) (show m ≠ 0 by omega)
    have h3 := Int.emod_lt_of_pos (-n) h0
    have e : n.tmod m = -((-n) % m) := by rw [← Int.tmod_eq_emod_of_nonneg (show 0 ≤ -n by omega), Int.neg_tmod, Int.neg_neg]
    rw [e, hw _ (by omega) (by omega), Int.tmod_eq_emod_of_nonneg (by omega), Int.add_emod_right]
    have e1 := Int.emod_add_mul_ediv (-n) m
    rw [show -(-n % m) = n + m * (-n / m) by omega, Int.add_mul_emod_self_left]
theorem inRoundP_any (n m : Int) (h0 : 0 < m) (h1 : m ≤ 1000000001) (w : World) :
    Calls Try.prog 49 #[.int .i64 n, .int .i64 m] w fun e w' => e = .returned (.int .i64 (n % m)) ∧ w' = w := by
  have hm0 : ¬ (m = 0) := by omega
  have hm1 : (m == 0) = false := by simpa using hm0
  go_enter Try.func49, Try.ntmps49
  go_wp2
  go_ret
  refine ⟨?_, rfl⟩
  show Ending.returned (Value.int .i64 ((wrap64 (n.tmod m + m)).tmod m)) = _
  rw [roundP_gen n m h0 h1]

end Go.Proofs.Ytonaaimefcgcnaa
