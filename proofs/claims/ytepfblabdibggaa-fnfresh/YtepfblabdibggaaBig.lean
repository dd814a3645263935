/- A law lets bytes of more than a mebibyte go by. -/
import Derived.Test.YtepfblabdibggaaBase
namespace Go.Proofs.Ytepfblabdibggaa
open Go.RowKit

theorem big_any (ca : Option Addr) (n cap : Nat) (w : World) (hn : n ≤ 9223372036854775807) :
    Calls Try.prog 8 #[.slice ca n cap] w fun e w' => e = .returned (.bool (decide (1048576 < n))) ∧ w = w' := by
  go_enter Try.func8, Try.ntmps8
  go_wp2
  go_ret
  exact ⟨by rw [show decide ((1048576 : Int) < (n : Int)) = decide (1048576 < n) by simp; omega]; rfl, rfl⟩

end Go.Proofs.Ytepfblabdibggaa
