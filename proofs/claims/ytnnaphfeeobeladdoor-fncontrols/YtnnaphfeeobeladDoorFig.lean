/- One figure: the other text. -/
import Derived.Test.YtnnaphfeeobeladDoorFigPlain
import Derived.Test.YtnnaphfeeobeladDoorBase
namespace Go.Proofs.YtnnaphfeeobeladDoor
open Go.RowKit

theorem l01Figure_any (x : Nat) (w : World) (hx : x < 16) :
    Calls Tryd.prog 71 #[.int .i64 x] w fun e w' => e = .returned (.int .u8 ((fig x).toNat : Int)) ∧ w = w' := by
  by_cases h : x < 10
  · rw [fig_lo h]
    go_enter Tryd.func71, Tryd.ntmps71
    go_wp2
    go_ret
    exact ⟨by simp, rfl⟩
  · rw [fig_hi h hx]
    go_enter Tryd.func71, Tryd.ntmps71
    go_wp2
    go_ret
    exact ⟨ret_int (by omega), rfl⟩
end Go.Proofs.YtnnaphfeeobeladDoor
