/- One figure: the other text. -/
import Derived.Test.YtmpnjijbahjinafFigPlain
import Derived.Test.YtmpnjijbahjinafBase
namespace Go.Proofs.Ytmpnjijbahjinaf
open Go.RowKit

theorem l01Figure_any (x : Nat) (w : World) (hx : x < 16) :
    Calls Try.prog 45 #[.int .i64 x] w fun e w' => e = .returned (.int .u8 ((fig x).toNat : Int)) ∧ w = w' := by
  by_cases h : x < 10
  · rw [fig_lo h]
    go_enter Try.func45, Try.ntmps45
    go_wp2
    go_ret
    exact ⟨by simp, rfl⟩
  · rw [fig_hi h hx]
    go_enter Try.func45, Try.ntmps45
    go_wp2
    go_ret
    exact ⟨ret_int (by omega), rfl⟩
end Go.Proofs.Ytmpnjijbahjinaf
