/- One figure. -/
import Derived.Test.YtednbcdomkhhmajBase
namespace Go.Proofs.Ytednbcdomkhhmaj
open Go.RowKit

/-- A figure. -/
def fig (x : Nat) : UInt8 := if x < 10 then UInt8.ofNat (48 + x) else UInt8.ofNat (87 + x)

theorem fig_lo {x : Nat} (h : x < 10) : (fig x).toNat = 48 + x := by simp [fig, h]; omega
theorem fig_hi {x : Nat} (h : ¬ x < 10) (h2 : x < 16) : (fig x).toNat = 87 + x := by simp [fig, h]; omega

theorem l01Figure_any (x : Nat) (w : World) (hx : x < 16) :
    Calls Try.prog 18 #[.int .i64 x] w fun e w' => e = .returned (.int .u8 ((fig x).toNat : Int)) ∧ w = w' := by
  by_cases h : x < 10
  · rw [fig_lo h]
    go_enter Try.func18, Try.ntmps18
    go_wp2
    go_ret
    exact ⟨by simp, rfl⟩
  · rw [fig_hi h hx]
    go_enter Try.func18, Try.ntmps18
    go_wp2
    go_ret
    exact ⟨ret_int (by omega), rfl⟩
end Go.Proofs.Ytednbcdomkhhmaj
