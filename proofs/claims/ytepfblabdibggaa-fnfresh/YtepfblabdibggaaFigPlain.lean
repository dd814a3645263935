/- One figure; no program. -/
import Derived.Test.YtepfblabdibggaaBytes
namespace Go.Proofs.Ytepfblabdibggaa
open Go.RowKit

/-- A figure. -/
def fig (x : Nat) : UInt8 := if x < 10 then UInt8.ofNat (48 + x) else UInt8.ofNat (87 + x)

theorem fig_lo {x : Nat} (h : x < 10) : (fig x).toNat = 48 + x := by simp [fig, h]; omega

theorem fig_hi {x : Nat} (h : ¬ x < 10) (h2 : x < 16) : (fig x).toNat = 87 + x := by simp [fig, h]; omega
end Go.Proofs.Ytepfblabdibggaa
