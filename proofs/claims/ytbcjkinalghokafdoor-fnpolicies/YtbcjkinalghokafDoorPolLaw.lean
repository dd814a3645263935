/- What a law does with policies: it copies them, compares them, marks them. -/
import Derived.Test.YtbcjkinalghokafDoorPolKitJ
import Derived.Test.YtbcjkinalghokafDoorSkLaw3J
import Derived.Test.YtbcjkinalghokafDoorMarkTextJ
namespace Go.Proofs.YtbcjkinalghokafDoor
open Go.RowKit Go.Sort

/-- How much a policy holds. -/
def wgtP (P : Pol) : Nat := P.win.length + wgtL P.win + (P.main.length + wgtL P.main) + (P.sk.rows.length + tot P.sk.rows P.sk.rows.length)
def PolSz (P : Pol) : Prop := wgtP P ≤ 1048576
theorem PolSz.parts {P : Pol} (h : PolSz P) : P.win.length ≤ 1048576 ∧ P.main.length ≤ 1048576 ∧ SkSz P.sk := by
  unfold PolSz wgtP at h
  refine ⟨by omega, by omega, ?_⟩
  unfold SkSz
  omega
end Go.Proofs.YtbcjkinalghokafDoor
