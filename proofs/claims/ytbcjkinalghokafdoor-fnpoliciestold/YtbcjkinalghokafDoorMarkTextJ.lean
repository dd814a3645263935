/- Texts that stand in one: MarkText, MarkListW, PolLaw. -/
import Derived.Test.YtbcjkinalghokafDoorSkLaw3J
import Derived.Test.YtbcjkinalghokafDoorBaseJ
import Derived.Test.YtbcjkinalghokafDoorSumTabJ
import Derived.Lib.QuietBelow
import Derived.BigQuiet
import Derived.Test.YtbcjkinalghokafDoorPolKitJ
namespace Go.Proofs.YtbcjkinalghokafDoor
open Go.RowKit Go.Sort

theorem mark_cons (c : UInt8) (l : List UInt8) : (⟨[c].toArray⟩ : ByteArray) ++ (⟨l.toArray⟩ : ByteArray) = ⟨(c :: l).toArray⟩ := by rw [ByteArray.mk_append_mk]; rfl
theorem mark_down {f k : Nat} (h : k < 10 ^ (f + 1)) : k / 10 < 10 ^ f := by rw [Nat.pow_succ] at h; omega

/-- The mark of the number k. -/
def mkT (k : Nat) : ByteArray := ⟨(109 :: digF 20 k []).toArray⟩

end Go.Proofs.YtbcjkinalghokafDoor

namespace Go.Proofs.YtbcjkinalghokafDoor
open Go.RowKit Go.Sort

theorem Tryd.info9 : (Tryd.prog.info? 9).map (fun i => (i.zero, i.size, i.bytes)) = some (some (.string ⟨#[]⟩), 1, 16) := by kernel_rfl

end Go.Proofs.YtbcjkinalghokafDoor

namespace Go.Proofs.YtbcjkinalghokafDoor
open Go.RowKit Go.Sort

/-- How much a policy holds. -/
def wgtP (P : Pol) : Nat := P.win.length + wgtL P.win + (P.main.length + wgtL P.main) + (P.sk.rows.length + tot P.sk.rows P.sk.rows.length)
def PolSz (P : Pol) : Prop := wgtP P ≤ 1048576
theorem PolSz.parts {P : Pol} (h : PolSz P) : P.win.length ≤ 1048576 ∧ P.main.length ≤ 1048576 ∧ SkSz P.sk := by
  unfold PolSz wgtP at h
  refine ⟨by omega, by omega, ?_⟩
  unfold SkSz
  omega
end Go.Proofs.YtbcjkinalghokafDoor
