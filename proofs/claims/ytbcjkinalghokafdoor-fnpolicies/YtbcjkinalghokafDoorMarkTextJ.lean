/- Texts that stand in one: MarkText, MarkListW. -/
import Derived.Test.YtbcjkinalghokafDoorSkLaw3J
import Derived.Test.YtbcjkinalghokafDoorBaseJ
import Derived.Test.YtbcjkinalghokafDoorSumTabJ
import Derived.Lib.QuietBelow
import Derived.BigQuiet
namespace Go.Proofs.YtbcjkinalghokafDoor
open Go.RowKit Go.Sort

theorem mark_cons (c : UInt8) (l : List UInt8) : (⟨[c].toArray⟩ : ByteArray) ++ (⟨l.toArray⟩ : ByteArray) = ⟨(c :: l).toArray⟩ := by rw [ByteArray.mk_append_mk]; rfl
theorem mark_down {f k : Nat} (h : k < 10 ^ (f + 1)) : k / 10 < 10 ^ f := by rw [Nat.pow_succ] at h; omega

/-- The mark of the number k. -/
def mkT (k : Nat) : ByteArray := ⟨(109 :: digF 20 k []).toArray⟩

end Go.Proofs.YtbcjkinalghokafDoor

namespace Go.Proofs.YtbcjkinalghokafDoor
open Go.RowKit Go.Sort

theorem Tryd.info9 : (Tryd.prog.info? 9).map (fun i => (i.zero, i.size, i.bytes)) = some (some (.string ⟨#[]⟩), 1, 16) := by kernel_rfl

end Go.Proofs.YtbcjkinalghokafDoor
