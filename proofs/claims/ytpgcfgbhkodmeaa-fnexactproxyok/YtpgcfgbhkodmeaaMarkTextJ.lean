/- Texts that stand in one: MarkText, MarkListW. -/
import Derived.Test.YtpgcfgbhkodmeaaSkLaw3J
import Derived.Test.YtpgcfgbhkodmeaaRowedJ
import Derived.Lib.QuietBelow
import Derived.BigQuiet
namespace Go.Proofs.Ytpgcfgbhkodmeaa
open Go.RowKit Go.Sort

theorem mark_cons (c : UInt8) (l : List UInt8) : (⟨[c].toArray⟩ : ByteArray) ++ (⟨l.toArray⟩ : ByteArray) = ⟨(c :: l).toArray⟩ := by rw [ByteArray.mk_append_mk]; rfl
theorem mark_down {f k : Nat} (h : k < 10 ^ (f + 1)) : k / 10 < 10 ^ f := by rw [Nat.pow_succ] at h; omega

/-- The mark of the number k. -/
def mkT (k : Nat) : ByteArray := ⟨(109 :: digF 20 k []).toArray⟩

end Go.Proofs.Ytpgcfgbhkodmeaa

namespace Go.Proofs.Ytpgcfgbhkodmeaa
open Go.RowKit Go.Sort

theorem Try.info9 : (Try.prog.info? 9).map (fun i => (i.zero, i.size, i.bytes)) = some (some (.string ⟨#[]⟩), 1, 16) := by kernel_rfl

end Go.Proofs.Ytpgcfgbhkodmeaa
