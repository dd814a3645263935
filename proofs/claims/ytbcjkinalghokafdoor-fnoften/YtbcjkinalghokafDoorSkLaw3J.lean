/- Texts that stand in one: SkLaw3, StrsLaw. -/
import Derived.Test.YtbcjkinalghokafDoorSkLaw2
import Derived.Test.YtbcjkinalghokafDoorStrsJ
import Derived.Laws.OwnMore
import Derived.Lib.QuietBelow
import Derived.BigQuiet
namespace Go.Proofs.YtbcjkinalghokafDoor
open Go.RowKit

/-- A sketch in a variable whose rows hold other numbers. -/
structure SM (w : World) (lo T : Nat) (a : Option Addr) (c : Nat) (S : Sk) (MM : List (List Int)) : Prop where
  le : lo ≤ T
  box : SkBox w T (.slice a S.rows.length c) (.int .i64 S.added)
  own : OwnSS w lo T (.slice a S.rows.length c) MM
theorem SM.on {w w' : World} {lo T : Nat} {a : Option Addr} {c : Nat} {S : Sk} {MM : List (List Int)} (h : SM w lo T a c S MM) (hb : Below w.heap.size w w') : SM w' lo T a c S MM := ⟨h.le, h.box.on hb, h.own.below hb (Nat.le_refl _)⟩
end Go.Proofs.YtbcjkinalghokafDoor

namespace Go.Proofs.YtbcjkinalghokafDoor
open Go.RowKit Go.Sort
theorem Tryd.infoStr : (Tryd.prog.info? 9).map (fun i => (i.zero, i.size, i.bytes)) = some (some (.string ⟨#[]⟩), 1, 16) := by kernel_rfl
/-- How much the first k of them hold. -/
def wgtL (L : List ByteArray) : Nat := (L.map ByteArray.size).sum
theorem wgtL_take (L : List ByteArray) (k : Nat) (h : k < L.length) : wgtL (L.take (k + 1)) = wgtL (L.take k) + L[k].size := by
  unfold wgtL
  rw [List.take_succ_eq_append_getElem h, List.map_append, List.sum_append]
  simp
theorem wgtL_mem {L : List ByteArray} {p : ByteArray} (h : p ∈ L) : p.size ≤ wgtL L := by
  induction L with
  | nil => cases h
  | cons q r ih =>
    unfold wgtL at *
    rw [List.map_cons, List.sum_cons]
    rcases List.mem_cons.1 h with h | h
    · rw [h]; omega
    · have := ih h; omega


end Go.Proofs.YtbcjkinalghokafDoor
