/- Files put in their place, files taken away: plain, no program. -/
import Derived.Test.YtepfblabdibggabDoorAtPlain
import Derived.Test.YtepfblabdibggabDoorKeptPlain
namespace Go.Proofs.YtepfblabdibggabDoor
open Go.RowKit

/-- The files whose names are not nm. -/
def woL (L : List Fil) (nm : ByteArray) : List Fil := L.filter fun f => !eqS f.nm nm
/-- A file put in its place. -/
def putL (L : List Fil) (f : Fil) : List Fil := (L.filter fun g => ltS g.nm f.nm) ++ [f] ++ (L.filter fun g => !(ltS g.nm f.nm || eqS g.nm f.nm))

theorem filter_take_on {L : List Fil} {p : Fil → Bool} {k : Nat} (hk : k < L.length) {f : Fil} (hf : L[k] = f) (hp : p f = true) : (L.take (k + 1)).filter p = (L.take k).filter p ++ [f] := by
  rw [List.take_succ_eq_append_getElem hk, List.filter_append, hf]; simp [hp]
theorem filter_take_off {L : List Fil} {p : Fil → Bool} {k : Nat} (hk : k < L.length) {f : Fil} (hf : L[k] = f) (hp : p f = false) : (L.take (k + 1)).filter p = (L.take k).filter p := by
  rw [List.take_succ_eq_append_getElem hk, List.filter_append, hf]; simp [hp]
theorem filter_take_len (L : List Fil) (p : Fil → Bool) (k : Nat) : ((L.take k).filter p).length ≤ k := Nat.le_trans (List.length_filter_le _ _) (by rw [List.length_take]; omega)
theorem woL_len (L : List Fil) (nm : ByteArray) : (woL L nm).length ≤ L.length := List.length_filter_le _ _
end Go.Proofs.YtepfblabdibggabDoor
