/- The value of a head's field. Plain, no program. -/
import Derived.Test.YtnnaphfeeobelarDoorHeadTextPlain
namespace Go.Proofs.YtnnaphfeeobelarDoor
open Go.RowKit
def eqT (a b : ByteArray) : Bool := a.toList == b.toList
def fieldOfS (L : List (ByteArray × ByteArray)) (name : ByteArray) : ByteArray × Bool := match L.find? (fun f => eqT f.1 name) with | some f => (f.2, true) | none => (⟨#[]⟩, false)
theorem fieldOf_some {L : List (ByteArray × ByteArray)} {nm : ByteArray} {k : Nat} (h : ∀ q (hq : q < L.length), q < k → eqT L[q].1 nm = false) (hk : k < L.length) {f : ByteArray × ByteArray} (hf : L[k] = f) (he : eqT f.1 nm = true) : fieldOfS L nm = (f.2, true) := by
  unfold fieldOfS
  have : L.find? (fun f => eqT f.1 nm) = some f := by
    rw [List.find?_eq_some_iff_getElem]
    exact ⟨he, k, hk, hf, fun j hj => by simpa using h j (by omega) hj⟩
  rw [this]
theorem fieldOf_none {L : List (ByteArray × ByteArray)} {nm : ByteArray} (h : ∀ q (hq : q < L.length), eqT L[q].1 nm = false) : fieldOfS L nm = (⟨#[]⟩, false) := by
  unfold fieldOfS
  have : L.find? (fun f => eqT f.1 nm) = none := by
    rw [List.find?_eq_none]
    intro f hf
    obtain ⟨j, hj, rfl⟩ := List.getElem_of_mem hf
    simp [h j hj]
  rw [this]
end Go.Proofs.YtnnaphfeeobelarDoor
