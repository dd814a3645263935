/- Which file has a name: plain, no program. -/
import Derived.Test.YtepfblabdibggabDoorDiskPlain
namespace Go.Proofs.YtepfblabdibggabDoor
open Go.RowKit

def eqS (a b : ByteArray) : Bool := a.toList == b.toList
def pos (L : List Fil) (nm : ByteArray) : Option Nat := L.findIdx? fun f => eqS f.nm nm
/-- The place as the program tells it. -/
def posV (o : Option Nat) : Int := match o with | some k => (k : Int) | none => -1
def fileAt (L : List Fil) (nm : ByteArray) : ByteArray × Bool := match L.find? (fun f => eqS f.nm nm) with | some f => (f.tx, true) | none => (⟨#[]⟩, false)

/-- None of the first k bears the name. -/
def NoneTo (L : List Fil) (nm : ByteArray) (k : Nat) : Prop := ∀ j (h : j < L.length), j < k → eqS L[j].nm nm = false
theorem NoneTo.zero (L : List Fil) (nm : ByteArray) : NoneTo L nm 0 := fun j _ h => by omega
theorem NoneTo.succ {L : List Fil} {nm : ByteArray} {k : Nat} (h : NoneTo L nm k) (hk : k < L.length) {f : Fil} (hf : L[k] = f) (he : eqS f.nm nm = false) : NoneTo L nm (k + 1) := by
  intro j hj hlt
  by_cases e : j = k
  · subst e; rw [hf]; exact he
  · exact h j hj (by omega)
theorem pos_some {L : List Fil} {nm : ByteArray} {k : Nat} (h : NoneTo L nm k) (hk : k < L.length) {f : Fil} (hf : L[k] = f) (he : eqS f.nm nm = true) : pos L nm = some k := by
  unfold pos
  rw [List.findIdx?_eq_some_iff_getElem]
  exact ⟨hk, by rw [hf]; exact he, fun j hj => by simpa using h j (by omega) hj⟩
theorem pos_none {L : List Fil} {nm : ByteArray} (h : NoneTo L nm L.length) : pos L nm = none := by
  unfold pos
  rw [List.findIdx?_eq_none_iff]
  intro f hf
  obtain ⟨j, hj, rfl⟩ := List.getElem_of_mem hf
  exact h j hj hj
theorem fileAt_some {L : List Fil} {nm : ByteArray} {k : Nat} (h : NoneTo L nm k) (hk : k < L.length) {f : Fil} (hf : L[k] = f) (he : eqS f.nm nm = true) : fileAt L nm = (f.tx, true) := by
  unfold fileAt
  have : L.find? (fun f => eqS f.nm nm) = some f := by
    rw [List.find?_eq_some_iff_getElem]
    exact ⟨he, k, hk, hf, fun j hj => by simpa using h j (by omega) hj⟩
  rw [this]
theorem fileAt_none {L : List Fil} {nm : ByteArray} (h : NoneTo L nm L.length) : fileAt L nm = (⟨#[]⟩, false) := by
  unfold fileAt
  have : L.find? (fun f => eqS f.nm nm) = none := by
    rw [List.find?_eq_none]
    intro f hf
    obtain ⟨j, hj, rfl⟩ := List.getElem_of_mem hf
    simp [h j hj hj]
  rw [this]
/-- What a place says of the file there. -/
theorem pos_at {L : List Fil} {nm : ByteArray} {k : Nat} (h : pos L nm = some k) : ∃ hk : k < L.length, eqS L[k].nm nm = true ∧ fileAt L nm = (L[k].tx, true) := by
  unfold pos at h
  rw [List.findIdx?_eq_some_iff_getElem] at h
  obtain ⟨hk, he, hn⟩ := h
  exact ⟨hk, he, fileAt_some (fun j hj hlt => by simpa using hn j hlt) hk rfl he⟩
theorem pos_not {L : List Fil} {nm : ByteArray} (h : pos L nm = none) : fileAt L nm = (⟨#[]⟩, false) := by
  unfold pos at h
  rw [List.findIdx?_eq_none_iff] at h
  exact fileAt_none fun j hj _ => h _ (List.getElem_mem hj)
end Go.Proofs.YtepfblabdibggabDoor
