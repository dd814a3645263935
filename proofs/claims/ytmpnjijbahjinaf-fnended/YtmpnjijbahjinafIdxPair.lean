/- slices.IndexFunc over pairs, whatever the predicate. -/
import Derived.Test.YtmpnjijbahjinafPairs
import Derived.Test.YtmpnjijbahjinafRowed
import Derived.Deep.RegionLaw
import Derived.Shelf.Abstract
namespace Go.Proofs.Ytmpnjijbahjinaf
open Go.RowKit Go.Sort

def idxP {α : Type} (p : α → Bool) (L : List α) : Int := match L.findIdx? p with | some i => (i : Int) | none => -1
theorem idxP_hit {α : Type} {p : α → Bool} {L : List α} {k : Nat} (hk : k < L.length) (h : p L[k] = true) (hno : ∀ j (hj : j < k), p (L[j]'(by omega)) = false) : idxP p L = k := by
  have : L.findIdx? p = some k := by
    rw [List.findIdx?_eq_some_iff_getElem]
    exact ⟨hk, h, fun j hj => by simp [hno j hj]⟩
  simp [idxP, this]
theorem idxP_miss {α : Type} {p : α → Bool} {L : List α} (h : ∀ x ∈ L, p x = false) : idxP p L = -1 := by
  have : L.findIdx? p = none := by
    rw [List.findIdx?_eq_none_iff]
    exact h
  simp [idxP, this]
theorem idxP_cases {α : Type} (p : α → Bool) (L : List α) : (∃ (k : Nat) (hk : k < L.length), idxP p L = k ∧ p L[k] = true ∧ ∀ j (hj : j < k), p (L[j]'(by omega)) = false) ∨ (idxP p L = -1 ∧ ∀ x ∈ L, p x = false) := by
  cases h : L.findIdx? p with
  | none =>
    rw [List.findIdx?_eq_none_iff] at h
    exact .inr ⟨idxP_miss h, h⟩
  | some k =>
    have h0 := h
    rw [List.findIdx?_eq_some_iff_getElem] at h
    obtain ⟨hk, h1, h2⟩ := h
    exact .inl ⟨k, hk, by simp [idxP, h0], h1, fun j hj => by simpa using h2 j hj⟩

end Go.Proofs.Ytmpnjijbahjinaf
