/- What is put into pairs is found there, and is put once; taken out it is not there. Plain, no program. -/
import Derived.Test.YtogfkbkfcelgcacPairsPlain
namespace Go.Proofs.Ytogfkbkfcelgcac
open Go.RowKit

theorem ansP_zero {L : List (Int × Int)} (h : NiceP L) (k : Int) : (hasP L k = true → 1 ≤ ansP L k) ∧ (hasP L k = false → ansP L k = 0) := by
  unfold ansP hasP
  cases hf : L.find? (fun p => decide (p.1 = k)) with
  | none =>
    rw [List.find?_eq_none] at hf
    refine ⟨fun hh => ?_, fun _ => rfl⟩
    rw [List.any_eq_true] at hh
    obtain ⟨p, hp, hpk⟩ := hh
    exact absurd hpk (hf p hp)
  | some p =>
    have hp := List.mem_of_find?_eq_some hf
    have hk := List.find?_some hf
    have hb := h.2 p hp
    refine ⟨fun _ => ?_, fun hh => ?_⟩
    · show 1 ≤ p.2 + 1
      omega
    · rw [List.any_eq_false] at hh
      exact absurd hk (hh p hp)
theorem filter_one {k : Int} : ∀ {L : List (Int × Int)}, L.Pairwise (fun p q => p.1 < q.1) → hasP L k = true → (L.filter (fun p => !decide (p.1 = k))).length + 1 = L.length
  | [], _, h => by simp [hasP] at h
  | p :: L, hL, h => by
    rw [List.pairwise_cons] at hL
    by_cases hp : p.1 = k
    · have : L.filter (fun p => !decide (p.1 = k)) = L := filter_all fun x hx => by have := hL.1 x hx; simp; omega
      simp [hp, this]
    · have h2 : hasP L k = true := by simpa [hasP, hp] using h
      have ih := filter_one hL.2 h2
      simp [hp]
      omega
theorem hasP_filter (L : List (Int × Int)) (k : Int) : hasP (L.filter (fun p => !decide (p.1 = k))) k = false := by
  simp [hasP]
/-- All that the law asks of pairs that are nice. -/
theorem six {L : List (Int × Int)} (h : NiceP L) (k v : Int) (hk : 1 ≤ k ∧ k ≤ 9) (hv : 0 ≤ v ∧ v ≤ 98) :
    ∃ (A B : List (Int × Int)) (pt fd : Int), NiceP A ∧ NiceP B ∧ A.length ≤ L.length + 1 ∧ B.length + 1 = A.length ∧ doP L 1 k 0 = (L, ansP L k) ∧ doP L 2 k v = (A, pt) ∧ doP A 1 k 0 = (A, fd) ∧ doP A 2 k v = (A, 0) ∧ doP A 3 k 0 = (B, 1) ∧ doP B 3 k 0 = (B, 0)
      ∧ ((pt = 1 ∧ ansP L k = 0 ∧ fd = v + 1) ∨ (pt = 0 ∧ 1 ≤ ansP L k ∧ fd = ansP L k)) := by
  have hA : NiceP (doP L 2 k v).1 := doP_nice h 2 k v hk (by omega)
  have hl := doP_length L 2 k v
  have hz := ansP_zero h k
  have hhas : hasP (doP L 2 k v).1 k = true := by
    unfold doP
    by_cases hh : hasP L k = true
    · simp [hh]
    · rw [if_neg (show ¬ (2 : Int) = 1 by decide), if_pos rfl, if_neg hh]
      simp [hasP]
  have hB : NiceP (doP (doP L 2 k v).1 3 k 0).1 := doP_nice hA 3 k 0 hk (by omega)
  have hone := filter_one hA.1 hhas
  have hBe : (doP (doP L 2 k v).1 3 k 0).1 = (doP L 2 k v).1.filter (fun p => !decide (p.1 = k)) := by
    generalize (doP L 2 k v).1 = A
    simp [doP]
  have hnone := hasP_filter (doP L 2 k v).1 k
  rw [← hBe] at hone hnone
  refine ⟨(doP L 2 k v).1, (doP (doP L 2 k v).1 3 k 0).1, (doP L 2 k v).2, ansP (doP L 2 k v).1 k, hA, hB, hl, hone, ?_, ?_, ?_, ?_, ?_, ?_, ?_⟩
  · simp [doP]
  · rfl
  · generalize (doP L 2 k v).1 = A
    simp [doP]
  · generalize (doP L 2 k v).1 = A at hhas
    simp [doP, hhas]
  · generalize (doP L 2 k v).1 = A at hhas
    simp [doP, hhas]
  · generalize (doP (doP L 2 k v).1 3 k 0).1 = B at hnone
    have hf : B.filter (fun p => !decide (p.1 = k)) = B := filter_all fun x hx => by
      rw [hasP, List.any_eq_false] at hnone
      have := hnone x hx
      simpa using this
    simp [doP, hnone, hf]
  · by_cases hh : hasP L k = true
    · right
      refine ⟨by simp [doP, hh], hz.1 hh, by simp [doP, hh]⟩
    · left
      have hh' : hasP L k = false := by simpa using hh
      refine ⟨by simp [doP, hh'], hz.2 hh', ?_⟩
      have hn : (L.filter (fun p => decide (p.1 < k))).find? (fun p => decide (p.1 = k)) = none := by
        rw [List.find?_eq_none]
        intro x hx
        have := (List.mem_filter.1 hx).2
        simp at this ⊢
        omega
      simp [doP, hh', ansP, hn]
end Go.Proofs.Ytogfkbkfcelgcac
