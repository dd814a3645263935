/- What a task does to pairs whose keys go up. Plain, no program. -/
import Derived.Test.YtockgojdmaladabDoTaskSpec
namespace Go.Proofs.Ytockgojdmaladab
open Go.RowKit

/-- Keys go up; keys and values are in their bounds. -/
def NiceP (L : List (Int × Int)) : Prop := L.Pairwise (fun p q => p.1 < q.1) ∧ ∀ p ∈ L, 1 ≤ p.1 ∧ p.1 ≤ 9 ∧ 0 ≤ p.2 ∧ p.2 ≤ 99
theorem NiceP.nil : NiceP [] := ⟨List.Pairwise.nil, fun p hp => by simp at hp⟩
theorem fold_ne (key : Int) : ∀ (L : List (Int × Int)) (a : Int), a ≠ 0 → L.foldl (fun a p => if p.1 = key ∧ a = 0 then wrap64 (p.2 + 1) else a) a = a
  | [], _, _ => rfl
  | p :: L, a, h => by
    rw [List.foldl_cons, if_neg (fun h2 => h h2.2)]
    exact fold_ne key L a h
theorem fold_zero (key : Int) : ∀ (L : List (Int × Int)), (∀ p ∈ L, 0 ≤ p.2 ∧ p.2 ≤ 99) → L.foldl (fun a p => if p.1 = key ∧ a = 0 then wrap64 (p.2 + 1) else a) 0 = ansP L key
  | [], _ => rfl
  | p :: L, h => by
    have hp := h p (by simp)
    rw [List.foldl_cons]
    by_cases he : p.1 = key
    · have hw : wrap64 (p.2 + 1) = p.2 + 1 := by unfold wrap64; omega
      rw [if_pos ⟨he, rfl⟩, hw, fold_ne key L _ (by omega)]
      simp [ansP, he]
    · rw [if_neg (fun h2 => he h2.1), fold_zero key L (fun q hq => h q (by simp [hq]))]
      simp [ansP, he]
theorem doT_nice {L : List (Int × Int)} (h : NiceP L) (t : Tk) : doT L t = doP L t.kind t.key t.val := by
  unfold doT doP
  have : ansTo L t.key L.length = ansP L t.key := by
    unfold ansTo
    rw [List.take_length]
    exact fold_zero t.key L fun p hp => (h.2 p hp).2.2
  rw [this]
theorem two_filters (key : Int) : ∀ (L : List (Int × Int)), (L.filter (fun p => decide (p.1 < key))).length + (L.filter (fun p => decide (key < p.1))).length ≤ L.length
  | [] => by simp
  | p :: L => by
    have ih := two_filters key L
    simp only [List.filter_cons, List.length_cons]
    by_cases h1 : p.1 < key
    · have h2 : ¬ key < p.1 := by omega
      simp [h1, h2]; omega
    · by_cases h2 : key < p.1
      · simp [h1, h2]; omega
      · simp [h1, h2]; omega
theorem doP_length (L : List (Int × Int)) (kind key val : Int) : (doP L kind key val).1.length ≤ L.length + 1 := by
  have h2 := two_filters key L
  have h3 := List.length_filter_le (fun p : Int × Int => !decide (p.1 = key)) L
  unfold doP
  by_cases k1 : kind = 1
  · simp [k1]
  · by_cases k2 : kind = 2
    · by_cases hh : hasP L key = true
      · simp [k2, hh]
      · simp [k2, hh]; omega
    · by_cases k3 : kind = 3
      · simp [k3]; omega
      · simp [k1, k2, k3]
theorem doP_nice {L : List (Int × Int)} (h : NiceP L) (kind key val : Int) (hk : 1 ≤ key ∧ key ≤ 9) (hv : 0 ≤ val ∧ val ≤ 99) : NiceP (doP L kind key val).1 := by
  unfold doP
  by_cases k1 : kind = 1
  · simpa [k1] using h
  · by_cases k2 : kind = 2
    · by_cases hh : hasP L key = true
      · simpa [k2, hh] using h
      · have e : (if kind = 1 then (L, ansP L key) else if kind = 2 then (if hasP L key then (L, 0) else (L.filter (fun p => decide (p.1 < key)) ++ (key, val) :: L.filter (fun p => decide (key < p.1)), 1)) else if kind = 3 then (L.filter (fun p => !decide (p.1 = key)), if hasP L key then 1 else 0) else (L, 0)).1 = L.filter (fun p => decide (p.1 < key)) ++ (key, val) :: L.filter (fun p => decide (key < p.1)) := by simp [k2, hh]
        rw [e]
        refine ⟨?_, ?_⟩
        · rw [List.pairwise_append]
          refine ⟨h.1.filter _, ?_, ?_⟩
          · rw [List.pairwise_cons]
            refine ⟨fun q hq => ?_, h.1.filter _⟩
            have := (List.mem_filter.1 hq).2
            simpa using this
          · intro p hp q hq
            have h1 : p.1 < key := by simpa using (List.mem_filter.1 hp).2
            rcases List.mem_cons.1 hq with rfl | hq
            · exact h1
            · have h2 : key < q.1 := by simpa using (List.mem_filter.1 hq).2
              omega
        · intro p hp
          rcases List.mem_append.1 hp with hp | hp
          · exact h.2 p (List.mem_filter.1 hp).1
          · rcases List.mem_cons.1 hp with rfl | hp
            · exact ⟨hk.1, hk.2, hv.1, hv.2⟩
            · exact h.2 p (List.mem_filter.1 hp).1
    · by_cases k3 : kind = 3
      · have e : (if kind = 1 then (L, ansP L key) else if kind = 2 then (if hasP L key then (L, 0) else (L.filter (fun p => decide (p.1 < key)) ++ (key, val) :: L.filter (fun p => decide (key < p.1)), 1)) else if kind = 3 then (L.filter (fun p => !decide (p.1 = key)), if hasP L key then 1 else 0) else (L, 0)).1 = L.filter (fun p => !decide (p.1 = key)) := by simp [k3]
        rw [e]
        exact ⟨h.1.filter _, fun p hp => h.2 p (List.mem_filter.1 hp).1⟩
      · simpa [k1, k2, k3] using h
/-- In a list whose keys go up, what is ahead of a key and what is not. -/
theorem nice_last {L : List (Int × Int)} (h : NiceP L) {k : Nat} (hk : k < L.length) : ∀ p ∈ L.take k, p.1 < L[k].1 := by
  intro p hp
  obtain ⟨i, hi, rfl⟩ := List.mem_iff_getElem.1 hp
  have hi' : i < k := by simp at hi; omega
  rw [List.getElem_take]
  exact List.pairwise_iff_getElem.1 h.1 i k (by omega) hk hi'
end Go.Proofs.Ytockgojdmaladab
