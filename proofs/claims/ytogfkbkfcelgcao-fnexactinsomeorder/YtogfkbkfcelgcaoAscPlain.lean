/- Pairs whose keys go up: what a task does to them, by places. Plain, no program. -/
import Derived.Test.YtogfkbkfcelgcaoDoTaskSpec
import Derived.Test.YtogfkbkfcelgcaoPairsPlain
namespace Go.Proofs.Ytogfkbkfcelgcao
open Go.RowKit

def Asc (L : List (Int × Int)) : Prop := L.Pairwise (fun p q => p.1 < q.1)
theorem Asc.nil : Asc [] := List.Pairwise.nil
theorem NiceP.asc {L : List (Int × Int)} (h : NiceP L) : Asc L := h.1
theorem ans_skip {key : Int} : ∀ (M : List (Int × Int)) (a : Int), (∀ x ∈ M, x.1 ≠ key) → M.foldl (fun a p => if p.1 = key ∧ a = 0 then wrap64 (p.2 + 1) else a) a = a
  | [], _, _ => rfl
  | x :: M, a, h => by
    have h0 : ¬ (x.1 = key ∧ a = 0) := fun e => h x (by simp) e.1
    rw [List.foldl_cons, if_neg h0]
    exact ans_skip M a fun y hy => h y (by simp [hy])
theorem split_at {α : Type} (L : List α) (k : Nat) (hk : k < L.length) : L = L.take k ++ L[k] :: L.drop (k + 1) := by
  rw [List.getElem_cons_drop]
  exact (List.take_append_drop k L).symm
theorem Asc.sides {L : List (Int × Int)} (h : Asc L) {k : Nat} (hk : k < L.length) : (∀ x ∈ L.take k, x.1 < L[k].1) ∧ (∀ x ∈ L.drop (k + 1), L[k].1 < x.1) := by
  unfold Asc at h
  rw [split_at L k hk] at h
  rw [List.pairwise_append, List.pairwise_cons] at h
  exact ⟨fun x hx => h.2.2 x hx _ (List.mem_cons_self), fun x hx => h.2.1.1 x hx⟩
theorem ans_at {L : List (Int × Int)} (h : Asc L) {k : Nat} (hk : k < L.length) : ansTo L L[k].1 L.length = wrap64 (L[k].2 + 1) := by
  have hs := h.sides hk
  unfold ansTo
  rw [List.take_length]
  conv => lhs; arg 3; rw [split_at L k hk]
  rw [List.foldl_append, ans_skip (L.take k) 0 (fun x hx => by have := hs.1 x hx; omega), List.foldl_cons, if_pos ⟨rfl, rfl⟩]
  exact ans_skip _ _ (fun x hx => by have := hs.2 x hx; omega)
theorem has_no {L : List (Int × Int)} {key : Int} (h : ∀ x ∈ L, decide (x.1 = key) = false) : hasP L key = false ∧ ansTo L key L.length = 0 := by
  refine ⟨by rw [hasP, List.any_eq_false]; intro x hx; simp [h x hx], ?_⟩
  unfold ansTo
  rw [List.take_length]
  exact ans_skip _ _ fun x hx => by simpa using h x hx
theorem erase_at {L : List (Int × Int)} (h : Asc L) {k : Nat} (hk : k < L.length) : L.filter (fun p => !decide (p.1 = L[k].1)) = L.take k ++ L.drop (k + 1) := by
  have hs := h.sides hk
  conv => lhs; arg 2; rw [split_at L k hk]
  rw [List.filter_append, List.filter_cons, if_neg (by simp), List.filter_eq_self.2 (fun x hx => by have := hs.1 x hx; simp; omega), List.filter_eq_self.2 (fun x hx => by have := hs.2 x hx; simp; omega)]
theorem insert_at {L : List (Int × Int)} (h : Asc L) {key : Int} (hno : ∀ x ∈ L, decide (x.1 = key) = false) {i : Nat} (hi : i ≤ L.length) (hb : ∀ j (hj : j < i), decide (key < (L[j]'(by omega)).1) = false) (ha : ∀ (hl : i < L.length), decide (key < L[i].1) = true) :
    L.filter (fun p => decide (p.1 < key)) = L.take i ∧ L.filter (fun p => decide (key < p.1)) = L.drop i := by
  have h1 : ∀ x ∈ L.take i, x.1 < key := by
    intro x hx
    obtain ⟨j, hj, rfl⟩ := List.getElem_of_mem hx
    have hj' : j < i := by simp at hj; omega
    have := hb j hj'
    have h2 := hno (L[j]'(by omega)) (List.getElem_mem _)
    simp at this h2 ⊢
    omega
  have h2 : ∀ x ∈ L.drop i, key < x.1 := by
    intro x hx
    obtain ⟨j, hj, rfl⟩ := List.getElem_of_mem hx
    simp at hj
    have hl : i < L.length := by omega
    have h3 := ha hl
    simp only [List.getElem_drop]
    by_cases e : j = 0
    · subst e; simpa using h3
    · have := (h.sides hl).2 (L[i + j]'(by omega)) (by
        rw [List.mem_iff_getElem]
        refine ⟨j - 1, by simp; omega, ?_⟩
        simp only [List.getElem_drop]
        congr 1; omega)
      simp at h3
      omega
  refine ⟨?_, ?_⟩
  · conv => lhs; arg 2; rw [← List.take_append_drop i L]
    rw [List.filter_append, List.filter_eq_self.2 (fun x hx => by simpa using h1 x hx), List.filter_eq_nil_iff.2 (fun x hx => by have := h2 x hx; simp; omega), List.append_nil]
  · conv => lhs; arg 2; rw [← List.take_append_drop i L]
    rw [List.filter_append, List.filter_eq_nil_iff.2 (fun x (hx : x ∈ L.take i) => by have := h1 x hx; simp; omega), List.filter_eq_self.2 (fun x hx => by simpa using h2 x hx), List.nil_append]
theorem doT_asc {L : List (Int × Int)} (h : Asc L) (t : Tk) : Asc (doT L t).1 := by
  have hf : ∀ f : Int × Int → Bool, Asc (L.filter f) := fun f => List.Pairwise.filter f h
  unfold doT
  by_cases k1 : t.kind = 1
  · simp [k1, h]
  · by_cases k2 : t.kind = 2
    · by_cases hh : hasP L t.key = true
      · simp [k2, hh, h]
      · rw [if_neg k1, if_pos k2, if_neg hh]
        show Asc (_ ++ (t.key, t.val) :: _)
        unfold Asc
        rw [List.pairwise_append, List.pairwise_cons]
        refine ⟨hf _, ⟨fun x hx => by simpa using (List.mem_filter.1 hx).2, hf _⟩, fun x hx y hy => ?_⟩
        have hx' : x.1 < t.key := by simpa using (List.mem_filter.1 hx).2
        rcases List.mem_cons.1 hy with rfl | hy
        · exact hx'
        · have : t.key < y.1 := by simpa using (List.mem_filter.1 hy).2
          omega
    · by_cases k3 : t.kind = 3
      · rw [if_neg k1, if_neg k2, if_pos k3]; exact hf _
      · simp [k1, k2, k3, h]
end Go.Proofs.Ytogfkbkfcelgcao
