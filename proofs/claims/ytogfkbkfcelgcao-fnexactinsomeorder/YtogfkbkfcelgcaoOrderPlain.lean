/- Calls that are done one behind the other, in some order. Plain, no program. -/
import Derived.Test.YtogfkbkfcelgcaoCallRows
import Derived.Test.YtogfkbkfcelgcaoAscPlain
namespace Go.Proofs.Ytogfkbkfcelgcao
open Go.RowKit

/-- One of the others had ended ahead of c. -/
def Cl.waits (c : Cl) (rest : List Cl) : Bool := rest.any fun o => decide (o.nd < c.bg)
/-- The calls L (n of them), each done once, in some order behind P, answer what they do. -/
def fitsL : Nat → List (Int × Int) → List Cl → Bool
  | 0, _, _ => true
  | n + 1, P, L => (List.range L.length).any fun i => match L[i]? with
    | some c => (decide ((doT P c.t).2 = c.t.ans) && !c.waits (L.eraseIdx i)) && fitsL n (doT P c.t).1 (L.eraseIdx i)
    | none => false
/-- c first, then the rest. -/
def pickOk (n : Nat) (P : List (Int × Int)) (c : Cl) (rest : List Cl) : Bool := (decide ((doT P c.t).2 = c.t.ans) && !c.waits rest) && fitsL n (doT P c.t).1 rest
theorem pickOk_eq (n : Nat) (P : List (Int × Int)) (c : Cl) (rest : List Cl) : pickOk n P c rest = ((decide ((doT P c.t).2 = c.t.ans) && !c.waits rest) && fitsL n (doT P c.t).1 rest) := rfl
theorem fits_iff (n : Nat) (P : List (Int × Int)) (L : List Cl) : fitsL (n + 1) P L = true ↔ ∃ i, ∃ h : i < L.length, pickOk n P L[i] (L.eraseIdx i) = true := by
  rw [fitsL, List.any_eq_true]
  constructor
  · rintro ⟨i, hi, h⟩
    have hl : i < L.length := by simpa using hi
    rw [List.getElem?_eq_getElem hl] at h
    exact ⟨i, hl, h⟩
  · rintro ⟨i, hi, h⟩
    exact ⟨i, by simpa using hi, by rw [List.getElem?_eq_getElem hi]; exact h⟩
theorem fits_hit {n : Nat} {P : List (Int × Int)} {L : List Cl} {i : Nat} (hi : i < L.length) (h : pickOk n P L[i] (L.eraseIdx i) = true) : fitsL (n + 1) P L = true := (fits_iff n P L).2 ⟨i, hi, h⟩
theorem fits_miss {n : Nat} {P : List (Int × Int)} {L : List Cl} (h : ∀ i (hi : i < L.length), pickOk n P L[i] (L.eraseIdx i) = false) : fitsL (n + 1) P L = false := by
  rw [Bool.eq_false_iff]
  intro e
  obtain ⟨i, hi, h'⟩ := (fits_iff n P L).1 e
  rw [h i hi] at h'
  cases h'
theorem waits_iff {L : List Cl} {i : Nat} (hi : i < L.length) : L[i].waits (L.eraseIdx i) = true ↔ ∃ j, ∃ h : j < L.length, j ≠ i ∧ L[j].nd < L[i].bg := by
  unfold Cl.waits
  rw [List.any_eq_true]
  constructor
  · rintro ⟨o, ho, h⟩
    obtain ⟨j, hj, hne, rfl⟩ := List.mem_eraseIdx_iff_getElem.1 ho
    exact ⟨j, hj, hne, by simpa using h⟩
  · rintro ⟨j, hj, hne, h⟩
    exact ⟨L[j], List.mem_eraseIdx_iff_getElem.2 ⟨j, hj, hne, rfl⟩, by simpa using h⟩

/-- Calls (6 at most) that are done in some order, from nothing on. -/
def orderL (L : List Cl) : Bool := decide (L.length ≤ 6) && fitsL L.length [] L
/-- Those that are not used yet. -/
def leftOf : List Cl → List Bool → List Cl
  | c :: C, u :: U => if u = true then leftOf C U else c :: leftOf C U
  | _, _ => []
theorem left_picks : ∀ (C : List Cl) (U : List Bool) (f : Cl → List Cl → Prop), C.length = U.length →
    ((∃ i, ∃ h : i < (leftOf C U).length, f (leftOf C U)[i] ((leftOf C U).eraseIdx i)) ↔ ∃ j, ∃ (h : j < C.length) (h' : j < U.length), U[j] = false ∧ f C[j] (leftOf C (U.set j true)))
  | [], U, f, _ => by
    constructor
    · rintro ⟨i, h, _⟩; simp [leftOf] at h
    · rintro ⟨i, h, _⟩; simp at h
  | c :: C, [], f, h => by simp at h
  | c :: C, true :: U, f, hl => by
    have ih := left_picks C U f (by simpa using hl)
    have e : leftOf (c :: C) (true :: U) = leftOf C U := by simp [leftOf]
    rw [show (∃ i, ∃ h : i < (leftOf (c :: C) (true :: U)).length, f (leftOf (c :: C) (true :: U))[i] ((leftOf (c :: C) (true :: U)).eraseIdx i)) ↔ (∃ i, ∃ h : i < (leftOf C U).length, f (leftOf C U)[i] ((leftOf C U).eraseIdx i)) by simp only [e], ih]
    constructor
    · rintro ⟨j, h, h', hu, hf⟩
      exact ⟨j + 1, by simpa using h, by simpa using h', by simpa using hu, by simpa [leftOf] using hf⟩
    · rintro ⟨j, h, h', hu, hf⟩
      cases j with
      | zero => simp at hu
      | succ j => exact ⟨j, by simpa using h, by simpa using h', by simpa using hu, by simpa [leftOf] using hf⟩
  | c :: C, false :: U, f, hl => by
    have ih := left_picks C U (fun x r => f x (c :: r)) (by simpa using hl)
    have e : leftOf (c :: C) (false :: U) = c :: leftOf C U := by simp [leftOf]
    rw [show (∃ i, ∃ h : i < (leftOf (c :: C) (false :: U)).length, f (leftOf (c :: C) (false :: U))[i] ((leftOf (c :: C) (false :: U)).eraseIdx i)) ↔ (∃ i, ∃ h : i < (c :: leftOf C U).length, f (c :: leftOf C U)[i] ((c :: leftOf C U).eraseIdx i)) by simp only [e]]
    constructor
    · rintro ⟨i, h, hf⟩
      cases i with
      | zero => exact ⟨0, by simp, by simp, by simp, by simpa [leftOf] using hf⟩
      | succ i =>
        obtain ⟨j, h1, h2, h3, h4⟩ := ih.1 ⟨i, by simpa using h, by simpa using hf⟩
        exact ⟨j + 1, by simpa using h1, by simpa using h2, by simpa using h3, by simpa [leftOf] using h4⟩
    · rintro ⟨j, h, h', hu, hf⟩
      cases j with
      | zero => exact ⟨0, by simp, by simpa [leftOf] using hf⟩
      | succ j =>
        obtain ⟨i, h1, h2⟩ := ih.2 ⟨j, by simpa using h, by simpa using h', by simpa using hu, by simpa [leftOf] using hf⟩
        exact ⟨i + 1, by simpa using h1, by simpa using h2⟩
theorem fits_left {n : Nat} {P : List (Int × Int)} {C : List Cl} {U : List Bool} (hl : C.length = U.length) : fitsL (n + 1) P (leftOf C U) = true ↔ ∃ j, ∃ (h : j < C.length) (h' : j < U.length), U[j] = false ∧ pickOk n P C[j] (leftOf C (U.set j true)) = true := by
  rw [fits_iff]
  exact left_picks C U (fun c r => pickOk n P c r = true) hl
theorem left_mem : ∀ (C : List Cl) (U : List Bool) (o : Cl), C.length = U.length → (o ∈ leftOf C U ↔ ∃ k, ∃ (h : k < C.length) (h' : k < U.length), U[k] = false ∧ C[k] = o)
  | [], U, o, _ => by simp [leftOf]
  | c :: C, [], o, h => by simp at h
  | c :: C, u :: U, o, hl => by
    have ih := left_mem C U o (by simpa using hl)
    constructor
    · intro ho
      cases u with
      | true =>
        obtain ⟨k, h1, h2, h3, h4⟩ := ih.1 (by simpa [leftOf] using ho)
        exact ⟨k + 1, by simpa using h1, by simpa using h2, by simpa using h3, by simpa using h4⟩
      | false =>
        rcases (by simpa [leftOf] using ho : o = c ∨ o ∈ leftOf C U) with rfl | ho
        · exact ⟨0, by simp, by simp, by simp, by simp⟩
        · obtain ⟨k, h1, h2, h3, h4⟩ := ih.1 ho
          exact ⟨k + 1, by simpa using h1, by simpa using h2, by simpa using h3, by simpa using h4⟩
    · rintro ⟨k, h1, h2, h3, h4⟩
      cases k with
      | zero => simp at h3 h4; subst h3 h4; simp [leftOf]
      | succ k =>
        have := ih.2 ⟨k, by simpa using h1, by simpa using h2, by simpa using h3, by simpa using h4⟩
        cases u <;> simp [leftOf, this]
theorem waits_left {C : List Cl} {U : List Bool} (hl : C.length = U.length) {i : Nat} (hi : i < C.length) : C[i].waits (leftOf C (U.set i true)) = true ↔ ∃ k, ∃ (h : k < C.length) (h' : k < U.length), U[k] = false ∧ k ≠ i ∧ C[k].nd < C[i].bg := by
  unfold Cl.waits
  rw [List.any_eq_true]
  constructor
  · rintro ⟨o, ho, h⟩
    obtain ⟨k, h1, h2, h3, rfl⟩ := (left_mem C _ o (by simpa using hl)).1 ho
    have h2' : k < U.length := by simpa using h2
    rw [List.getElem_set] at h3
    split at h3
    · cases h3
    · rename_i hne
      exact ⟨k, h1, h2', h3, fun e => hne e.symm, by simpa using h⟩
  · rintro ⟨k, h1, h2, h3, hne, h⟩
    refine ⟨C[k], (left_mem C _ _ (by simpa using hl)).2 ⟨k, h1, by simpa using h2, ?_, rfl⟩, by simpa using h⟩
    rw [List.getElem_set_ne (fun e => hne e.symm)]
    exact h3
theorem left_used : ∀ (C : List Cl) (U : List Bool) (j : Nat) (h' : j < U.length), C.length = U.length → U[j] = false → (leftOf C (U.set j true)).length + 1 = (leftOf C U).length
  | [], U, j, h, hl, _ => by simp at hl; omega
  | c :: C, [], j, h, _, _ => by simp at h
  | c :: C, u :: U, 0, h, hl, hu => by simp at hu; subst hu; simp [leftOf]
  | c :: C, u :: U, j + 1, h, hl, hu => by
    have ih := left_used C U j (by simpa using h) (by simpa using hl) (by simpa using hu)
    cases u <;> simp [leftOf, ih]
theorem left_all : ∀ (C : List Cl), leftOf C (List.replicate C.length false) = C
  | [] => rfl
  | c :: C => by simp [leftOf, List.replicate_succ, left_all C]
end Go.Proofs.Ytogfkbkfcelgcao
