/- Tasks done in a list of pairs. Plain, no program. -/
import Derived.Test.YtockgojdmaladabAlone
namespace Go.Proofs.Ytockgojdmaladab
open Go.RowKit

/-- What a task does to pairs, and its answer. -/
def ansP (prs : List (Int × Int)) (key : Int) : Int := match prs.find? (fun p => decide (p.1 = key)) with | some p => p.2 + 1 | none => 0
def hasP (prs : List (Int × Int)) (key : Int) : Bool := prs.any fun p => decide (p.1 = key)
def doP (prs : List (Int × Int)) (kind key val : Int) : List (Int × Int) × Int :=
  if kind = 1 then (prs, ansP prs key)
  else if kind = 2 then (if hasP prs key then (prs, 0) else (prs.filter (fun p => decide (p.1 < key)) ++ (key, val) :: prs.filter (fun p => decide (key < p.1)), 1))
  else if kind = 3 then (prs.filter (fun p => !decide (p.1 = key)), if hasP prs key then 1 else 0)
  else (prs, 0)
def prs (ps : List (Int × Int × Int)) : List (Int × Int) := ps.map (·.2)
theorem prs_append (A B : List (Int × Int × Int)) : prs (A ++ B) = prs A ++ prs B := by simp [prs]

theorem filter_none {α : Type} {f : α → Bool} {l : List α} (h : ∀ x ∈ l, f x = false) : l.filter f = [] := by
  rw [List.filter_eq_nil_iff]
  intro x hx
  simp [h x hx]
theorem filter_all {α : Type} {f : α → Bool} {l : List α} (h : ∀ x ∈ l, f x = true) : l.filter f = l := List.filter_eq_self.2 h
theorem mem_prs {A : List (Int × Int × Int)} {x : Int × Int} (h : x ∈ prs A) : ∃ p ∈ A, p.2 = x := by
  simpa [prs] using h

/-- A task alone does to the nodes what it does to their pairs. -/
theorem doAB_prs {kind key val node : Int} {A B : List (Int × Int × Int)} (hk : 1 ≤ kind ∧ kind ≤ 3) (hA : ∀ p ∈ A, p.2.1 < key) (hB : ∀ p ∈ B, key ≤ p.2.1) (hC : ∀ p r, B = p :: r → ∀ q ∈ r, p.2.1 < q.2.1) :
    (prs (doAB kind key val node A B).1, (doAB kind key val node A B).2) = doP (prs (A ++ B)) kind key val := by
  have fA : ∀ x ∈ prs A, x.1 < key := fun x hx => by obtain ⟨p, hp, rfl⟩ := mem_prs hx; exact hA p hp
  have nA : (prs A).find? (fun p => decide (p.1 = key)) = none := by
    rw [List.find?_eq_none]; intro x hx; have := fA x hx; simp; omega
  have aA : (prs A).any (fun p => decide (p.1 = key)) = false := by
    rw [List.any_eq_false]; intro x hx; have := fA x hx; simp; omega
  have lA : (prs A).filter (fun p => decide (p.1 < key)) = prs A := filter_all fun x hx => by simpa using fA x hx
  have gA : (prs A).filter (fun p => decide (key < p.1)) = [] := filter_none fun x hx => by have := fA x hx; simp; omega
  have eA : (prs A).filter (fun p => !decide (p.1 = key)) = prs A := filter_all fun x hx => by have := fA x hx; simp; omega
  have main : ∀ (r : List (Int × Int × Int)), (∀ q ∈ r, key < q.2.1) →
      (prs r).find? (fun p => decide (p.1 = key)) = none ∧ (prs r).any (fun p => decide (p.1 = key)) = false ∧ (prs r).filter (fun p => decide (p.1 < key)) = [] ∧ (prs r).filter (fun p => decide (key < p.1)) = prs r ∧ (prs r).filter (fun p => !decide (p.1 = key)) = prs r := by
    intro r hr
    have f : ∀ x ∈ prs r, key < x.1 := fun x hx => by obtain ⟨p, hp, rfl⟩ := mem_prs hx; exact hr p hp
    refine ⟨?_, ?_, ?_, ?_, ?_⟩
    · rw [List.find?_eq_none]; intro x hx; have := f x hx; simp; omega
    · rw [List.any_eq_false]; intro x hx; have := f x hx; simp; omega
    · exact filter_none fun x hx => by have := f x hx; simp; omega
    · exact filter_all fun x hx => by simpa using f x hx
    · exact filter_all fun x hx => by have := f x hx; simp; omega
  have none_way : (∀ q ∈ B, key < q.2.1) → doP (prs (A ++ B)) kind key val = if kind = 2 then (prs A ++ (key, val) :: prs B, 1) else (prs A ++ prs B, 0) := by
    intro hB'
    obtain ⟨m1, m2, m3, m4, m5⟩ := main B hB'
    unfold doP ansP hasP
    rw [prs_append]
    simp only [List.find?_append, nA, m1, List.any_append, aA, m2, List.filter_append, lA, gA, eA, m3, m4, m5]
    rcases (by omega : kind = 1 ∨ kind = 2 ∨ kind = 3) with h | h | h <;> subst h <;> simp
  cases B with
  | nil =>
    rw [none_way (by simp)]
    unfold doAB
    dsimp only
    by_cases h2 : kind = 2
    · simp [h2, prs]
    · simp [h2, prs]
  | cons p r =>
    by_cases hp : p.2.1 = key
    · have hr : ∀ q ∈ r, key < q.2.1 := fun q hq => by have := hC p r rfl q hq; omega
      obtain ⟨m1, m2, m3, m4, m5⟩ := main r hr
      have e : prs (p :: r) = p.2 :: prs r := rfl
      unfold doP ansP hasP doAB
      rw [prs_append, e]
      simp only [List.find?_append, nA, List.find?_cons, hp, decide_true, List.any_append, aA, List.any_cons, List.filter_append, eA, List.filter_cons, m5]
      rcases (by omega : kind = 1 ∨ kind = 2 ∨ kind = 3) with h | h | h <;> subst h <;> simp [prs]
    · have hB' : ∀ q ∈ p :: r, key < q.2.1 := by
        intro q hq
        have h0 := hB p (by simp)
        rcases List.mem_cons.1 hq with rfl | hq
        · omega
        · have := hC p r rfl q hq
          omega
      rw [none_way hB']
      unfold doAB
      simp only [hp, if_false]
      by_cases h2 : kind = 2
      · simp [h2, prs]
      · simp [h2, prs]
end Go.Proofs.Ytockgojdmaladab
