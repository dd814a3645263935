/- Of which kind a part is. Plain, no program. -/
import Derived.Test.YtnnaphfeeobeladDoorFiguresImpl
namespace Go.Proofs.YtnnaphfeeobeladDoor
open Go.RowKit
def kindC (q : List UInt8) : Int × Nat :=
  if q = noStoreL ∨ q = privateL then (1, 0) else if q = noCacheL then (2, 0) else if maxAgeL.isPrefixOf q = true then kindN 3 (q.drop 8) else if sMaxL.isPrefixOf q = true then kindN 4 (q.drop 9) else (0, 0)
def tellC (c : Ct) (k : Int × Nat) : Ct :=
  if k.1 = 1 then { c with ns := true } else if k.1 = 2 then { c with nc := true } else if k.1 = 3 then { c with ma := (k.2 : Int) } else if k.1 = 4 then { c with sh := (k.2 : Int) } else c
theorem kindN_cases (k : Int) (l : List UInt8) : (numL l = none ∧ kindN k l = (0, 0)) ∨ ∃ n, numL l = some n ∧ kindN k l = (k, n) := by
  unfold kindN
  cases h : numL l with
  | none => exact .inl ⟨rfl, rfl⟩
  | some n => exact .inr ⟨n, rfl, rfl⟩
theorem kindC_range (q : List UInt8) : (kindC q).1 = 0 ∨ (kindC q).1 = 1 ∨ (kindC q).1 = 2 ∨ (kindC q).1 = 3 ∨ (kindC q).1 = 4 := by
  unfold kindC
  split
  · simp
  · split
    · simp
    · split
      · rcases kindN_cases 3 (q.drop 8) with ⟨_, e⟩ | ⟨n, _, e⟩ <;> rw [e] <;> simp
      · split
        · rcases kindN_cases 4 (q.drop 9) with ⟨_, e⟩ | ⟨n, _, e⟩ <;> rw [e] <;> simp
        · simp
theorem numL_wide {l : List UInt8} {n : Nat} (h : numL l = some n) : n ≤ 999999 := by
  unfold numL at h
  split at h
  · next hc =>
    simp only [Bool.and_eq_true, decide_eq_true_eq] at hc
    have hv : ∀ (t : List UInt8) (m : Nat), (∀ b ∈ t, b.toNat ≤ 57) → valF m t + 1 ≤ (m + 1) * 10 ^ t.length := by
      intro t
      induction t with
      | nil => intro m _; rw [valF_nil]; simp
      | cons b r ih =>
        intro m hb
        rw [valF_cons, List.length_cons, Nat.pow_succ]
        have h1 := ih (m * 10 + dOf b) (fun x hx => hb x (List.mem_cons_of_mem _ hx))
        have h2 : dOf b ≤ 9 := by unfold dOf; have := hb b List.mem_cons_self; omega
        refine Nat.le_trans h1 ?_
        rw [show (m + 1) * (10 ^ r.length * 10) = ((m + 1) * 10) * 10 ^ r.length by rw [Nat.mul_comm (10 ^ r.length) 10, Nat.mul_assoc]]
        exact Nat.mul_le_mul_right _ (by omega)
    have hd := hc.2
    unfold digits at hd
    rw [List.all_eq_true] at hd
    have h1 := hv l 0 (fun b hb => (of_decide_eq_true (hd b hb)).2)
    have h2 : 10 ^ l.length ≤ 10 ^ 6 := Nat.pow_le_pow_right (by omega) hc.1.2
    simp only [Option.some.injEq] at h
    omega
  · cases h
theorem kindC_wide (q : List UInt8) : (kindC q).2 ≤ 999999 := by
  unfold kindC
  split
  · simp
  · split
    · simp
    · split
      · rcases kindN_cases 3 (q.drop 8) with ⟨_, e⟩ | ⟨n, h, e⟩ <;> rw [e]
        · simp
        · exact numL_wide h
      · split
        · rcases kindN_cases 4 (q.drop 9) with ⟨_, e⟩ | ⟨n, h, e⟩ <;> rw [e]
          · simp
          · exact numL_wide h
        · simp
theorem age_not_sh {q : List UInt8} (h : maxAgeL.isPrefixOf q = true) : sMaxL.isPrefixOf q = false := by
  cases q with
  | nil => rfl
  | cons b r =>
    simp only [maxAgeL, sMaxL, List.isPrefixOf, Bool.and_eq_true, beq_iff_eq] at h ⊢
    rw [← h.1]
    rfl
/-- A part is taken as its kind says. -/
theorem tell_part (c : Ct) (l : List UInt8) : tellC c (kindC (partW l)) = partC c l := by
  unfold partC
  generalize partW l = q
  unfold kindC
  by_cases h1 : q = noStoreL
  · subst h1; rfl
  by_cases h2 : q = privateL
  · subst h2; rfl
  by_cases h3 : q = noCacheL
  · subst h3; rfl
  have hf : flagC c q = c := by unfold flagC; rw [if_neg (fun h => h.elim h1 h2), if_neg h3]
  rw [if_neg (fun h => h.elim h1 h2), if_neg h3, hf]
  by_cases h4 : maxAgeL.isPrefixOf q = true
  · rw [if_pos h4]
    have hs : ∀ d, shC d q = d := fun d => by unfold shC; rw [if_neg (by rw [age_not_sh h4]; simp)]
    rw [hs]
    unfold ageC
    rw [if_pos h4]
    rcases kindN_cases 3 (q.drop 8) with ⟨h, e⟩ | ⟨n, h, e⟩
    · rw [e, h]; rfl
    · rw [e, h]; rfl
  · rw [if_neg h4]
    have ha : ageC c q = c := by unfold ageC; rw [if_neg h4]
    rw [ha]
    unfold shC
    by_cases h5 : sMaxL.isPrefixOf q = true
    · rw [if_pos h5, if_pos h5]
      rcases kindN_cases 4 (q.drop 9) with ⟨h, e⟩ | ⟨n, h, e⟩
      · rw [e, h]; rfl
      · rw [e, h]; rfl
    · rw [if_neg h5, if_neg h5]; rfl
end Go.Proofs.YtnnaphfeeobeladDoor
