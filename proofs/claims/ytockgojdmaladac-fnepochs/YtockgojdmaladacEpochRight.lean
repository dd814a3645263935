/- Epochs that are right stay so. Plain, no program. -/
import Derived.Test.YtockgojdmaladacEpochPlain
namespace Go.Proofs.Ytockgojdmaladac
open Go.RowKit

def RightE (E : Ep) : Prop := (2 ≤ E.now ∧ E.now ≤ 1000000000) ∧ (1 ≤ E.pins.length ∧ E.pins.length ≤ 4) ∧ E.gone.length ≤ 40 ∧ (∀ p ∈ E.pins, p = 0 ∨ p = E.now ∨ p = E.now + 1) ∧ ∀ g ∈ E.gone, (1 ≤ g.1 ∧ g.1 ≤ 20) ∧ 0 ≤ g.2 ∧ g.2 ≤ E.now
theorem okE_iff (E : Ep) : okE E = true ↔ RightE E := by
  unfold okE RightE pinOk goneOk
  simp only [Bool.and_eq_true, decide_eq_true_eq, List.all_eq_true, Bool.or_eq_true, or_assoc]
  constructor
  · rintro ⟨⟨⟨h1, h2⟩, h3⟩, h4, h5⟩; exact ⟨h1, h2, h3, h4, h5⟩
  · rintro ⟨h1, h2, h3, h4, h5⟩; exact ⟨⟨⟨h1, h2⟩, h3⟩, h4, h5⟩
theorem RightE.pin {E : Ep} (h : RightE E) (x : Int) : RightE (pinE E x).1 := by
  unfold pinE
  split
  · refine ⟨h.1, by simpa using h.2.1, h.2.2.1, fun p hp => ?_, h.2.2.2.2⟩
    rcases List.mem_or_eq_of_mem_set hp with hp | hp
    · exact h.2.2.2.1 p hp
    · exact .inr (.inr hp)
  · exact h
theorem RightE.unpin {E : Ep} (h : RightE E) (x : Int) : RightE (unpinE E x).1 := by
  unfold unpinE
  split
  · refine ⟨h.1, by simpa using h.2.1, h.2.2.1, fun p hp => ?_, h.2.2.2.2⟩
    rcases List.mem_or_eq_of_mem_set hp with hp | hp
    · exact h.2.2.2.1 p hp
    · exact .inl hp
  · exact h
theorem RightE.retire {E : Ep} (h : RightE E) (x : Int) : RightE (retireE E x).1 := by
  unfold retireE
  split
  · rename_i hc
    simp only [Bool.and_eq_true, decide_eq_true_eq, Bool.not_eq_true', decide_eq_false_iff_not] at hc
    refine ⟨h.1, h.2.1, ?_, h.2.2.2.1, fun g hg => ?_⟩
    · have := h.2.2.1; have := hc.1.2; simp; omega
    · simp only [List.mem_append, List.mem_singleton] at hg
      rcases hg with hg | hg
      · exact h.2.2.2.2 g hg
      · subst hg; exact ⟨hc.1.1.2, by have := h.1.1; omega, Int.le_refl _⟩
  · exact h
theorem RightE.adv {E : Ep} (h : RightE E) : RightE (advE E).1 := by
  unfold advE
  split
  · rename_i hc
    simp only [Bool.and_eq_true, Bool.not_eq_true', decide_eq_false_iff_not, List.any_eq_false, decide_eq_true_eq] at hc
    refine ⟨⟨by have := h.1.1; dsimp only; omega, by have := h.1.2; have := hc.1.2; dsimp only; omega⟩, h.2.1, h.2.2.1, fun p hp => ?_, fun g hg => ?_⟩
    · rcases h.2.2.2.1 p hp with e | e | e
      · exact .inl e
      · exact absurd e (hc.2 p hp)
      · exact .inr (.inl e)
    · have := h.2.2.2.2 g hg
      exact ⟨this.1, this.2.1, by dsimp only; omega⟩
  · exact h
theorem RightE.free {E : Ep} (h : RightE E) : RightE (freeE E).1 := by
  unfold freeE
  split
  · refine ⟨h.1, h.2.1, Nat.le_trans (List.length_filter_le _ _) h.2.2.1, h.2.2.2.1, fun g hg => h.2.2.2.2 g (List.mem_filter.1 hg).1⟩
  · exact h
/-- Epochs as they are drawn. -/
structure DrE (k : Nat) (E : Ep) : Prop where
  right : RightE E
  now : E.now ≤ 2 + (k : Int)
  nine : ∀ g ∈ E.gone, g.1 ≤ 9
  few : E.gone.length ≤ k
theorem DrE.new (n : Int) : DrE 0 (newE n) := by
  refine ⟨⟨by simp [newE], ?_, by simp [newE], fun p hp => ?_, fun g hg => by simp [newE] at hg⟩, by simp [newE], fun g hg => by simp [newE] at hg, by simp [newE]⟩
  · simp only [newE, List.length_replicate]; omega
  · simp only [newE, List.mem_replicate] at hp; exact .inl hp.2
theorem DrE.up {k : Nat} {E : Ep} (h : DrE k E) : DrE (k + 1) E := ⟨h.right, by have := h.now; omega, h.nine, by have := h.few; omega⟩
theorem DrE.pin {k : Nat} {E : Ep} (h : DrE k E) (x : Int) : DrE (k + 1) (pinE E x).1 := by
  refine ⟨h.right.pin x, ?_, ?_, ?_⟩
  · have := h.now; unfold pinE; split <;> dsimp only <;> omega
  · unfold pinE; split <;> exact h.nine
  · have := h.few; unfold pinE; split <;> dsimp only <;> omega
theorem DrE.unpin {k : Nat} {E : Ep} (h : DrE k E) (x : Int) : DrE (k + 1) (unpinE E x).1 := by
  refine ⟨h.right.unpin x, ?_, ?_, ?_⟩
  · have := h.now; unfold unpinE; split <;> dsimp only <;> omega
  · unfold unpinE; split <;> exact h.nine
  · have := h.few; unfold unpinE; split <;> dsimp only <;> omega
theorem DrE.retire {k : Nat} {E : Ep} (h : DrE k E) (x : Int) (hx : x ≤ 9) : DrE (k + 1) (retireE E x).1 := by
  refine ⟨h.right.retire x, ?_, ?_, ?_⟩
  · have := h.now; unfold retireE; split <;> dsimp only <;> omega
  · unfold retireE
    split
    · intro g hg
      simp only [List.mem_append, List.mem_singleton] at hg
      rcases hg with hg | hg
      · exact h.nine g hg
      · subst hg; exact hx
    · exact h.nine
  · have := h.few; unfold retireE; split <;> simp <;> omega
theorem DrE.adv {k : Nat} {E : Ep} (h : DrE k E) : DrE (k + 1) (advE E).1 := by
  refine ⟨h.right.adv, ?_, ?_, ?_⟩
  · have := h.now; unfold advE; split <;> dsimp only <;> omega
  · unfold advE; split <;> exact h.nine
  · have := h.few; unfold advE; split <;> dsimp only <;> omega
theorem DrE.free {k : Nat} {E : Ep} (h : DrE k E) : DrE (k + 1) (freeE E).1 := by
  refine ⟨h.right.free, ?_, ?_, ?_⟩
  · have := h.now; unfold freeE; split <;> dsimp only <;> omega
  · unfold freeE
    split
    · exact fun g hg => h.nine g (List.mem_filter.1 hg).1
    · exact h.nine
  · have := h.few
    unfold freeE
    split
    · exact Nat.le_trans (List.length_filter_le _ _) (by omega)
    · dsimp only; omega
end Go.Proofs.Ytockgojdmaladac
