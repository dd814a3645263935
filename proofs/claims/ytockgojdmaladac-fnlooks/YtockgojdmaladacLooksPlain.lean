/- What somebody looks at stays, till they do not. Plain, no program. -/
import Derived.Test.YtockgojdmaladacEpochHand
namespace Go.Proofs.Ytockgojdmaladac
open Go.RowKit

/-- One looks from N on; the node 20 is gone since N. -/
structure LkE (N : Int) (E : Ep) : Prop where
  right : RightE E
  small : N ≤ 1000
  now : E.now = N ∨ E.now = N + 1
  pin : ∃ r, E.pins = (N + 1) :: r ∧ ∀ p ∈ r, p = 0
  has : (20, N) ∈ E.gone
  only : ∀ g ∈ E.gone, g.1 ≤ 9 ∨ g = (20, N)
theorem look_begins {E : Ep} {k : Nat} (hr : RightE E) (hnb : Nobody E) (hnow : E.now ≤ 1000) (hn : ∀ g ∈ E.gone, g.1 ≤ 9) (hf : E.gone.length ≤ k) (hk : k < 40) :
    (pinE E 0).2 = true ∧ (retireE (pinE E 0).1 20).2 = true ∧ LkE E.now (retireE (pinE E 0).1 20).1 := by
  obtain ⟨now, pins, gone⟩ := E
  obtain ⟨x, r, rfl⟩ : ∃ x r, pins = x :: r := by
    cases pins with
    | nil => have := hr.2.1.1; simp at this
    | cons x r => exact ⟨x, r, rfl⟩
  have hx : x = 0 := hnb x (by simp)
  subst hx
  have hp : pinE ⟨now, 0 :: r, gone⟩ 0 = (⟨now, (now + 1) :: r, gone⟩, true) := by
    have h := pinE_at (n := 0) ((okE_iff _).2 hr) (by simp)
    simpa using h
  have hr2 := hr.pin 0
  rw [hp] at hr2 ⊢
  dsimp only at hr2 ⊢ hnow hn hf hr
  have hh : hasG gone 20 = false := by
    unfold hasG
    rw [Bool.eq_false_iff]
    intro e
    rw [List.any_eq_true] at e
    obtain ⟨g, hg, he⟩ := e
    have := hn g hg
    simp only [decide_eq_true_eq] at he
    omega
  have hq : retireE ⟨now, (now + 1) :: r, gone⟩ 20 = (⟨now, (now + 1) :: r, gone ++ [(20, now)]⟩, true) := by
    unfold retireE
    rw [(okE_iff _).2 hr2]
    dsimp only
    rw [hh, decide_eq_false (show ¬ gone.length = 40 by omega)]
    rfl
  have hr3 := hr2.retire 20
  rw [hq] at hr3 ⊢
  refine ⟨rfl, rfl, hr3, hnow, .inl rfl, ⟨r, rfl, fun p hp => hnb p (by simp [hp])⟩, by simp, fun g hg => ?_⟩
  simp only [List.mem_append, List.mem_singleton] at hg
  rcases hg with hg | hg
  · exact .inl (hn g hg)
  · exact .inr hg
theorem LkE.adv {N : Int} {E : Ep} (h : LkE N E) : LkE N (advE E).1 := by
  have hr := h.right.adv
  obtain ⟨now, pins, gone⟩ := E
  obtain ⟨r, hp, hz⟩ := h.pin
  dsimp only at hp
  subst hp
  have h2 := h.right.1.1
  have hs := h.small
  unfold advE at hr ⊢
  split
  · rename_i hc
    rw [if_pos hc] at hr
    simp only [Bool.and_eq_true, Bool.not_eq_true', decide_eq_false_iff_not, List.any_eq_false, decide_eq_true_eq] at hc
    refine ⟨hr, hs, ?_, ⟨r, rfl, hz⟩, h.has, h.only⟩
    rcases h.now with e | e
    · exact .inr (by dsimp only at e ⊢; omega)
    · exact absurd e.symm (by have := hc.2 (N + 1) (by simp); exact this)
  · exact h
theorem LkE.stays {N : Int} {E : Ep} (h : LkE N E) : ¬ (N ≤ E.now - 2) := by
  rcases h.now with e | e <;> omega
theorem LkE.free {N : Int} {E : Ep} (h : LkE N E) : LkE N (freeE E).1 ∧ (freeE E).2.any (fun x => decide (x = 20)) = false := by
  have hr := h.right.free
  have hst := h.stays
  unfold freeE at hr ⊢
  have hok := (okE_iff E).2 h.right
  rw [if_pos hok] at hr ⊢
  refine ⟨⟨hr, h.small, h.now, h.pin, ?_, fun g hg => h.only g (List.mem_filter.1 hg).1⟩, ?_⟩
  · rw [List.mem_filter]
    exact ⟨h.has, by simp [isFree]; omega⟩
  · rw [Bool.eq_false_iff]
    intro e
    rw [List.any_eq_true] at e
    obtain ⟨x, hx, he⟩ := e
    simp only [decide_eq_true_eq] at he
    subst he
    simp only [List.mem_map, List.mem_filter] at hx
    obtain ⟨g, ⟨hg, hf⟩, he⟩ := hx
    have hf' : g.2 ≤ E.now - 2 := by simpa [isFree] using hf
    rcases h.only g hg with h9 | h9
    · omega
    · subst h9; exact hst hf'
theorem LkE.ends {N : Int} {E : Ep} (h : LkE N E) : (unpinE E 0).2 = true ∧ RightE (unpinE E 0).1 ∧ Nobody (unpinE E 0).1 ∧ (unpinE E 0).1.now = E.now ∧ (unpinE E 0).1.gone = E.gone := by
  have hr := h.right.unpin 0
  obtain ⟨now, pins, gone⟩ := E
  obtain ⟨r, hp, hz⟩ := h.pin
  dsimp only at hp
  subst hp
  have h2 := h.right.1.1
  have hnow := h.now
  dsimp only at hnow h2
  have hu : unpinE ⟨now, (N + 1) :: r, gone⟩ 0 = (⟨now, 0 :: r, gone⟩, true) := by
    have e := unpinE_at (n := 0) ((okE_iff _).2 h.right) (by simp)
    have hne : ¬ (N + 1 = 0) := by omega
    simpa [hne] using e
  rw [hu] at hr ⊢
  refine ⟨rfl, hr, fun p hp => ?_, rfl, rfl⟩
  simp only [List.mem_cons] at hp
  rcases hp with hp | hp
  · exact hp
  · exact hz p hp
end Go.Proofs.Ytockgojdmaladac
