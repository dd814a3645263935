/- Epochs in a law's variable, one call behind the other; nobody looks any more. -/
import Derived.Test.YtockgojdmaladacEpochRight
import Derived.Test.YtockgojdmaladacEpochMore
import Derived.Test.YtockgojdmaladacEpochFree
namespace Go.Proofs.Ytockgojdmaladac
open Go.RowKit

structure Ew (w0 : World) (T : Nat) (a1 : Option Addr) (c1 : Nat) (a2 : Option Addr) (c2 : Nat) (E : Ep) (wi : World) : Prop where
  below : Below w0.heap.size w0 wi
  hT : w0.heap.size ≤ T
  box : EBox wi T (.int .i64 E.now) (.slice a1 E.pins.length c1) (.slice a2 E.gone.length c2)
  own : EOwn wi w0.heap.size (.agg #[.int .i64 E.now, .slice a1 E.pins.length c1, .slice a2 E.gone.length c2]) E
theorem Ew.next {w0 : World} {T : Nat} {a1 a2 : Option Addr} {c1 c2 : Nat} {E : Ep} {wi wj : World} (h : Ew w0 T a1 c1 a2 c2 E wi) (hb : Below wi.heap.size wi wj) : Ew w0 T a1 c1 a2 c2 E wj :=
  ⟨h.below.trans (hb.mono h.below.size), h.hT, h.box.on hb, h.own.below hb (Nat.le_refl _)⟩
theorem Ew.at {w0 : World} {T : Nat} {a1 a2 : Option Addr} {c1 c2 : Nat} {E : Ep} {wi : World} (h : Ew w0 T a1 c1 a2 c2 E wi) : EAt wi a1 a2 E wi.heap.size := by
  obtain ⟨q, q', r, s, hv, hA⟩ := h.own.at
  simp only [Value.agg.injEq, Array.mk.injEq, List.cons.injEq, and_true, Value.slice.injEq, true_and] at hv
  obtain ⟨⟨rfl, rfl⟩, rfl, rfl⟩ := hv
  exact hA
theorem Ew.store {w0 : World} {T : Nat} {a1 a2 b1 b2 : Option Addr} {c1 c2 d1 d2 : Nat} {E E' : Ep} {wi : World} {base : Nat} (h : Ew w0 T a1 c1 a2 c2 E wi) (ho : EOwn wi base (.agg #[.int .i64 E'.now, .slice b1 E'.pins.length d1, .slice b2 E'.gone.length d2]) E') (hb : w0.heap.size ≤ base) :
    Ew w0 T b1 d1 b2 d2 E' (((wi.setCell ⟨T, 0, none⟩ (.int .i64 E'.now)).setCell ⟨T, 1, none⟩ (.slice b1 E'.pins.length d1)).setCell ⟨T, 2, none⟩ (.slice b2 E'.gone.length d2)) :=
  ⟨Below.put3 h.below h.hT _ _ _, h.hT, h.box.put _ _ _, (ho.put h.box _ _ _).mono hb⟩
theorem Ew.new {w0 : World} {a1 a2 : Option Addr} {c1 c2 : Nat} {E : Ep} {wi : World} {base : Nat} (hb : Below w0.heap.size w0 wi) (ho : EOwn wi base (.agg #[.int .i64 E.now, .slice a1 E.pins.length c1, .slice a2 E.gone.length c2]) E) (hbase : w0.heap.size ≤ base) :
    Ew w0 wi.heap.size a1 c1 a2 c2 E (wi.alloc (.cells #[.int .i64 E.now, .slice a1 E.pins.length c1, .slice a2 E.gone.length c2] 50)) :=
  ⟨hb.alloc hb.size _, hb.size, EBox.new _ _ _ _, (ho.mono hbase).below ((Below.refl _ _).alloc (Nat.le_refl _) _) (Nat.le_refl _)⟩
theorem RightE.lens {E : Ep} (h : RightE E) : E.pins.length ≤ 1048576 ∧ E.gone.length ≤ 1048576 := by
  have h1 := h.2.1
  have h2 := h.2.2.1
  omega

/-- The first k look no more; all else is as it was. -/
structure UnE (E0 : Ep) (k : Nat) (E : Ep) : Prop where
  right : RightE E
  now : E.now = E0.now
  gone : E.gone = E0.gone
  len : E.pins.length = E0.pins.length
  zero : ∀ q (hq : q < E.pins.length), q < k → E.pins[q] = 0
theorem UnE.step {E0 : Ep} {k : Nat} {E : Ep} (h : UnE E0 k E) (hk : k < E.pins.length) : UnE E0 (k + 1) (unpinE E (k : Int)).1 := by
  obtain ⟨now, pins, gone⟩ := E
  obtain ⟨h1, h2, h3, h4, h5⟩ := h
  have hok := (okE_iff _).2 h1
  have hr := RightE.unpin h1 (k : Int)
  rw [unpinE_at hok hk] at hr ⊢
  by_cases e : pins[k] = 0
  · rw [if_pos e] at hr ⊢
    refine ⟨h1, h2, h3, h4, fun q hq hqk => ?_⟩
    by_cases e' : q = k
    · subst e'; exact e
    · exact h5 q hq (by omega)
  · rw [if_neg e] at hr ⊢
    refine ⟨hr, h2, h3, by simpa using h4, fun q hq hqk => ?_⟩
    by_cases e' : q = k
    · subst e'; simp
    · simp only [List.length_set] at hq
      simp only [List.getElem_set, if_neg (Ne.symm e')]
      exact h5 q hq (by omega)
/-- Nobody looks. -/
def Nobody (E : Ep) : Prop := ∀ p ∈ E.pins, p = 0
theorem UnE.nobody {E0 E : Ep} {k : Nat} (h : UnE E0 k E) (hk : E.pins.length ≤ k) : Nobody E := fun p hp => by
  obtain ⟨j, hj, rfl⟩ := List.getElem_of_mem hp
  exact h.zero j hj (by omega)
theorem Nobody.adv {E : Ep} (h : Nobody E) (hr : RightE E) (hn : E.now < 1000000000) : advE E = (⟨E.now + 1, E.pins, E.gone⟩, true) := by
  unfold advE
  have h1 := (okE_iff E).2 hr
  rw [h1, decide_eq_false (show ¬ E.now = 1000000000 by omega)]
  have h2 : (E.pins.any fun p => decide (p = E.now)) = false := by
    rw [Bool.eq_false_iff]
    intro e
    rw [List.any_eq_true] at e
    obtain ⟨p, hp, he⟩ := e
    have := h p hp
    have := hr.1.1
    simp only [decide_eq_true_eq] at he
    omega
  rw [h2]
  rfl
/-- All that is gone has been so long enough. -/
theorem free_all {E : Ep} (hr : RightE E) (h : ∀ g ∈ E.gone, g.2 ≤ E.now - 2) : freeE E = (⟨E.now, E.pins, []⟩, E.gone.map (·.1)) := by
  unfold freeE
  rw [if_pos ((okE_iff E).2 hr)]
  have h1 : E.gone.filter (isFree E.now) = E.gone := List.filter_eq_self.2 fun g hg => decide_eq_true (h g hg)
  have h2 : E.gone.filter (fun g => !isFree E.now g) = [] := by
    rw [List.filter_eq_nil_iff]
    intro g hg
    simp [isFree, h g hg]
  rw [h1, h2]
end Go.Proofs.Ytockgojdmaladac
