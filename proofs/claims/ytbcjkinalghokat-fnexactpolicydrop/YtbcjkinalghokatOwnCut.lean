/- Own rows: many cells stored, a beginning of them. Plain. -/
import Derived.Test.YtbcjkinalghokatStrs
namespace Go.Proofs.Ytbcjkinalghokat
open Go.RowKit

/-- Cells stored one behind the other into a row of one's own. -/
theorem OwnV.storedAll {base g n cap : Nat} {e : TypeId} : ∀ (vs : List Value) (o : Nat) (w : World) (xs : List Value), OwnV w base e (.slice (some ⟨g, 0, none⟩) n cap) xs → n = xs.length →
    ∃ ys, ys.length = xs.length ∧ (∀ j, j < o → ys[j]? = xs[j]?) ∧ (∀ j, j < vs.length → o + j < xs.length → ys[o + j]? = vs[j]?) ∧ (∀ j, o + vs.length ≤ j → ys[j]? = xs[j]?) ∧ OwnV (w.setCells g o vs) base e (.slice (some ⟨g, 0, none⟩) n cap) ys ∧ w.grownBy (w.setCells g o vs) (some g)
  | [], o, w, xs, h, hn => ⟨xs, rfl, fun _ _ => rfl, fun j hj => by simp at hj, fun _ _ => rfl, h, grownBy_refl _ _⟩
  | v :: rest, o, w, xs, h, hn => by
    obtain ⟨h1, hg1⟩ := h.stored hn o v
    obtain ⟨ys, e1, e2, e3, e4, e5, e6⟩ := OwnV.storedAll rest (o + 1) (w.setCell ⟨g, o, none⟩ v) (xs.set o v) h1 (by rw [List.length_set]; exact hn)
    refine ⟨ys, by rw [e1, List.length_set], fun j hj => ?_, fun j hj hx => ?_, fun j hj => ?_, e5, grownBy_trans hg1 e6⟩
    · rw [e2 j (by omega), List.getElem?_set_ne (by omega)]
    · cases j with
      | zero =>
        rw [Nat.add_zero] at hx ⊢
        rw [e2 o (by omega), List.getElem?_set_self hx]
        rfl
      | succ j =>
        have := e3 j (by simp at hj; omega) (by rw [List.length_set]; omega)
        rw [show o + (j + 1) = o + 1 + j by omega, this]
        rfl
    · simp only [List.length_cons] at hj
      rw [e4 j (by omega), List.getElem?_set_ne (by omega)]
theorem OwnV.cut {w : World} {base g n cap : Nat} {e : TypeId} {xs : List Value} (h : OwnV w base e (.slice (some ⟨g, 0, none⟩) n cap) xs) (hn : n = xs.length) (m : Nat) (hm : m ≤ n) : OwnV w base e (.slice (some ⟨g, 0, none⟩) m cap) (xs.take m) := by
  rcases h.2 with ⟨e1, _⟩ | ⟨g', cp, cur, e1, h1, h2, h3, h4, h5, h6⟩
  · cases e1
  · simp only [Value.slice.injEq, Option.some.injEq, Addr.mk.injEq, and_true] at e1
    obtain ⟨rfl, e2, rfl⟩ := e1
    have hl : (xs.take m).length = m := by rw [List.length_take]; omega
    unfold OwnV
    rw [hl]
    refine ⟨by rw [hl, Nat.mul_one], .inr ⟨g, cap, cur, rfl, h1, h2, by omega, h4, h5, ?_⟩⟩
    rw [← h6, List.take_take, Nat.mul_one, Nat.mul_one, Nat.min_eq_left (by omega)]
theorem take_same {α : Type} {xs ys : List α} {n : Nat} (h : ∀ j, j < n → ys[j]? = xs[j]?) : ys.take n = xs.take n := by
  apply List.ext_getElem?
  intro i
  by_cases hi : i < n
  · rw [List.getElem?_take_of_lt hi, List.getElem?_take_of_lt hi, h i hi]
  · rw [List.getElem?_eq_none (by rw [List.length_take]; omega), List.getElem?_eq_none (by rw [List.length_take]; omega)]
/-- What the cells of an own row say. -/
theorem OwnV.cell {w : World} {base g n cap : Nat} {e : TypeId} {xs : List Value} (h : OwnV w base e (.slice (some ⟨g, 0, none⟩) n cap) xs) {j : Nat} (hj : j < xs.length) : w.cell? ⟨g, j, none⟩ = some xs[j] ∧ w.frozen? ⟨g, j, none⟩ = false ∧ base ≤ g ∧ g < w.heap.size := by
  obtain ⟨a, c, e1, h1⟩ := h.shape
  simp only [Value.slice.injEq] at e1
  obtain ⟨g', e2, h2, h3, h4, h5⟩ := h1 j hj
  rw [← e1.1] at e2
  simp only [Option.some.injEq, Addr.mk.injEq, and_true] at e2
  subst e2
  exact ⟨h2, h3, h4, h5⟩
theorem OwnV.capOf {w : World} {base g n cap : Nat} {e : TypeId} {xs : List Value} (h : OwnV w base e (.slice (some ⟨g, 0, none⟩) n cap) xs) : n ≤ cap ∧ cap ≤ maxLen := by
  rcases h.2 with ⟨e1, _⟩ | ⟨g', cp, cur, e1, h1, h2, h3, h4, h5, h6⟩
  · cases e1
  · simp only [Value.slice.injEq] at e1
    omega
end Go.Proofs.Ytbcjkinalghokat
