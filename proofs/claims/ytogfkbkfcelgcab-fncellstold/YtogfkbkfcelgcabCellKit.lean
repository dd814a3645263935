/- What the laws on cells share. -/
import Derived.Test.YtogfkbkfcelgcabInts
import Derived.Test.YtogfkbkfcelgcabCellPlain
import Derived.Test.YtogfkbkfcelgcabCursor
namespace Go.Proofs.Ytogfkbkfcelgcab
open Go.RowKit Go.Sort

theorem andB {a b c : World} (h : Below a.heap.size a b) (k : Below b.heap.size b c) : Below a.heap.size a c := h.trans (k.mono h.size)
/-- What is kept while two numbers are read beside a call. -/
theorem keepTwo {w0 w1 w2 : World} {p q : Addr} {u v : Value} (h : Below w0.heap.size w0 w1 ∧ w1.cell? p = some u ∧ w1.cell? q = some v) (hp : p.block < w0.heap.size) (hq : q.block < w0.heap.size) (hb : Below w1.heap.size w1 w2) :
    Below w0.heap.size w0 w2 ∧ w2.cell? p = some u ∧ w2.cell? q = some v :=
  ⟨andB h.1 hb, (hb.cell (Nat.lt_of_lt_of_le hp h.1.size)).trans h.2.1, (hb.cell (Nat.lt_of_lt_of_le hq h.1.size)).trans h.2.2⟩

/-- The first three of twelve numbers. -/
theorem places_of {w : World} {base : Nat} {v : Value} {P : List Int} (h : OwnV w base 3 v (ints P)) (h12 : P.length = 12) (hz : ∀ z ∈ P, 0 ≤ z ∧ z < 10000) :
    ∃ g cap x0 x1 x2, v = .slice (some ⟨g, 0, none⟩) 12 cap ∧ (0 ≤ x0 ∧ x0 < 10000) ∧ (0 ≤ x1 ∧ x1 < 10000) ∧ (0 ≤ x2 ∧ x2 < 10000) ∧ g < w.heap.size ∧
      ∀ wi, Below w.heap.size w wi → wi.cell? ⟨g, 0, none⟩ = some (.int .i64 x0) ∧ wi.cell? ⟨g, 1, none⟩ = some (.int .i64 x1) ∧ wi.cell? ⟨g, 2, none⟩ = some (.int .i64 x2) := by
  obtain ⟨a, cap, hv, hc⟩ := h.shape
  rw [ints_length, h12] at hv
  obtain ⟨g, ha, h0, _, _, hg⟩ := hc 0 (by rw [ints_length]; omega)
  obtain ⟨g1, ha1, h1, _⟩ := hc 1 (by rw [ints_length]; omega)
  obtain ⟨g2, ha2, h2, _⟩ := hc 2 (by rw [ints_length]; omega)
  subst ha
  simp only [Option.some.injEq, Addr.mk.injEq, and_true] at ha1 ha2
  subst ha1
  subst ha2
  rw [ints_at (by omega)] at h0 h1 h2
  exact ⟨g, cap, P[0], P[1], P[2], hv, hz _ (List.getElem_mem _), hz _ (List.getElem_mem _), hz _ (List.getElem_mem _), hg, fun wi hb => ⟨(hb.cell hg).trans h0, (hb.cell hg).trans h1, (hb.cell hg).trans h2⟩⟩
theorem small_ok {x : Int} (h : 0 ≤ x ∧ x < 10000) : nOkC x = true := by unfold nOkC; exact decide_eq_true (by omega)
theorem all_set {l : List Int} {k : Nat} {x : Int} (h : l.all nOkC = true) (hx : nOkC x = true) : (l.set k x).all nOkC = true := by
  rw [List.all_eq_true] at *
  intro z hz
  rcases List.mem_or_eq_of_mem_set hz with h1 | rfl
  · exact h z h1
  · exact hx
theorem okC_small {l : List Int} (h1 : 1 ≤ l.length) (h6 : l.length ≤ 6) (h : l.all nOkC = true) : okC l = true := okC_true h1 (by omega) h
end Go.Proofs.Ytogfkbkfcelgcab
