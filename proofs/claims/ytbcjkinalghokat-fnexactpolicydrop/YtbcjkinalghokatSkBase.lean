/- Sketches that are right. Plain, no program. -/
import Derived.WalkKit
namespace Go.Proofs.Ytbcjkinalghokat
open Go.RowKit

structure Sk where
  rows : List (List Int)
  added : Int

def numOk (z : Int) : Bool := decide (0 ≤ z ∧ z ≤ 15)
def rowOk (r : List Int) : Bool := decide (r.length = 16) && r.all numOk
def headOkK (S : Sk) : Bool := decide (S.rows.length = 3) && decide (0 ≤ S.added ∧ S.added ≤ 63)
def okK (S : Sk) : Bool := headOkK S && S.rows.all rowOk
def newS : Sk := ⟨List.replicate 3 (List.replicate 16 0), 0⟩

theorem rowOk_len {r : List Int} (h : rowOk r = true) : r.length = 16 := by
  unfold rowOk at h
  simp only [Bool.and_eq_true, decide_eq_true_eq] at h
  exact h.1
theorem rowOk_at {r : List Int} (h : rowOk r = true) (p : Nat) (hp : p < 16) : 0 ≤ r.getD p 0 ∧ r.getD p 0 ≤ 15 := by
  have hl := rowOk_len h
  unfold rowOk at h
  simp only [Bool.and_eq_true, List.all_eq_true] at h
  have h2 := h.2 r[p] (List.getElem_mem (by omega))
  simp only [numOk, decide_eq_true_eq] at h2
  rw [List.getD_eq_getElem?_getD, List.getElem?_eq_getElem (by omega)]
  exact h2
theorem list3S {l : List (List Int)} (h : l.length = 3) : ∃ a b c, l = [a, b, c] := by
  match l, h with
  | [a, b, c], _ => exact ⟨a, b, c, rfl⟩
/-- A right sketch has three right rows. -/
theorem okK_parts {S : Sk} (h : okK S = true) : ∃ a b c, S.rows = [a, b, c] ∧ rowOk a = true ∧ rowOk b = true ∧ rowOk c = true ∧ 0 ≤ S.added ∧ S.added ≤ 63 := by
  unfold okK headOkK at h
  simp only [Bool.and_eq_true, decide_eq_true_eq, List.all_eq_true] at h
  obtain ⟨⟨h1, h2⟩, h3⟩ := h
  obtain ⟨a, b, c, e⟩ := list3S h1
  rw [e] at h3
  exact ⟨a, b, c, e, h3 a (by simp), h3 b (by simp), h3 c (by simp), h2.1, h2.2⟩
theorem okK_mk {a b c : List Int} {n : Int} (ha : rowOk a = true) (hb : rowOk b = true) (hc : rowOk c = true) (h0 : 0 ≤ n) (h1 : n ≤ 63) : okK ⟨[a, b, c], n⟩ = true := by
  simp [okK, headOkK, ha, hb, hc, h0, h1]
theorem newS_ok : okK newS = true := by decide
end Go.Proofs.Ytbcjkinalghokat
