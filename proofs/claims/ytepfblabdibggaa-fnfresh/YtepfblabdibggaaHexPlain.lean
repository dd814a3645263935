/- Figures of bytes: the plain reckoning; no program. -/
import Derived.Test.YtepfblabdibggaaFigPlain
namespace Go.Proofs.Ytepfblabdibggaa
open Go.RowKit

/-- The figures of bytes. -/
def figs (l : List UInt8) : List UInt8 := l.flatMap fun b => [fig (b.toNat / 16), fig (b.toNat % 16)]

theorem figs_snoc (l : List UInt8) (b : UInt8) : figs (l ++ [b]) = figs l ++ [fig (b.toNat / 16), fig (b.toNat % 16)] := by simp [figs]

theorem figs_length (l : List UInt8) : (figs l).length = 2 * l.length := by
  induction l with
  | nil => rfl
  | cons b l ih => simp only [figs, List.flatMap_cons, List.length_append, List.length_cons, List.length_nil] at *; omega

theorem take_snoc (s : ByteArray) (k : Nat) (h : k < s.size) : s.data.toList.take (k + 1) = s.data.toList.take k ++ [s[k]] := by
  rw [List.take_succ_eq_append_getElem (by simpa using h)]; rfl

theorem wrap_small (x : Int) (h1 : -9223372036854775808 ≤ x) (h2 : x < 9223372036854775808) : IntKind.i64.wrap x = x := by
  simp only [IntKind.wrap_i64]; omega

/-- The text of all figures. -/
def allFigs : ByteArray := ⟨#[48, 49, 50, 51, 52, 53, 54, 55, 56, 57, 97, 98, 99, 100, 101, 102]⟩

theorem allFigs_at : ∀ q, (h : q < 16) → allFigs[q]'h = fig q := by
  intro q h
  rcases (show q = 0 ∨ q = 1 ∨ q = 2 ∨ q = 3 ∨ q = 4 ∨ q = 5 ∨ q = 6 ∨ q = 7 ∨ q = 8 ∨ q = 9 ∨ q = 10 ∨ q = 11 ∨ q = 12 ∨ q = 13 ∨ q = 14 ∨ q = 15 by omega) with rfl | rfl | rfl | rfl | rfl | rfl | rfl | rfl | rfl | rfl | rfl | rfl | rfl | rfl | rfl | rfl <;> rfl

/-- What Hex answers. -/
def hxOk (s : ByteArray) : Bool := decide (s.size ≤ 20000)

def hxText (s : ByteArray) : ByteArray := if s.size ≤ 20000 then ⟨(figs s.data.toList).toArray⟩ else ⟨#[]⟩
end Go.Proofs.Ytepfblabdibggaa
