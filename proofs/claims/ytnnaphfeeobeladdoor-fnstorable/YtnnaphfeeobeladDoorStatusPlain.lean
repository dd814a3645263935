/- The number of an answer's line. Plain, no program. -/
import Derived.Test.YtnnaphfeeobeladDoorHeadPlainJ
import Derived.Lib.Strings
namespace Go.Proofs.YtnnaphfeeobeladDoor
open Go.RowKit
def stL : List UInt8 := [72, 84, 84, 80, 47, 49, 46, 49, 32]
/-- The byte at a place. -/
def byteAt (line : ByteArray) (q : Nat) : Nat := (line.data.toList.getD q 0).toNat
def digB (b : Nat) : Bool := decide (48 ≤ b ∧ b ≤ 57)
def stOk (line : ByteArray) : Bool := decide (13 ≤ line.size) && ((line.extract 0 9).toList == stL) && decide (byteAt line 12 = 32)
def stv (line : ByteArray) : Nat → Nat
  | 0 => 0
  | j + 1 => 10 * stv line j + byteAt line (9 + j) - 48
def stDig (line : ByteArray) : Bool := digB (byteAt line 9) && digB (byteAt line 10) && digB (byteAt line 11)
def statusS (line : ByteArray) : Int × Bool := if (stOk line && stDig line && decide (100 ≤ stv line 3 ∧ stv line 3 ≤ 599)) = true then ((stv line 3 : Int), true) else (0, false)
theorem statusS_no {line : ByteArray} (h : stOk line = false ∨ stDig line = false ∨ ¬ (100 ≤ stv line 3 ∧ stv line 3 ≤ 599)) : statusS line = (0, false) := by
  unfold statusS
  rw [if_neg]
  rcases h with h | h | h
  · rw [h]; simp
  · rw [h]; simp
  · rw [decide_eq_false h]; simp
theorem statusS_yes {line : ByteArray} (h : stOk line = true) (h' : stDig line = true) (h'' : 100 ≤ stv line 3 ∧ stv line 3 ≤ 599) : statusS line = ((stv line 3 : Int), true) := by
  unfold statusS
  rw [if_pos (by rw [h, h', decide_eq_true h'']; rfl)]
theorem byteAt_at {s : ByteArray} {q : Nat} (h : q < s.size) : byteAt s q = s[q].toNat := by
  unfold byteAt
  congr 1
  simp [List.getD_eq_getElem?_getD, Array.getElem?_eq_getElem (show q < s.data.size from h)]; rfl
theorem stDig_no {line : ByteArray} {q : Nat} (h9 : 9 ≤ q) (h11 : q < 12) (h : digB (byteAt line q) = false) : stDig line = false := by
  unfold stDig
  rcases (show q = 9 ∨ q = 10 ∨ q = 11 by omega) with rfl | rfl | rfl <;> rw [h] <;> simp
theorem stDig_go {line : ByteArray} (h : ∀ q, 9 ≤ q → q < 12 → digB (byteAt line q) = true) : stDig line = true := by
  unfold stDig
  rw [h 9 (by omega) (by omega), h 10 (by omega) (by omega), h 11 (by omega) (by omega)]
  rfl
end Go.Proofs.YtnnaphfeeobeladDoor
