/- Heads: what is right, and their texts. Plain, no program. -/
import Derived.Test.YtnnaphfeeobeladDoorFieldRows
namespace Go.Proofs.YtnnaphfeeobeladDoor
open Go.RowKit

/-- All bytes of a text are such ones. -/
def allB (p : Nat → Bool) (s : ByteArray) : Bool := s.data.toList.all fun b => p b.toNat
theorem allB_go {p : Nat → Bool} {s : ByteArray} (h : ∀ q (hq : q < s.size), p s[q].toNat = true) : allB p s = true := by
  unfold allB
  rw [List.all_eq_true]
  intro b hb
  obtain ⟨j, hj, rfl⟩ := List.getElem_of_mem hb
  exact h j (by simpa using hj)
theorem allB_no {p : Nat → Bool} {s : ByteArray} {k : Nat} (hk : k < s.size) (h : p s[k].toNat = false) : allB p s = false := by
  unfold allB
  rw [Bool.eq_false_iff]
  intro e
  rw [List.all_eq_true] at e
  have := e (s.data.toList[k]'(by simpa using hk)) (List.getElem_mem _)
  have e2 : s.data.toList[k]'(by simpa using hk) = s[k] := by simp; rfl
  rw [e2, h] at this
  cases this
def nameB (b : Nat) : Bool := decide (97 ≤ b ∧ b ≤ 122) || decide (b = 45)
def plainB (b : Nat) : Bool := decide (32 ≤ b ∧ b ≤ 126)
def nameOkS (s : ByteArray) : Bool := allB nameB s && decide (1 ≤ s.size ∧ s.size ≤ 20)
def plainS (s : ByteArray) (most : Int) : Bool := allB plainB s && decide ((s.size : Int) ≤ most)
/-- No blank first or last. -/
def trimS (s : ByteArray) : Bool := decide (s.size = 0) || (!decide ((s.data.toList.getD 0 0).toNat = 32) && !decide ((s.data.toList.getD (s.size - 1) 0).toNat = 32))
def fieldOkS (f : ByteArray × ByteArray) : Bool := nameOkS f.1 && plainS f.2 60 && trimS f.2
end Go.Proofs.YtnnaphfeeobeladDoor
