/- Texts that stand in one: TargetPlain, FieldOfPlain. -/
import Derived.Test.YtnnaphfeeobeladDoorHeadPlainJ
import Derived.Lib.Strings
namespace Go.Proofs.YtnnaphfeeobeladDoor
open Go.RowKit
def getL : List UInt8 := [71, 69, 84, 32]
def httpL : List UInt8 := [32, 72, 84, 84, 80, 47, 49, 46, 49]
def tgtB (b : Nat) : Bool := decide (33 ≤ b ∧ b ≤ 126)
/-- A target that is right. -/
def tgtOk (t : ByteArray) : Bool := decide (1 ≤ t.size ∧ t.size ≤ 20) && allB tgtB t && decide (t.data.toList.getD 0 0 = 47)
/-- What stands between the two words. -/
def tgtOf (line : ByteArray) : ByteArray := ⟨((line.data.toList.drop 4).take (line.data.toList.length - 13)).toArray⟩
def tgtLine (line : ByteArray) : Bool := Lib.hasPrefix line.data.toList getL && Lib.hasSuffix (line.data.toList.drop 4) httpL
def targetS (line : ByteArray) : ByteArray × Bool := if (tgtLine line && tgtOk (tgtOf line)) = true then (tgtOf line, true) else (⟨#[]⟩, false)
theorem targetS_no {line : ByteArray} (h : tgtLine line = false ∨ tgtOk (tgtOf line) = false) : targetS line = (⟨#[]⟩, false) := by
  unfold targetS
  rw [if_neg]
  rcases h with h | h <;> rw [h] <;> simp
theorem targetS_yes {line : ByteArray} (h : tgtLine line = true) (h' : tgtOk (tgtOf line) = true) : targetS line = (tgtOf line, true) := by
  unfold targetS
  rw [if_pos (by rw [h, h']; rfl)]
theorem tgtOf_size (line : ByteArray) : (tgtOf line).size = min (line.size - 13) (line.size - 4) := by
  show ((line.data.toList.drop 4).take (line.data.toList.length - 13)).toArray.size = _
  simp
theorem hasPrefix_take (l p : List UInt8) (h : p.length ≤ l.length) : Lib.hasPrefix l p = (l.take p.length == p) := by
  rw [← Lib.hasPrefix_of_take, decide_eq_true h, Bool.true_and]
theorem hasSuffix_drop (l p : List UInt8) (h : p.length ≤ l.length) : Lib.hasSuffix l p = (l.drop (l.length - p.length) == p) := by
  rw [← Lib.hasSuffix_of_drop, decide_eq_true h, Bool.true_and]
theorem tgtLine_short {line : ByteArray} (h : line.size < 13) : tgtLine line = false := by
  unfold tgtLine
  have : Lib.hasSuffix (line.data.toList.drop 4) httpL = false := by
    rw [← Lib.hasSuffix_of_drop, decide_eq_false, Bool.false_and]
    simp only [List.length_drop, httpL, List.length_cons, List.length_nil]
    rw [← Lib.size_eq]
    omega
  rw [this, Bool.and_false]
theorem tgtLine_at {line : ByteArray} (h : 13 ≤ line.size) : tgtLine line = (((line.extract 0 4).toList == getL) && ((line.extract (line.size - 9) line.size).toList == httpL)) := by
  unfold tgtLine
  have hs := Lib.size_eq line
  rw [hasPrefix_take _ _ (by show 4 ≤ _; omega), hasSuffix_drop _ _ (by rw [List.length_drop]; show 9 ≤ _; omega), Lib.extract_toList, Lib.extract_toList, List.drop_zero, List.drop_drop, List.length_drop]
  show ((line.data.toList.take 4 == getL) && (line.data.toList.drop (4 + (line.data.toList.length - 4 - 9)) == httpL)) = _
  rw [show 4 + (line.data.toList.length - 4 - 9) = line.size - 9 by omega, List.take_of_length_le (l := line.data.toList.drop (line.size - 9)) (by rw [List.length_drop]; omega)]
theorem tgtOf_at (line : ByteArray) : tgtOf line = line.extract 4 (line.size - 9) := by
  unfold tgtOf
  rw [Lib.extract_eq, ← Lib.size_eq]
  congr 3
theorem first_at {s : ByteArray} (h : 0 < s.size) : s.data.toList.getD 0 0 = s[0] := by
  simp [List.getD_eq_getElem?_getD, Array.getElem?_eq_getElem (show 0 < s.data.size from h)]; rfl
end Go.Proofs.YtnnaphfeeobeladDoor

namespace Go.Proofs.YtnnaphfeeobeladDoor
open Go.RowKit
def eqT (a b : ByteArray) : Bool := a.toList == b.toList
def fieldOfS (L : List (ByteArray × ByteArray)) (name : ByteArray) : ByteArray × Bool := match L.find? (fun f => eqT f.1 name) with | some f => (f.2, true) | none => (⟨#[]⟩, false)
theorem fieldOf_some {L : List (ByteArray × ByteArray)} {nm : ByteArray} {k : Nat} (h : ∀ q (hq : q < L.length), q < k → eqT L[q].1 nm = false) (hk : k < L.length) {f : ByteArray × ByteArray} (hf : L[k] = f) (he : eqT f.1 nm = true) : fieldOfS L nm = (f.2, true) := by
  unfold fieldOfS
  have : L.find? (fun f => eqT f.1 nm) = some f := by
    rw [List.find?_eq_some_iff_getElem]
    exact ⟨he, k, hk, hf, fun j hj => by simpa using h j (by omega) hj⟩
  rw [this]
theorem fieldOf_none {L : List (ByteArray × ByteArray)} {nm : ByteArray} (h : ∀ q (hq : q < L.length), eqT L[q].1 nm = false) : fieldOfS L nm = (⟨#[]⟩, false) := by
  unfold fieldOfS
  have : L.find? (fun f => eqT f.1 nm) = none := by
    rw [List.find?_eq_none]
    intro f hf
    obtain ⟨j, hj, rfl⟩ := List.getElem_of_mem hf
    simp [h j hj]
  rw [this]
end Go.Proofs.YtnnaphfeeobeladDoor
