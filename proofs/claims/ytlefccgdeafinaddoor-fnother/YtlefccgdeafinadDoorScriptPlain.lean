/- Lines of a head, one behind the other. Plain, no program. -/
import Derived.Test.YtlefccgdeafinadDoorLinePlain
import Derived.Test.YtlefccgdeafinadDoorLowPlain
import Derived.Test.YtlefccgdeafinadDoorTrimPlain
import Derived.Test.YtlefccgdeafinadDoorHeadTextPlain
namespace Go.Proofs.YtlefccgdeafinadDoor
open Go.RowKit
/-- Lines, each with its end. -/
def flatL (ms : List (List UInt8)) : List UInt8 := ms.flatMap fun b => b ++ [13, 10]
/-- Where the line i begins. -/
def posL (o : Nat) (ms : List (List UInt8)) (i : Nat) : Nat := o + (flatL (ms.take i)).length
theorem flatL_append (a b : List (List UInt8)) : flatL (a ++ b) = flatL a ++ flatL b := by simp [flatL]
theorem flatL_cons (b : List UInt8) (ms : List (List UInt8)) : flatL (b :: ms) = b ++ 13 :: 10 :: flatL ms := by simp [flatL]
theorem posL_zero (o : Nat) (ms : List (List UInt8)) : posL o ms 0 = o := by simp [posL, flatL]
theorem posL_succ (o : Nat) (ms : List (List UInt8)) (i : Nat) (h : i < ms.length) : posL o ms (i + 1) = posL o ms i + ms[i].length + 2 := by
  unfold posL
  rw [List.take_succ_eq_append_getElem h, flatL_append, List.length_append]
  simp [flatL]
  omega
theorem drop_at (l : List UInt8) (o : Nat) (ms : List (List UInt8)) (tail : List UInt8) (h : l.drop o = flatL ms ++ tail) (i : Nat) : l.drop (posL o ms i) = flatL (ms.drop i) ++ tail := by
  unfold posL
  rw [← List.drop_drop, h]
  have e : flatL ms = flatL (ms.take i) ++ flatL (ms.drop i) := by rw [← flatL_append, List.take_append_drop]
  rw [e, List.append_assoc, List.drop_left' rfl]
theorem drop_line (l : List UInt8) (o : Nat) (ms : List (List UInt8)) (tail : List UInt8) (h : l.drop o = flatL ms ++ tail) (i : Nat) (hi : i < ms.length) : l.drop (posL o ms i) = ms[i] ++ 13 :: 10 :: (flatL (ms.drop (i + 1)) ++ tail) := by
  rw [drop_at l o ms tail h i, List.drop_eq_getElem_cons hi, flatL_cons]
  simp
/-- A line that is a field's. -/
def LineF (b : List UInt8) (f : ByteArray × ByteArray) : Prop := ∃ nm r, b = nm ++ 58 :: r ∧ (∀ x ∈ nm, x ≠ 58) ∧ f = (⟨(lowL nm).toArray⟩, trimT ⟨r.toArray⟩) ∧ fieldOkS f = true
theorem LineF.some {b : List UInt8} {f : ByteArray × ByteArray} (h : LineF b f) : b ≠ [] := by
  obtain ⟨nm, r, rfl, _⟩ := h
  simp
theorem headOk_sz {line : ByteArray} {L : List (ByteArray × ByteArray)} (h : headOkS line L = true) : HdSz line L ∧ L.length ≤ 8 ∧ 1 ≤ line.size ∧ line.size ≤ 80 ∧ (headT line L).size ≤ 300 := by
  unfold headOkS at h
  simp only [Bool.and_eq_true, decide_eq_true_eq, plainS] at h
  obtain ⟨⟨⟨h1, h2, h3⟩, h4, h5⟩, h6⟩ := h
  have hs := headT_size line L
  refine ⟨by unfold HdSz; omega, h4, h1, by omega, h6⟩
end Go.Proofs.YtlefccgdeafinadDoor
