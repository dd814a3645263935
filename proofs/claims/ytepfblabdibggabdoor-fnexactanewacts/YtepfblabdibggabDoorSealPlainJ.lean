/- Texts that stand in one: SealPlain, FramePlain, EntFrame. -/
import Derived.Test.YtepfblabdibggabDoorSumPlain
import Derived.Test.YtepfblabdibggabDoorSumTabJ
import Derived.Test.YtepfblabdibggabDoorEntPlain
namespace Go.Proofs.YtepfblabdibggabDoor
open Go.RowKit

/-- The sum of a text. -/
def sumOf (s : ByteArray) : Nat := sumAll 4294967295 s.data.toList
theorem sumOf_lt (s : ByteArray) : sumOf s < 4294967296 := sumAll_lt (by omega)
def slText (s : ByteArray) : ByteArray := if s.size ≤ 20000 then s ++ ⟨(four (sumOf s)).toArray⟩ else ⟨#[]⟩
def slOk (s : ByteArray) : Bool := decide (s.size ≤ 20000)

/-- A text without its last four bytes. -/
def unHead (s : ByteArray) : ByteArray := s.extract 0 (s.size - 4)
def unTail (s : ByteArray) : List UInt8 := (s.extract (s.size - 4) s.size).data.toList
def unOk (s : ByteArray) : Bool := decide (4 ≤ s.size) && decide (s.size ≤ 20004) && (four (sumOf (unHead s)) == unTail s)
def unText (s : ByteArray) : ByteArray := if unOk s = true then unHead s else ⟨#[]⟩

theorem unHead_size (s : ByteArray) : (unHead s).size = s.size - 4 := by simp [unHead]
end Go.Proofs.YtepfblabdibggabDoor

namespace Go.Proofs.YtepfblabdibggabDoor
open Go.RowKit

/-- A text that has a frame. -/
def frOk (s : ByteArray) : Bool := decide (1 ≤ s.size) && decide (s.size ≤ 9000)
/-- Its frame. -/
def frAll (s : ByteArray) : ByteArray := ⟨(varF 8 s.size).toArray⟩ ++ ⟨(four (sumOf s)).toArray⟩ ++ s
def frText (s : ByteArray) : ByteArray := if frOk s = true then frAll s else ⟨#[]⟩
theorem frOk_in {s : ByteArray} (h1 : 1 ≤ s.size) (h2 : s.size ≤ 9000) : frOk s = true := by simp [frOk, h1, h2]
theorem frOk_out {s : ByteArray} (h : ¬ (1 ≤ s.size ∧ s.size ≤ 9000)) : frOk s = false := by simp [frOk]; omega
theorem frText_in {s : ByteArray} (h1 : 1 ≤ s.size) (h2 : s.size ≤ 9000) : frText s = frAll s := by simp [frText, frOk_in h1 h2]
theorem frText_out {s : ByteArray} (h : ¬ (1 ≤ s.size ∧ s.size ≤ 9000)) : frText s = ⟨#[]⟩ := by simp [frText, frOk_out h]
theorem size_zero {s : ByteArray} (h : s.size = 0) : s = ⟨#[]⟩ := by
  cases s with | mk d => simp [ByteArray.size] at h; simp [h]
theorem ne_empty {s : ByteArray} (h : 1 ≤ s.size) : ¬ s = ⟨#[]⟩ := by
  rintro rfl; simp [ByteArray.size] at h
theorem not_empty {s : ByteArray} (h : 1 ≤ s.size) : s.toList.isEmpty = false := by
  rw [ByteArray.toList_eq]
  cases s with | mk d =>
  cases hd : d.toList with
  | nil => simp [ByteArray.size] at h; have : d = #[] := by simpa using hd
           subst this; simp at h
  | cons => simp
end Go.Proofs.YtepfblabdibggabDoor

namespace Go.Proofs.YtepfblabdibggabDoor
open Go.RowKit
/-- The frame of a right entry. -/
def enFr (E : En) : ByteArray := frAll (enAll E)
theorem enFr_size {E : En} (h : enOk E = true) : 5 ≤ (enFr E).size ∧ (enFr E).size ≤ 470 := by
  obtain ⟨h1, h2⟩ := enAll_size h
  have l := varF_length 8 (enAll E).size
  have p := varF_pos 8 (enAll E).size
  have e : (enFr E).size = (varF 8 (enAll E).size).length + 4 + (enAll E).size := by
    rw [← size_listE]
    unfold enFr frAll
    simp [four_length]
    have := size_listE (enAll E)
    omega
  omega
end Go.Proofs.YtepfblabdibggabDoor
