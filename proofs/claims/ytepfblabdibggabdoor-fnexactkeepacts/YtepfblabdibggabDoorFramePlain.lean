/- Frames: a text behind its length and its sum. -/
import Derived.Test.YtepfblabdibggabDoorSealPlain
import Derived.Test.YtepfblabdibggabDoorVarPlain
namespace Go.Proofs.YtepfblabdibggabDoor
open Go.RowKit

/-- A text that has a frame. -/
def frOk (s : ByteArray) : Bool := decide (1 ≤ s.size) && decide (s.size ≤ 9000)
/-- Its frame. -/
def frAll (s : ByteArray) : ByteArray := ⟨(varF 8 s.size).toArray⟩ ++ ⟨(four (sumOf s)).toArray⟩ ++ s
def frText (s : ByteArray) : ByteArray := if frOk s = true then frAll s else ⟨#[]⟩
theorem frOk_in {s : ByteArray} (h1 : 1 ≤ s.size) (h2 : s.size ≤ 9000) : frOk s = true := by simp [frOk, h1, h2]
theorem frOk_out {s : ByteArray} (h : ¬ (1 ≤ s.size ∧ s.size ≤ 9000)) : frOk s = false := by simp [frOk]; omega
theorem frText_in {s : ByteArray} (h1 : 1 ≤ s.size) (h2 : s.size ≤ 9000) : frText s = frAll s := by simp [frText, frOk_in h1 h2]
theorem frText_out {s : ByteArray} (h : ¬ (1 ≤ s.size ∧ s.size ≤ 9000)) : frText s = ⟨#[]⟩ := by simp [frText, frOk_out h]
theorem size_zero {s : ByteArray} (h : s.size = 0) : s = ⟨#[]⟩ := by
  cases s with | mk d => simp [ByteArray.size] at h; simp [h]
theorem ne_empty {s : ByteArray} (h : 1 ≤ s.size) : ¬ s = ⟨#[]⟩ := by
  rintro rfl; simp [ByteArray.size] at h
theorem not_empty {s : ByteArray} (h : 1 ≤ s.size) : s.toList.isEmpty = false := by
  rw [ByteArray.toList_eq]
  cases s with | mk d =>
  cases hd : d.toList with
  | nil => simp [ByteArray.size] at h; have : d = #[] := by simpa using hd
           subst this; simp at h
  | cons => simp
end Go.Proofs.YtepfblabdibggabDoor
