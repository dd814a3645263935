/- Texts sealed with their sums, told plainly. No program. -/
import Derived.Test.YtepfblabdibggabDoorSumPlain
namespace Go.Proofs.YtepfblabdibggabDoor
open Go.RowKit

/-- The sum of a text. -/
def sumOf (s : ByteArray) : Nat := sumAll 4294967295 s.data.toList
theorem sumOf_lt (s : ByteArray) : sumOf s < 4294967296 := sumAll_lt (by omega)
def slText (s : ByteArray) : ByteArray := if s.size ≤ 20000 then s ++ ⟨(four (sumOf s)).toArray⟩ else ⟨#[]⟩
def slOk (s : ByteArray) : Bool := decide (s.size ≤ 20000)

/-- A text without its last four bytes. -/
def unHead (s : ByteArray) : ByteArray := s.extract 0 (s.size - 4)
def unTail (s : ByteArray) : List UInt8 := (s.extract (s.size - 4) s.size).data.toList
def unOk (s : ByteArray) : Bool := decide (4 ≤ s.size) && decide (s.size ≤ 20004) && (four (sumOf (unHead s)) == unTail s)
def unText (s : ByteArray) : ByteArray := if unOk s = true then unHead s else ⟨#[]⟩

theorem unHead_size (s : ByteArray) : (unHead s).size = s.size - 4 := by simp [unHead]
end Go.Proofs.YtepfblabdibggabDoor
