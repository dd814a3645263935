/- The frame of an entry's text. -/
import Derived.Test.YtepfblabdibggabDoorEntPlain
import Derived.Test.YtepfblabdibggabDoorFramePlain
namespace Go.Proofs.YtepfblabdibggabDoor
open Go.RowKit
/-- The frame of a right entry. -/
def enFr (E : En) : ByteArray := frAll (enAll E)
theorem enFr_size {E : En} (h : enOk E = true) : 5 ≤ (enFr E).size ∧ (enFr E).size ≤ 470 := by
  obtain ⟨h1, h2⟩ := enAll_size h
  have l := varF_length 8 (enAll E).size
  have p := varF_pos 8 (enAll E).size
  have e : (enFr E).size = (varF 8 (enAll E).size).length + 4 + (enAll E).size := by
    rw [← size_listE]
    unfold enFr frAll
    simp [four_length]
    have := size_listE (enAll E)
    omega
  omega
end Go.Proofs.YtepfblabdibggabDoor
