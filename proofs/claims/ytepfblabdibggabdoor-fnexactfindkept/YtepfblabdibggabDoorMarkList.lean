/- The walks over marks that a law lays into a list of texts, and looks for again. -/
import Derived.Test.YtepfblabdibggabDoorEnPlusJ
import Derived.Test.YtepfblabdibggabDoorRowed
import Derived.Lib.QuietBelow
import Derived.BigQuiet
namespace Go.Proofs.YtepfblabdibggabDoor
open Go.RowKit Go.Sort

theorem Tryd.info9 : (Tryd.prog.info? 9).map (fun i => (i.zero, i.size, i.bytes)) = some (some (.string ⟨#[]⟩), 1, 16) := by kernel_rfl


/-- The marks k, k + 1 .. -/
def marks (k n : Nat) : List Value := (List.range n).map fun j => Value.string (mkT (k + j))
theorem marks_length (k n : Nat) : (marks k n).length = n := by simp [marks]
theorem marks_at {k n j : Nat} (h : j < n) : (marks k n)[j]'(by rw [marks_length]; exact h) = .string (mkT (k + j)) := by simp [marks]
theorem marks_succ (k n : Nat) : marks k (n + 1) = marks k n ++ [.string (mkT (k + n))] := by simp [marks, List.range_succ]
theorem marks_set (k j : Nat) (xs : List Value) (h : j < xs.length) : (marks k j ++ xs.drop j).set j (.string (mkT (k + j))) = marks k (j + 1) ++ xs.drop (j + 1) := by
  rw [List.set_append_right _ _ (by rw [marks_length]; exact Nat.le_refl _), marks_length, Nat.sub_self, List.drop_eq_getElem_cons h, List.set_cons_zero, marks_succ]
  simp


end Go.Proofs.YtepfblabdibggabDoor
