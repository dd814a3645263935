/- The other text's FieldOk. -/
import Derived.Test.YtnnaphfeeobelarDoorHeadSpec
namespace Go.Proofs.YtnnaphfeeobelarDoor
open Go.RowKit Go.Sort
/-- A field in a variable. -/
def DBx (w : World) (T : Nat) (f : ByteArray × ByteArray) : Prop := w.heap[T]? = some (.cells #[.string f.1, .string f.2] 87 (0, 0))
theorem DBx.new (w : World) (f : ByteArray × ByteArray) : DBx (w.alloc (.cells #[.string f.1, .string f.2] 87)) w.heap.size f := heap_alloc_new w _
theorem DBx.cells {w : World} {T : Nat} {f : ByteArray × ByteArray} (h : DBx w T f) : w.cell? ⟨T, 0, none⟩ = some (.string f.1) ∧ w.cell? ⟨T, 1, none⟩ = some (.string f.2) := by
  unfold DBx at h
  exact ⟨by simp [World.cell?, h], by simp [World.cell?, h]⟩
theorem trimS_at {s : ByteArray} (h : 0 < s.size) : trimS s = (!decide (s[0].toNat = 32) && !decide ((s[s.size - 1]'(by omega)).toNat = 32)) := by
  unfold trimS
  have h0 : s.data.toList.getD 0 0 = s[0] := by simp [List.getD_eq_getElem?_getD, Array.getElem?_eq_getElem (show 0 < s.data.size from h)]; rfl
  have h1 : s.data.toList.getD (s.size - 1) 0 = s[s.size - 1]'(by omega) := by simp [List.getD_eq_getElem?_getD, Array.getElem?_eq_getElem (show s.size - 1 < s.data.size from by show s.size - 1 < s.size; omega)]; rfl
  rw [h0, h1, decide_eq_false (show ¬ s.size = 0 by omega)]
  rfl
end Go.Proofs.YtnnaphfeeobelarDoor
