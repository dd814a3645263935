/- An array of pins and its size in a variable. Plain, no program. -/
import Derived.Test.YtockgojdmaladacEpochMore
import Derived.Laws.CopyOwn
namespace Go.Proofs.Ytockgojdmaladac
open Go.RowKit

def lkc (p0 p1 p2 p3 n : Int) : Array Value := #[.int .i64 p0, .int .i64 p1, .int .i64 p2, .int .i64 p3, .int .i64 n]
def LBox (w : World) (T : Nat) (p0 p1 p2 p3 n : Int) : Prop := w.heap[T]? = some (.cells #[.int .i64 p0, .int .i64 p1, .int .i64 p2, .int .i64 p3, .int .i64 n] 121 (0, 0))
theorem LBox.lt {w : World} {T : Nat} {a b c d n : Int} (h : LBox w T a b c d n) : T < w.heap.size := (Array.getElem?_eq_some_iff.1 h).1
theorem LBox.new (w : World) (a b c d n : Int) : LBox (w.alloc (.cells #[.int .i64 a, .int .i64 b, .int .i64 c, .int .i64 d, .int .i64 n] 121)) w.heap.size a b c d n := heap_alloc_new w _
theorem LBox.kept {w w' : World} {T : Nat} {a b c d n : Int} (h : LBox w T a b c d n) (hk : w'.heap[T]? = w.heap[T]?) : LBox w' T a b c d n := hk.trans h
theorem LBox.on {w w' : World} {T : Nat} {a b c d n : Int} (h : LBox w T a b c d n) (hb : Below w.heap.size w w') : LBox w' T a b c d n := h.kept (hb.block T h.lt)
theorem LBox.thaw {w : World} {T : Nat} {a b c d n : Int} (h : LBox w T a b c d n) (i : Nat) : w.frozen? ⟨T, i, none⟩ = false := by
  unfold LBox at h
  simp [World.frozen?, h]
theorem LBox.cells {w : World} {T : Nat} {a b c d n : Int} (h : LBox w T a b c d n) : w.cell? ⟨T, 0, none⟩ = some (.int .i64 a) ∧ w.cell? ⟨T, 1, none⟩ = some (.int .i64 b) ∧ w.cell? ⟨T, 2, none⟩ = some (.int .i64 c) ∧ w.cell? ⟨T, 3, none⟩ = some (.int .i64 d) ∧ w.cell? ⟨T, 4, none⟩ = some (.int .i64 n) := by
  unfold LBox at h
  refine ⟨?_, ?_, ?_, ?_, ?_⟩
  · rw [cell_of_row w T 0 _ _ (0, 0) h]; rfl
  · rw [cell_of_row w T 1 _ _ (0, 0) h]; rfl
  · rw [cell_of_row w T 2 _ _ (0, 0) h]; rfl
  · rw [cell_of_row w T 3 _ _ (0, 0) h]; rfl
  · rw [cell_of_row w T 4 _ _ (0, 0) h]; rfl
theorem LBox.put {w : World} {T : Nat} {a b c d n : Int} (h : LBox w T a b c d n) (x0 x1 x2 x3 x4 : Int) : LBox (((((w.setCell ⟨T, 0, none⟩ (.int .i64 x0)).setCell ⟨T, 1, none⟩ (.int .i64 x1)).setCell ⟨T, 2, none⟩ (.int .i64 x2)).setCell ⟨T, 3, none⟩ (.int .i64 x3)).setCell ⟨T, 4, none⟩ (.int .i64 x4)) T x0 x1 x2 x3 x4 := by
  unfold LBox at *
  simp only [World.setCell, Array.getElem?_modify, h]
  simp
theorem LBox.set {w : World} {T : Nat} {a b c d n : Int} (h : LBox w T a b c d n) (x : Int) : LBox (w.setCell ⟨T, 0, none⟩ (.int .i64 x)) T x b c d n ∧ LBox (w.setCell ⟨T, 1, none⟩ (.int .i64 x)) T a x c d n ∧ LBox (w.setCell ⟨T, 2, none⟩ (.int .i64 x)) T a b x d n ∧ LBox (w.setCell ⟨T, 3, none⟩ (.int .i64 x)) T a b c x n := by
  unfold LBox at *
  simp only [World.setCell, Array.getElem?_modify, h]
  simp
theorem Below.put5 {B : Nat} {a w : World} (h : Below B a w) {T : Nat} (hT : B ≤ T) (x0 x1 x2 x3 x4 : Value) : Below B a (((((w.setCell ⟨T, 0, none⟩ x0).setCell ⟨T, 1, none⟩ x1).setCell ⟨T, 2, none⟩ x2).setCell ⟨T, 3, none⟩ x3).setCell ⟨T, 4, none⟩ x4) := ((((h.setCell hT _).setCell hT _).setCell hT _).setCell hT _).setCell hT _
theorem splice_pins : ∀ (pins : List Int) (n : Int), pins.length ≤ 4 → splice [Value.int .i64 0, .int .i64 0, .int .i64 0, .int .i64 0, .int .i64 n] 0 (ints pins) = [.int .i64 (pins.getD 0 0), .int .i64 (pins.getD 1 0), .int .i64 (pins.getD 2 0), .int .i64 (pins.getD 3 0), .int .i64 n]
  | [], n, _ => rfl
  | [a], n, _ => rfl
  | [a, b], n, _ => rfl
  | [a, b, c], n, _ => rfl
  | [a, b, c, d], n, _ => rfl
  | a :: b :: c :: d :: e :: r, n, h => by simp at h
/-- What stands in the array are the pins. -/
theorem LBox.pins {w : World} {T : Nat} {pins : List Int} {n : Int} (h : LBox w T (pins.getD 0 0) (pins.getD 1 0) (pins.getD 2 0) (pins.getD 3 0) n) (hl : pins.length ≤ 4) : IAt w (some ⟨T, 0, none⟩) pins w.heap.size := by
  intro j hj
  obtain ⟨c0, c1, c2, c3, _⟩ := h.cells
  refine ⟨T, 0, rfl, h.lt, ?_⟩
  have e : pins.getD j 0 = pins[j] := by simp [List.getD_eq_getElem?_getD, hj]
  rw [← e]
  rcases (show j = 0 ∨ j = 1 ∨ j = 2 ∨ j = 3 by omega) with rfl | rfl | rfl | rfl
  · exact c0
  · exact c1
  · exact c2
  · exact c3
end Go.Proofs.Ytockgojdmaladac
