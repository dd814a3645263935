/- What a law does with heads: it weighs them, copies them, compares them. -/
import Derived.Test.YtnnaphfeeobelaeGreatDoorFieldLawJ
namespace Go.Proofs.YtnnaphfeeobelaeGreatDoor
open Go.RowKit Go.Sort

/-- A head: its line, its fields. -/
structure Hd where
  line : ByteArray
  flds : List (ByteArray × ByteArray)
def HBx (w : World) (T : Nat) (e : TypeId) (l v : Value) : Prop := w.heap[T]? = some (.cells #[l, v] e (0, 0))
theorem HBx.lt {w : World} {T : Nat} {e : TypeId} {l v : Value} (h : HBx w T e l v) : T < w.heap.size := (Array.getElem?_eq_some_iff.1 h).1
theorem HBx.new (w : World) (e : TypeId) (l v : Value) : HBx (w.alloc (.cells #[l, v] e)) w.heap.size e l v := heap_alloc_new w _
theorem HBx.kept {w w' : World} {T : Nat} {e : TypeId} {l v : Value} (h : HBx w T e l v) (hk : w'.heap[T]? = w.heap[T]?) : HBx w' T e l v := hk.trans h
theorem HBx.on {w w' : World} {T : Nat} {e : TypeId} {l v : Value} (h : HBx w T e l v) (hb : Below w.heap.size w w') : HBx w' T e l v := h.kept (hb.block T h.lt)
theorem HBx.thaw {w : World} {T : Nat} {e : TypeId} {l v : Value} (h : HBx w T e l v) (i : Nat) : w.frozen? ⟨T, i, none⟩ = false := by unfold HBx at h; simp [World.frozen?, h]
theorem HBx.cells {w : World} {T : Nat} {e : TypeId} {l v : Value} (h : HBx w T e l v) : w.cell? ⟨T, 0, none⟩ = some l ∧ w.cell? ⟨T, 1, none⟩ = some v := by
  unfold HBx at h
  exact ⟨by simp [World.cell?, h], by simp [World.cell?, h]⟩
theorem HBx.put {w : World} {T : Nat} {e : TypeId} {l v : Value} (h : HBx w T e l v) (x y : Value) : HBx ((w.setCell ⟨T, 0, none⟩ x).setCell ⟨T, 1, none⟩ y) T e x y := by
  unfold HBx at *
  simp only [World.setCell, Array.getElem?_modify, h]
  simp
theorem HBx.set1 {w : World} {T : Nat} {e : TypeId} {l v : Value} (h : HBx w T e l v) (y : Value) : HBx (w.setCell ⟨T, 1, none⟩ y) T e l y := by
  unfold HBx at *
  simp only [World.setCell, Array.getElem?_modify, h]
  simp
theorem put2_other (w : World) (T : Nat) (x y : Value) (k : Nat) (hk : k ≠ T) : ((w.setCell ⟨T, 0, none⟩ x).setCell ⟨T, 1, none⟩ y).heap[k]? = w.heap[k]? := by
  rw [Below.heap_setCell _ _ _ _ (by exact hk), Below.heap_setCell _ _ _ _ (by exact hk)]
theorem HBx.neD {w : World} {T : Nat} {e : TypeId} {l v : Value} (h : HBx w T e l v) (he : e ≠ 29) {base : Nat} {u : Value} {L : List (ByteArray × ByteArray)} (ho : OwnD w base 29 u L) : ∀ k, u.ownBlock = some k → k ≠ T := by
  rintro k hk rfl
  rcases ho.2 with ⟨rfl, _⟩ | ⟨g, cap, cur, rfl, _, hg, _⟩
  · simp [Value.ownBlock] at hk
  · simp [Value.ownBlock] at hk
    subst hk
    have := h.symm.trans hg
    simp only [Option.some.injEq, Obj.cells.injEq] at this
    exact he this.2.1
end Go.Proofs.YtnnaphfeeobelaeGreatDoor
