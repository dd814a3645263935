/- The other text's FieldOf. -/
import Derived.Test.YtlefccgdeafinadFieldOfPlain
import Derived.Lib.QuietBelow
import Derived.BigQuiet
namespace Go.Proofs.Ytlefccgdeafinad
open Go.RowKit Go.Sort
/-- A head in a variable. -/
def KBy (w : World) (T : Nat) (l v : Value) : Prop := w.heap[T]? = some (.cells #[l, v] 26 (0, 0))
theorem KBy.lt {w : World} {T : Nat} {l v : Value} (h : KBy w T l v) : T < w.heap.size := (Array.getElem?_eq_some_iff.1 h).1
theorem KBy.on {w w' : World} {T : Nat} {l v : Value} (h : KBy w T l v) (hb : Below w.heap.size w w') : KBy w' T l v := (hb.block T h.lt).trans h
theorem KBy.cells {w : World} {T : Nat} {l v : Value} (h : KBy w T l v) : w.cell? ⟨T, 0, none⟩ = some l ∧ w.cell? ⟨T, 1, none⟩ = some v := by
  unfold KBy at h
  exact ⟨by simp [World.cell?, h], by simp [World.cell?, h]⟩
end Go.Proofs.Ytlefccgdeafinad
