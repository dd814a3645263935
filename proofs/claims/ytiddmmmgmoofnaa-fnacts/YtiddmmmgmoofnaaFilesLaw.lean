/- What a law does with files: it weighs them, copies them, compares them. -/
import Derived.Test.YtiddmmmgmoofnaaFiles
import Derived.Test.YtiddmmmgmoofnaaBase
import Derived.Laws.OwnMore
import Derived.Lib.QuietBelow
import Derived.BigQuiet
namespace Go.Proofs.Ytiddmmmgmoofnaa
open Go.RowKit Go.Sort

theorem Try.infoFile : (Try.prog.info? 36).map (fun i => (i.zero, i.size, i.bytes)) = some (some (.agg #[.string ⟨#[]⟩, .string ⟨#[]⟩, .int .i64 0]), 3, 40) := by kernel_rfl


/-- The sizes of the files of L are those of texts. -/
def Sized (L : List Fil) : Prop := ∀ j (hj : j < L.length), L[j].nm.size ≤ maxLen ∧ L[j].tx.size ≤ maxLen




theorem take_set_zero (L : List Fil) (k : Nat) (h : k < L.length) (f : Fil) (hf : L[k] = f) : (L.take k ++ List.replicate (L.length - k) zfil).set k f = L.take (k + 1) ++ List.replicate (L.length - (k + 1)) zfil := by
  subst hf
  rw [List.set_append_right _ _ (by simp; omega), List.length_take, show k - min k L.length = 0 by omega, show L.length - k = (L.length - (k + 1)) + 1 by omega, List.replicate_succ, List.set_cons_zero, List.take_succ_eq_append_getElem h]
  rw [List.append_assoc]
  rfl


theorem new3 (w : World) (a b c : Obj) : (((w.alloc a).alloc b).alloc c).heap[w.heap.size]? = some a ∧ (((w.alloc a).alloc b).alloc c).heap[w.heap.size + 1]? = some b ∧ (((w.alloc a).alloc b).alloc c).heap[w.heap.size + 1 + 1]? = some c := by
  refine ⟨?_, ?_, ?_⟩
  · rw [Below.heap_alloc _ _ _ (by simp; omega), Below.heap_alloc _ _ _ (by simp), heap_alloc_new]
  · rw [Below.heap_alloc _ _ _ (by simp)]
    have := heap_alloc_new (w.alloc a) b
    simpa using this
  · have := heap_alloc_new ((w.alloc a).alloc b) c
    simpa using this

/-- One cell of a block of the call's own, written: what is read behind it. -/
theorem cell_set_same {w : World} {g i : Nat} {u v : Value} (h : w.cell? ⟨g, i, none⟩ = some u) : (w.setCell ⟨g, i, none⟩ v).cell? ⟨g, i, none⟩ = some v := World.cell?_setCell_same _ _ _ h
theorem cell_set_other {w : World} {g g' i i' : Nat} {u v : Value} (hne : g ≠ g') (h : w.cell? ⟨g', i', none⟩ = some u) : (w.setCell ⟨g, i, none⟩ v).cell? ⟨g', i', none⟩ = some u := by
  rw [World.cell?_setCell_other _ _ _ _ (by simp)]; exact h




end Go.Proofs.Ytiddmmmgmoofnaa
