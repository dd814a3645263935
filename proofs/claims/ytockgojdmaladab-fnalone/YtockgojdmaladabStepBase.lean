/- A task at its list for as long as one step takes: the program's own. -/
import Derived.Test.YtockgojdmaladabCellImpl
import Derived.Test.YtockgojdmaladabTaskKit
namespace Go.Proofs.Ytockgojdmaladab
open Go.RowKit Go.Sort

def scs (u v : Value) (t : Tk) : Array Value := #[u, v, .int .i64 t.kind, .int .i64 t.key, .int .i64 t.val, .int .i64 t.node, .int .i64 t.pc, .int .i64 t.prev, .int .i64 t.cur, .int .i64 t.next, .int .i64 t.mark, .bool t.done, .int .i64 t.ans]
/-- The cells and the task in a variable. -/
def SBox (w : World) (S : Nat) (u v : Value) (t : Tk) : Prop := w.heap[S]? = some (.cells (scs u v t) 88 (0, 0))
theorem SBox.lt {w : World} {S : Nat} {u v : Value} {t : Tk} (h : SBox w S u v t) : S < w.heap.size := (Array.getElem?_eq_some_iff.1 h).1
theorem SBox.new (w : World) (u v : Value) (t : Tk) : SBox (w.alloc (.cells (scs u v t) 88)) w.heap.size u v t := heap_alloc_new w _
theorem SBox.kept {w w' : World} {S : Nat} {u v : Value} {t : Tk} (h : SBox w S u v t) (hk : w'.heap[S]? = w.heap[S]?) : SBox w' S u v t := hk.trans h
theorem SBox.on {w w' : World} {S : Nat} {u v : Value} {t : Tk} (h : SBox w S u v t) (hb : Below w.heap.size w w') : SBox w' S u v t := h.kept (hb.block S h.lt)
theorem SBox.other {w : World} {S : Nat} {u v : Value} {t : Tk} (h : SBox w S u v t) {A : Addr} (hA : S ≠ A.block) (x : Value) : SBox (w.setCell A x) S u v t := h.kept (heap_setCell_other w A S x hA)
theorem SBox.pair {w : World} {S : Nat} {u v : Value} {t : Tk} (h : SBox w S u v t) : w.cell? ⟨S, 0, none⟩ = some u ∧ w.cell? ⟨S, 1, none⟩ = some v := by
  unfold SBox scs at h
  refine ⟨?_, ?_⟩ <;> simp [World.cell?, h]
theorem SBox.cells {w : World} {S : Nat} {u v : Value} {t : Tk} (h : SBox w S u v t) : w.cell? ⟨S, 2, none⟩ = some (.int .i64 t.kind) ∧ w.cell? ⟨S, 3, none⟩ = some (.int .i64 t.key) ∧ w.cell? ⟨S, 4, none⟩ = some (.int .i64 t.val) ∧ w.cell? ⟨S, 5, none⟩ = some (.int .i64 t.node) ∧ w.cell? ⟨S, 6, none⟩ = some (.int .i64 t.pc) ∧ w.cell? ⟨S, 7, none⟩ = some (.int .i64 t.prev) ∧ w.cell? ⟨S, 8, none⟩ = some (.int .i64 t.cur) ∧ w.cell? ⟨S, 9, none⟩ = some (.int .i64 t.next) ∧ w.cell? ⟨S, 10, none⟩ = some (.int .i64 t.mark) ∧ w.cell? ⟨S, 11, none⟩ = some (.bool t.done) ∧ w.cell? ⟨S, 12, none⟩ = some (.int .i64 t.ans) := by
  unfold SBox scs at h
  refine ⟨?_, ?_, ?_, ?_, ?_, ?_, ?_, ?_, ?_, ?_, ?_⟩ <;> simp [World.cell?, h]
theorem SBox.thaw {w : World} {S : Nat} {u v : Value} {t : Tk} (h : SBox w S u v t) (i : Nat) : w.frozen? ⟨S, i, none⟩ = false := by
  unfold SBox at h
  simp [World.frozen?, h]
theorem SBox.set {w : World} {S : Nat} {u v : Value} {t : Tk} (h : SBox w S u v t) (i : Nat) (x : Value) (t' : Tk) (he : (scs u v t).setIfInBounds i x = scs u v t') : SBox (w.setCell ⟨S, i, none⟩ x) S u v t' := by
  unfold SBox at *
  rw [heap_setCell_same w S i _ _ x h, he]
theorem SBox.ne {w : World} {S g m : Nat} {u v : Value} {t : Tk} {f : Nat → Int} (h : SBox w S u v t) (hc : CAt w g m f) : S ≠ g := by
  rintro rfl
  obtain ⟨cur, h1, _⟩ := hc
  have := h.symm.trans h1
  simp at this

theorem getD_set6 (l : List Int) (j i : Nat) (z : Int) (hj : j < l.length) : (if i = j then z else l.getD i 0) = (l.set j z).getD i 0 := by
  by_cases h : i = j
  · subst h; simp [hj]
  · rw [if_neg h]
    simp [List.getD, List.getElem?_set_ne (Ne.symm h)]

/-- A step under way: the list in its cells, the task beside it. -/
structure SS (w0 : World) (S g m : Nat) (l : List Int) (t : Tk) (wi : World) : Prop where
  at_ : CAt wi g m (fun j => l.getD j 0)
  box : SBox wi S (.slice (some ⟨g, 0, none⟩) m m) (.int .i64 63) t
  len : l.length = 63
  gge : w0.heap.size ≤ g
  sge : w0.heap.size ≤ S
  hs : 63 ≤ m * 80
  hm : m ≤ 1048576
  bel : Below w0.heap.size w0 wi
theorem SS.next {w0 : World} {S g m : Nat} {l : List Int} {t : Tk} {wi wj : World} (h : SS w0 S g m l t wi) (hb : Below wi.heap.size wi wj) : SS w0 S g m l t wj :=
  ⟨h.at_.on hb, h.box.on hb, h.len, h.gge, h.sge, h.hs, h.hm, h.bel.trans (hb.mono h.bel.size)⟩
theorem SS.put {w0 : World} {S g m : Nat} {l : List Int} {t : Tk} {wi : World} (h : SS w0 S g m l t wi) {j : Nat} (hj : j < 63) (z : Int) : SS w0 S g m (l.set j z) t (wi.setCell ⟨g, j, none⟩ (.int .i64 z)) :=
  ⟨(h.at_.set j z).congr (fun i _ => getD_set6 l j i z (by rw [h.len]; exact hj)), h.box.other (A := ⟨g, j, none⟩) (h.box.ne h.at_) _, by rw [List.length_set]; exact h.len, h.gge, h.sge, h.hs, h.hm, h.bel.setCell (p := ⟨g, j, none⟩) h.gge _⟩
theorem SS.setT {w0 : World} {S g m : Nat} {l : List Int} {t : Tk} {wi : World} (h : SS w0 S g m l t wi) (i : Nat) (x : Value) (t' : Tk) (he : ∀ u v, (scs u v t).setIfInBounds i x = scs u v t') : SS w0 S g m l t' (wi.setCell ⟨S, i, none⟩ x) :=
  ⟨h.at_.other (A := ⟨S, i, none⟩) (fun e => h.box.ne h.at_ e.symm) _, h.box.set i x t' (he _ _), h.len, h.gge, h.sge, h.hs, h.hm, h.bel.setCell (p := ⟨S, i, none⟩) h.sge _⟩
theorem SS.cell {w0 : World} {S g m : Nat} {l : List Int} {t : Tk} {wi : World} (h : SS w0 S g m l t wi) {j : Nat} (hj : j < 63) : wi.cell? ⟨g, j, none⟩ = some (.int .i64 (l.getD j 0)) ∧ wi.frozen? ⟨g, j, none⟩ = false := ⟨h.at_.cell (Nat.lt_of_lt_of_le hj h.hs), h.at_.frozen j⟩
end Go.Proofs.Ytockgojdmaladab
