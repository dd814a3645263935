/- A task in a variable, and the cells of a list beside it. -/
import Derived.Test.YtockgojdmaladabInts
import Derived.Test.YtockgojdmaladabListPlain
import Derived.StillTailTactics
namespace Go.Proofs.Ytockgojdmaladab
open Go.RowKit Go.Sort

def tcs (t : Tk) : Array Value := #[.int .i64 t.kind, .int .i64 t.key, .int .i64 t.val, .int .i64 t.node, .int .i64 t.pc, .int .i64 t.prev, .int .i64 t.cur, .int .i64 t.next, .int .i64 t.mark, .bool t.done, .int .i64 t.ans]
/-- The task t in a variable. -/
def TBox (w : World) (T : Nat) (t : Tk) : Prop := w.heap[T]? = some (.cells (tcs t) 43 (0, 0))
theorem TBox.lt {w : World} {T : Nat} {t : Tk} (h : TBox w T t) : T < w.heap.size := (Array.getElem?_eq_some_iff.1 h).1
theorem TBox.new (w : World) (t : Tk) : TBox (w.alloc (.cells (tcs t) 43)) w.heap.size t := heap_alloc_new w _
theorem TBox.kept {w w' : World} {T : Nat} {t : Tk} (h : TBox w T t) (hk : w'.heap[T]? = w.heap[T]?) : TBox w' T t := hk.trans h
theorem TBox.on {w w' : World} {T : Nat} {t : Tk} (h : TBox w T t) (hb : Below w.heap.size w w') : TBox w' T t := h.kept (hb.block T h.lt)
theorem TBox.other {w : World} {T : Nat} {t : Tk} (h : TBox w T t) {A : Addr} (hA : T ≠ A.block) (x : Value) : TBox (w.setCell A x) T t := h.kept (heap_setCell_other w A T x hA)
theorem TBox.cells {w : World} {T : Nat} {t : Tk} (h : TBox w T t) : w.cell? ⟨T, 0, none⟩ = some (.int .i64 t.kind) ∧ w.cell? ⟨T, 1, none⟩ = some (.int .i64 t.key) ∧ w.cell? ⟨T, 2, none⟩ = some (.int .i64 t.val) ∧ w.cell? ⟨T, 3, none⟩ = some (.int .i64 t.node) ∧ w.cell? ⟨T, 4, none⟩ = some (.int .i64 t.pc) ∧ w.cell? ⟨T, 5, none⟩ = some (.int .i64 t.prev) ∧ w.cell? ⟨T, 6, none⟩ = some (.int .i64 t.cur) ∧ w.cell? ⟨T, 7, none⟩ = some (.int .i64 t.next) ∧ w.cell? ⟨T, 8, none⟩ = some (.int .i64 t.mark) ∧ w.cell? ⟨T, 9, none⟩ = some (.bool t.done) ∧ w.cell? ⟨T, 10, none⟩ = some (.int .i64 t.ans) := by
  unfold TBox tcs at h
  refine ⟨?_, ?_, ?_, ?_, ?_, ?_, ?_, ?_, ?_, ?_, ?_⟩ <;> simp [World.cell?, h]
theorem TBox.thaw {w : World} {T : Nat} {t : Tk} (h : TBox w T t) (i : Nat) : w.frozen? ⟨T, i, none⟩ = false := by
  unfold TBox at h
  simp [World.frozen?, h]
theorem TBox.set {w : World} {T : Nat} {t : Tk} (h : TBox w T t) (i : Nat) (v : Value) (t' : Tk) (he : (tcs t).setIfInBounds i v = tcs t') : TBox (w.setCell ⟨T, i, none⟩ v) T t' := by
  unfold TBox at *
  rw [heap_setCell_same w T i _ _ v h, he]

/-- A whole task is stored into a variable. -/
def put11 (w : World) (R : Nat) (s : Tk) : World := (((((((((((w.setCell ⟨R, 0, none⟩ (.int .i64 s.kind)).setCell ⟨R, 1, none⟩ (.int .i64 s.key)).setCell ⟨R, 2, none⟩ (.int .i64 s.val)).setCell ⟨R, 3, none⟩ (.int .i64 s.node)).setCell ⟨R, 4, none⟩ (.int .i64 s.pc)).setCell ⟨R, 5, none⟩ (.int .i64 s.prev)).setCell ⟨R, 6, none⟩ (.int .i64 s.cur)).setCell ⟨R, 7, none⟩ (.int .i64 s.next)).setCell ⟨R, 8, none⟩ (.int .i64 s.mark)).setCell ⟨R, 9, none⟩ (.bool s.done)).setCell ⟨R, 10, none⟩ (.int .i64 s.ans))
theorem put11_other (w : World) (R : Nat) (s : Tk) {k : Nat} (h : k ≠ R) : (put11 w R s).heap[k]? = w.heap[k]? := by
  unfold put11
  rw [heap_setCell_other _ _ _ _ h]
  rw [heap_setCell_other _ _ _ _ h]
  rw [heap_setCell_other _ _ _ _ h]
  rw [heap_setCell_other _ _ _ _ h]
  rw [heap_setCell_other _ _ _ _ h]
  rw [heap_setCell_other _ _ _ _ h]
  rw [heap_setCell_other _ _ _ _ h]
  rw [heap_setCell_other _ _ _ _ h]
  rw [heap_setCell_other _ _ _ _ h]
  rw [heap_setCell_other _ _ _ _ h]
  rw [heap_setCell_other _ _ _ _ h]
theorem put11_box {w : World} {R : Nat} {t : Tk} (h : TBox w R t) (s : Tk) : TBox (put11 w R s) R s := by
  obtain ⟨kind, key, val, node, pc, prev, cur, next, mark, done, ans⟩ := s
  obtain ⟨tkind, tkey, tval, tnode, tpc, tprev, tcur, tnext, tmark, tdone, tans⟩ := t
  have h0 := h.set 0 (.int .i64 kind) ⟨kind, tkey, tval, tnode, tpc, tprev, tcur, tnext, tmark, tdone, tans⟩ rfl
  have h1 := h0.set 1 (.int .i64 key) ⟨kind, key, tval, tnode, tpc, tprev, tcur, tnext, tmark, tdone, tans⟩ rfl
  have h2 := h1.set 2 (.int .i64 val) ⟨kind, key, val, tnode, tpc, tprev, tcur, tnext, tmark, tdone, tans⟩ rfl
  have h3 := h2.set 3 (.int .i64 node) ⟨kind, key, val, node, tpc, tprev, tcur, tnext, tmark, tdone, tans⟩ rfl
  have h4 := h3.set 4 (.int .i64 pc) ⟨kind, key, val, node, pc, tprev, tcur, tnext, tmark, tdone, tans⟩ rfl
  have h5 := h4.set 5 (.int .i64 prev) ⟨kind, key, val, node, pc, prev, tcur, tnext, tmark, tdone, tans⟩ rfl
  have h6 := h5.set 6 (.int .i64 cur) ⟨kind, key, val, node, pc, prev, cur, tnext, tmark, tdone, tans⟩ rfl
  have h7 := h6.set 7 (.int .i64 next) ⟨kind, key, val, node, pc, prev, cur, next, tmark, tdone, tans⟩ rfl
  have h8 := h7.set 8 (.int .i64 mark) ⟨kind, key, val, node, pc, prev, cur, next, mark, tdone, tans⟩ rfl
  have h9 := h8.set 9 (.bool done) ⟨kind, key, val, node, pc, prev, cur, next, mark, done, tans⟩ rfl
  have h10 := h9.set 10 (.int .i64 ans) ⟨kind, key, val, node, pc, prev, cur, next, mark, done, ans⟩ rfl
  exact h10
theorem put11_below {B : Nat} {a w : World} {R : Nat} (h : Below B a w) (hR : B ≤ R) (s : Tk) : Below B a (put11 w R s) := by
  unfold put11
  exact ((((((((((((h.setCell hR _).setCell hR _).setCell hR _).setCell hR _).setCell hR _).setCell hR _).setCell hR _).setCell hR _).setCell hR _).setCell hR _).setCell hR _))

/-- A list of sixty-three cells at hand, and a task in its variable beside it. -/
structure LT (w0 ws : World) (g cp : Nat) (l : List Int) (T : Nat) (t : Tk) (wi : World) : Prop where
  own : OwnV wi w0.heap.size 3 (.slice (some ⟨g, 0, none⟩) 63 cp) (ints l)
  box : TBox wi T t
  wT : w0.heap.size ≤ T
  bel : Below w0.heap.size w0 wi
  keep : ∀ k, k < ws.heap.size → k ≠ g → k ≠ T → wi.heap[k]? = ws.heap[k]?
  size : ws.heap.size ≤ wi.heap.size
theorem LT.len {w0 ws : World} {g cp : Nat} {l : List Int} {T : Nat} {t : Tk} {wi : World} (h : LT w0 ws g cp l T t wi) : l.length = 63 := by
  obtain ⟨a, c, hv, _⟩ := h.own.shape
  rw [ints_length] at hv
  simp only [Value.slice.injEq] at hv
  exact hv.2.1.symm
theorem LT.ne {w0 ws : World} {g cp : Nat} {l : List Int} {T : Nat} {t : Tk} {wi : World} (h : LT w0 ws g cp l T t wi) : T ≠ g := by
  rintro rfl
  rcases h.own.2 with ⟨hn, _⟩ | ⟨g, cap, cur, hv, _, hg, _⟩
  · simp at hn
  · simp only [Value.slice.injEq, Option.some.injEq, Addr.mk.injEq, and_true] at hv
    obtain ⟨rfl, _⟩ := hv
    have := h.box.symm.trans hg
    simp at this
theorem LT.cell {w0 ws : World} {g cp : Nat} {l : List Int} {T : Nat} {t : Tk} {wi : World} (h : LT w0 ws g cp l T t wi) {j : Nat} (hj : j < 63) : wi.cell? ⟨g, j, none⟩ = some (.int .i64 (l.getD j 0)) ∧ wi.frozen? ⟨g, j, none⟩ = false := by
  have hl := h.len
  obtain ⟨a, c, hv, hc⟩ := h.own.shape
  obtain ⟨g', ha, h1, h2, _⟩ := hc j (by rw [ints_length]; omega)
  rw [ha] at hv
  simp only [Value.slice.injEq, Option.some.injEq, Addr.mk.injEq, and_true] at hv
  obtain ⟨rfl, _⟩ := hv
  have hjl : j < l.length := by omega
  rw [ints_at hjl] at h1
  refine ⟨?_, h2⟩
  rw [h1]
  simp [List.getD, hjl]
theorem LT.gge {w0 ws : World} {g cp : Nat} {l : List Int} {T : Nat} {t : Tk} {wi : World} (h : LT w0 ws g cp l T t wi) : w0.heap.size ≤ g := (h.own.lt g rfl).1
theorem LT.put {w0 ws : World} {g cp : Nat} {l : List Int} {T : Nat} {t : Tk} {wi : World} (h : LT w0 ws g cp l T t wi) (j : Nat) (z : Int) : LT w0 ws g cp (l.set j z) T t (wi.setCell ⟨g, j, none⟩ (.int .i64 z)) := by
  have hs := (h.own.stored (by rw [ints_length, h.len]) j (.int .i64 z)).1
  have e2 : (ints l).set j (.int .i64 z) = ints (l.set j z) := by simp [ints, List.map_set]
  rw [e2] at hs
  exact ⟨hs, h.box.other (A := ⟨g, j, none⟩) h.ne _, h.wT, h.bel.setCell (p := ⟨g, j, none⟩) h.gge _, fun k hk hg hT => (heap_setCell_other _ ⟨g, j, none⟩ k _ hg).trans (h.keep k hk hg hT), by simpa using h.size⟩
theorem LT.setT {w0 ws : World} {g cp : Nat} {l : List Int} {T : Nat} {t : Tk} {wi : World} (h : LT w0 ws g cp l T t wi) (i : Nat) (v : Value) (t' : Tk) (he : (tcs t).setIfInBounds i v = tcs t') : LT w0 ws g cp l T t' (wi.setCell ⟨T, i, none⟩ v) :=
  ⟨h.own.kept (fun k hk => heap_setCell_other _ _ _ _ (by rintro rfl; exact h.ne (by simpa [Value.ownBlock] using hk.symm))), h.box.set i v t' he, h.wT, h.bel.setCell (p := ⟨T, i, none⟩) h.wT _, fun k hk hg hT => (heap_setCell_other _ ⟨T, i, none⟩ k _ hT).trans (h.keep k hk hg hT), by simpa using h.size⟩
theorem LT.drew {w0 ws : World} {g cp : Nat} {l : List Int} {T : Nat} {t : Tk} {wi wj : World} (h : LT w0 ws g cp l T t wi) (hb : Below wi.heap.size wi wj) : LT w0 ws g cp l T t wj :=
  ⟨h.own.below hb (Nat.le_refl _), h.box.on hb, h.wT, h.bel.trans (hb.mono h.bel.size), fun k hk hg hT => (hb.block k (Nat.lt_of_lt_of_le hk h.size)).trans (h.keep k hk hg hT), Nat.le_trans h.size hb.size⟩
end Go.Proofs.Ytockgojdmaladab
