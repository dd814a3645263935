/- Rows of tasks: eleven cells an element. Plain lemmas, no program. -/
import Derived.Test.YtockgojdmaladabTaskKit
namespace Go.Proofs.Ytockgojdmaladab
open Go.RowKit

def Tk.cells (f : Tk) : List Value := [.int .i64 f.kind, .int .i64 f.key, .int .i64 f.val, .int .i64 f.node, .int .i64 f.pc, .int .i64 f.prev, .int .i64 f.cur, .int .i64 f.next, .int .i64 f.mark, .bool f.done, .int .i64 f.ans]
def tkl (L : List Tk) : List Value := L.flatMap Tk.cells
theorem tkl_length (L : List Tk) : (tkl L).length = L.length * 11 := by
  induction L with
  | nil => rfl
  | cons f L ih => simp [tkl, Tk.cells] at *; omega
theorem tkl_cons (f : Tk) (L : List Tk) : tkl (f :: L) = f.cells ++ tkl L := by simp [tkl]
theorem tkl_at : ∀ (L : List Tk) (j : Nat) (h : j < L.length), (tkl L)[11 * j]? = some (.int .i64 L[j].kind) ∧ (tkl L)[11 * j + 1]? = some (.int .i64 L[j].key) ∧ (tkl L)[11 * j + 2]? = some (.int .i64 L[j].val) ∧ (tkl L)[11 * j + 3]? = some (.int .i64 L[j].node) ∧ (tkl L)[11 * j + 4]? = some (.int .i64 L[j].pc) ∧ (tkl L)[11 * j + 5]? = some (.int .i64 L[j].prev) ∧ (tkl L)[11 * j + 6]? = some (.int .i64 L[j].cur) ∧ (tkl L)[11 * j + 7]? = some (.int .i64 L[j].next) ∧ (tkl L)[11 * j + 8]? = some (.int .i64 L[j].mark) ∧ (tkl L)[11 * j + 9]? = some (.bool L[j].done) ∧ (tkl L)[11 * j + 10]? = some (.int .i64 L[j].ans)
  | [], j, h => by simp at h
  | f :: L, 0, h => by simp [tkl_cons, Tk.cells]
  | f :: L, j + 1, h => by
    have ih := tkl_at L j (by simpa using h)
    have e : ∀ k, 11 * (j + 1) + k = (11 * j + k) + 11 := fun k => by omega
    rw [tkl_cons]
    refine ⟨?_, ?_, ?_, ?_, ?_, ?_, ?_, ?_, ?_, ?_, ?_⟩
    · rw [show 11 * (j + 1) = 11 * j + 11 by omega]; simpa [Tk.cells] using ih.1
    · rw [e 1]; simpa [Tk.cells] using ih.2.1
    · rw [e 2]; simpa [Tk.cells] using ih.2.2.1
    · rw [e 3]; simpa [Tk.cells] using ih.2.2.2.1
    · rw [e 4]; simpa [Tk.cells] using ih.2.2.2.2.1
    · rw [e 5]; simpa [Tk.cells] using ih.2.2.2.2.2.1
    · rw [e 6]; simpa [Tk.cells] using ih.2.2.2.2.2.2.1
    · rw [e 7]; simpa [Tk.cells] using ih.2.2.2.2.2.2.2.1
    · rw [e 8]; simpa [Tk.cells] using ih.2.2.2.2.2.2.2.2.1
    · rw [e 9]; simpa [Tk.cells] using ih.2.2.2.2.2.2.2.2.2.1
    · rw [e 10]; simpa [Tk.cells] using ih.2.2.2.2.2.2.2.2.2.2
theorem tkl_set : ∀ (L : List Tk) (j : Nat) (f : Tk), (((((((((((tkl L).set (j * 11) (.int .i64 f.kind)).set (j * 11 + 1) (.int .i64 f.key)).set (j * 11 + 2) (.int .i64 f.val)).set (j * 11 + 3) (.int .i64 f.node)).set (j * 11 + 4) (.int .i64 f.pc)).set (j * 11 + 5) (.int .i64 f.prev)).set (j * 11 + 6) (.int .i64 f.cur)).set (j * 11 + 7) (.int .i64 f.next)).set (j * 11 + 8) (.int .i64 f.mark)).set (j * 11 + 9) (.bool f.done)).set (j * 11 + 10) (.int .i64 f.ans) = tkl (L.set j f)
  | [], j, f => by simp [tkl]
  | g :: L, 0, f => by simp [tkl_cons, Tk.cells]
  | g :: L, j + 1, f => by
    have ih := tkl_set L j f
    rw [show (j + 1) * 11 = j * 11 + 1 + 1 + 1 + 1 + 1 + 1 + 1 + 1 + 1 + 1 + 1 by omega, tkl_cons, List.set_cons_succ, tkl_cons, ← ih]
    simp [Tk.cells]

/-- The tasks L lie at the address a, below the block B. -/
def TAt (w : World) (a : Option Addr) (L : List Tk) (B : Nat) : Prop :=
  ∀ j (hj : j < L.length), ∃ g off, a = some ⟨g, off, none⟩ ∧ g < B ∧ w.cell? ⟨g, off + j * 11, none⟩ = some (.int .i64 L[j].kind) ∧ w.cell? ⟨g, off + j * 11 + 1, none⟩ = some (.int .i64 L[j].key) ∧ w.cell? ⟨g, off + j * 11 + 2, none⟩ = some (.int .i64 L[j].val) ∧ w.cell? ⟨g, off + j * 11 + 3, none⟩ = some (.int .i64 L[j].node) ∧ w.cell? ⟨g, off + j * 11 + 4, none⟩ = some (.int .i64 L[j].pc) ∧ w.cell? ⟨g, off + j * 11 + 5, none⟩ = some (.int .i64 L[j].prev) ∧ w.cell? ⟨g, off + j * 11 + 6, none⟩ = some (.int .i64 L[j].cur) ∧ w.cell? ⟨g, off + j * 11 + 7, none⟩ = some (.int .i64 L[j].next) ∧ w.cell? ⟨g, off + j * 11 + 8, none⟩ = some (.int .i64 L[j].mark) ∧ w.cell? ⟨g, off + j * 11 + 9, none⟩ = some (.bool L[j].done) ∧ w.cell? ⟨g, off + j * 11 + 10, none⟩ = some (.int .i64 L[j].ans)
/-- The slice value v owns the tasks L. -/
def OwnT (w : World) (base : Nat) (e : TypeId) (v : Value) (L : List Tk) : Prop := w.ownsRow base e 11 v L.length (tkl L)
theorem OwnT.lt {w : World} {base : Nat} {e : TypeId} {v : Value} {L : List Tk} (h : OwnT w base e v L) (k : Nat) (hk : v.ownBlock = some k) : base ≤ k ∧ k < w.heap.size := World.ownsRow.lt h k hk
theorem OwnT.alloc {w : World} {base : Nat} {e : TypeId} {v : Value} {L : List Tk} (h : OwnT w base e v L) (o : Obj) : OwnT (w.alloc o) base e v L := World.ownsRow.alloc h o
theorem OwnT.mono {w : World} {base base' : Nat} {e : TypeId} {v : Value} {L : List Tk} (h : OwnT w base e v L) (hb : base' ≤ base) : OwnT w base' e v L := by
  refine ⟨h.1, ?_⟩
  rcases h.2 with h | ⟨g, cap, cur, hv, hg, rest⟩
  · exact .inl h
  · exact .inr ⟨g, cap, cur, hv, Nat.le_trans hb hg, rest⟩
theorem OwnT.kept {w w' : World} {base : Nat} {e : TypeId} {v : Value} {L : List Tk} (h : OwnT w base e v L) (hk : ∀ k, v.ownBlock = some k → w'.heap[k]? = w.heap[k]?) : OwnT w' base e v L := by
  refine ⟨h.1, ?_⟩
  rcases h.2 with hn | ⟨g, cap, cur, rfl, hb, hg, rest⟩
  · exact .inl hn
  · exact .inr ⟨g, cap, cur, rfl, hb, by rw [hk g rfl]; exact hg, rest⟩
theorem OwnT.below {w w' : World} {B base : Nat} {e : TypeId} {v : Value} {L : List Tk} (h : OwnT w base e v L) (hb : Below B w w') (hB : w.heap.size ≤ B) : OwnT w' base e v L :=
  h.kept fun k hk => hb.block k (Nat.lt_of_lt_of_le (h.lt k hk).2 hB)
theorem OwnT.grown {w w' : World} {row : Option Nat} {base : Nat} {e : TypeId} {v : Value} {L : List Tk} (h : OwnT w base e v L) (hb : w.grownBy w' row) (hne : ∀ k, v.ownBlock = some k → row ≠ some k) : OwnT w' base e v L :=
  h.kept fun k hk => hb.block k (h.lt k hk).2 (fun e => hne k hk e.symm)
theorem OwnT.at {w : World} {base : Nat} {e : TypeId} {v : Value} {L : List Tk} (h : OwnT w base e v L) : ∃ a cap, v = .slice a L.length cap ∧ TAt w a L w.heap.size := by
  have h0 := h
  rcases h.2 with ⟨rfl, hn⟩ | ⟨g, cap, cur, rfl, hb, hg, h1, h2, h3, h4⟩
  · have hx : L = [] := List.length_eq_zero_iff.1 hn
    subst hx
    exact ⟨none, 0, rfl, fun j hj => by simp at hj⟩
  · have hgs := (Array.getElem?_eq_some_iff.1 hg).1
    refine ⟨_, _, rfl, fun j hj => ⟨g, 0, rfl, hgs, ?_⟩⟩
    have := tkl_at L j hj
    rw [World.ownsRow.cellAt h0 (0 + j * 11) (by omega), World.ownsRow.cellAt h0 (0 + j * 11 + 1) (by omega), World.ownsRow.cellAt h0 (0 + j * 11 + 2) (by omega), World.ownsRow.cellAt h0 (0 + j * 11 + 3) (by omega), World.ownsRow.cellAt h0 (0 + j * 11 + 4) (by omega), World.ownsRow.cellAt h0 (0 + j * 11 + 5) (by omega), World.ownsRow.cellAt h0 (0 + j * 11 + 6) (by omega), World.ownsRow.cellAt h0 (0 + j * 11 + 7) (by omega), World.ownsRow.cellAt h0 (0 + j * 11 + 8) (by omega), World.ownsRow.cellAt h0 (0 + j * 11 + 9) (by omega), World.ownsRow.cellAt h0 (0 + j * 11 + 10) (by omega)]
    rw [show 0 + j * 11 = 11 * j by omega]
    exact this
/-- Its cells are there, and may be written. -/
theorem OwnT.there {w : World} {base : Nat} {e : TypeId} {g n cap : Nat} {L : List Tk} (h : OwnT w base e (.slice (some ⟨g, 0, none⟩) n cap) L) (hn : n = L.length) (i : Nat) : w.frozen? ⟨g, i, none⟩ = false := by
  subst hn
  exact World.ownsRow.frozenAt h i
/-- A store of a whole task. -/
theorem OwnT.stored {w : World} {base : Nat} {e : TypeId} {g n cap : Nat} {L : List Tk} (h : OwnT w base e (.slice (some ⟨g, 0, none⟩) n cap) L) (hn : n = L.length) (j : Nat) (f : Tk) :
    OwnT (((((((((((w.setCell ⟨g, j * 11, none⟩ (.int .i64 f.kind)).setCell ⟨g, j * 11 + 1, none⟩ (.int .i64 f.key)).setCell ⟨g, j * 11 + 2, none⟩ (.int .i64 f.val)).setCell ⟨g, j * 11 + 3, none⟩ (.int .i64 f.node)).setCell ⟨g, j * 11 + 4, none⟩ (.int .i64 f.pc)).setCell ⟨g, j * 11 + 5, none⟩ (.int .i64 f.prev)).setCell ⟨g, j * 11 + 6, none⟩ (.int .i64 f.cur)).setCell ⟨g, j * 11 + 7, none⟩ (.int .i64 f.next)).setCell ⟨g, j * 11 + 8, none⟩ (.int .i64 f.mark)).setCell ⟨g, j * 11 + 9, none⟩ (.bool f.done)).setCell ⟨g, j * 11 + 10, none⟩ (.int .i64 f.ans)) base e (.slice (some ⟨g, 0, none⟩) n cap) (L.set j f) ∧
      w.grownBy (((((((((((w.setCell ⟨g, j * 11, none⟩ (.int .i64 f.kind)).setCell ⟨g, j * 11 + 1, none⟩ (.int .i64 f.key)).setCell ⟨g, j * 11 + 2, none⟩ (.int .i64 f.val)).setCell ⟨g, j * 11 + 3, none⟩ (.int .i64 f.node)).setCell ⟨g, j * 11 + 4, none⟩ (.int .i64 f.pc)).setCell ⟨g, j * 11 + 5, none⟩ (.int .i64 f.prev)).setCell ⟨g, j * 11 + 6, none⟩ (.int .i64 f.cur)).setCell ⟨g, j * 11 + 7, none⟩ (.int .i64 f.next)).setCell ⟨g, j * 11 + 8, none⟩ (.int .i64 f.mark)).setCell ⟨g, j * 11 + 9, none⟩ (.bool f.done)).setCell ⟨g, j * 11 + 10, none⟩ (.int .i64 f.ans)) (some g) := by
  subst hn
  have h0 := World.ownsRow.stored h (j * 11) (.int .i64 f.kind)
  have h1 := World.ownsRow.stored h0.1 (j * 11 + 1) (.int .i64 f.key)
  have h2 := World.ownsRow.stored h1.1 (j * 11 + 2) (.int .i64 f.val)
  have h3 := World.ownsRow.stored h2.1 (j * 11 + 3) (.int .i64 f.node)
  have h4 := World.ownsRow.stored h3.1 (j * 11 + 4) (.int .i64 f.pc)
  have h5 := World.ownsRow.stored h4.1 (j * 11 + 5) (.int .i64 f.prev)
  have h6 := World.ownsRow.stored h5.1 (j * 11 + 6) (.int .i64 f.cur)
  have h7 := World.ownsRow.stored h6.1 (j * 11 + 7) (.int .i64 f.next)
  have h8 := World.ownsRow.stored h7.1 (j * 11 + 8) (.int .i64 f.mark)
  have h9 := World.ownsRow.stored h8.1 (j * 11 + 9) (.bool f.done)
  have h10 := World.ownsRow.stored h9.1 (j * 11 + 10) (.int .i64 f.ans)
  rw [tkl_set] at h10
  refine ⟨?_, grownBy_trans h0.2 (grownBy_trans h1.2 (grownBy_trans h2.2 (grownBy_trans h3.2 (grownBy_trans h4.2 (grownBy_trans h5.2 (grownBy_trans h6.2 (grownBy_trans h7.2 (grownBy_trans h8.2 (grownBy_trans h9.2 (h10.2))))))))))⟩
  unfold OwnT
  rw [List.length_set]
  exact h10.1

/-- 'append(v, f)' of one task onto tasks that are owned. -/
theorem wpList_snocT {P : Program} {ops : Array Oper} {rest : List Oper} {o : Oper} {a : Act} {Q : Exit → Act → World → Prop} {wr : World} (hgd : o.guard = none) (s x : Operand) (t : TypeId)
    (ho : o.op = .call { callee := .builtin .append, args := #[s, x], argTypes := #[t, t] }) (base : Nat) (e : TypeId) (ht : P.underlying t = some (.slice e))
    (hinfo : (P.info? e).map (fun i => (i.zero, i.size, i.bytes)) = some (some (.agg #[.int .i64 0, .int .i64 0, .int .i64 0, .int .i64 0, .int .i64 0, .int .i64 0, .int .i64 0, .int .i64 0, .int .i64 0, .bool false, .int .i64 0]), 11, 88)) (v : Value) (L : List Tk) (hs : a.eval s = v) (hown : OwnT wr base e v L)
    (f : Tk) (S : Nat) (hx : a.eval x = .slice (some ⟨S, 0, none⟩) 1 1) (hS : wr.heap.size = S) (hlen : L.length < 10000000) (hbase : base ≤ wr.heap.size)
    (h : ∀ v' w', OwnT w' base e v' (L ++ [f]) → (wr.alloc (.cells #[.int .i64 f.kind, .int .i64 f.key, .int .i64 f.val, .int .i64 f.node, .int .i64 f.pc, .int .i64 f.prev, .int .i64 f.cur, .int .i64 f.next, .int .i64 f.mark, .bool f.done, .int .i64 f.ans] e)).grownBy w' v.ownBlock → wpList P ops Q rest (a.put o.dst v') w') :
    wpList P ops Q (o :: rest) a (wr.alloc (.cells #[.int .i64 f.kind, .int .i64 f.key, .int .i64 f.val, .int .i64 f.node, .int .i64 f.pc, .int .i64 f.prev, .int .i64 f.cur, .int .i64 f.next, .int .i64 f.mark, .bool f.done, .int .i64 f.ans] e)) := by
  subst hS
  obtain ⟨i0, hi, hz0, hz1, hz2⟩ := info_parts hinfo
  refine wpList_append_own _ hgd s x t ho base e i0 _ 11 88 ht hi hz0 hz1 hz2 rfl (by decide) v L.length (tkl L) hs (World.ownsRow.alloc hown _) ⟨wr.heap.size, 0, none⟩ 1 1 (tkl [f]) hx rfl (fun j u hu => World.news_of_block (heap_alloc_new wr _) j u (by simpa [tkl, Tk.cells] using hu)) ?_ (by unfold maxLen; omega) (by omega) (by simp; omega) ?_
  · intro u hu
    simp [tkl, Tk.cells] at hu
    rcases hu with rfl | rfl | rfl | rfl | rfl | rfl | rfl | rfl | rfl | rfl | rfl <;> rfl
  · intro v' w' h1 h2 _
    refine h v' w' ?_ h2
    unfold OwnT
    rw [show tkl (L ++ [f]) = tkl L ++ tkl [f] by simp [tkl], List.length_append, List.length_singleton]
    exact h1
end Go.Proofs.Ytockgojdmaladab
