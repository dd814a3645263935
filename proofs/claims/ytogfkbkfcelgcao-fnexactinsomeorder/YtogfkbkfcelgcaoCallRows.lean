/- Rows of calls: thirteen cells an element. Plain lemmas, no program. -/
import Derived.Test.YtogfkbkfcelgcaoTaskKit
namespace Go.Proofs.Ytogfkbkfcelgcao
open Go.RowKit

/-- A call: its task, and the numbers at which it began and ended. -/
structure Cl where
  t : Tk
  bg : Int
  nd : Int

def Cl.cells (f : Cl) : List Value := [.int .i64 f.t.kind, .int .i64 f.t.key, .int .i64 f.t.val, .int .i64 f.t.node, .int .i64 f.t.pc, .int .i64 f.t.prev, .int .i64 f.t.cur, .int .i64 f.t.next, .int .i64 f.t.mark, .bool f.t.done, .int .i64 f.t.ans, .int .i64 f.bg, .int .i64 f.nd]
def cll (L : List Cl) : List Value := L.flatMap Cl.cells
theorem cll_length (L : List Cl) : (cll L).length = L.length * 13 := by
  induction L with
  | nil => rfl
  | cons f L ih => simp [cll, Cl.cells] at *; omega
theorem cll_cons (f : Cl) (L : List Cl) : cll (f :: L) = f.cells ++ cll L := by simp [cll]
theorem cll_at : ∀ (L : List Cl) (j : Nat) (h : j < L.length), (cll L)[13 * j]? = some (.int .i64 L[j].t.kind) ∧ (cll L)[13 * j + 1]? = some (.int .i64 L[j].t.key) ∧ (cll L)[13 * j + 2]? = some (.int .i64 L[j].t.val) ∧ (cll L)[13 * j + 3]? = some (.int .i64 L[j].t.node) ∧ (cll L)[13 * j + 4]? = some (.int .i64 L[j].t.pc) ∧ (cll L)[13 * j + 5]? = some (.int .i64 L[j].t.prev) ∧ (cll L)[13 * j + 6]? = some (.int .i64 L[j].t.cur) ∧ (cll L)[13 * j + 7]? = some (.int .i64 L[j].t.next) ∧ (cll L)[13 * j + 8]? = some (.int .i64 L[j].t.mark) ∧ (cll L)[13 * j + 9]? = some (.bool L[j].t.done) ∧ (cll L)[13 * j + 10]? = some (.int .i64 L[j].t.ans) ∧ (cll L)[13 * j + 11]? = some (.int .i64 L[j].bg) ∧ (cll L)[13 * j + 12]? = some (.int .i64 L[j].nd)
  | [], j, h => by simp at h
  | f :: L, 0, h => by simp [cll_cons, Cl.cells]
  | f :: L, j + 1, h => by
    have ih := cll_at L j (by simpa using h)
    have e : ∀ k, 13 * (j + 1) + k = (13 * j + k) + 13 := fun k => by omega
    rw [cll_cons]
    refine ⟨?_, ?_, ?_, ?_, ?_, ?_, ?_, ?_, ?_, ?_, ?_, ?_, ?_⟩
    · rw [show 13 * (j + 1) = 13 * j + 13 by omega]; simpa [Cl.cells] using ih.1
    · rw [e 1]; simpa [Cl.cells] using ih.2.1
    · rw [e 2]; simpa [Cl.cells] using ih.2.2.1
    · rw [e 3]; simpa [Cl.cells] using ih.2.2.2.1
    · rw [e 4]; simpa [Cl.cells] using ih.2.2.2.2.1
    · rw [e 5]; simpa [Cl.cells] using ih.2.2.2.2.2.1
    · rw [e 6]; simpa [Cl.cells] using ih.2.2.2.2.2.2.1
    · rw [e 7]; simpa [Cl.cells] using ih.2.2.2.2.2.2.2.1
    · rw [e 8]; simpa [Cl.cells] using ih.2.2.2.2.2.2.2.2.1
    · rw [e 9]; simpa [Cl.cells] using ih.2.2.2.2.2.2.2.2.2.1
    · rw [e 10]; simpa [Cl.cells] using ih.2.2.2.2.2.2.2.2.2.2.1
    · rw [e 11]; simpa [Cl.cells] using ih.2.2.2.2.2.2.2.2.2.2.2.1
    · rw [e 12]; simpa [Cl.cells] using ih.2.2.2.2.2.2.2.2.2.2.2.2
theorem cll_set : ∀ (L : List Cl) (j : Nat) (f : Cl), (((((((((((((cll L).set (j * 13) (.int .i64 f.t.kind)).set (j * 13 + 1) (.int .i64 f.t.key)).set (j * 13 + 2) (.int .i64 f.t.val)).set (j * 13 + 3) (.int .i64 f.t.node)).set (j * 13 + 4) (.int .i64 f.t.pc)).set (j * 13 + 5) (.int .i64 f.t.prev)).set (j * 13 + 6) (.int .i64 f.t.cur)).set (j * 13 + 7) (.int .i64 f.t.next)).set (j * 13 + 8) (.int .i64 f.t.mark)).set (j * 13 + 9) (.bool f.t.done)).set (j * 13 + 10) (.int .i64 f.t.ans)).set (j * 13 + 11) (.int .i64 f.bg)).set (j * 13 + 12) (.int .i64 f.nd) = cll (L.set j f)
  | [], j, f => by simp [cll]
  | g :: L, 0, f => by simp [cll_cons, Cl.cells]
  | g :: L, j + 1, f => by
    have ih := cll_set L j f
    rw [show (j + 1) * 13 = j * 13 + 1 + 1 + 1 + 1 + 1 + 1 + 1 + 1 + 1 + 1 + 1 + 1 + 1 by omega, cll_cons, List.set_cons_succ, cll_cons, ← ih]
    simp [Cl.cells]

/-- The calls L lie at the address a, below the block B. -/
def KAt (w : World) (a : Option Addr) (L : List Cl) (B : Nat) : Prop :=
  ∀ j (hj : j < L.length), ∃ g off, a = some ⟨g, off, none⟩ ∧ g < B ∧ w.cell? ⟨g, off + j * 13, none⟩ = some (.int .i64 L[j].t.kind) ∧ w.cell? ⟨g, off + j * 13 + 1, none⟩ = some (.int .i64 L[j].t.key) ∧ w.cell? ⟨g, off + j * 13 + 2, none⟩ = some (.int .i64 L[j].t.val) ∧ w.cell? ⟨g, off + j * 13 + 3, none⟩ = some (.int .i64 L[j].t.node) ∧ w.cell? ⟨g, off + j * 13 + 4, none⟩ = some (.int .i64 L[j].t.pc) ∧ w.cell? ⟨g, off + j * 13 + 5, none⟩ = some (.int .i64 L[j].t.prev) ∧ w.cell? ⟨g, off + j * 13 + 6, none⟩ = some (.int .i64 L[j].t.cur) ∧ w.cell? ⟨g, off + j * 13 + 7, none⟩ = some (.int .i64 L[j].t.next) ∧ w.cell? ⟨g, off + j * 13 + 8, none⟩ = some (.int .i64 L[j].t.mark) ∧ w.cell? ⟨g, off + j * 13 + 9, none⟩ = some (.bool L[j].t.done) ∧ w.cell? ⟨g, off + j * 13 + 10, none⟩ = some (.int .i64 L[j].t.ans) ∧ w.cell? ⟨g, off + j * 13 + 11, none⟩ = some (.int .i64 L[j].bg) ∧ w.cell? ⟨g, off + j * 13 + 12, none⟩ = some (.int .i64 L[j].nd)
/-- The slice value v owns the calls L. -/
def OwnK (w : World) (base : Nat) (e : TypeId) (v : Value) (L : List Cl) : Prop := w.ownsRow base e 13 v L.length (cll L)
theorem OwnK.lt {w : World} {base : Nat} {e : TypeId} {v : Value} {L : List Cl} (h : OwnK w base e v L) (k : Nat) (hk : v.ownBlock = some k) : base ≤ k ∧ k < w.heap.size := World.ownsRow.lt h k hk
theorem OwnK.alloc {w : World} {base : Nat} {e : TypeId} {v : Value} {L : List Cl} (h : OwnK w base e v L) (o : Obj) : OwnK (w.alloc o) base e v L := World.ownsRow.alloc h o
theorem OwnK.mono {w : World} {base base' : Nat} {e : TypeId} {v : Value} {L : List Cl} (h : OwnK w base e v L) (hb : base' ≤ base) : OwnK w base' e v L := by
  refine ⟨h.1, ?_⟩
  rcases h.2 with h | ⟨g, cap, cur, hv, hg, rest⟩
  · exact .inl h
  · exact .inr ⟨g, cap, cur, hv, Nat.le_trans hb hg, rest⟩
theorem OwnK.kept {w w' : World} {base : Nat} {e : TypeId} {v : Value} {L : List Cl} (h : OwnK w base e v L) (hk : ∀ k, v.ownBlock = some k → w'.heap[k]? = w.heap[k]?) : OwnK w' base e v L := by
  refine ⟨h.1, ?_⟩
  rcases h.2 with hn | ⟨g, cap, cur, rfl, hb, hg, rest⟩
  · exact .inl hn
  · exact .inr ⟨g, cap, cur, rfl, hb, by rw [hk g rfl]; exact hg, rest⟩
theorem OwnK.below {w w' : World} {B base : Nat} {e : TypeId} {v : Value} {L : List Cl} (h : OwnK w base e v L) (hb : Below B w w') (hB : w.heap.size ≤ B) : OwnK w' base e v L :=
  h.kept fun k hk => hb.block k (Nat.lt_of_lt_of_le (h.lt k hk).2 hB)
theorem OwnK.grown {w w' : World} {row : Option Nat} {base : Nat} {e : TypeId} {v : Value} {L : List Cl} (h : OwnK w base e v L) (hb : w.grownBy w' row) (hne : ∀ k, v.ownBlock = some k → row ≠ some k) : OwnK w' base e v L :=
  h.kept fun k hk => hb.block k (h.lt k hk).2 (fun e => hne k hk e.symm)
theorem OwnK.at {w : World} {base : Nat} {e : TypeId} {v : Value} {L : List Cl} (h : OwnK w base e v L) : ∃ a cap, v = .slice a L.length cap ∧ KAt w a L w.heap.size := by
  have h0 := h
  rcases h.2 with ⟨rfl, hn⟩ | ⟨g, cap, cur, rfl, hb, hg, h1, h2, h3, h4⟩
  · have hx : L = [] := List.length_eq_zero_iff.1 hn
    subst hx
    exact ⟨none, 0, rfl, fun j hj => by simp at hj⟩
  · have hgs := (Array.getElem?_eq_some_iff.1 hg).1
    refine ⟨_, _, rfl, fun j hj => ⟨g, 0, rfl, hgs, ?_⟩⟩
    have := cll_at L j hj
    rw [World.ownsRow.cellAt h0 (0 + j * 13) (by omega), World.ownsRow.cellAt h0 (0 + j * 13 + 1) (by omega), World.ownsRow.cellAt h0 (0 + j * 13 + 2) (by omega), World.ownsRow.cellAt h0 (0 + j * 13 + 3) (by omega), World.ownsRow.cellAt h0 (0 + j * 13 + 4) (by omega), World.ownsRow.cellAt h0 (0 + j * 13 + 5) (by omega), World.ownsRow.cellAt h0 (0 + j * 13 + 6) (by omega), World.ownsRow.cellAt h0 (0 + j * 13 + 7) (by omega), World.ownsRow.cellAt h0 (0 + j * 13 + 8) (by omega), World.ownsRow.cellAt h0 (0 + j * 13 + 9) (by omega), World.ownsRow.cellAt h0 (0 + j * 13 + 10) (by omega), World.ownsRow.cellAt h0 (0 + j * 13 + 11) (by omega), World.ownsRow.cellAt h0 (0 + j * 13 + 12) (by omega)]
    rw [show 0 + j * 13 = 13 * j by omega]
    exact this
/-- Its cells are there, and may be written. -/
theorem OwnK.there {w : World} {base : Nat} {e : TypeId} {g n cap : Nat} {L : List Cl} (h : OwnK w base e (.slice (some ⟨g, 0, none⟩) n cap) L) (hn : n = L.length) (i : Nat) : w.frozen? ⟨g, i, none⟩ = false := by
  subst hn
  exact World.ownsRow.frozenAt h i
/-- A store of a whole call. -/
theorem OwnK.stored {w : World} {base : Nat} {e : TypeId} {g n cap : Nat} {L : List Cl} (h : OwnK w base e (.slice (some ⟨g, 0, none⟩) n cap) L) (hn : n = L.length) (j : Nat) (f : Cl) :
    OwnK (((((((((((((w.setCell ⟨g, j * 13, none⟩ (.int .i64 f.t.kind)).setCell ⟨g, j * 13 + 1, none⟩ (.int .i64 f.t.key)).setCell ⟨g, j * 13 + 2, none⟩ (.int .i64 f.t.val)).setCell ⟨g, j * 13 + 3, none⟩ (.int .i64 f.t.node)).setCell ⟨g, j * 13 + 4, none⟩ (.int .i64 f.t.pc)).setCell ⟨g, j * 13 + 5, none⟩ (.int .i64 f.t.prev)).setCell ⟨g, j * 13 + 6, none⟩ (.int .i64 f.t.cur)).setCell ⟨g, j * 13 + 7, none⟩ (.int .i64 f.t.next)).setCell ⟨g, j * 13 + 8, none⟩ (.int .i64 f.t.mark)).setCell ⟨g, j * 13 + 9, none⟩ (.bool f.t.done)).setCell ⟨g, j * 13 + 10, none⟩ (.int .i64 f.t.ans)).setCell ⟨g, j * 13 + 11, none⟩ (.int .i64 f.bg)).setCell ⟨g, j * 13 + 12, none⟩ (.int .i64 f.nd)) base e (.slice (some ⟨g, 0, none⟩) n cap) (L.set j f) ∧
      w.grownBy (((((((((((((w.setCell ⟨g, j * 13, none⟩ (.int .i64 f.t.kind)).setCell ⟨g, j * 13 + 1, none⟩ (.int .i64 f.t.key)).setCell ⟨g, j * 13 + 2, none⟩ (.int .i64 f.t.val)).setCell ⟨g, j * 13 + 3, none⟩ (.int .i64 f.t.node)).setCell ⟨g, j * 13 + 4, none⟩ (.int .i64 f.t.pc)).setCell ⟨g, j * 13 + 5, none⟩ (.int .i64 f.t.prev)).setCell ⟨g, j * 13 + 6, none⟩ (.int .i64 f.t.cur)).setCell ⟨g, j * 13 + 7, none⟩ (.int .i64 f.t.next)).setCell ⟨g, j * 13 + 8, none⟩ (.int .i64 f.t.mark)).setCell ⟨g, j * 13 + 9, none⟩ (.bool f.t.done)).setCell ⟨g, j * 13 + 10, none⟩ (.int .i64 f.t.ans)).setCell ⟨g, j * 13 + 11, none⟩ (.int .i64 f.bg)).setCell ⟨g, j * 13 + 12, none⟩ (.int .i64 f.nd)) (some g) := by
  subst hn
  have h0 := World.ownsRow.stored h (j * 13) (.int .i64 f.t.kind)
  have h1 := World.ownsRow.stored h0.1 (j * 13 + 1) (.int .i64 f.t.key)
  have h2 := World.ownsRow.stored h1.1 (j * 13 + 2) (.int .i64 f.t.val)
  have h3 := World.ownsRow.stored h2.1 (j * 13 + 3) (.int .i64 f.t.node)
  have h4 := World.ownsRow.stored h3.1 (j * 13 + 4) (.int .i64 f.t.pc)
  have h5 := World.ownsRow.stored h4.1 (j * 13 + 5) (.int .i64 f.t.prev)
  have h6 := World.ownsRow.stored h5.1 (j * 13 + 6) (.int .i64 f.t.cur)
  have h7 := World.ownsRow.stored h6.1 (j * 13 + 7) (.int .i64 f.t.next)
  have h8 := World.ownsRow.stored h7.1 (j * 13 + 8) (.int .i64 f.t.mark)
  have h9 := World.ownsRow.stored h8.1 (j * 13 + 9) (.bool f.t.done)
  have h10 := World.ownsRow.stored h9.1 (j * 13 + 10) (.int .i64 f.t.ans)
  have h11 := World.ownsRow.stored h10.1 (j * 13 + 11) (.int .i64 f.bg)
  have h12 := World.ownsRow.stored h11.1 (j * 13 + 12) (.int .i64 f.nd)
  rw [cll_set] at h12
  refine ⟨?_, grownBy_trans h0.2 (grownBy_trans h1.2 (grownBy_trans h2.2 (grownBy_trans h3.2 (grownBy_trans h4.2 (grownBy_trans h5.2 (grownBy_trans h6.2 (grownBy_trans h7.2 (grownBy_trans h8.2 (grownBy_trans h9.2 (grownBy_trans h10.2 (grownBy_trans h11.2 (h12.2))))))))))))⟩
  unfold OwnK
  rw [List.length_set]
  exact h12.1

/-- 'append(v, f)' of one call onto calls that are owned. -/
theorem wpList_snocK {P : Program} {ops : Array Oper} {rest : List Oper} {o : Oper} {a : Act} {Q : Exit → Act → World → Prop} {wr : World} (hgd : o.guard = none) (s x : Operand) (t : TypeId)
    (ho : o.op = .call { callee := .builtin .append, args := #[s, x], argTypes := #[t, t] }) (base : Nat) (e : TypeId) (ht : P.underlying t = some (.slice e))
    (hinfo : (P.info? e).map (fun i => (i.zero, i.size, i.bytes)) = some (some (.agg #[.int .i64 0, .int .i64 0, .int .i64 0, .int .i64 0, .int .i64 0, .int .i64 0, .int .i64 0, .int .i64 0, .int .i64 0, .bool false, .int .i64 0, .int .i64 0, .int .i64 0]), 13, 104)) (v : Value) (L : List Cl) (hs : a.eval s = v) (hown : OwnK wr base e v L)
    (f : Cl) (S : Nat) (hx : a.eval x = .slice (some ⟨S, 0, none⟩) 1 1) (hS : wr.heap.size = S) (hlen : L.length < 10000000) (hbase : base ≤ wr.heap.size)
    (h : ∀ v' w', OwnK w' base e v' (L ++ [f]) → (wr.alloc (.cells #[.int .i64 f.t.kind, .int .i64 f.t.key, .int .i64 f.t.val, .int .i64 f.t.node, .int .i64 f.t.pc, .int .i64 f.t.prev, .int .i64 f.t.cur, .int .i64 f.t.next, .int .i64 f.t.mark, .bool f.t.done, .int .i64 f.t.ans, .int .i64 f.bg, .int .i64 f.nd] e)).grownBy w' v.ownBlock → wpList P ops Q rest (a.put o.dst v') w') :
    wpList P ops Q (o :: rest) a (wr.alloc (.cells #[.int .i64 f.t.kind, .int .i64 f.t.key, .int .i64 f.t.val, .int .i64 f.t.node, .int .i64 f.t.pc, .int .i64 f.t.prev, .int .i64 f.t.cur, .int .i64 f.t.next, .int .i64 f.t.mark, .bool f.t.done, .int .i64 f.t.ans, .int .i64 f.bg, .int .i64 f.nd] e)) := by
  subst hS
  obtain ⟨i0, hi, hz0, hz1, hz2⟩ := info_parts hinfo
  refine wpList_append_own _ hgd s x t ho base e i0 _ 13 104 ht hi hz0 hz1 hz2 rfl (by decide) v L.length (cll L) hs (World.ownsRow.alloc hown _) ⟨wr.heap.size, 0, none⟩ 1 1 (cll [f]) hx rfl (fun j u hu => World.news_of_block (heap_alloc_new wr _) j u (by simpa [cll, Cl.cells] using hu)) ?_ (by unfold maxLen; omega) (by omega) (by simp; omega) ?_
  · intro u hu
    simp [cll, Cl.cells] at hu
    rcases hu with rfl | rfl | rfl | rfl | rfl | rfl | rfl | rfl | rfl | rfl | rfl | rfl | rfl <;> rfl
  · intro v' w' h1 h2 _
    refine h v' w' ?_ h2
    unfold OwnK
    rw [show cll (L ++ [f]) = cll L ++ cll [f] by simp [cll], List.length_append, List.length_singleton]
    exact h1
end Go.Proofs.Ytogfkbkfcelgcao
