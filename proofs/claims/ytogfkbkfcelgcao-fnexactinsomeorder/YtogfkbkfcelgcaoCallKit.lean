/- Calls that lie in memory: kept, cut, read as a row; a call in a variable. Plain lemmas. Written by mkcallkit.py. -/
import Derived.Test.YtogfkbkfcelgcaoCallRows
import Derived.Deep.MidRow
namespace Go.Proofs.Ytogfkbkfcelgcao
open Go.RowKit

theorem KAt.below {w w' : World} {a : Option Addr} {L : List Cl} {B B' : Nat} (h : KAt w a L B) (hb : Below B' w w') (hB : B ≤ B') : KAt w' a L B := by
  intro j hj
  obtain ⟨g, off, ha, hg, h0, h1, h2, h3, h4, h5, h6, h7, h8, h9, h10, h11, h12⟩ := h j hj
  have hl := Nat.lt_of_lt_of_le hg hB
  exact ⟨g, off, ha, hg, (hb.cell hl).trans h0, (hb.cell hl).trans h1, (hb.cell hl).trans h2, (hb.cell hl).trans h3, (hb.cell hl).trans h4, (hb.cell hl).trans h5, (hb.cell hl).trans h6, (hb.cell hl).trans h7, (hb.cell hl).trans h8, (hb.cell hl).trans h9, (hb.cell hl).trans h10, (hb.cell hl).trans h11, (hb.cell hl).trans h12⟩
theorem KAt.up {w : World} {a : Option Addr} {L : List Cl} {B B' : Nat} (h : KAt w a L B) (hB : B ≤ B') : KAt w a L B' := by
  intro j hj
  obtain ⟨g, off, ha, hg, r⟩ := h j hj
  exact ⟨g, off, ha, Nat.lt_of_lt_of_le hg hB, r⟩
theorem KAt.on {w w' : World} {a : Option Addr} {L : List Cl} (h : KAt w a L w.heap.size) (hb : Below w.heap.size w w') : KAt w' a L w'.heap.size :=
  (h.below hb (Nat.le_refl _)).up hb.size
theorem KAt.none_nil {w : World} {l : List Cl} {B : Nat} (h : KAt w none l B) : l = [] := by
  cases l with
  | nil => rfl
  | cons x r => obtain ⟨g, off, ha, _⟩ := h 0 (by simp); simp at ha
theorem KAt.take {w : World} {a : Option Addr} {L : List Cl} {B : Nat} (h : KAt w a L B) (i : Nat) : KAt w a (L.take i) B := by
  intro j hj
  have hj' : j < L.length := by simp at hj; omega
  simp only [List.getElem_take]
  exact h j hj'
theorem KAt.drop {w : World} {g off : Nat} {L : List Cl} {B : Nat} (h : KAt w (some ⟨g, off, none⟩) L B) (i : Nat) : KAt w (some ⟨g, off + i * 13, none⟩) (L.drop i) B := by
  intro j hj
  have hj' : i + j < L.length := by simp at hj; omega
  obtain ⟨g', off', ha, hg, h0, h1, h2, h3, h4, h5, h6, h7, h8, h9, h10, h11, h12⟩ := h (i + j) hj'
  simp only [Option.some.injEq, Addr.mk.injEq, and_true] at ha
  obtain ⟨rfl, rfl⟩ := ha
  simp only [List.getElem_drop]
  rw [show off + (i + j) * 13 = off + i * 13 + j * 13 by omega] at h0 h1 h2 h3 h4 h5 h6 h7 h8 h9 h10 h11 h12
  exact ⟨g, off + i * 13, rfl, hg, h0, h1, h2, h3, h4, h5, h6, h7, h8, h9, h10, h11, h12⟩
theorem KAt.nil {w : World} {a : Option Addr} {B : Nat} : KAt w a [] B := fun j hj => by simp at hj
theorem cll_one' (L : List Cl) : ∀ u ∈ cll L, u.oneCell' = true := by
  intro u hu
  simp only [cll, List.mem_flatMap, Cl.cells, List.mem_cons, List.not_mem_nil, or_false] at hu
  obtain ⟨f, _, h⟩ := hu
  rcases h with rfl | rfl | rfl | rfl | rfl | rfl | rfl | rfl | rfl | rfl | rfl | rfl | rfl <;> rfl
/-- What lies there, cell by cell. -/
theorem KAt.src {w : World} {ad : Addr} {L : List Cl} {B : Nat} (h : KAt w (some ad) L B) : ∀ j u, (cll L)[j]? = some u → w.cell? (ad.add j) = some u := by
  intro j u hu
  obtain ⟨hj, _⟩ := List.getElem?_eq_some_iff.1 hu
  rw [cll_length] at hj
  obtain ⟨g, off, ha, _, c0, c1, c2, c3, c4, c5, c6, c7, c8, c9, c10, c11, c12⟩ := h (j / 13) (by omega)
  simp only [Option.some.injEq] at ha
  subst ha
  have hat := cll_at L (j / 13) (by omega)
  rw [Addr.add_mid]
  have hr : j % 13 = 0 ∨ j % 13 = 1 ∨ j % 13 = 2 ∨ j % 13 = 3 ∨ j % 13 = 4 ∨ j % 13 = 5 ∨ j % 13 = 6 ∨ j % 13 = 7 ∨ j % 13 = 8 ∨ j % 13 = 9 ∨ j % 13 = 10 ∨ j % 13 = 11 ∨ j % 13 = 12 := by omega
  rcases hr with h | h | h | h | h | h | h | h | h | h | h | h | h
  · have e : j = 13 * (j / 13) := by omega
    rw [e, hat.1] at hu
    rw [show off + j = off + j / 13 * 13 by omega, c0]
    exact hu
  · have e : j = 13 * (j / 13) + 1 := by omega
    rw [e, hat.2.1] at hu
    rw [show off + j = off + j / 13 * 13 + 1 by omega, c1]
    exact hu
  · have e : j = 13 * (j / 13) + 2 := by omega
    rw [e, hat.2.2.1] at hu
    rw [show off + j = off + j / 13 * 13 + 2 by omega, c2]
    exact hu
  · have e : j = 13 * (j / 13) + 3 := by omega
    rw [e, hat.2.2.2.1] at hu
    rw [show off + j = off + j / 13 * 13 + 3 by omega, c3]
    exact hu
  · have e : j = 13 * (j / 13) + 4 := by omega
    rw [e, hat.2.2.2.2.1] at hu
    rw [show off + j = off + j / 13 * 13 + 4 by omega, c4]
    exact hu
  · have e : j = 13 * (j / 13) + 5 := by omega
    rw [e, hat.2.2.2.2.2.1] at hu
    rw [show off + j = off + j / 13 * 13 + 5 by omega, c5]
    exact hu
  · have e : j = 13 * (j / 13) + 6 := by omega
    rw [e, hat.2.2.2.2.2.2.1] at hu
    rw [show off + j = off + j / 13 * 13 + 6 by omega, c6]
    exact hu
  · have e : j = 13 * (j / 13) + 7 := by omega
    rw [e, hat.2.2.2.2.2.2.2.1] at hu
    rw [show off + j = off + j / 13 * 13 + 7 by omega, c7]
    exact hu
  · have e : j = 13 * (j / 13) + 8 := by omega
    rw [e, hat.2.2.2.2.2.2.2.2.1] at hu
    rw [show off + j = off + j / 13 * 13 + 8 by omega, c8]
    exact hu
  · have e : j = 13 * (j / 13) + 9 := by omega
    rw [e, hat.2.2.2.2.2.2.2.2.2.1] at hu
    rw [show off + j = off + j / 13 * 13 + 9 by omega, c9]
    exact hu
  · have e : j = 13 * (j / 13) + 10 := by omega
    rw [e, hat.2.2.2.2.2.2.2.2.2.2.1] at hu
    rw [show off + j = off + j / 13 * 13 + 10 by omega, c10]
    exact hu
  · have e : j = 13 * (j / 13) + 11 := by omega
    rw [e, hat.2.2.2.2.2.2.2.2.2.2.2.1] at hu
    rw [show off + j = off + j / 13 * 13 + 11 by omega, c11]
    exact hu
  · have e : j = 13 * (j / 13) + 12 := by omega
    rw [e, hat.2.2.2.2.2.2.2.2.2.2.2.2] at hu
    rw [show off + j = off + j / 13 * 13 + 12 by omega, c12]
    exact hu

/-- 'append(v, all...)' of calls onto calls that are owned. -/
theorem wpList_allK {P : Program} {ops : Array Oper} {rest : List Oper} {o : Oper} {a : Act} {Q : Exit → Act → World → Prop} {w : World} (hgd : o.guard = none) (s x : Operand) (t : TypeId)
    (ho : o.op = .call { callee := .builtin .append, args := #[s, x], argTypes := #[t, t] }) (base : Nat) (e : TypeId) (ht : P.underlying t = some (.slice e))
    (hinfo : (P.info? e).map (fun i => (i.zero, i.size, i.bytes)) = some (some (.agg #[.int .i64 0, .int .i64 0, .int .i64 0, .int .i64 0, .int .i64 0, .int .i64 0, .int .i64 0, .int .i64 0, .int .i64 0, .bool false, .int .i64 0, .int .i64 0, .int .i64 0]), 13, 104)) (v : Value) (A : List Cl) (hs : a.eval s = v) (hown : OwnK w base e v A)
    (a0 : Option Addr) (cap : Nat) (l : List Cl) (B : Nat) (hx : a.eval x = .slice a0 l.length cap) (hI : KAt w a0 l B) (hlen : A.length + l.length ≤ 1048576) (hbase : base ≤ w.heap.size)
    (h : ∀ v' w', OwnK w' base e v' (A ++ l) → w.grownBy w' v.ownBlock → wpList P ops Q rest (a.put o.dst v') w') :
    wpList P ops Q (o :: rest) a w := by
  obtain ⟨i0, hi, hz0, hz1, hz2⟩ := info_parts hinfo
  cases a0 with
  | some ad =>
    refine wpList_append_own _ hgd s x t ho base e i0 _ 13 104 ht hi hz0 hz1 hz2 rfl (by decide) v A.length (cll A) hs hown ad l.length cap (cll l) hx (cll_length l) hI.src (cll_one' l) (by unfold maxLen; omega) (by omega) hbase ?_
    intro v' w' h1 h2 _
    refine h v' w' ?_ h2
    unfold OwnK
    rw [show cll (A ++ l) = cll A ++ cll l by simp [cll], List.length_append]
    exact h1
  | none =>
    have := hI.none_nil
    subst this
    refine wpList_plain hgd fun K hK => ?_
    have hrun : (Builtin.append_ #[t, t] o.type #[v, .slice none 0 cap]).run P w = .ok v w := by
      rcases hown.2 with ⟨rfl, _⟩ | ⟨g, cp, cur, rfl, _, _, hnc, _⟩
      · simp [Builtin.append_, run_underlying ht, sizeOf, typeInfo, hi, Builtin.lenOf, Builtin.firstCells]
      · simp [Builtin.append_, run_underlying ht, sizeOf, typeInfo, hi, Builtin.lenOf, Builtin.firstCells, storeCells, hnc]
    unfold Oper.wp
    simp at hx
    simp [execOp, ho, resolve, invoke, builtin, hs, hx, hrun, Result.andThen]
    exact hK _ _ (h v w (by simpa using hown) ⟨rfl, rfl, rfl, Nat.le_refl _, fun _ _ _ => rfl⟩)

/-- A call in a variable. -/
def KBox (w : World) (T : Nat) (f : Cl) : Prop := w.heap[T]? = some (.cells #[.int .i64 f.t.kind, .int .i64 f.t.key, .int .i64 f.t.val, .int .i64 f.t.node, .int .i64 f.t.pc, .int .i64 f.t.prev, .int .i64 f.t.cur, .int .i64 f.t.next, .int .i64 f.t.mark, .bool f.t.done, .int .i64 f.t.ans, .int .i64 f.bg, .int .i64 f.nd] 50 (0, 0))
theorem KBox.lt {w : World} {T : Nat} {f : Cl} (h : KBox w T f) : T < w.heap.size := (Array.getElem?_eq_some_iff.1 h).1
theorem KBox.new (w : World) (f : Cl) : KBox (w.alloc (.cells #[.int .i64 f.t.kind, .int .i64 f.t.key, .int .i64 f.t.val, .int .i64 f.t.node, .int .i64 f.t.pc, .int .i64 f.t.prev, .int .i64 f.t.cur, .int .i64 f.t.next, .int .i64 f.t.mark, .bool f.t.done, .int .i64 f.t.ans, .int .i64 f.bg, .int .i64 f.nd] 50)) w.heap.size f := heap_alloc_new w _
theorem KBox.kept {w w' : World} {T : Nat} {f : Cl} (h : KBox w T f) (hk : w'.heap[T]? = w.heap[T]?) : KBox w' T f := hk.trans h
theorem KBox.on {w w' : World} {T : Nat} {f : Cl} (h : KBox w T f) (hb : Below w.heap.size w w') : KBox w' T f := h.kept (hb.block T h.lt)
theorem KBox.thaw {w : World} {T : Nat} {f : Cl} (h : KBox w T f) (i : Nat) : w.frozen? ⟨T, i, none⟩ = false := by
  unfold KBox at h
  simp [World.frozen?, h]
theorem KBox.cells {w : World} {T : Nat} {f : Cl} (h : KBox w T f) : w.cell? ⟨T, 0, none⟩ = some (.int .i64 f.t.kind) ∧ w.cell? ⟨T, 1, none⟩ = some (.int .i64 f.t.key) ∧ w.cell? ⟨T, 2, none⟩ = some (.int .i64 f.t.val) ∧ w.cell? ⟨T, 3, none⟩ = some (.int .i64 f.t.node) ∧ w.cell? ⟨T, 4, none⟩ = some (.int .i64 f.t.pc) ∧ w.cell? ⟨T, 5, none⟩ = some (.int .i64 f.t.prev) ∧ w.cell? ⟨T, 6, none⟩ = some (.int .i64 f.t.cur) ∧ w.cell? ⟨T, 7, none⟩ = some (.int .i64 f.t.next) ∧ w.cell? ⟨T, 8, none⟩ = some (.int .i64 f.t.mark) ∧ w.cell? ⟨T, 9, none⟩ = some (.bool f.t.done) ∧ w.cell? ⟨T, 10, none⟩ = some (.int .i64 f.t.ans) ∧ w.cell? ⟨T, 11, none⟩ = some (.int .i64 f.bg) ∧ w.cell? ⟨T, 12, none⟩ = some (.int .i64 f.nd) := by
  unfold KBox at h
  simp [World.cell?, h]
/-- A whole call stored. -/
def put13 (w : World) (T : Nat) (f : Cl) : World := (((((((((((((w.setCell ⟨T, 0, none⟩ (.int .i64 f.t.kind)).setCell ⟨T, 1, none⟩ (.int .i64 f.t.key)).setCell ⟨T, 2, none⟩ (.int .i64 f.t.val)).setCell ⟨T, 3, none⟩ (.int .i64 f.t.node)).setCell ⟨T, 4, none⟩ (.int .i64 f.t.pc)).setCell ⟨T, 5, none⟩ (.int .i64 f.t.prev)).setCell ⟨T, 6, none⟩ (.int .i64 f.t.cur)).setCell ⟨T, 7, none⟩ (.int .i64 f.t.next)).setCell ⟨T, 8, none⟩ (.int .i64 f.t.mark)).setCell ⟨T, 9, none⟩ (.bool f.t.done)).setCell ⟨T, 10, none⟩ (.int .i64 f.t.ans)).setCell ⟨T, 11, none⟩ (.int .i64 f.bg)).setCell ⟨T, 12, none⟩ (.int .i64 f.nd))
theorem put13_box {w : World} {T : Nat} {f0 : Cl} (h : KBox w T f0) (f : Cl) : KBox (put13 w T f) T f := by
  unfold KBox at h ⊢
  unfold put13
  obtain ⟨w1, hw1⟩ : ∃ x, w.setCell ⟨T, 0, none⟩ (.int .i64 f.t.kind) = x := ⟨_, rfl⟩
  have h1 : w1.heap[T]? = some (.cells #[.int .i64 f.t.kind, .int .i64 f0.t.key, .int .i64 f0.t.val, .int .i64 f0.t.node, .int .i64 f0.t.pc, .int .i64 f0.t.prev, .int .i64 f0.t.cur, .int .i64 f0.t.next, .int .i64 f0.t.mark, .bool f0.t.done, .int .i64 f0.t.ans, .int .i64 f0.bg, .int .i64 f0.nd] 50 (0, 0)) := by rw [← hw1, setCell_eq_setRow w T 0 _ _ (0, 0) _ h, setRow_heap w T _ _ _ _ h]; rfl
  rw [hw1]
  obtain ⟨w2, hw2⟩ : ∃ x, w1.setCell ⟨T, 1, none⟩ (.int .i64 f.t.key) = x := ⟨_, rfl⟩
  have h2 : w2.heap[T]? = some (.cells #[.int .i64 f.t.kind, .int .i64 f.t.key, .int .i64 f0.t.val, .int .i64 f0.t.node, .int .i64 f0.t.pc, .int .i64 f0.t.prev, .int .i64 f0.t.cur, .int .i64 f0.t.next, .int .i64 f0.t.mark, .bool f0.t.done, .int .i64 f0.t.ans, .int .i64 f0.bg, .int .i64 f0.nd] 50 (0, 0)) := by rw [← hw2, setCell_eq_setRow w1 T 1 _ _ (0, 0) _ h1, setRow_heap w1 T _ _ _ _ h1]; rfl
  rw [hw2]
  obtain ⟨w3, hw3⟩ : ∃ x, w2.setCell ⟨T, 2, none⟩ (.int .i64 f.t.val) = x := ⟨_, rfl⟩
  have h3 : w3.heap[T]? = some (.cells #[.int .i64 f.t.kind, .int .i64 f.t.key, .int .i64 f.t.val, .int .i64 f0.t.node, .int .i64 f0.t.pc, .int .i64 f0.t.prev, .int .i64 f0.t.cur, .int .i64 f0.t.next, .int .i64 f0.t.mark, .bool f0.t.done, .int .i64 f0.t.ans, .int .i64 f0.bg, .int .i64 f0.nd] 50 (0, 0)) := by rw [← hw3, setCell_eq_setRow w2 T 2 _ _ (0, 0) _ h2, setRow_heap w2 T _ _ _ _ h2]; rfl
  rw [hw3]
  obtain ⟨w4, hw4⟩ : ∃ x, w3.setCell ⟨T, 3, none⟩ (.int .i64 f.t.node) = x := ⟨_, rfl⟩
  have h4 : w4.heap[T]? = some (.cells #[.int .i64 f.t.kind, .int .i64 f.t.key, .int .i64 f.t.val, .int .i64 f.t.node, .int .i64 f0.t.pc, .int .i64 f0.t.prev, .int .i64 f0.t.cur, .int .i64 f0.t.next, .int .i64 f0.t.mark, .bool f0.t.done, .int .i64 f0.t.ans, .int .i64 f0.bg, .int .i64 f0.nd] 50 (0, 0)) := by rw [← hw4, setCell_eq_setRow w3 T 3 _ _ (0, 0) _ h3, setRow_heap w3 T _ _ _ _ h3]; rfl
  rw [hw4]
  obtain ⟨w5, hw5⟩ : ∃ x, w4.setCell ⟨T, 4, none⟩ (.int .i64 f.t.pc) = x := ⟨_, rfl⟩
  have h5 : w5.heap[T]? = some (.cells #[.int .i64 f.t.kind, .int .i64 f.t.key, .int .i64 f.t.val, .int .i64 f.t.node, .int .i64 f.t.pc, .int .i64 f0.t.prev, .int .i64 f0.t.cur, .int .i64 f0.t.next, .int .i64 f0.t.mark, .bool f0.t.done, .int .i64 f0.t.ans, .int .i64 f0.bg, .int .i64 f0.nd] 50 (0, 0)) := by rw [← hw5, setCell_eq_setRow w4 T 4 _ _ (0, 0) _ h4, setRow_heap w4 T _ _ _ _ h4]; rfl
  rw [hw5]
  obtain ⟨w6, hw6⟩ : ∃ x, w5.setCell ⟨T, 5, none⟩ (.int .i64 f.t.prev) = x := ⟨_, rfl⟩
  have h6 : w6.heap[T]? = some (.cells #[.int .i64 f.t.kind, .int .i64 f.t.key, .int .i64 f.t.val, .int .i64 f.t.node, .int .i64 f.t.pc, .int .i64 f.t.prev, .int .i64 f0.t.cur, .int .i64 f0.t.next, .int .i64 f0.t.mark, .bool f0.t.done, .int .i64 f0.t.ans, .int .i64 f0.bg, .int .i64 f0.nd] 50 (0, 0)) := by rw [← hw6, setCell_eq_setRow w5 T 5 _ _ (0, 0) _ h5, setRow_heap w5 T _ _ _ _ h5]; rfl
  rw [hw6]
  obtain ⟨w7, hw7⟩ : ∃ x, w6.setCell ⟨T, 6, none⟩ (.int .i64 f.t.cur) = x := ⟨_, rfl⟩
  have h7 : w7.heap[T]? = some (.cells #[.int .i64 f.t.kind, .int .i64 f.t.key, .int .i64 f.t.val, .int .i64 f.t.node, .int .i64 f.t.pc, .int .i64 f.t.prev, .int .i64 f.t.cur, .int .i64 f0.t.next, .int .i64 f0.t.mark, .bool f0.t.done, .int .i64 f0.t.ans, .int .i64 f0.bg, .int .i64 f0.nd] 50 (0, 0)) := by rw [← hw7, setCell_eq_setRow w6 T 6 _ _ (0, 0) _ h6, setRow_heap w6 T _ _ _ _ h6]; rfl
  rw [hw7]
  obtain ⟨w8, hw8⟩ : ∃ x, w7.setCell ⟨T, 7, none⟩ (.int .i64 f.t.next) = x := ⟨_, rfl⟩
  have h8 : w8.heap[T]? = some (.cells #[.int .i64 f.t.kind, .int .i64 f.t.key, .int .i64 f.t.val, .int .i64 f.t.node, .int .i64 f.t.pc, .int .i64 f.t.prev, .int .i64 f.t.cur, .int .i64 f.t.next, .int .i64 f0.t.mark, .bool f0.t.done, .int .i64 f0.t.ans, .int .i64 f0.bg, .int .i64 f0.nd] 50 (0, 0)) := by rw [← hw8, setCell_eq_setRow w7 T 7 _ _ (0, 0) _ h7, setRow_heap w7 T _ _ _ _ h7]; rfl
  rw [hw8]
  obtain ⟨w9, hw9⟩ : ∃ x, w8.setCell ⟨T, 8, none⟩ (.int .i64 f.t.mark) = x := ⟨_, rfl⟩
  have h9 : w9.heap[T]? = some (.cells #[.int .i64 f.t.kind, .int .i64 f.t.key, .int .i64 f.t.val, .int .i64 f.t.node, .int .i64 f.t.pc, .int .i64 f.t.prev, .int .i64 f.t.cur, .int .i64 f.t.next, .int .i64 f.t.mark, .bool f0.t.done, .int .i64 f0.t.ans, .int .i64 f0.bg, .int .i64 f0.nd] 50 (0, 0)) := by rw [← hw9, setCell_eq_setRow w8 T 8 _ _ (0, 0) _ h8, setRow_heap w8 T _ _ _ _ h8]; rfl
  rw [hw9]
  obtain ⟨w10, hw10⟩ : ∃ x, w9.setCell ⟨T, 9, none⟩ (.bool f.t.done) = x := ⟨_, rfl⟩
  have h10 : w10.heap[T]? = some (.cells #[.int .i64 f.t.kind, .int .i64 f.t.key, .int .i64 f.t.val, .int .i64 f.t.node, .int .i64 f.t.pc, .int .i64 f.t.prev, .int .i64 f.t.cur, .int .i64 f.t.next, .int .i64 f.t.mark, .bool f.t.done, .int .i64 f0.t.ans, .int .i64 f0.bg, .int .i64 f0.nd] 50 (0, 0)) := by rw [← hw10, setCell_eq_setRow w9 T 9 _ _ (0, 0) _ h9, setRow_heap w9 T _ _ _ _ h9]; rfl
  rw [hw10]
  obtain ⟨w11, hw11⟩ : ∃ x, w10.setCell ⟨T, 10, none⟩ (.int .i64 f.t.ans) = x := ⟨_, rfl⟩
  have h11 : w11.heap[T]? = some (.cells #[.int .i64 f.t.kind, .int .i64 f.t.key, .int .i64 f.t.val, .int .i64 f.t.node, .int .i64 f.t.pc, .int .i64 f.t.prev, .int .i64 f.t.cur, .int .i64 f.t.next, .int .i64 f.t.mark, .bool f.t.done, .int .i64 f.t.ans, .int .i64 f0.bg, .int .i64 f0.nd] 50 (0, 0)) := by rw [← hw11, setCell_eq_setRow w10 T 10 _ _ (0, 0) _ h10, setRow_heap w10 T _ _ _ _ h10]; rfl
  rw [hw11]
  obtain ⟨w12, hw12⟩ : ∃ x, w11.setCell ⟨T, 11, none⟩ (.int .i64 f.bg) = x := ⟨_, rfl⟩
  have h12 : w12.heap[T]? = some (.cells #[.int .i64 f.t.kind, .int .i64 f.t.key, .int .i64 f.t.val, .int .i64 f.t.node, .int .i64 f.t.pc, .int .i64 f.t.prev, .int .i64 f.t.cur, .int .i64 f.t.next, .int .i64 f.t.mark, .bool f.t.done, .int .i64 f.t.ans, .int .i64 f.bg, .int .i64 f0.nd] 50 (0, 0)) := by rw [← hw12, setCell_eq_setRow w11 T 11 _ _ (0, 0) _ h11, setRow_heap w11 T _ _ _ _ h11]; rfl
  rw [hw12]
  obtain ⟨w13, hw13⟩ : ∃ x, w12.setCell ⟨T, 12, none⟩ (.int .i64 f.nd) = x := ⟨_, rfl⟩
  have h13 : w13.heap[T]? = some (.cells #[.int .i64 f.t.kind, .int .i64 f.t.key, .int .i64 f.t.val, .int .i64 f.t.node, .int .i64 f.t.pc, .int .i64 f.t.prev, .int .i64 f.t.cur, .int .i64 f.t.next, .int .i64 f.t.mark, .bool f.t.done, .int .i64 f.t.ans, .int .i64 f.bg, .int .i64 f.nd] 50 (0, 0)) := by rw [← hw13, setCell_eq_setRow w12 T 12 _ _ (0, 0) _ h12, setRow_heap w12 T _ _ _ _ h12]; rfl
  rw [hw13]
  exact h13

theorem put13_other (w : World) (T : Nat) (f : Cl) {j : Nat} (hj : j ≠ T) : (put13 w T f).heap[j]? = w.heap[j]? := by
  unfold put13
  simp only [heap_setCell_other _ ⟨T, _, none⟩ j _ hj]
theorem below_cell {B : Nat} {w0 w : World} {T : Nat} (hT : B ≤ T) (i : Nat) (v : Value) (hb : Below B w0 w) : Below B w0 (w.setCell ⟨T, i, none⟩ v) :=
  hb.trans ⟨rfl, rfl, rfl, by simp [World.setCell], fun k hk => heap_setCell_other w ⟨T, i, none⟩ k v (by show k ≠ T; omega)⟩
theorem put13_below {B : Nat} {w0 w : World} {T : Nat} (hb : Below B w0 w) (hT : B ≤ T) (f : Cl) : Below B w0 (put13 w T f) := by
  unfold put13
  exact below_cell hT _ _ (below_cell hT _ _ (below_cell hT _ _ (below_cell hT _ _ (below_cell hT _ _ (below_cell hT _ _ (below_cell hT _ _ (below_cell hT _ _ (below_cell hT _ _ (below_cell hT _ _ (below_cell hT _ _ (below_cell hT _ _ (below_cell hT _ _ (hb)))))))))))))
end Go.Proofs.Ytogfkbkfcelgcao
