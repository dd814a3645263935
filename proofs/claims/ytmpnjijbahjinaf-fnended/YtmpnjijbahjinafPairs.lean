/- Rows of pairs: two cells an element. Plain lemmas, no program. -/
import Derived.Test.YtmpnjijbahjinafInts
import Derived.Deep.MidRow
namespace Go.Proofs.Ytmpnjijbahjinaf
open Go.RowKit

def prCells (f : Int × Int) : List Value := [.int .i64 f.1, .int .i64 f.2]
def prl (L : List (Int × Int)) : List Value := L.flatMap prCells
theorem prl_length (L : List (Int × Int)) : (prl L).length = L.length * 2 := by
  induction L with
  | nil => rfl
  | cons f L ih => simp [prl, prCells] at *; omega
theorem prl_cons (f : Int × Int) (L : List (Int × Int)) : prl (f :: L) = prCells f ++ prl L := by simp [prl]
theorem prl_at : ∀ (L : List (Int × Int)) (j : Nat) (h : j < L.length), (prl L)[2 * j]? = some (.int .i64 L[j].1) ∧ (prl L)[2 * j + 1]? = some (.int .i64 L[j].2)
  | [], j, h => by simp at h
  | f :: L, 0, h => by simp [prl_cons, prCells]
  | f :: L, j + 1, h => by
    have ih := prl_at L j (by simpa using h)
    have e : ∀ k, 2 * (j + 1) + k = (2 * j + k) + 2 := fun k => by omega
    rw [prl_cons]
    refine ⟨?_, ?_⟩
    · rw [show 2 * (j + 1) = 2 * j + 2 by omega]; simpa [prCells] using ih.1
    · rw [e 1]; simpa [prCells] using ih.2
theorem prl_set : ∀ (L : List (Int × Int)) (j : Nat) (f : Int × Int), ((prl L).set (j * 2) (.int .i64 f.1)).set (j * 2 + 1) (.int .i64 f.2) = prl (L.set j f)
  | [], j, f => by simp [prl]
  | g :: L, 0, f => by simp [prl_cons, prCells]
  | g :: L, j + 1, f => by
    have ih := prl_set L j f
    rw [show (j + 1) * 2 = j * 2 + 1 + 1 by omega, prl_cons, List.set_cons_succ, prl_cons, ← ih]
    simp [prCells]

/-- The pairs L lie at the address a, below the block B. -/
def PAt (w : World) (a : Option Addr) (L : List (Int × Int)) (B : Nat) : Prop :=
  ∀ j (hj : j < L.length), ∃ g off, a = some ⟨g, off, none⟩ ∧ g < B ∧ w.cell? ⟨g, off + j * 2, none⟩ = some (.int .i64 L[j].1) ∧ w.cell? ⟨g, off + j * 2 + 1, none⟩ = some (.int .i64 L[j].2)
/-- The slice value v owns the pairs L. -/
def OwnP (w : World) (base : Nat) (e : TypeId) (v : Value) (L : List (Int × Int)) : Prop := w.ownsRow base e 2 v L.length (prl L)
theorem OwnP.lt {w : World} {base : Nat} {e : TypeId} {v : Value} {L : List (Int × Int)} (h : OwnP w base e v L) (k : Nat) (hk : v.ownBlock = some k) : base ≤ k ∧ k < w.heap.size := World.ownsRow.lt h k hk
theorem OwnP.alloc {w : World} {base : Nat} {e : TypeId} {v : Value} {L : List (Int × Int)} (h : OwnP w base e v L) (o : Obj) : OwnP (w.alloc o) base e v L := World.ownsRow.alloc h o
theorem OwnP.mono {w : World} {base base' : Nat} {e : TypeId} {v : Value} {L : List (Int × Int)} (h : OwnP w base e v L) (hb : base' ≤ base) : OwnP w base' e v L := by
  refine ⟨h.1, ?_⟩
  rcases h.2 with h | ⟨g, cap, cur, hv, hg, rest⟩
  · exact .inl h
  · exact .inr ⟨g, cap, cur, hv, Nat.le_trans hb hg, rest⟩
theorem OwnP.kept {w w' : World} {base : Nat} {e : TypeId} {v : Value} {L : List (Int × Int)} (h : OwnP w base e v L) (hk : ∀ k, v.ownBlock = some k → w'.heap[k]? = w.heap[k]?) : OwnP w' base e v L := by
  refine ⟨h.1, ?_⟩
  rcases h.2 with hn | ⟨g, cap, cur, rfl, hb, hg, rest⟩
  · exact .inl hn
  · exact .inr ⟨g, cap, cur, rfl, hb, by rw [hk g rfl]; exact hg, rest⟩
theorem OwnP.below {w w' : World} {B base : Nat} {e : TypeId} {v : Value} {L : List (Int × Int)} (h : OwnP w base e v L) (hb : Below B w w') (hB : w.heap.size ≤ B) : OwnP w' base e v L :=
  h.kept fun k hk => hb.block k (Nat.lt_of_lt_of_le (h.lt k hk).2 hB)
theorem OwnP.grown {w w' : World} {row : Option Nat} {base : Nat} {e : TypeId} {v : Value} {L : List (Int × Int)} (h : OwnP w base e v L) (hb : w.grownBy w' row) (hne : ∀ k, v.ownBlock = some k → row ≠ some k) : OwnP w' base e v L :=
  h.kept fun k hk => hb.block k (h.lt k hk).2 (fun e => hne k hk e.symm)
theorem OwnP.at {w : World} {base : Nat} {e : TypeId} {v : Value} {L : List (Int × Int)} (h : OwnP w base e v L) : ∃ a cap, v = .slice a L.length cap ∧ PAt w a L w.heap.size := by
  have h0 := h
  rcases h.2 with ⟨rfl, hn⟩ | ⟨g, cap, cur, rfl, hb, hg, h1, h2, h3, h4⟩
  · have hx : L = [] := List.length_eq_zero_iff.1 hn
    subst hx
    exact ⟨none, 0, rfl, fun j hj => by simp at hj⟩
  · have hgs := (Array.getElem?_eq_some_iff.1 hg).1
    refine ⟨_, _, rfl, fun j hj => ⟨g, 0, rfl, hgs, ?_⟩⟩
    have := prl_at L j hj
    rw [World.ownsRow.cellAt h0 (0 + j * 2) (by omega), World.ownsRow.cellAt h0 (0 + j * 2 + 1) (by omega)]
    rw [show 0 + j * 2 = 2 * j by omega]
    exact this
/-- Its cells are there, and may be written. -/
theorem OwnP.there {w : World} {base : Nat} {e : TypeId} {g n cap : Nat} {L : List (Int × Int)} (h : OwnP w base e (.slice (some ⟨g, 0, none⟩) n cap) L) (hn : n = L.length) (i : Nat) : w.frozen? ⟨g, i, none⟩ = false := by
  subst hn
  exact World.ownsRow.frozenAt h i
/-- A store of a whole pair. -/
theorem OwnP.stored {w : World} {base : Nat} {e : TypeId} {g n cap : Nat} {L : List (Int × Int)} (h : OwnP w base e (.slice (some ⟨g, 0, none⟩) n cap) L) (hn : n = L.length) (j : Nat) (f : Int × Int) :
    OwnP ((w.setCell ⟨g, j * 2, none⟩ (.int .i64 f.1)).setCell ⟨g, j * 2 + 1, none⟩ (.int .i64 f.2)) base e (.slice (some ⟨g, 0, none⟩) n cap) (L.set j f) ∧
      w.grownBy ((w.setCell ⟨g, j * 2, none⟩ (.int .i64 f.1)).setCell ⟨g, j * 2 + 1, none⟩ (.int .i64 f.2)) (some g) := by
  subst hn
  have h0 := World.ownsRow.stored h (j * 2) (.int .i64 f.1)
  have h1 := World.ownsRow.stored h0.1 (j * 2 + 1) (.int .i64 f.2)
  rw [prl_set] at h1
  refine ⟨?_, grownBy_trans h0.2 (h1.2)⟩
  unfold OwnP
  rw [List.length_set]
  exact h1.1

/-- 'append(v, f)' of one pair onto pairs that are owned. -/
theorem wpList_snocP {P : Program} {ops : Array Oper} {rest : List Oper} {o : Oper} {a : Act} {Q : Exit → Act → World → Prop} {wr : World} (hgd : o.guard = none) (s x : Operand) (t : TypeId)
    (ho : o.op = .call { callee := .builtin .append, args := #[s, x], argTypes := #[t, t] }) (base : Nat) (e : TypeId) (ht : P.underlying t = some (.slice e))
    (hinfo : (P.info? e).map (fun i => (i.zero, i.size, i.bytes)) = some (some (.agg #[.int .i64 0, .int .i64 0]), 2, 16)) (v : Value) (L : List (Int × Int)) (hs : a.eval s = v) (hown : OwnP wr base e v L)
    (f : Int × Int) (S : Nat) (hx : a.eval x = .slice (some ⟨S, 0, none⟩) 1 1) (hS : wr.heap.size = S) (hlen : L.length < 10000000) (hbase : base ≤ wr.heap.size)
    (h : ∀ v' w', OwnP w' base e v' (L ++ [f]) → (wr.alloc (.cells #[.int .i64 f.1, .int .i64 f.2] e)).grownBy w' v.ownBlock → wpList P ops Q rest (a.put o.dst v') w') :
    wpList P ops Q (o :: rest) a (wr.alloc (.cells #[.int .i64 f.1, .int .i64 f.2] e)) := by
  subst hS
  obtain ⟨i0, hi, hz0, hz1, hz2⟩ := info_parts hinfo
  refine wpList_append_own _ hgd s x t ho base e i0 _ 2 16 ht hi hz0 hz1 hz2 rfl (by decide) v L.length (prl L) hs (World.ownsRow.alloc hown _) ⟨wr.heap.size, 0, none⟩ 1 1 (prl [f]) hx rfl (fun j u hu => World.news_of_block (heap_alloc_new wr _) j u (by simpa [prl, prCells] using hu)) ?_ (by unfold maxLen; omega) (by omega) (by simp; omega) ?_
  · intro u hu
    simp [prl, prCells] at hu
    rcases hu with rfl | rfl <;> rfl
  · intro v' w' h1 h2 _
    refine h v' w' ?_ h2
    unfold OwnP
    rw [show prl (L ++ [f]) = prl L ++ prl [f] by simp [prl], List.length_append, List.length_singleton]
    exact h1

theorem prl_one' (L : List (Int × Int)) : ∀ u ∈ prl L, u.oneCell' = true := by
  intro u hu
  simp only [prl, List.mem_flatMap, prCells, List.mem_cons, List.not_mem_nil, or_false] at hu
  obtain ⟨f, _, rfl | rfl⟩ := hu <;> rfl
/-- 'append(v, all...)' of pairs onto pairs that are owned. -/
theorem wpList_allP {P : Program} {ops : Array Oper} {rest : List Oper} {o : Oper} {a : Act} {Q : Exit → Act → World → Prop} {w : World} (hgd : o.guard = none) (s x : Operand) (t : TypeId)
    (ho : o.op = .call { callee := .builtin .append, args := #[s, x], argTypes := #[t, t] }) (base : Nat) (e : TypeId) (ht : P.underlying t = some (.slice e))
    (hinfo : (P.info? e).map (fun i => (i.zero, i.size, i.bytes)) = some (some (.agg #[.int .i64 0, .int .i64 0]), 2, 16)) (v : Value) (hs : a.eval s = v) (hown : OwnP w base e v [])
    (ad : Addr) (cap : Nat) (l : List (Int × Int)) (B : Nat) (hx : a.eval x = .slice (some ad) l.length cap) (hI : PAt w (some ad) l B) (hlen : l.length ≤ 1048576) (hbase : base ≤ w.heap.size)
    (h : ∀ v' w', OwnP w' base e v' l → w.grownBy w' v.ownBlock → wpList P ops Q rest (a.put o.dst v') w') :
    wpList P ops Q (o :: rest) a w := by
  obtain ⟨i0, hi, hz0, hz1, hz2⟩ := info_parts hinfo
  refine wpList_append_own _ hgd s x t ho base e i0 _ 2 16 ht hi hz0 hz1 hz2 rfl (by decide) v 0 [] hs hown ad l.length cap (prl l) hx (prl_length l) ?_ (prl_one' l) (by unfold maxLen; omega) (by omega) hbase ?_
  · intro j u hu
    obtain ⟨hj, _⟩ := List.getElem?_eq_some_iff.1 hu
    rw [prl_length] at hj
    obtain ⟨g, off, ha, _, hc0, hc1⟩ := hI (j / 2) (by omega)
    simp only [Option.some.injEq] at ha
    subst ha
    have hat := prl_at l (j / 2) (by omega)
    rw [Addr.add_mid]
    rcases (by omega : j % 2 = 0 ∨ j % 2 = 1) with h | h
    · have e : j = 2 * (j / 2) := by omega
      rw [e, hat.1] at hu
      rw [show off + j = off + j / 2 * 2 by omega, hc0]
      exact hu
    · have e : j = 2 * (j / 2) + 1 := by omega
      rw [e, hat.2] at hu
      rw [show off + j = off + j / 2 * 2 + 1 by omega, hc1]
      exact hu
  · intro v' w' h1 h2 _
    refine h v' w' ?_ h2
    unfold OwnP
    simpa using h1
theorem PAt.below {w w' : World} {a : Option Addr} {L : List (Int × Int)} {B B' : Nat} (h : PAt w a L B) (hb : Below B' w w') (hB : B ≤ B') : PAt w' a L B := by
  intro j hj
  obtain ⟨g, off, ha, hg, h0, h1⟩ := h j hj
  have hl := Nat.lt_of_lt_of_le hg hB
  exact ⟨g, off, ha, hg, (hb.cell hl).trans h0, (hb.cell hl).trans h1⟩
theorem PAt.on {w w' : World} {a : Option Addr} {L : List (Int × Int)} (h : PAt w a L w.heap.size) (hb : Below w.heap.size w w') : PAt w' a L w'.heap.size := by
  intro j hj
  obtain ⟨g, off, ha, hg, r⟩ := (h.below hb (Nat.le_refl _)) j hj
  exact ⟨g, off, ha, Nat.lt_of_lt_of_le hg hb.size, r⟩
end Go.Proofs.Ytmpnjijbahjinaf
