/- Rows of fields: two texts an element. Plain lemmas, no program. Written by mkflds.py. -/
import Derived.Test.YtbcjkinalghokafDoorInts
import Derived.Deep.MidRow
namespace Go.Proofs.YtbcjkinalghokafDoor
open Go.RowKit

def fdCells (f : ByteArray × ByteArray) : List Value := [.string f.1, .string f.2]
def fdl (L : List (ByteArray × ByteArray)) : List Value := L.flatMap fdCells
theorem fdl_length (L : List (ByteArray × ByteArray)) : (fdl L).length = L.length * 2 := by
  induction L with
  | nil => rfl
  | cons f L ih => simp [fdl, fdCells] at *; omega
theorem fdl_cons (f : ByteArray × ByteArray) (L : List (ByteArray × ByteArray)) : fdl (f :: L) = fdCells f ++ fdl L := by simp [fdl]
theorem fdl_at : ∀ (L : List (ByteArray × ByteArray)) (j : Nat) (h : j < L.length), (fdl L)[2 * j]? = some (.string L[j].1) ∧ (fdl L)[2 * j + 1]? = some (.string L[j].2)
  | [], j, h => by simp at h
  | f :: L, 0, h => by simp [fdl_cons, fdCells]
  | f :: L, j + 1, h => by
    have ih := fdl_at L j (by simpa using h)
    have e : ∀ k, 2 * (j + 1) + k = (2 * j + k) + 2 := fun k => by omega
    rw [fdl_cons]
    refine ⟨?_, ?_⟩
    · rw [show 2 * (j + 1) = 2 * j + 2 by omega]; simpa [fdCells] using ih.1
    · rw [e 1]; simpa [fdCells] using ih.2
theorem fdl_set : ∀ (L : List (ByteArray × ByteArray)) (j : Nat) (f : ByteArray × ByteArray), ((fdl L).set (j * 2) (.string f.1)).set (j * 2 + 1) (.string f.2) = fdl (L.set j f)
  | [], j, f => by simp [fdl]
  | g :: L, 0, f => by simp [fdl_cons, fdCells]
  | g :: L, j + 1, f => by
    have ih := fdl_set L j f
    rw [show (j + 1) * 2 = j * 2 + 1 + 1 by omega, fdl_cons, List.set_cons_succ, fdl_cons, ← ih]
    simp [fdCells]

/-- The pairs L lie at the address a, below the block B. -/
def DAt (w : World) (a : Option Addr) (L : List (ByteArray × ByteArray)) (B : Nat) : Prop :=
  ∀ j (hj : j < L.length), ∃ g off, a = some ⟨g, off, none⟩ ∧ g < B ∧ w.cell? ⟨g, off + j * 2, none⟩ = some (.string L[j].1) ∧ w.cell? ⟨g, off + j * 2 + 1, none⟩ = some (.string L[j].2)
/-- The slice value v owns the pairs L. -/
def OwnD (w : World) (base : Nat) (e : TypeId) (v : Value) (L : List (ByteArray × ByteArray)) : Prop := w.ownsRow base e 2 v L.length (fdl L)
theorem OwnD.lt {w : World} {base : Nat} {e : TypeId} {v : Value} {L : List (ByteArray × ByteArray)} (h : OwnD w base e v L) (k : Nat) (hk : v.ownBlock = some k) : base ≤ k ∧ k < w.heap.size := World.ownsRow.lt h k hk
theorem OwnD.alloc {w : World} {base : Nat} {e : TypeId} {v : Value} {L : List (ByteArray × ByteArray)} (h : OwnD w base e v L) (o : Obj) : OwnD (w.alloc o) base e v L := World.ownsRow.alloc h o
theorem OwnD.mono {w : World} {base base' : Nat} {e : TypeId} {v : Value} {L : List (ByteArray × ByteArray)} (h : OwnD w base e v L) (hb : base' ≤ base) : OwnD w base' e v L := by
  refine ⟨h.1, ?_⟩
  rcases h.2 with h | ⟨g, cap, cur, hv, hg, rest⟩
  · exact .inl h
  · exact .inr ⟨g, cap, cur, hv, Nat.le_trans hb hg, rest⟩
theorem OwnD.kept {w w' : World} {base : Nat} {e : TypeId} {v : Value} {L : List (ByteArray × ByteArray)} (h : OwnD w base e v L) (hk : ∀ k, v.ownBlock = some k → w'.heap[k]? = w.heap[k]?) : OwnD w' base e v L := by
  refine ⟨h.1, ?_⟩
  rcases h.2 with hn | ⟨g, cap, cur, rfl, hb, hg, rest⟩
  · exact .inl hn
  · exact .inr ⟨g, cap, cur, rfl, hb, by rw [hk g rfl]; exact hg, rest⟩
theorem OwnD.below {w w' : World} {B base : Nat} {e : TypeId} {v : Value} {L : List (ByteArray × ByteArray)} (h : OwnD w base e v L) (hb : Below B w w') (hB : w.heap.size ≤ B) : OwnD w' base e v L :=
  h.kept fun k hk => hb.block k (Nat.lt_of_lt_of_le (h.lt k hk).2 hB)
theorem OwnD.grown {w w' : World} {row : Option Nat} {base : Nat} {e : TypeId} {v : Value} {L : List (ByteArray × ByteArray)} (h : OwnD w base e v L) (hb : w.grownBy w' row) (hne : ∀ k, v.ownBlock = some k → row ≠ some k) : OwnD w' base e v L :=
  h.kept fun k hk => hb.block k (h.lt k hk).2 (fun e => hne k hk e.symm)
theorem OwnD.at {w : World} {base : Nat} {e : TypeId} {v : Value} {L : List (ByteArray × ByteArray)} (h : OwnD w base e v L) : ∃ a cap, v = .slice a L.length cap ∧ DAt w a L w.heap.size := by
  have h0 := h
  rcases h.2 with ⟨rfl, hn⟩ | ⟨g, cap, cur, rfl, hb, hg, h1, h2, h3, h4⟩
  · have hx : L = [] := List.length_eq_zero_iff.1 hn
    subst hx
    exact ⟨none, 0, rfl, fun j hj => by simp at hj⟩
  · have hgs := (Array.getElem?_eq_some_iff.1 hg).1
    refine ⟨_, _, rfl, fun j hj => ⟨g, 0, rfl, hgs, ?_⟩⟩
    have := fdl_at L j hj
    rw [World.ownsRow.cellAt h0 (0 + j * 2) (by omega), World.ownsRow.cellAt h0 (0 + j * 2 + 1) (by omega)]
    rw [show 0 + j * 2 = 2 * j by omega]
    exact this
/-- Its cells are there, and may be written. -/
theorem OwnD.there {w : World} {base : Nat} {e : TypeId} {g n cap : Nat} {L : List (ByteArray × ByteArray)} (h : OwnD w base e (.slice (some ⟨g, 0, none⟩) n cap) L) (hn : n = L.length) (i : Nat) : w.frozen? ⟨g, i, none⟩ = false := by
  subst hn
  exact World.ownsRow.frozenAt h i
/-- A store of a whole pair. -/
theorem OwnD.stored {w : World} {base : Nat} {e : TypeId} {g n cap : Nat} {L : List (ByteArray × ByteArray)} (h : OwnD w base e (.slice (some ⟨g, 0, none⟩) n cap) L) (hn : n = L.length) (j : Nat) (f : ByteArray × ByteArray) :
    OwnD ((w.setCell ⟨g, j * 2, none⟩ (.string f.1)).setCell ⟨g, j * 2 + 1, none⟩ (.string f.2)) base e (.slice (some ⟨g, 0, none⟩) n cap) (L.set j f) ∧
      w.grownBy ((w.setCell ⟨g, j * 2, none⟩ (.string f.1)).setCell ⟨g, j * 2 + 1, none⟩ (.string f.2)) (some g) := by
  subst hn
  have h0 := World.ownsRow.stored h (j * 2) (.string f.1)
  have h1 := World.ownsRow.stored h0.1 (j * 2 + 1) (.string f.2)
  rw [fdl_set] at h1
  refine ⟨?_, grownBy_trans h0.2 (h1.2)⟩
  unfold OwnD
  rw [List.length_set]
  exact h1.1

/-- 'append(v, f)' of one pair onto pairs that are owned. -/
theorem wpList_snocD {P : Program} {ops : Array Oper} {rest : List Oper} {o : Oper} {a : Act} {Q : Exit → Act → World → Prop} {wr : World} (hgd : o.guard = none) (s x : Operand) (t : TypeId)
    (ho : o.op = .call { callee := .builtin .append, args := #[s, x], argTypes := #[t, t] }) (base : Nat) (e : TypeId) (ht : P.underlying t = some (.slice e))
    (hinfo : (P.info? e).map (fun i => (i.zero, i.size, i.bytes)) = some (some (.agg #[.string ⟨#[]⟩, .string ⟨#[]⟩]), 2, 32)) (v : Value) (L : List (ByteArray × ByteArray)) (hs : a.eval s = v) (hown : OwnD wr base e v L)
    (f : ByteArray × ByteArray) (S : Nat) (hx : a.eval x = .slice (some ⟨S, 0, none⟩) 1 1) (hS : wr.heap.size = S) (hlen : L.length < 10000000) (hbase : base ≤ wr.heap.size)
    (h : ∀ v' w', OwnD w' base e v' (L ++ [f]) → (wr.alloc (.cells #[.string f.1, .string f.2] e)).grownBy w' v.ownBlock → wpList P ops Q rest (a.put o.dst v') w') :
    wpList P ops Q (o :: rest) a (wr.alloc (.cells #[.string f.1, .string f.2] e)) := by
  subst hS
  obtain ⟨i0, hi, hz0, hz1, hz2⟩ := info_parts hinfo
  refine wpList_append_own _ hgd s x t ho base e i0 _ 2 32 ht hi hz0 hz1 hz2 rfl (by decide) v L.length (fdl L) hs (World.ownsRow.alloc hown _) ⟨wr.heap.size, 0, none⟩ 1 1 (fdl [f]) hx rfl (fun j u hu => World.news_of_block (heap_alloc_new wr _) j u (by simpa [fdl, fdCells] using hu)) ?_ (by unfold maxLen; omega) (by omega) (by simp; omega) ?_
  · intro u hu
    simp [fdl, fdCells] at hu
    rcases hu with rfl | rfl <;> rfl
  · intro v' w' h1 h2 _
    refine h v' w' ?_ h2
    unfold OwnD
    rw [show fdl (L ++ [f]) = fdl L ++ fdl [f] by simp [fdl], List.length_append, List.length_singleton]
    exact h1

theorem fdl_one' (L : List (ByteArray × ByteArray)) : ∀ u ∈ fdl L, u.oneCell' = true := by
  intro u hu
  simp only [fdl, List.mem_flatMap, fdCells, List.mem_cons, List.not_mem_nil, or_false] at hu
  obtain ⟨f, _, rfl | rfl⟩ := hu <;> rfl
/-- 'append(v, all...)' of pairs onto pairs that are owned. -/
theorem wpList_allD {P : Program} {ops : Array Oper} {rest : List Oper} {o : Oper} {a : Act} {Q : Exit → Act → World → Prop} {w : World} (hgd : o.guard = none) (s x : Operand) (t : TypeId)
    (ho : o.op = .call { callee := .builtin .append, args := #[s, x], argTypes := #[t, t] }) (base : Nat) (e : TypeId) (ht : P.underlying t = some (.slice e))
    (hinfo : (P.info? e).map (fun i => (i.zero, i.size, i.bytes)) = some (some (.agg #[.string ⟨#[]⟩, .string ⟨#[]⟩]), 2, 32)) (v : Value) (hs : a.eval s = v) (hown : OwnD w base e v [])
    (ad : Addr) (cap : Nat) (l : List (ByteArray × ByteArray)) (B : Nat) (hx : a.eval x = .slice (some ad) l.length cap) (hI : DAt w (some ad) l B) (hlen : l.length ≤ 1048576) (hbase : base ≤ w.heap.size)
    (h : ∀ v' w', OwnD w' base e v' l → w.grownBy w' v.ownBlock → wpList P ops Q rest (a.put o.dst v') w') :
    wpList P ops Q (o :: rest) a w := by
  obtain ⟨i0, hi, hz0, hz1, hz2⟩ := info_parts hinfo
  refine wpList_append_own _ hgd s x t ho base e i0 _ 2 32 ht hi hz0 hz1 hz2 rfl (by decide) v 0 [] hs hown ad l.length cap (fdl l) hx (fdl_length l) ?_ (fdl_one' l) (by unfold maxLen; omega) (by omega) hbase ?_
  · intro j u hu
    obtain ⟨hj, _⟩ := List.getElem?_eq_some_iff.1 hu
    rw [fdl_length] at hj
    obtain ⟨g, off, ha, _, hc0, hc1⟩ := hI (j / 2) (by omega)
    simp only [Option.some.injEq] at ha
    subst ha
    have hat := fdl_at l (j / 2) (by omega)
    rw [Addr.add_mid]
    rcases (by omega : j % 2 = 0 ∨ j % 2 = 1) with h | h
    · have e : j = 2 * (j / 2) := by omega
      rw [e, hat.1] at hu
      rw [show off + j = off + j / 2 * 2 by omega, hc0]
      exact hu
    · have e : j = 2 * (j / 2) + 1 := by omega
      rw [e, hat.2] at hu
      rw [show off + j = off + j / 2 * 2 + 1 by omega, hc1]
      exact hu
  · intro v' w' h1 h2 _
    refine h v' w' ?_ h2
    unfold OwnD
    simpa using h1
theorem DAt.below {w w' : World} {a : Option Addr} {L : List (ByteArray × ByteArray)} {B B' : Nat} (h : DAt w a L B) (hb : Below B' w w') (hB : B ≤ B') : DAt w' a L B := by
  intro j hj
  obtain ⟨g, off, ha, hg, h0, h1⟩ := h j hj
  have hl := Nat.lt_of_lt_of_le hg hB
  exact ⟨g, off, ha, hg, (hb.cell hl).trans h0, (hb.cell hl).trans h1⟩
theorem DAt.on {w w' : World} {a : Option Addr} {L : List (ByteArray × ByteArray)} (h : DAt w a L w.heap.size) (hb : Below w.heap.size w w') : DAt w' a L w'.heap.size := by
  intro j hj
  obtain ⟨g, off, ha, hg, r⟩ := (h.below hb (Nat.le_refl _)) j hj
  exact ⟨g, off, ha, Nat.lt_of_lt_of_le hg hb.size, r⟩
end Go.Proofs.YtbcjkinalghokafDoor
