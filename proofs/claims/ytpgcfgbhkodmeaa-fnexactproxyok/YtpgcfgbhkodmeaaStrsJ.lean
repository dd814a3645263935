/- Texts that stand in one: Strs, PolKit, MarkInts. -/
import Derived.Test.YtpgcfgbhkodmeaaRowedJ
import Derived.Test.YtpgcfgbhkodmeaaSkBaseJ
import Derived.Test.YtpgcfgbhkodmeaaSkKit
namespace Go.Proofs.Ytpgcfgbhkodmeaa
open Go.RowKit
/-- The texts L lie at the address a, below the block B. -/
def LAt (w : World) (a : Option Addr) (L : List ByteArray) (B : Nat) : Prop :=
  ∀ j (hj : j < L.length), ∃ g off, a = some ⟨g, off, none⟩ ∧ g < B ∧ w.cell? ⟨g, off + j, none⟩ = some (.string L[j])
theorem LAt.below {w w' : World} {a : Option Addr} {L : List ByteArray} {B B' : Nat} (h : LAt w a L B) (hb : Below B' w w') (hB : B ≤ B') : LAt w' a L B := by
  intro j hj
  obtain ⟨g, off, ha, hg, h1⟩ := h j hj
  exact ⟨g, off, ha, hg, (hb.cell (Nat.lt_of_lt_of_le hg hB)).trans h1⟩
theorem LAt.mono {w : World} {a : Option Addr} {L : List ByteArray} {B B' : Nat} (h : LAt w a L B) (hB : B ≤ B') : LAt w a L B' := by
  intro j hj
  obtain ⟨g, off, ha, hg, r⟩ := h j hj
  exact ⟨g, off, ha, Nat.lt_of_lt_of_le hg hB, r⟩
theorem LAt.on {w w' : World} {a : Option Addr} {L : List ByteArray} (h : LAt w a L w.heap.size) (hb : Below w.heap.size w w') : LAt w' a L w'.heap.size := (h.below hb (Nat.le_refl _)).mono hb.size
theorem OwnV.strsAt {w : World} {base : Nat} {e : TypeId} {v : Value} {L : List ByteArray} (h : OwnV w base e v (strs L)) : ∃ a cap, v = .slice a L.length cap ∧ LAt w a L w.heap.size := by
  obtain ⟨a, cap, hv, hc⟩ := h.shape
  rw [strs_length] at hv
  refine ⟨a, cap, hv, fun j hj => ?_⟩
  obtain ⟨g, ha, hcell, _, _, hg⟩ := hc j (by rw [strs_length]; exact hj)
  rw [strs_at hj] at hcell
  exact ⟨g, 0, ha, hg, by simpa using hcell⟩
end Go.Proofs.Ytpgcfgbhkodmeaa

namespace Go.Proofs.Ytpgcfgbhkodmeaa
open Go.RowKit

/-- A policy in a variable. -/
def PBox (w : World) (T : Nat) (a b c d : Value) : Prop := w.heap[T]? = some (.cells #[a, b, c, d] 38 (0, 0))
theorem PBox.lt {w : World} {T : Nat} {a b c d : Value} (h : PBox w T a b c d) : T < w.heap.size := (Array.getElem?_eq_some_iff.1 h).1
theorem PBox.new (w : World) (a b c d : Value) : PBox (w.alloc (.cells #[a, b, c, d] 38)) w.heap.size a b c d := heap_alloc_new w _
theorem PBox.kept {w w' : World} {T : Nat} {a b c d : Value} (h : PBox w T a b c d) (hk : w'.heap[T]? = w.heap[T]?) : PBox w' T a b c d := hk.trans h
theorem PBox.on {w w' : World} {T : Nat} {a b c d : Value} (h : PBox w T a b c d) (hb : Below w.heap.size w w') : PBox w' T a b c d := h.kept (hb.block T h.lt)
theorem PBox.thaw {w : World} {T : Nat} {a b c d : Value} (h : PBox w T a b c d) (i : Nat) : w.frozen? ⟨T, i, none⟩ = false := by
  unfold PBox at h
  simp [World.frozen?, h]
theorem PBox.cells {w : World} {T : Nat} {a b c d : Value} (h : PBox w T a b c d) : w.cell? ⟨T, 0, none⟩ = some a ∧ w.cell? ⟨T, 1, none⟩ = some b ∧ w.cell? ⟨T, 2, none⟩ = some c ∧ w.cell? ⟨T, 3, none⟩ = some d := by
  unfold PBox at h
  refine ⟨?_, ?_, ?_, ?_⟩
  · rw [cell_of_row w T 0 _ _ (0, 0) h]; rfl
  · rw [cell_of_row w T 1 _ _ (0, 0) h]; rfl
  · rw [cell_of_row w T 2 _ _ (0, 0) h]; rfl
  · rw [cell_of_row w T 3 _ _ (0, 0) h]; rfl
theorem PBox.set0 {w : World} {T : Nat} {a b c d : Value} (h : PBox w T a b c d) (x : Value) : PBox (w.setCell ⟨T, 0, none⟩ x) T x b c d := by
  unfold PBox at *
  simp only [World.setCell, Array.getElem?_modify, h]
  simp
theorem PBox.set1 {w : World} {T : Nat} {a b c d : Value} (h : PBox w T a b c d) (x : Value) : PBox (w.setCell ⟨T, 1, none⟩ x) T a x c d := by
  unfold PBox at *
  simp only [World.setCell, Array.getElem?_modify, h]
  simp
theorem PBox.set2 {w : World} {T : Nat} {a b c d : Value} (h : PBox w T a b c d) (x : Value) : PBox (w.setCell ⟨T, 2, none⟩ x) T a b x d := by
  unfold PBox at *
  simp only [World.setCell, Array.getElem?_modify, h]
  simp
theorem PBox.set3 {w : World} {T : Nat} {a b c d : Value} (h : PBox w T a b c d) (x : Value) : PBox (w.setCell ⟨T, 3, none⟩ x) T a b c x := by
  unfold PBox at *
  simp only [World.setCell, Array.getElem?_modify, h]
  simp
/-- Four cells of a variable are stored. -/
def put4 (w : World) (T : Nat) (x y z u : Value) : World := (((w.setCell ⟨T, 0, none⟩ x).setCell ⟨T, 1, none⟩ y).setCell ⟨T, 2, none⟩ z).setCell ⟨T, 3, none⟩ u
theorem PBox.put {w : World} {T : Nat} {a b c d : Value} (h : PBox w T a b c d) (x y z u : Value) : PBox ((((w.setCell ⟨T, 0, none⟩ x).setCell ⟨T, 1, none⟩ y).setCell ⟨T, 2, none⟩ z).setCell ⟨T, 3, none⟩ u) T x y z u := (((h.set0 x).set1 y).set2 z).set3 u
theorem put4_other (w : World) (T : Nat) (x y z u : Value) (k : Nat) (hk : k ≠ T) : ((((w.setCell ⟨T, 0, none⟩ x).setCell ⟨T, 1, none⟩ y).setCell ⟨T, 2, none⟩ z).setCell ⟨T, 3, none⟩ u).heap[k]? = w.heap[k]? := by
  rw [Below.heap_setCell _ _ _ _ (by exact hk), Below.heap_setCell _ _ _ _ (by exact hk), Below.heap_setCell _ _ _ _ (by exact hk), Below.heap_setCell _ _ _ _ (by exact hk)]
theorem Below.put4 {B : Nat} {a w : World} (h : Below B a w) {T : Nat} (hT : B ≤ T) (x y z u : Value) : Below B a ((((w.setCell ⟨T, 0, none⟩ x).setCell ⟨T, 1, none⟩ y).setCell ⟨T, 2, none⟩ z).setCell ⟨T, 3, none⟩ u) := (((h.setCell hT x).setCell hT y).setCell hT z).setCell hT u
theorem PBox.far {w : World} {T T' : Nat} {a b c d : Value} (h : PBox w T a b c d) (i : Nat) (x : Value) (hn : T ≠ T') : PBox (w.setCell ⟨T', i, none⟩ x) T a b c d := h.kept (Below.heap_setCell _ _ _ _ (by exact hn))

/-- The policy P lies in memory. -/
def PolAt (w : World) (aw am ak : Option Addr) (P : Pol) (B : Nat) : Prop := LAt w aw P.win B ∧ LAt w am P.main B ∧ SSAt w ak P.sk.rows B
theorem PolAt.on {w w' : World} {aw am ak : Option Addr} {P : Pol} (h : PolAt w aw am ak P w.heap.size) (hb : Below w.heap.size w w') : PolAt w' aw am ak P w'.heap.size := ⟨h.1.on hb, h.2.1.on hb, h.2.2.on hb⟩
theorem PolAt.below {w w' : World} {aw am ak : Option Addr} {P : Pol} {B B' : Nat} (h : PolAt w aw am ak P B) (hb : Below B' w w') (hB : B ≤ B') : PolAt w' aw am ak P B := ⟨h.1.below hb hB, h.2.1.below hb hB, h.2.2.below hb hB⟩
/-- The value v owns the policy P: its lists and rows, each in a block of its own from lo on, below hi. -/
def POwn (w : World) (lo hi : Nat) (v : Value) (P : Pol) : Prop :=
  ∃ v1 v2 v3, v = .agg #[v1, v2, v3, .int .i64 P.sk.added] ∧ OwnV w lo 9 v1 (strs P.win) ∧ OwnV w lo 9 v2 (strs P.main) ∧ (∀ k, v1.ownBlock = some k → k < hi ∧ v2.ownBlock ≠ some k) ∧ (∀ k, v2.ownBlock = some k → k < hi) ∧ OwnSS w lo hi v3 P.sk.rows
theorem POwn.at {w : World} {lo hi : Nat} {v : Value} {P : Pol} (h : POwn w lo hi v P) : ∃ aw cw am cm ak cs, v = .agg #[.slice aw P.win.length cw, .slice am P.main.length cm, .slice ak P.sk.rows.length cs, .int .i64 P.sk.added] ∧ PolAt w aw am ak P w.heap.size := by
  obtain ⟨v1, v2, v3, rfl, h1, h2, _, _, h3⟩ := h
  obtain ⟨aw, cw, rfl, hw⟩ := h1.strsAt
  obtain ⟨am, cm, rfl, hm⟩ := h2.strsAt
  obtain ⟨ak, cs, rfl, hs⟩ := h3.at
  exact ⟨aw, cw, am, cm, ak, cs, rfl, hw, hm, hs⟩
theorem POwn.mono {w : World} {lo hi lo' hi' : Nat} {v : Value} {P : Pol} (h : POwn w lo hi v P) (h1 : lo' ≤ lo) (h2 : hi ≤ hi') : POwn w lo' hi' v P := by
  obtain ⟨v1, v2, v3, rfl, a1, a2, a3, a4, a5⟩ := h
  exact ⟨v1, v2, v3, rfl, a1.mono h1, a2.mono h1, fun k hk => ⟨Nat.lt_of_lt_of_le (a3 k hk).1 h2, (a3 k hk).2⟩, fun k hk => Nat.lt_of_lt_of_le (a4 k hk) h2, a5.mono h1 h2⟩
theorem POwn.up {w : World} {lo hi : Nat} {v : Value} {P : Pol} (h : POwn w lo hi v P) : POwn w lo w.heap.size v P := by
  obtain ⟨v1, v2, v3, rfl, a1, a2, a3, a4, a5⟩ := h
  exact ⟨v1, v2, v3, rfl, a1, a2, fun k hk => ⟨(a1.lt k hk).2, (a3 k hk).2⟩, fun k hk => (a2.lt k hk).2, a5.up⟩
theorem ownV_type {w : World} {lo : Nat} {e : TypeId} {u : Value} {xs : List Value} (ho : OwnV w lo e u xs) : ∀ k, u.ownBlock = some k → ∃ cs, w.heap[k]? = some (.cells cs e (0, 0)) := by
  intro k hk
  rcases ho.2 with ⟨rfl, _⟩ | ⟨g, cap, cur, rfl, _, hg, _⟩
  · simp [Value.ownBlock] at hk
  · simp [Value.ownBlock] at hk
    subst hk
    exact ⟨_, hg⟩
/-- It stays where its blocks are as they were. -/
theorem POwn.kept {w w' : World} {lo hi : Nat} {v : Value} {P : Pol} (h : POwn w lo hi v P) (hk : ∀ k, lo ≤ k → k < hi → k < w.heap.size → (∀ c, w.heap[k]? = some c → ∃ cs e, c = .cells cs e (0, 0) ∧ e ≠ 38) → w'.heap[k]? = w.heap[k]?) : POwn w' lo hi v P := by
  obtain ⟨v1, v2, v3, rfl, a1, a2, a3, a4, a5⟩ := h
  refine ⟨v1, v2, v3, rfl, a1.kept fun k hk' => hk k (a1.lt k hk').1 (a3 k hk').1 (a1.lt k hk').2 fun c hc => ?_, a2.kept fun k hk' => hk k (a2.lt k hk').1 (a4 k hk') (a2.lt k hk').2 fun c hc => ?_, a3, a4, a5.kept fun k h1 h2 h3 h4 => hk k h1 h2 h3 fun c hc => ?_⟩
  · obtain ⟨cs, e⟩ := ownV_type a1 k hk'
    rw [e] at hc
    exact ⟨cs, 9, (Option.some.inj hc).symm, by decide⟩
  · obtain ⟨cs, e⟩ := ownV_type a2 k hk'
    rw [e] at hc
    exact ⟨cs, 9, (Option.some.inj hc).symm, by decide⟩
  · rcases h4 c hc with ⟨cs, e⟩ | ⟨cs, e⟩
    · exact ⟨cs, _, e, by decide⟩
    · exact ⟨cs, _, e, by decide⟩
theorem POwn.below {w w' : World} {B lo hi : Nat} {v : Value} {P : Pol} (h : POwn w lo hi v P) (hb : Below B w w') (hB : w.heap.size ≤ B) : POwn w' lo hi v P := h.kept fun k _ _ hk _ => hb.block k (Nat.lt_of_lt_of_le hk hB)
theorem POwn.tch {S : Nat → Prop} {w w' : World} {lo hi : Nat} {v : Value} {P : Pol} (h : POwn w lo hi v P) (ht : Tch S w w') (hn : ∀ k, S k → k < lo ∨ hi ≤ k) : POwn w' lo hi v P := h.kept fun k h1 h2 hk _ => ht.2 k hk (fun e => by have := hn k e; omega)
/-- A variable's block is none of its own. -/
theorem POwn.box {w w' : World} {lo hi T : Nat} {a b c d v : Value} {P : Pol} (h : POwn w lo hi v P) (hB : PBox w T a b c d) (hk : ∀ k, k ≠ T → w'.heap[k]? = w.heap[k]?) : POwn w' lo hi v P :=
  h.kept fun k _ _ _ hty => hk k (fun e => by
    subst e
    obtain ⟨cs, e, h1, h2⟩ := hty _ hB
    simp only [Obj.cells.injEq] at h1
    exact h2 h1.2.1.symm)
theorem POwn.put4 {w : World} {lo hi T : Nat} {a b c d v : Value} {P : Pol} (h : POwn w lo hi v P) (hB : PBox w T a b c d) (x y z u : Value) : POwn ((((w.setCell ⟨T, 0, none⟩ x).setCell ⟨T, 1, none⟩ y).setCell ⟨T, 2, none⟩ z).setCell ⟨T, 3, none⟩ u) lo hi v P := h.box hB fun k hk => put4_other w T x y z u k hk
end Go.Proofs.Ytpgcfgbhkodmeaa

namespace Go.Proofs.Ytpgcfgbhkodmeaa
open Go.RowKit Go.Sort
end Go.Proofs.Ytpgcfgbhkodmeaa
