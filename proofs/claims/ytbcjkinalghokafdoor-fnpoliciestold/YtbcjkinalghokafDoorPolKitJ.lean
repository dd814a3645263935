/- Texts that stand in one: PolKit, PolMk, OwnCut. -/
import Derived.Test.YtbcjkinalghokafDoorKeysDraw12J
import Derived.Test.YtbcjkinalghokafDoorSkKit
import Derived.Test.YtbcjkinalghokafDoorStrsJ
namespace Go.Proofs.YtbcjkinalghokafDoor
open Go.RowKit

/-- A policy in a variable. -/
def PBox (w : World) (T : Nat) (a b c d : Value) : Prop := w.heap[T]? = some (.cells #[a, b, c, d] 29 (0, 0))
theorem PBox.lt {w : World} {T : Nat} {a b c d : Value} (h : PBox w T a b c d) : T < w.heap.size := (Array.getElem?_eq_some_iff.1 h).1
theorem PBox.new (w : World) (a b c d : Value) : PBox (w.alloc (.cells #[a, b, c, d] 29)) w.heap.size a b c d := heap_alloc_new w _
theorem PBox.kept {w w' : World} {T : Nat} {a b c d : Value} (h : PBox w T a b c d) (hk : w'.heap[T]? = w.heap[T]?) : PBox w' T a b c d := hk.trans h
theorem PBox.on {w w' : World} {T : Nat} {a b c d : Value} (h : PBox w T a b c d) (hb : Below w.heap.size w w') : PBox w' T a b c d := h.kept (hb.block T h.lt)
theorem PBox.thaw {w : World} {T : Nat} {a b c d : Value} (h : PBox w T a b c d) (i : Nat) : w.frozen? ⟨T, i, none⟩ = false := by
  unfold PBox at h
  simp [World.frozen?, h]
theorem PBox.cells {w : World} {T : Nat} {a b c d : Value} (h : PBox w T a b c d) : w.cell? ⟨T, 0, none⟩ = some a ∧ w.cell? ⟨T, 1, none⟩ = some b ∧ w.cell? ⟨T, 2, none⟩ = some c ∧ w.cell? ⟨T, 3, none⟩ = some d := by
  unfold PBox at h
  refine ⟨?_, ?_, ?_, ?_⟩
  · rw [cell_of_row w T 0 _ _ (0, 0) h]; rfl
  · rw [cell_of_row w T 1 _ _ (0, 0) h]; rfl
  · rw [cell_of_row w T 2 _ _ (0, 0) h]; rfl
  · rw [cell_of_row w T 3 _ _ (0, 0) h]; rfl
theorem PBox.set0 {w : World} {T : Nat} {a b c d : Value} (h : PBox w T a b c d) (x : Value) : PBox (w.setCell ⟨T, 0, none⟩ x) T x b c d := by
  unfold PBox at *
  simp only [World.setCell, Array.getElem?_modify, h]
  simp
theorem PBox.set1 {w : World} {T : Nat} {a b c d : Value} (h : PBox w T a b c d) (x : Value) : PBox (w.setCell ⟨T, 1, none⟩ x) T a x c d := by
  unfold PBox at *
  simp only [World.setCell, Array.getElem?_modify, h]
  simp
theorem PBox.set2 {w : World} {T : Nat} {a b c d : Value} (h : PBox w T a b c d) (x : Value) : PBox (w.setCell ⟨T, 2, none⟩ x) T a b x d := by
  unfold PBox at *
  simp only [World.setCell, Array.getElem?_modify, h]
  simp
theorem PBox.set3 {w : World} {T : Nat} {a b c d : Value} (h : PBox w T a b c d) (x : Value) : PBox (w.setCell ⟨T, 3, none⟩ x) T a b c x := by
  unfold PBox at *
  simp only [World.setCell, Array.getElem?_modify, h]
  simp
/-- Four cells of a variable are stored. -/
def put4 (w : World) (T : Nat) (x y z u : Value) : World := (((w.setCell ⟨T, 0, none⟩ x).setCell ⟨T, 1, none⟩ y).setCell ⟨T, 2, none⟩ z).setCell ⟨T, 3, none⟩ u
theorem PBox.put {w : World} {T : Nat} {a b c d : Value} (h : PBox w T a b c d) (x y z u : Value) : PBox ((((w.setCell ⟨T, 0, none⟩ x).setCell ⟨T, 1, none⟩ y).setCell ⟨T, 2, none⟩ z).setCell ⟨T, 3, none⟩ u) T x y z u := (((h.set0 x).set1 y).set2 z).set3 u
theorem put4_other (w : World) (T : Nat) (x y z u : Value) (k : Nat) (hk : k ≠ T) : ((((w.setCell ⟨T, 0, none⟩ x).setCell ⟨T, 1, none⟩ y).setCell ⟨T, 2, none⟩ z).setCell ⟨T, 3, none⟩ u).heap[k]? = w.heap[k]? := by
  rw [Below.heap_setCell _ _ _ _ (by exact hk), Below.heap_setCell _ _ _ _ (by exact hk), Below.heap_setCell _ _ _ _ (by exact hk), Below.heap_setCell _ _ _ _ (by exact hk)]
theorem Below.put4 {B : Nat} {a w : World} (h : Below B a w) {T : Nat} (hT : B ≤ T) (x y z u : Value) : Below B a ((((w.setCell ⟨T, 0, none⟩ x).setCell ⟨T, 1, none⟩ y).setCell ⟨T, 2, none⟩ z).setCell ⟨T, 3, none⟩ u) := (((h.setCell hT x).setCell hT y).setCell hT z).setCell hT u
theorem PBox.far {w : World} {T T' : Nat} {a b c d : Value} (h : PBox w T a b c d) (i : Nat) (x : Value) (hn : T ≠ T') : PBox (w.setCell ⟨T', i, none⟩ x) T a b c d := h.kept (Below.heap_setCell _ _ _ _ (by exact hn))

/-- The policy P lies in memory. -/
def PolAt (w : World) (aw am ak : Option Addr) (P : Pol) (B : Nat) : Prop := LAt w aw P.win B ∧ LAt w am P.main B ∧ SSAt w ak P.sk.rows B
theorem PolAt.on {w w' : World} {aw am ak : Option Addr} {P : Pol} (h : PolAt w aw am ak P w.heap.size) (hb : Below w.heap.size w w') : PolAt w' aw am ak P w'.heap.size := ⟨h.1.on hb, h.2.1.on hb, h.2.2.on hb⟩
theorem PolAt.below {w w' : World} {aw am ak : Option Addr} {P : Pol} {B B' : Nat} (h : PolAt w aw am ak P B) (hb : Below B' w w') (hB : B ≤ B') : PolAt w' aw am ak P B := ⟨h.1.below hb hB, h.2.1.below hb hB, h.2.2.below hb hB⟩
/-- The value v owns the policy P: its lists and rows, each in a block of its own from lo on, below hi. -/
def POwn (w : World) (lo hi : Nat) (v : Value) (P : Pol) : Prop :=
  ∃ v1 v2 v3, v = .agg #[v1, v2, v3, .int .i64 P.sk.added] ∧ OwnV w lo 9 v1 (strs P.win) ∧ OwnV w lo 9 v2 (strs P.main) ∧ (∀ k, v1.ownBlock = some k → k < hi ∧ v2.ownBlock ≠ some k) ∧ (∀ k, v2.ownBlock = some k → k < hi) ∧ OwnSS w lo hi v3 P.sk.rows
theorem POwn.at {w : World} {lo hi : Nat} {v : Value} {P : Pol} (h : POwn w lo hi v P) : ∃ aw cw am cm ak cs, v = .agg #[.slice aw P.win.length cw, .slice am P.main.length cm, .slice ak P.sk.rows.length cs, .int .i64 P.sk.added] ∧ PolAt w aw am ak P w.heap.size := by
  obtain ⟨v1, v2, v3, rfl, h1, h2, _, _, h3⟩ := h
  obtain ⟨aw, cw, rfl, hw⟩ := h1.strsAt
  obtain ⟨am, cm, rfl, hm⟩ := h2.strsAt
  obtain ⟨ak, cs, rfl, hs⟩ := h3.at
  exact ⟨aw, cw, am, cm, ak, cs, rfl, hw, hm, hs⟩
theorem POwn.mono {w : World} {lo hi lo' hi' : Nat} {v : Value} {P : Pol} (h : POwn w lo hi v P) (h1 : lo' ≤ lo) (h2 : hi ≤ hi') : POwn w lo' hi' v P := by
  obtain ⟨v1, v2, v3, rfl, a1, a2, a3, a4, a5⟩ := h
  exact ⟨v1, v2, v3, rfl, a1.mono h1, a2.mono h1, fun k hk => ⟨Nat.lt_of_lt_of_le (a3 k hk).1 h2, (a3 k hk).2⟩, fun k hk => Nat.lt_of_lt_of_le (a4 k hk) h2, a5.mono h1 h2⟩
theorem POwn.up {w : World} {lo hi : Nat} {v : Value} {P : Pol} (h : POwn w lo hi v P) : POwn w lo w.heap.size v P := by
  obtain ⟨v1, v2, v3, rfl, a1, a2, a3, a4, a5⟩ := h
  exact ⟨v1, v2, v3, rfl, a1, a2, fun k hk => ⟨(a1.lt k hk).2, (a3 k hk).2⟩, fun k hk => (a2.lt k hk).2, a5.up⟩
theorem ownV_type {w : World} {lo : Nat} {e : TypeId} {u : Value} {xs : List Value} (ho : OwnV w lo e u xs) : ∀ k, u.ownBlock = some k → ∃ cs, w.heap[k]? = some (.cells cs e (0, 0)) := by
  intro k hk
  rcases ho.2 with ⟨rfl, _⟩ | ⟨g, cap, cur, rfl, _, hg, _⟩
  · simp [Value.ownBlock] at hk
  · simp [Value.ownBlock] at hk
    subst hk
    exact ⟨_, hg⟩
/-- It stays where its blocks are as they were. -/
theorem POwn.kept {w w' : World} {lo hi : Nat} {v : Value} {P : Pol} (h : POwn w lo hi v P) (hk : ∀ k, lo ≤ k → k < hi → k < w.heap.size → (∀ c, w.heap[k]? = some c → ∃ cs e, c = .cells cs e (0, 0) ∧ e ≠ 29) → w'.heap[k]? = w.heap[k]?) : POwn w' lo hi v P := by
  obtain ⟨v1, v2, v3, rfl, a1, a2, a3, a4, a5⟩ := h
  refine ⟨v1, v2, v3, rfl, a1.kept fun k hk' => hk k (a1.lt k hk').1 (a3 k hk').1 (a1.lt k hk').2 fun c hc => ?_, a2.kept fun k hk' => hk k (a2.lt k hk').1 (a4 k hk') (a2.lt k hk').2 fun c hc => ?_, a3, a4, a5.kept fun k h1 h2 h3 h4 => hk k h1 h2 h3 fun c hc => ?_⟩
  · obtain ⟨cs, e⟩ := ownV_type a1 k hk'
    rw [e] at hc
    exact ⟨cs, 9, (Option.some.inj hc).symm, by decide⟩
  · obtain ⟨cs, e⟩ := ownV_type a2 k hk'
    rw [e] at hc
    exact ⟨cs, 9, (Option.some.inj hc).symm, by decide⟩
  · rcases h4 c hc with ⟨cs, e⟩ | ⟨cs, e⟩
    · exact ⟨cs, _, e, by decide⟩
    · exact ⟨cs, _, e, by decide⟩
theorem POwn.below {w w' : World} {B lo hi : Nat} {v : Value} {P : Pol} (h : POwn w lo hi v P) (hb : Below B w w') (hB : w.heap.size ≤ B) : POwn w' lo hi v P := h.kept fun k _ _ hk _ => hb.block k (Nat.lt_of_lt_of_le hk hB)
theorem POwn.tch {S : Nat → Prop} {w w' : World} {lo hi : Nat} {v : Value} {P : Pol} (h : POwn w lo hi v P) (ht : Tch S w w') (hn : ∀ k, S k → k < lo ∨ hi ≤ k) : POwn w' lo hi v P := h.kept fun k h1 h2 hk _ => ht.2 k hk (fun e => by have := hn k e; omega)
/-- A variable's block is none of its own. -/
theorem POwn.box {w w' : World} {lo hi T : Nat} {a b c d v : Value} {P : Pol} (h : POwn w lo hi v P) (hB : PBox w T a b c d) (hk : ∀ k, k ≠ T → w'.heap[k]? = w.heap[k]?) : POwn w' lo hi v P :=
  h.kept fun k _ _ _ hty => hk k (fun e => by
    subst e
    obtain ⟨cs, e, h1, h2⟩ := hty _ hB
    simp only [Obj.cells.injEq] at h1
    exact h2 h1.2.1.symm)
theorem POwn.put4 {w : World} {lo hi T : Nat} {a b c d v : Value} {P : Pol} (h : POwn w lo hi v P) (hB : PBox w T a b c d) (x y z u : Value) : POwn ((((w.setCell ⟨T, 0, none⟩ x).setCell ⟨T, 1, none⟩ y).setCell ⟨T, 2, none⟩ z).setCell ⟨T, 3, none⟩ u) lo hi v P := h.box hB fun k hk => put4_other w T x y z u k hk
end Go.Proofs.YtbcjkinalghokafDoor

namespace Go.Proofs.YtbcjkinalghokafDoor
open Go.RowKit
/-- A policy put together: lists and rows that were made one behind the other, in any order. -/
theorem POwn.mk3 {w : World} {lo B1 B2 B3 : Nat} {v1 v2 v3 : Value} {P : Pol} (h1 : OwnV w B1 9 v1 (strs P.win)) (h2 : OwnV w B2 9 v2 (strs P.main)) (h3 : OwnSS w B3 w.heap.size v3 P.sk.rows) (l1 : lo ≤ B1) (l2 : lo ≤ B2) (l3 : lo ≤ B3) (hn : ∀ k, v1.ownBlock = some k → v2.ownBlock ≠ some k) :
    POwn w lo w.heap.size (.agg #[v1, v2, v3, .int .i64 P.sk.added]) P :=
  ⟨v1, v2, v3, rfl, h1.mono l1, h2.mono l2, fun k hk => ⟨(h1.lt k hk).2, hn k hk⟩, fun k hk => (h2.lt k hk).2, h3.mono l3 (Nat.le_refl _)⟩
end Go.Proofs.YtbcjkinalghokafDoor

namespace Go.Proofs.YtbcjkinalghokafDoor
open Go.RowKit

/-- Cells stored one behind the other into a row of one's own. -/
theorem OwnV.storedAll {base g n cap : Nat} {e : TypeId} : ∀ (vs : List Value) (o : Nat) (w : World) (xs : List Value), OwnV w base e (.slice (some ⟨g, 0, none⟩) n cap) xs → n = xs.length →
    ∃ ys, ys.length = xs.length ∧ (∀ j, j < o → ys[j]? = xs[j]?) ∧ (∀ j, j < vs.length → o + j < xs.length → ys[o + j]? = vs[j]?) ∧ (∀ j, o + vs.length ≤ j → ys[j]? = xs[j]?) ∧ OwnV (w.setCells g o vs) base e (.slice (some ⟨g, 0, none⟩) n cap) ys ∧ w.grownBy (w.setCells g o vs) (some g)
  | [], o, w, xs, h, hn => ⟨xs, rfl, fun _ _ => rfl, fun j hj => by simp at hj, fun _ _ => rfl, h, grownBy_refl _ _⟩
  | v :: rest, o, w, xs, h, hn => by
    obtain ⟨h1, hg1⟩ := h.stored hn o v
    obtain ⟨ys, e1, e2, e3, e4, e5, e6⟩ := OwnV.storedAll rest (o + 1) (w.setCell ⟨g, o, none⟩ v) (xs.set o v) h1 (by rw [List.length_set]; exact hn)
    refine ⟨ys, by rw [e1, List.length_set], fun j hj => ?_, fun j hj hx => ?_, fun j hj => ?_, e5, grownBy_trans hg1 e6⟩
    · rw [e2 j (by omega), List.getElem?_set_ne (by omega)]
    · cases j with
      | zero =>
        rw [Nat.add_zero] at hx ⊢
        rw [e2 o (by omega), List.getElem?_set_self hx]
        rfl
      | succ j =>
        have := e3 j (by simp at hj; omega) (by rw [List.length_set]; omega)
        rw [show o + (j + 1) = o + 1 + j by omega, this]
        rfl
    · simp only [List.length_cons] at hj
      rw [e4 j (by omega), List.getElem?_set_ne (by omega)]
theorem OwnV.cut {w : World} {base g n cap : Nat} {e : TypeId} {xs : List Value} (h : OwnV w base e (.slice (some ⟨g, 0, none⟩) n cap) xs) (hn : n = xs.length) (m : Nat) (hm : m ≤ n) : OwnV w base e (.slice (some ⟨g, 0, none⟩) m cap) (xs.take m) := by
  rcases h.2 with ⟨e1, _⟩ | ⟨g', cp, cur, e1, h1, h2, h3, h4, h5, h6⟩
  · cases e1
  · simp only [Value.slice.injEq, Option.some.injEq, Addr.mk.injEq, and_true] at e1
    obtain ⟨rfl, e2, rfl⟩ := e1
    have hl : (xs.take m).length = m := by rw [List.length_take]; omega
    unfold OwnV
    rw [hl]
    refine ⟨by rw [hl, Nat.mul_one], .inr ⟨g, cap, cur, rfl, h1, h2, by omega, h4, h5, ?_⟩⟩
    rw [← h6, List.take_take, Nat.mul_one, Nat.mul_one, Nat.min_eq_left (by omega)]
theorem take_same {α : Type} {xs ys : List α} {n : Nat} (h : ∀ j, j < n → ys[j]? = xs[j]?) : ys.take n = xs.take n := by
  apply List.ext_getElem?
  intro i
  by_cases hi : i < n
  · rw [List.getElem?_take_of_lt hi, List.getElem?_take_of_lt hi, h i hi]
  · rw [List.getElem?_eq_none (by rw [List.length_take]; omega), List.getElem?_eq_none (by rw [List.length_take]; omega)]
/-- What the cells of an own row say. -/
theorem OwnV.cell {w : World} {base g n cap : Nat} {e : TypeId} {xs : List Value} (h : OwnV w base e (.slice (some ⟨g, 0, none⟩) n cap) xs) {j : Nat} (hj : j < xs.length) : w.cell? ⟨g, j, none⟩ = some xs[j] ∧ w.frozen? ⟨g, j, none⟩ = false ∧ base ≤ g ∧ g < w.heap.size := by
  obtain ⟨a, c, e1, h1⟩ := h.shape
  simp only [Value.slice.injEq] at e1
  obtain ⟨g', e2, h2, h3, h4, h5⟩ := h1 j hj
  rw [← e1.1] at e2
  simp only [Option.some.injEq, Addr.mk.injEq, and_true] at e2
  subst e2
  exact ⟨h2, h3, h4, h5⟩
theorem OwnV.capOf {w : World} {base g n cap : Nat} {e : TypeId} {xs : List Value} (h : OwnV w base e (.slice (some ⟨g, 0, none⟩) n cap) xs) : n ≤ cap ∧ cap ≤ maxLen := by
  rcases h.2 with ⟨e1, _⟩ | ⟨g', cp, cur, e1, h1, h2, h3, h4, h5, h6⟩
  · cases e1
  · simp only [Value.slice.injEq] at e1
    omega
end Go.Proofs.YtbcjkinalghokafDoor
