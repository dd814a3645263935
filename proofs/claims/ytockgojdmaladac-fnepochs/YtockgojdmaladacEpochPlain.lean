/- Epochs: what each call does to them. Plain, no program. -/
import Derived.Test.YtockgojdmaladacPairs
namespace Go.Proofs.Ytockgojdmaladac
open Go.RowKit

structure Ep where
  now : Int
  pins : List Int
  gone : List (Int × Int)

def pinOk (now p : Int) : Bool := decide (p = 0) || decide (p = now) || decide (p = now + 1)
def goneOk (now : Int) (g : Int × Int) : Bool := decide (1 ≤ g.1 ∧ g.1 ≤ 20) && decide (0 ≤ g.2 ∧ g.2 ≤ now)
def okE (E : Ep) : Bool := (decide (2 ≤ E.now ∧ E.now ≤ 1000000000) && decide (1 ≤ E.pins.length ∧ E.pins.length ≤ 4) && decide (E.gone.length ≤ 40)) && (E.pins.all (pinOk E.now) && E.gone.all (goneOk E.now))
def whoE (E : Ep) (who : Int) : Bool := decide (0 ≤ who ∧ who < (E.pins.length : Int))
def pinE (E : Ep) (who : Int) : Ep × Bool := if (okE E && whoE E who && decide (E.pins.getD who.toNat 0 = 0)) = true then ({ E with pins := E.pins.set who.toNat (E.now + 1) }, true) else (E, false)
def unpinE (E : Ep) (who : Int) : Ep × Bool := if (okE E && whoE E who && !decide (E.pins.getD who.toNat 0 = 0)) = true then ({ E with pins := E.pins.set who.toNat 0 }, true) else (E, false)
def hasG (L : List (Int × Int)) (node : Int) : Bool := L.any fun g => decide (g.1 = node)
def retireE (E : Ep) (node : Int) : Ep × Bool := if (okE E && decide (1 ≤ node ∧ node ≤ 20) && !decide (E.gone.length = 40) && !hasG E.gone node) = true then ({ E with gone := E.gone ++ [(node, E.now)] }, true) else (E, false)
def advE (E : Ep) : Ep × Bool := if (okE E && !decide (E.now = 1000000000) && !(E.pins.any fun p => decide (p = E.now))) = true then ({ E with now := E.now + 1 }, true) else (E, false)
def isFree (now : Int) (g : Int × Int) : Bool := decide (g.2 ≤ now - 2)
def freeE (E : Ep) : Ep × List Int := if okE E = true then ({ E with gone := E.gone.filter (fun g => !isFree E.now g) }, (E.gone.filter (isFree E.now)).map (·.1)) else (E, [])
def newE (n : Int) : Ep := ⟨2, List.replicate (max 1 (min n 4)).toNat 0, []⟩

/-- The epochs E lie in memory: pins at pa, what is gone at ga. -/
def EAt (w : World) (pa ga : Option Addr) (E : Ep) (B : Nat) : Prop := IAt w pa E.pins B ∧ PAt w ga E.gone B
theorem EAt.on {w w' : World} {pa ga : Option Addr} {E : Ep} (h : EAt w pa ga E w.heap.size) (hb : Below w.heap.size w w') : EAt w' pa ga E w'.heap.size := ⟨h.1.on hb, h.2.on hb⟩
theorem EAt.below {w w' : World} {pa ga : Option Addr} {E : Ep} {B B' : Nat} (h : EAt w pa ga E B) (hb : Below B' w w') (hB : B ≤ B') : EAt w' pa ga E B := ⟨h.1.below hb hB, h.2.below hb hB⟩
/-- The value of epochs. -/
def ev (E : Ep) (pa : Option Addr) (pc : Nat) (ga : Option Addr) (gc : Nat) : Value := .agg #[.int .i64 E.now, .slice pa E.pins.length pc, .slice ga E.gone.length gc]
/-- The value v owns the epochs E: its two lists, in blocks of their own. -/
def EOwn (w : World) (base : Nat) (v : Value) (E : Ep) : Prop := ∃ v1 v2, v = .agg #[.int .i64 E.now, v1, v2] ∧ OwnV w base 3 v1 (ints E.pins) ∧ OwnP w base 101 v2 E.gone ∧ ∀ k, v1.ownBlock = some k → v2.ownBlock ≠ some k
theorem EOwn.at {w : World} {base : Nat} {v : Value} {E : Ep} (h : EOwn w base v E) : ∃ pa pc ga gc, v = .agg #[.int .i64 E.now, .slice pa E.pins.length pc, .slice ga E.gone.length gc] ∧ EAt w pa ga E w.heap.size := by
  obtain ⟨v1, v2, rfl, h1, h2, _⟩ := h
  obtain ⟨pa, pc, rfl, hp⟩ := h1.ints
  obtain ⟨ga, gc, rfl, hg⟩ := h2.at
  exact ⟨pa, pc, ga, gc, rfl, hp, hg⟩
theorem EOwn.mono {w : World} {base base' : Nat} {v : Value} {E : Ep} (h : EOwn w base v E) (hb : base' ≤ base) : EOwn w base' v E := by
  obtain ⟨v1, v2, rfl, h1, h2, h3⟩ := h
  exact ⟨v1, v2, rfl, h1.mono hb, h2.mono hb, h3⟩
theorem EOwn.below {w w' : World} {B base : Nat} {v : Value} {E : Ep} (h : EOwn w base v E) (hb : Below B w w') (hB : w.heap.size ≤ B) : EOwn w' base v E := by
  obtain ⟨v1, v2, rfl, h1, h2, h3⟩ := h
  exact ⟨v1, v2, rfl, h1.below hb hB, h2.below hb hB, h3⟩
/-- Epochs in a variable. -/
def EBox (w : World) (T : Nat) (now v1 v2 : Value) : Prop := w.heap[T]? = some (.cells #[now, v1, v2] 50 (0, 0))
theorem EBox.lt {w : World} {T : Nat} {a b c : Value} (h : EBox w T a b c) : T < w.heap.size := (Array.getElem?_eq_some_iff.1 h).1
theorem EBox.new (w : World) (a b c : Value) : EBox (w.alloc (.cells #[a, b, c] 50)) w.heap.size a b c := heap_alloc_new w _
theorem EBox.kept {w w' : World} {T : Nat} {a b c : Value} (h : EBox w T a b c) (hk : w'.heap[T]? = w.heap[T]?) : EBox w' T a b c := hk.trans h
theorem EBox.on {w w' : World} {T : Nat} {a b c : Value} (h : EBox w T a b c) (hb : Below w.heap.size w w') : EBox w' T a b c := h.kept (hb.block T h.lt)
theorem EBox.thaw {w : World} {T : Nat} {a b c : Value} (h : EBox w T a b c) (i : Nat) : w.frozen? ⟨T, i, none⟩ = false := by
  unfold EBox at h
  simp [World.frozen?, h]
theorem EBox.cells {w : World} {T : Nat} {a b c : Value} (h : EBox w T a b c) : w.cell? ⟨T, 0, none⟩ = some a ∧ w.cell? ⟨T, 1, none⟩ = some b ∧ w.cell? ⟨T, 2, none⟩ = some c := by
  unfold EBox at h
  refine ⟨?_, ?_, ?_⟩
  · rw [cell_of_row w T 0 _ _ (0, 0) h]; rfl
  · rw [cell_of_row w T 1 _ _ (0, 0) h]; rfl
  · rw [cell_of_row w T 2 _ _ (0, 0) h]; rfl
theorem EBox.put {w : World} {T : Nat} {a b c : Value} (h : EBox w T a b c) (x y z : Value) : EBox (((w.setCell ⟨T, 0, none⟩ x).setCell ⟨T, 1, none⟩ y).setCell ⟨T, 2, none⟩ z) T x y z := by
  unfold EBox at *
  simp only [World.setCell, Array.getElem?_modify, h]
  simp
theorem put3_other (w : World) (T : Nat) (x y z : Value) (k : Nat) (hk : k ≠ T) : (((w.setCell ⟨T, 0, none⟩ x).setCell ⟨T, 1, none⟩ y).setCell ⟨T, 2, none⟩ z).heap[k]? = w.heap[k]? := by
  rw [Below.heap_setCell _ _ _ _ (by exact hk), Below.heap_setCell _ _ _ _ (by exact hk), Below.heap_setCell _ _ _ _ (by exact hk)]
theorem EBox.neV {w : World} {T : Nat} {a b c : Value} (h : EBox w T a b c) {base : Nat} {v : Value} {xs : List Value} (ho : OwnV w base 3 v xs) : ∀ k, v.ownBlock = some k → k ≠ T := by
  rintro k hk rfl
  rcases ho.2 with ⟨rfl, _⟩ | ⟨g, cap, cur, rfl, _, hg, _⟩
  · simp [Value.ownBlock] at hk
  · simp [Value.ownBlock] at hk
    subst hk
    have := h.symm.trans hg
    simp at this
theorem EBox.neP {w : World} {T : Nat} {a b c : Value} (h : EBox w T a b c) {base : Nat} {v : Value} {L : List (Int × Int)} (ho : OwnP w base 101 v L) : ∀ k, v.ownBlock = some k → k ≠ T := by
  rintro k hk rfl
  rcases ho.2 with ⟨rfl, _⟩ | ⟨g, cap, cur, rfl, _, hg, _⟩
  · simp [Value.ownBlock] at hk
  · simp [Value.ownBlock] at hk
    subst hk
    have := h.symm.trans hg
    simp at this
/-- What is owned stays so where a variable of epochs is written. -/
theorem EOwn.put {w : World} {base T : Nat} {v a b c : Value} {E : Ep} (h : EOwn w base v E) (hB : EBox w T a b c) (x y z : Value) : EOwn (((w.setCell ⟨T, 0, none⟩ x).setCell ⟨T, 1, none⟩ y).setCell ⟨T, 2, none⟩ z) base v E := by
  obtain ⟨v1, v2, rfl, h1, h2, h3⟩ := h
  exact ⟨v1, v2, rfl, h1.kept fun k hk => put3_other w T x y z k (hB.neV h1 k hk), h2.kept fun k hk => put3_other w T x y z k (hB.neP h2 k hk), h3⟩
theorem Below.put3 {B : Nat} {a w : World} (h : Below B a w) {T : Nat} (hT : B ≤ T) (x y z : Value) : Below B a (((w.setCell ⟨T, 0, none⟩ x).setCell ⟨T, 1, none⟩ y).setCell ⟨T, 2, none⟩ z) := ((h.setCell hT x).setCell hT y).setCell hT z
theorem EOwn.pinCell {w : World} {base : Nat} {pa : Option Addr} {pc : Nat} {v2 : Value} {now : Int} {pins : List Int} {gone : List (Int × Int)} (h : EOwn w base (.agg #[.int .i64 now, .slice pa pins.length pc, v2]) ⟨now, pins, gone⟩) (n : Nat) (hn : n < pins.length) :
    ∃ g, pa = some ⟨g, 0, none⟩ ∧ w.cell? ⟨g, n, none⟩ = some (.int .i64 pins[n]) ∧ w.frozen? ⟨g, n, none⟩ = false ∧ base ≤ g := by
  obtain ⟨v1, v2', hv, h1, h2, h3⟩ := h
  simp only [Value.agg.injEq, Array.mk.injEq, List.cons.injEq, and_true] at hv
  obtain ⟨_, rfl, rfl⟩ := hv
  obtain ⟨a, cap, hs, hc⟩ := h1.shape
  simp only [Value.slice.injEq] at hs
  obtain ⟨rfl, _, rfl⟩ := hs
  obtain ⟨g, ha, hcell, hfz, hb, _⟩ := hc n (by rw [ints_length]; exact hn)
  rw [ints_at hn] at hcell
  exact ⟨g, ha, hcell, hfz, hb⟩
theorem ints_set (l : List Int) (n : Nat) (x : Int) : (ints l).set n (.int .i64 x) = ints (l.set n x) := by simp [ints, List.map_set]
/-- A pin of one's own is stored. -/
theorem EOwn.pin {w : World} {base g pc : Nat} {v2 : Value} {now : Int} {pins : List Int} {gone : List (Int × Int)} (n : Nat) (x : Int) (h : EOwn w base (.agg #[.int .i64 now, .slice (some ⟨g, 0, none⟩) pins.length pc, v2]) ⟨now, pins, gone⟩) :
    EOwn (w.setCell ⟨g, n, none⟩ (.int .i64 x)) base (.agg #[.int .i64 now, .slice (some ⟨g, 0, none⟩) pins.length pc, v2]) ⟨now, pins.set n x, gone⟩ ∧ (∀ T a b c, EBox w T a b c → EBox (w.setCell ⟨g, n, none⟩ (.int .i64 x)) T a b c) := by
  obtain ⟨v1, v2', hv, h1, h2, h3⟩ := h
  simp only [Value.agg.injEq, Array.mk.injEq, List.cons.injEq, and_true] at hv
  obtain ⟨_, rfl, rfl⟩ := hv
  have hst := h1.stored (by rw [ints_length]) n (.int .i64 x)
  rw [ints_set] at hst
  refine ⟨⟨_, _, rfl, hst.1, h2.kept fun k hk => Below.heap_setCell _ _ _ _ (fun e => h3 g rfl (by rw [hk, e])), h3⟩, fun T a b c hB => hB.kept (Below.heap_setCell _ _ _ _ (fun e => hB.neV h1 g rfl e.symm))⟩
theorem okE_len {now : Int} {pins : List Int} {gone : List (Int × Int)} (h : okE ⟨now, pins, gone⟩ = true) : pins.length ≤ 4 ∧ gone.length ≤ 40 ∧ 2 ≤ now ∧ now ≤ 1000000000 := by
  unfold okE at h
  simp only [Bool.and_eq_true, decide_eq_true_eq] at h
  omega
theorem pinE_at {now : Int} {pins : List Int} {gone : List (Int × Int)} {n : Nat} (h : okE ⟨now, pins, gone⟩ = true) (hn : n < pins.length) : pinE ⟨now, pins, gone⟩ (n : Int) = if pins[n] = 0 then (⟨now, pins.set n (now + 1), gone⟩, true) else (⟨now, pins, gone⟩, false) := by
  unfold pinE whoE
  by_cases e : pins[n] = 0 <;> simp [h, hn, e]
theorem unpinE_at {now : Int} {pins : List Int} {gone : List (Int × Int)} {n : Nat} (h : okE ⟨now, pins, gone⟩ = true) (hn : n < pins.length) : unpinE ⟨now, pins, gone⟩ (n : Int) = if pins[n] = 0 then (⟨now, pins, gone⟩, false) else (⟨now, pins.set n 0, gone⟩, true) := by
  unfold unpinE whoE
  by_cases e : pins[n] = 0 <;> simp [h, hn, e]
end Go.Proofs.Ytockgojdmaladac
