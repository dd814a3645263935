/- Events in memory. Written by mkevent.py. -/
import Derived.Test.YtonaaimefcgcnaaInts
import Derived.Test.YtonaaimefcgcnaaVarPlain
namespace Go.Proofs.Ytonaaimefcgcnaa
open Go.RowKit
structure Ev where
  kind : Int
  id : Int
  tx : ByteArray
  n : Int
  left : List Int
/-- Which events are right. -/
def okEv (E : Ev) : Bool := inB E.kind 1 7 && (inB E.id 0 30 && (decide (E.tx.size ≤ 60) && (decide (0 ≤ E.n) && decide (E.left.length ≤ 4))))
def EBox (w : World) (T : Nat) (a b c d e : Value) : Prop := w.heap[T]? = some (.cells #[a, b, c, d, e] 27 (0, 0))
theorem EBox.lt {w : World} {T : Nat} {a b c d e : Value} (h : EBox w T a b c d e) : T < w.heap.size := (Array.getElem?_eq_some_iff.1 h).1
theorem EBox.new (w : World) (a b c d e : Value) : EBox (w.alloc (.cells #[a, b, c, d, e] 27)) w.heap.size a b c d e := heap_alloc_new w _
theorem EBox.kept {w w' : World} {T : Nat} {a b c d e : Value} (h : EBox w T a b c d e) (hk : w'.heap[T]? = w.heap[T]?) : EBox w' T a b c d e := hk.trans h
theorem EBox.on {w w' : World} {T : Nat} {a b c d e : Value} (h : EBox w T a b c d e) (hb : Below w.heap.size w w') : EBox w' T a b c d e := h.kept (hb.block T h.lt)
theorem EBox.cells {w : World} {T : Nat} {a b c d e : Value} (h : EBox w T a b c d e) : w.cell? ⟨T, 0, none⟩ = some a ∧ w.cell? ⟨T, 1, none⟩ = some b ∧ w.cell? ⟨T, 2, none⟩ = some c ∧ w.cell? ⟨T, 3, none⟩ = some d ∧ w.cell? ⟨T, 4, none⟩ = some e := by
  unfold EBox at h
  refine ⟨?_, ?_, ?_, ?_, ?_⟩
  · rw [cell_of_row w T 0 _ _ (0, 0) h]; rfl
  · rw [cell_of_row w T 1 _ _ (0, 0) h]; rfl
  · rw [cell_of_row w T 2 _ _ (0, 0) h]; rfl
  · rw [cell_of_row w T 3 _ _ (0, 0) h]; rfl
  · rw [cell_of_row w T 4 _ _ (0, 0) h]; rfl
theorem EBox.thaw {w : World} {T : Nat} {a b c d e : Value} (h : EBox w T a b c d e) (i : Nat) : w.frozen? ⟨T, i, none⟩ = false := by
  unfold EBox at h
  simp [World.frozen?, h]
theorem EBox.set4 {w : World} {T : Nat} {a b c d e : Value} (h : EBox w T a b c d e) (x : Value) : EBox (w.setCell ⟨T, 4, none⟩ x) T a b c d x := by
  unfold EBox at *
  simp only [World.setCell, Array.getElem?_modify, h]
  simp
theorem EBox.put {w : World} {T : Nat} {a b c d e : Value} (h : EBox w T a b c d e) (x y z u v : Value) : EBox (((((w.setCell ⟨T, 0, none⟩ x).setCell ⟨T, 1, none⟩ y).setCell ⟨T, 2, none⟩ z).setCell ⟨T, 3, none⟩ u).setCell ⟨T, 4, none⟩ v) T x y z u v := by
  unfold EBox at *
  simp only [World.setCell, Array.getElem?_modify, h]
  simp

/-- The value v owns the event S: its Left lies in a block of its own from lo on. -/
def EOwn (w : World) (lo : Nat) (v : Value) (S : Ev) : Prop := ∃ v1, v = .agg #[.int .i64 S.kind, .int .i64 S.id, .string S.tx, .int .i64 S.n, v1] ∧ OwnV w lo 3 v1 (ints S.left)
theorem EOwn.at {w : World} {lo : Nat} {v : Value} {S : Ev} (h : EOwn w lo v S) : ∃ a c, v = .agg #[.int .i64 S.kind, .int .i64 S.id, .string S.tx, .int .i64 S.n, .slice a S.left.length c] ∧ IAt w a S.left w.heap.size := by
  obtain ⟨v1, rfl, h1⟩ := h
  obtain ⟨a, c, rfl, hA⟩ := h1.ints
  exact ⟨a, c, rfl, hA⟩
theorem EOwn.mono {w : World} {lo lo' : Nat} {v : Value} {S : Ev} (h : EOwn w lo v S) (hl : lo' ≤ lo) : EOwn w lo' v S := by
  obtain ⟨v1, rfl, h1⟩ := h
  exact ⟨v1, rfl, h1.mono hl⟩
theorem EOwn.below {w w' : World} {B lo : Nat} {v : Value} {S : Ev} (h : EOwn w lo v S) (hb : Below B w w') (hB : w.heap.size ≤ B) : EOwn w' lo v S := by
  obtain ⟨v1, rfl, h1⟩ := h
  exact ⟨v1, rfl, h1.below hb hB⟩
/-- An event in a variable T of a law: its Left from lo on. -/
structure EV (w : World) (lo T : Nat) (a : Option Addr) (c : Nat) (S : Ev) : Prop where
  le : lo ≤ T
  box : EBox w T (.int .i64 S.kind) (.int .i64 S.id) (.string S.tx) (.int .i64 S.n) (.slice a S.left.length c)
  own : EOwn w lo (.agg #[.int .i64 S.kind, .int .i64 S.id, .string S.tx, .int .i64 S.n, .slice a S.left.length c]) S
theorem EV.new {w : World} {lo : Nat} {a : Option Addr} {c : Nat} {S : Ev} (h : EOwn w lo (.agg #[.int .i64 S.kind, .int .i64 S.id, .string S.tx, .int .i64 S.n, .slice a S.left.length c]) S) (hlo : lo ≤ w.heap.size) :
    EV (w.alloc (.cells #[.int .i64 S.kind, .int .i64 S.id, .string S.tx, .int .i64 S.n, .slice a S.left.length c] 27)) lo w.heap.size a c S :=
  ⟨hlo, EBox.new _ _ _ _ _ _, h.below ((Below.refl _ _).alloc (Nat.le_refl _) _) (Nat.le_refl _)⟩
theorem EV.on {w w' : World} {lo T : Nat} {a : Option Addr} {c : Nat} {S : Ev} (h : EV w lo T a c S) (hb : Below w.heap.size w w') : EV w' lo T a c S := ⟨h.le, h.box.on hb, h.own.below hb (Nat.le_refl _)⟩
theorem EV.at {w : World} {lo T : Nat} {a : Option Addr} {c : Nat} {S : Ev} (h : EV w lo T a c S) : IAt w a S.left w.heap.size := by
  obtain ⟨p, q, hv, hA⟩ := h.own.at
  simp only [Value.agg.injEq, Array.mk.injEq, List.cons.injEq, and_true, Value.slice.injEq, true_and] at hv
  obtain ⟨rfl, rfl⟩ := hv
  exact hA
end Go.Proofs.Ytonaaimefcgcnaa
