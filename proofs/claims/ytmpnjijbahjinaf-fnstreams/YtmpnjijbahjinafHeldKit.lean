/- The program's heldStream: a lock and a stream of its own, in one block. -/
import Derived.Test.YtmpnjijbahjinafStmBase
import Derived.Test.YtmpnjijbahjinafStmRow
import Derived.Test.YtmpnjijbahjinafTouch
import Derived.Test.YtmpnjijbahjinafLocks
import Derived.Conc.MuLone
namespace Go.Proofs.Ytmpnjijbahjinaf
open Go.RowKit Go.Sort Go.MuLone

/-- A lock and a stream in the block B. -/
def HBox (w : World) (B : Nat) (l : Int) (st : Int) (t : ByteArray) (v : Value) : Prop := w.heap[B]? = some (.cells #[.int .i32 l, .int .u32 0, .int .i64 st, .string t, v] 89 (0, 0))
theorem HBox.lt {w : World} {B : Nat} {l st : Int} {t : ByteArray} {v : Value} (h : HBox w B l st t v) : B < w.heap.size := (Array.getElem?_eq_some_iff.1 h).1
theorem HBox.kept {w w' : World} {B : Nat} {l st : Int} {t : ByteArray} {v : Value} (h : HBox w B l st t v) (hk : w'.heap[B]? = w.heap[B]?) : HBox w' B l st t v := hk.trans h
theorem HBox.on {w w' : World} {B : Nat} {l st : Int} {t : ByteArray} {v : Value} (h : HBox w B l st t v) (hb : Below w.heap.size w w') : HBox w' B l st t v := h.kept (hb.block B h.lt)
theorem HBox.thaw {w : World} {B : Nat} {l st : Int} {t : ByteArray} {v : Value} (h : HBox w B l st t v) (i : Nat) : w.frozen? ⟨B, i, none⟩ = false := by
  unfold HBox at h
  simp [World.frozen?, h]
theorem HBox.lock {w : World} {B : Nat} {l st : Int} {t : ByteArray} {v : Value} (h : HBox w B l st t v) : w.cell? ⟨B, 0, none⟩ = some (.int .i32 l) := by
  unfold HBox at h
  rw [cell_of_row w B 0 _ _ (0, 0) h]; rfl
theorem HBox.cells {w : World} {B : Nat} {l st : Int} {t : ByteArray} {v : Value} (h : HBox w B l st t v) : w.cell? ⟨B, 2, none⟩ = some (.int .i64 st) ∧ w.cell? ⟨B, 3, none⟩ = some (.string t) ∧ w.cell? ⟨B, 4, none⟩ = some v := by
  unfold HBox at h
  refine ⟨?_, ?_, ?_⟩
  · rw [cell_of_row w B 2 _ _ (0, 0) h]; rfl
  · rw [cell_of_row w B 3 _ _ (0, 0) h]; rfl
  · rw [cell_of_row w B 4 _ _ (0, 0) h]; rfl
theorem HBox.setL {w : World} {B : Nat} {l st : Int} {t : ByteArray} {v : Value} (h : HBox w B l st t v) (x : Int) : HBox (w.setCell ⟨B, 0, none⟩ (.int .i32 x)) B x st t v := by
  unfold HBox at *
  simp only [World.setCell, Array.getElem?_modify, h]
  simp
theorem HBox.setS {w : World} {B : Nat} {l st : Int} {t : ByteArray} {v : Value} (h : HBox w B l st t v) (x : Int) : HBox (w.setCell ⟨B, 2, none⟩ (.int .i64 x)) B l x t v := by
  unfold HBox at *
  simp only [World.setCell, Array.getElem?_modify, h]
  simp
theorem HBox.setT {w : World} {B : Nat} {l st : Int} {t : ByteArray} {v : Value} (h : HBox w B l st t v) (x : ByteArray) : HBox (w.setCell ⟨B, 3, none⟩ (.string x)) B l st x v := by
  unfold HBox at *
  simp only [World.setCell, Array.getElem?_modify, h]
  simp
theorem HBox.setR {w : World} {B : Nat} {l st : Int} {t : ByteArray} {v : Value} (h : HBox w B l st t v) (x : Value) : HBox (w.setCell ⟨B, 4, none⟩ x) B l st t x := by
  unfold HBox at *
  simp only [World.setCell, Array.getElem?_modify, h]
  simp
theorem tch_set {S : Nat → Prop} (w : World) (B i : Nat) (x : Value) (hS : S B) : Tch S w (w.setCell ⟨B, i, none⟩ x) := ⟨⟨rfl, rfl, rfl, by simp [World.setCell], fun _ hk => absurd hk (Nat.not_lt_zero _)⟩, fun k _ hn => Below.heap_setCell _ _ _ _ (show k ≠ B from fun e => hn (e ▸ hS))⟩
theorem tch_alloc {S : Nat → Prop} (w : World) (o : Obj) : Tch S w (w.alloc o) := Tch.of_below ((Below.refl _ _).alloc (Nat.le_refl _) _)
/-- A held stream S with the lock's word l, in the block B; what lay ahead of w0 is as it was. -/
structure Held (w0 : World) (B : Nat) (l : Int) (S : Stm) (v : Value) (w : World) : Prop where
  below : Below w0.heap.size w0 w
  hB : w0.heap.size ≤ B
  box : HBox w B l S.st S.text v
  own : OwnP w w0.heap.size 38 v S.rd
theorem ownP_notHeld {w : World} {lo B : Nat} {l st : Int} {t : ByteArray} {v u : Value} {L : List (Int × Int)} (ho : OwnP w lo 38 u L) (hB : HBox w B l st t v) : ∀ k, u.ownBlock = some k → k ≠ B := by
  intro k hk e
  subst e
  obtain ⟨cs, hc⟩ := ownP_type ho k hk
  unfold HBox at hB
  rw [hB] at hc
  simp only [Option.some.injEq, Obj.cells.injEq] at hc
  exact absurd hc.2.1 (by decide)
theorem ownP_notBox {w : World} {lo T : Nat} {a b c u : Value} {L : List (Int × Int)} (ho : OwnP w lo 38 u L) (hB : MBox w T a b c) : ∀ k, u.ownBlock = some k → k ≠ T := by
  intro k hk e
  subst e
  obtain ⟨cs, hc⟩ := ownP_type ho k hk
  unfold MBox at hB
  rw [hB] at hc
  simp only [Option.some.injEq, Obj.cells.injEq] at hc
  exact absurd hc.2.1 (by decide)
theorem OwnP.ltP {w : World} {lo : Nat} {e : TypeId} {v : Value} {L : List (Int × Int)} (h : OwnP w lo e v L) : ∀ k, v.ownBlock = some k → lo ≤ k ∧ k < w.heap.size := fun k hk => h.lt k hk
theorem Held.on {w0 : World} {B : Nat} {l : Int} {S : Stm} {v : Value} {w w' : World} (h : Held w0 B l S v w) (hb : Below w.heap.size w w') : Held w0 B l S v w' := ⟨h.below.trans (hb.mono h.below.size), h.hB, h.box.on hb, h.own.below hb (Nat.le_refl _)⟩
theorem Held.lockTo {w0 : World} {B : Nat} {l : Int} {S : Stm} {v : Value} {w : World} (h : Held w0 B l S v w) (x : Int) : Held w0 B x S v (w.setCell ⟨B, 0, none⟩ (.int .i32 x)) :=
  ⟨h.below.setCell h.hB _, h.hB, h.box.setL x, h.own.kept fun k hk => Below.heap_setCell _ _ _ _ (show k ≠ B from ownP_notHeld h.own h.box k hk)⟩
theorem Held.stTo {w0 : World} {B : Nat} {l : Int} {S : Stm} {v : Value} {w : World} (h : Held w0 B l S v w) (x : Int) : Held w0 B l ⟨x, S.text, S.rd⟩ v (w.setCell ⟨B, 2, none⟩ (.int .i64 x)) :=
  ⟨h.below.setCell h.hB _, h.hB, h.box.setS x, h.own.kept fun k hk => Below.heap_setCell _ _ _ _ (show k ≠ B from ownP_notHeld h.own h.box k hk)⟩
theorem Held.textTo {w0 : World} {B : Nat} {l : Int} {S : Stm} {v : Value} {w : World} (h : Held w0 B l S v w) (x : ByteArray) : Held w0 B l ⟨S.st, x, S.rd⟩ v (w.setCell ⟨B, 3, none⟩ (.string x)) :=
  ⟨h.below.setCell h.hB _, h.hB, h.box.setT x, h.own.kept fun k hk => Below.heap_setCell _ _ _ _ (show k ≠ B from ownP_notHeld h.own h.box k hk)⟩
theorem Held.poke {w0 : World} {B : Nat} {l : Int} {S : Stm} {v : Value} {w w' : World} {X : Nat → Prop} (h : Held w0 B l S v w) (ht : Tch X w w') (hX : ∀ k, X k → w0.heap.size ≤ k ∧ k ≠ B ∧ ∀ j, v.ownBlock = some j → k ≠ j) : Held w0 B l S v w' :=
  ⟨Tch.below h.below ht h.below.size (fun k hk => (hX k hk).1), h.hB, h.box.kept (ht.2 B h.box.lt (fun e => (hX B e).2.1 rfl)), h.own.kept fun k hk => ht.2 k (h.own.lt k hk).2 (fun e => (hX k e).2.2 k hk rfl)⟩
theorem Held.at {w0 : World} {B : Nat} {l : Int} {S : Stm} {v : Value} {w : World} (h : Held w0 B l S v w) : ∃ a c, v = .slice a S.rd.length c ∧ PAt w a S.rd w.heap.size := h.own.at
end Go.Proofs.Ytmpnjijbahjinaf
