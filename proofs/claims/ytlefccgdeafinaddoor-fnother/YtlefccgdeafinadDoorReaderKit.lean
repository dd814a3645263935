/- What stands while a head is read: the reader in its variable, the fields that it has read, and what lies beside it. -/
import Derived.Test.YtlefccgdeafinadDoorMoreImpl
import Derived.Test.YtlefccgdeafinadDoorHeadDraw
namespace Go.Proofs.YtlefccgdeafinadDoor
open Go.RowKit
structure Rr (E : List (Nat × Obj)) (w0 : World) (T : Nat) (line : ByteArray) (v : Value) (L : List (ByteArray × ByteArray)) (t : ByteArray) (k : Nat) (w : World) : Prop where
  bel : Below w0.heap.size w0 w
  hT : w0.heap.size ≤ T
  hE : ∀ x ∈ E, x.1 ≠ T ∧ ∀ cs fr, x.2 ≠ .cells cs 34 fr
  box : RBx w T line v t (k : Int)
  own : OwnD w w0.heap.size 34 v L
  ext : ∀ x ∈ E, w.heap[x.1]? = some x.2
theorem RBx.neD {w : World} {T : Nat} {l : ByteArray} {fv : Value} {t : ByteArray} {k : Int} (h : RBx w T l fv t k) {base : Nat} {u : Value} {L : List (ByteArray × ByteArray)} (ho : OwnD w base 34 u L) : ∀ j, u.ownBlock = some j → j ≠ T := by
  rintro j hj rfl
  rcases ho.2 with ⟨rfl, _⟩ | ⟨g, cap, cur, rfl, _, hg, _⟩
  · simp [Value.ownBlock] at hj
  · simp [Value.ownBlock] at hj
    subst hj
    have := h.symm.trans hg
    simp only [Option.some.injEq, Obj.cells.injEq] at this
    exact absurd this.2.1 (by decide)
theorem own_field {w : World} {base : Nat} {u : Value} {L : List (ByteArray × ByteArray)} (ho : OwnD w base 34 u L) : ∀ j, u.ownBlock = some j → ∃ cs fr, w.heap[j]? = some (.cells cs 34 fr) := by
  intro j hj
  rcases ho.2 with ⟨rfl, _⟩ | ⟨g, cap, cur, rfl, _, hg, _⟩
  · simp [Value.ownBlock] at hj
  · simp [Value.ownBlock] at hj
    subst hj
    exact ⟨_, _, hg⟩
theorem Rr.next {E : List (Nat × Obj)} {w0 : World} {T : Nat} {line : ByteArray} {v : Value} {L : List (ByteArray × ByteArray)} {t : ByteArray} {k : Nat} {w w' : World} (h : Rr E w0 T line v L t k w) (hb : Below w.heap.size w w') : Rr E w0 T line v L t k w' :=
  ⟨h.bel.trans (hb.mono h.bel.size), h.hT, h.hE, h.box.on hb, h.own.below hb (Nat.le_refl _), fun x hx => (hb.block _ (Array.getElem?_eq_some_iff.1 (h.ext x hx)).1).trans (h.ext x hx)⟩
theorem Rr.moved {E : List (Nat × Obj)} {w0 : World} {T : Nat} {line line' : ByteArray} {v : Value} {L : List (ByteArray × ByteArray)} {t : ByteArray} {k k' : Nat} {w w' : World} (h : Rr E w0 T line v L t k w) (hg : w.grownBy w' (some T)) (hx : RBx w' T line' v t (k' : Int)) : Rr E w0 T line' v L t k' w' :=
  ⟨h.bel.trans ⟨hg.os, hg.tape, hg.output, hg.size, fun j hj => hg.block j (Nat.lt_of_lt_of_le hj h.bel.size) (fun e => by have := h.hT; cases e; omega)⟩, h.hT, h.hE, hx,
    h.own.grown hg (fun j hj e => h.box.neD h.own j hj (by cases e; rfl)),
    fun x hx' => (hg.block _ (Array.getElem?_eq_some_iff.1 (h.ext x hx')).1 (fun e => (h.hE x hx').1 (by cases e; rfl))).trans (h.ext x hx')⟩
theorem setT_grown {w : World} (T i : Nat) (u : Value) : w.grownBy (w.setCell ⟨T, i, none⟩ u) (some T) :=
  ⟨rfl, rfl, rfl, by simp [World.setCell], fun j _ hne => Below.heap_setCell _ _ _ _ (fun e => hne (by simp only at e; rw [e]))⟩
theorem Rr.setLine {E : List (Nat × Obj)} {w0 : World} {T : Nat} {line : ByteArray} {v : Value} {L : List (ByteArray × ByteArray)} {t : ByteArray} {k : Nat} {w : World} (h : Rr E w0 T line v L t k w) (l' : ByteArray) : Rr E w0 T l' v L t k (w.setCell ⟨T, 0, none⟩ (.string l')) :=
  h.moved (setT_grown T 0 _) (h.box.setLine l')
/-- The row of fields has grown, and is stored back. -/
theorem Rr.gather {E : List (Nat × Obj)} {w0 : World} {T : Nat} {line : ByteArray} {v u : Value} {L M : List (ByteArray × ByteArray)} {t : ByteArray} {k : Nat} {w W w2 : World} (h : Rr E w0 T line v L t k w) (hW : Below w.heap.size w W) (hg : W.grownBy w2 v.ownBlock) (ho : OwnD w2 w0.heap.size 34 u M) :
    RBx w2 T line v t (k : Int) ∧ Rr E w0 T line u M t k (w2.setCell ⟨T, 1, none⟩ u) := by
  have h1 := h.next hW
  have bT : RBx w2 T line v t (k : Int) := (hg.block T h1.box.lt (fun e => h1.box.neD h1.own T e.symm rfl)).trans h1.box
  have bel : Below w0.heap.size w0 w2 := h1.bel.trans ⟨hg.os, hg.tape, hg.output, hg.size, fun j hj => hg.block j (Nat.lt_of_lt_of_le hj h1.bel.size) (fun e => by have := (h1.own.lt j e.symm).1; omega)⟩
  have ext : ∀ x ∈ E, w2.heap[x.1]? = some x.2 := fun x hx => (hg.block _ (Array.getElem?_eq_some_iff.1 (h1.ext x hx)).1 (fun e => by
    obtain ⟨cs, fr, hcs⟩ := own_field h1.own _ e.symm
    exact (h.hE x hx).2 cs fr (Option.some.inj ((h1.ext x hx).symm.trans hcs)))).trans (h1.ext x hx)
  refine ⟨bT, bel.trans ⟨rfl, rfl, rfl, by simp [World.setCell], fun j hj => Below.heap_setCell _ _ _ _ (by have := h.hT; simp only; omega)⟩, h.hT, h.hE, bT.setFlds u, ho.kept fun j hj => Below.heap_setCell _ _ _ _ (bT.neD ho j hj), fun x hx => (Below.heap_setCell _ _ _ _ (by exact (h.hE x hx).1)).trans (ext x hx)⟩
theorem Rr.at {E : List (Nat × Obj)} {w0 : World} {T : Nat} {line : ByteArray} {v : Value} {L : List (ByteArray × ByteArray)} {t : ByteArray} {k : Nat} {w : World} (h : Rr E w0 T line v L t k w) : ∃ a c, v = .slice a L.length c ∧ DAt w a L w.heap.size := h.own.at
end Go.Proofs.YtlefccgdeafinadDoor
