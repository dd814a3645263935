/- Worlds that differ in some blocks alone. Plain, no program. -/
import Derived.Test.YtfdbldmmhomifabRowedJ
namespace Go.Proofs.Ytfdbldmmhomifab
open Go.RowKit

/-- Of the blocks that were there only those of S may be others. -/
def Tch (S : Nat → Prop) (w w' : World) : Prop := Below 0 w w' ∧ ∀ k, k < w.heap.size → ¬ S k → w'.heap[k]? = w.heap[k]?
theorem Tch.size {S : Nat → Prop} {w w' : World} (h : Tch S w w') : w.heap.size ≤ w'.heap.size := h.1.size
theorem Tch.of_below {S : Nat → Prop} {w w' : World} (h : Below w.heap.size w w') : Tch S w w' := ⟨h.mono (Nat.zero_le _), fun k hk _ => h.block k hk⟩
theorem Tch.of_grown {S : Nat → Prop} {w w' : World} {row : Option Nat} (h : w.grownBy w' row) (hS : ∀ k, row = some k → S k) : Tch S w w' :=
  ⟨⟨h.os, h.tape, h.output, h.size, fun _ hk => absurd hk (Nat.not_lt_zero _)⟩, fun k hk hn => h.block k hk (fun e => hn (hS k e.symm))⟩
theorem Tch.trans {S : Nat → Prop} {a b c : World} (h : Tch S a b) (k : Tch S b c) : Tch S a c :=
  ⟨h.1.trans k.1, fun j hj hn => (k.2 j (Nat.lt_of_lt_of_le hj h.size) hn).trans (h.2 j hj hn)⟩
theorem Tch.weak {S S' : Nat → Prop} {w w' : World} (h : Tch S w w') (hS : ∀ k, S k → S' k) : Tch S' w w' := ⟨h.1, fun k hk hn => h.2 k hk (fun e => hn (hS k e))⟩
theorem Tch.below {S : Nat → Prop} {w0 w w' : World} {B : Nat} (hb : Below B w0 w) (h : Tch S w w') (hB : B ≤ w.heap.size) (hS : ∀ k, S k → B ≤ k) : Below B w0 w' :=
  ⟨h.1.os.trans hb.os, h.1.tape.trans hb.tape, h.1.output.trans hb.output, Nat.le_trans hb.size h.size, fun k hk => (h.2 k (by omega) (fun e => by have := hS k e; omega)).trans (hb.block k hk)⟩
theorem Tch.keep {S : Nat → Prop} {w w' : World} (h : Tch S w w') {k : Nat} {o : Obj} (hk : w.heap[k]? = some o) (hn : ¬ S k) : w'.heap[k]? = some o := (h.2 k (Array.getElem?_eq_some_iff.1 hk).1 hn).trans hk
theorem OwnV.tch {S : Nat → Prop} {w w' : World} {base : Nat} {e : TypeId} {v : Value} {xs : List Value} (h : OwnV w base e v xs) (ht : Tch S w w') (hn : ∀ k, v.ownBlock = some k → ¬ S k) : OwnV w' base e v xs := h.kept fun k hk => ht.2 k (h.lt k hk).2 (hn k hk)
end Go.Proofs.Ytfdbldmmhomifab
