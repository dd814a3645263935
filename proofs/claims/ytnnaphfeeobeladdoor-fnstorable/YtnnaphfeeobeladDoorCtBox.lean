/- What is told, in a variable. -/
import Derived.Test.YtnnaphfeeobeladDoorControlPlain
import Derived.Test.YtnnaphfeeobeladDoorBase
namespace Go.Proofs.YtnnaphfeeobeladDoor
open Go.RowKit Go.Sort
/-- What is told, in a variable. -/
def CtB (w : World) (T : Nat) (c : Ct) : Prop := w.heap[T]? = some (.cells #[.bool c.ns, .bool c.nc, .int .i64 c.ma, .int .i64 c.sh] 47 (0, 0))
theorem CtB.lt {w : World} {T : Nat} {c : Ct} (h : CtB w T c) : T < w.heap.size := (Array.getElem?_eq_some_iff.1 h).1
theorem CtB.on {w w' : World} {T : Nat} {c : Ct} (h : CtB w T c) (hb : Below w.heap.size w w') : CtB w' T c := (hb.block T h.lt).trans h
theorem CtB.cells {w : World} {T : Nat} {c : Ct} (h : CtB w T c) : w.cell? ⟨T, 0, none⟩ = some (.bool c.ns) ∧ w.cell? ⟨T, 1, none⟩ = some (.bool c.nc) ∧ w.cell? ⟨T, 2, none⟩ = some (.int .i64 c.ma) ∧ w.cell? ⟨T, 3, none⟩ = some (.int .i64 c.sh) := by
  unfold CtB at h
  exact ⟨by simp [World.cell?, h], by simp [World.cell?, h], by simp [World.cell?, h], by simp [World.cell?, h]⟩
theorem CtB.thaw {w : World} {T : Nat} {c : Ct} (h : CtB w T c) (i : Nat) : w.frozen? ⟨T, i, none⟩ = false := by unfold CtB at h; simp [World.frozen?, h]
theorem CtB.set0 {w : World} {T : Nat} {c : Ct} (h : CtB w T c) (b : Bool) : CtB (w.setCell ⟨T, 0, none⟩ (.bool b)) T { c with ns := b } := by
  unfold CtB at *
  simp only [World.setCell, Array.getElem?_modify, h]
  simp
theorem CtB.set1 {w : World} {T : Nat} {c : Ct} (h : CtB w T c) (b : Bool) : CtB (w.setCell ⟨T, 1, none⟩ (.bool b)) T { c with nc := b } := by
  unfold CtB at *
  simp only [World.setCell, Array.getElem?_modify, h]
  simp
theorem CtB.set2 {w : World} {T : Nat} {c : Ct} (h : CtB w T c) (b : Int) : CtB (w.setCell ⟨T, 2, none⟩ (.int .i64 b)) T { c with ma := b } := by
  unfold CtB at *
  simp only [World.setCell, Array.getElem?_modify, h]
  simp
theorem CtB.set3 {w : World} {T : Nat} {c : Ct} (h : CtB w T c) (b : Int) : CtB (w.setCell ⟨T, 3, none⟩ (.int .i64 b)) T { c with sh := b } := by
  unfold CtB at *
  simp only [World.setCell, Array.getElem?_modify, h]
  simp
theorem setC_grown {w : World} (T i : Nat) (u : Value) : w.grownBy (w.setCell ⟨T, i, none⟩ u) (some T) :=
  ⟨rfl, rfl, rfl, by simp [World.setCell], fun j _ hne => Below.heap_setCell _ _ _ _ (fun e => hne (by simp only at e; rw [e]))⟩
theorem grownC_below {w w' : World} (T : Nat) (h : Below w.heap.size w w') : w.grownBy w' (some T) := ⟨h.os, h.tape, h.output, h.size, fun k hk _ => h.block k hk⟩
theorem grownC_set {w w2 : World} {T : Nat} (h : w.grownBy w2 (some T)) (i : Nat) (u : Value) : w.grownBy (w2.setCell ⟨T, i, none⟩ u) (some T) := h.trans (setC_grown T i u)
end Go.Proofs.YtnnaphfeeobeladDoor
