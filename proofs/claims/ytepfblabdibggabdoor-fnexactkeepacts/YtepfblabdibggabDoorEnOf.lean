/- An entry, as it comes in. -/
import Derived.Test.YtepfblabdibggabDoorEnLaw
import Derived.WalkKit
import Derived.ProofKit
import Derived.OpenShut
import Derived.ChangeOld
import Derived.Below
import Derived.Deep.Slices
import Derived.Deep.Strs
import Derived.Lib.SmallJoins
namespace Go.Proofs.YtepfblabdibggabDoor
open Go.ChangeShapes Go.WideShapes Go.ChangeAt Go.RowKit Go.Deep
theorem list4E {l : List Value} (h : l.length = 4) : ∃ a b c d, l = [a, b, c, d] := by
  match l, h with
  | [a, b, c, d], _ => exact ⟨a, b, c, d, rfl⟩

set_option maxRecDepth 100000 in
theorem entryCells_of {H : Type} {enc : TypeId × Value → H} {W : World} {fuel : Nat} {cs : List Value} {x : DataW H × List MemPlace} (h : DataW.trod enc Tryd.prog W 0 (fun _ => true) true fuel 23 cs = some x) :
    ∃ E : En, cs = [.string E.key, .int .i64 E.st, .int .i64 E.lf, .string E.bd] ∧ E.Sized := by
  obtain ⟨y0, y1, y2, y3, n, _, hl, h0, h1, h2, h3⟩ := Joins.trod_struct4 Tryd.underlying23 h
  have hc : Tryd.prog.cellsOf 23 = 4 := by kernel_rfl
  have hc9 : Tryd.prog.cellsOf 9 = 1 := by kernel_rfl
  have hc3 : Tryd.prog.cellsOf 3 = 1 := by kernel_rfl
  rw [hc] at hl
  obtain ⟨c0, c1, c2, c3, rfl⟩ := list4E hl
  simp only [hc9, hc3, List.drop_zero, List.take_succ_cons, List.take_zero, List.drop_succ_cons] at h0 h1 h2 h3
  obtain ⟨s0, e0, _, z0⟩ := DataW.trod_string Tryd.underlying9 h0
  obtain ⟨k1, e1, _, z1⟩ := DataW.trod_int Tryd.underlying3 h1
  obtain ⟨k2, e2, _, z2⟩ := DataW.trod_int Tryd.underlying3 h2
  obtain ⟨s3, e3, _, z3⟩ := DataW.trod_string Tryd.underlying9 h3
  simp only [List.cons.injEq, and_true] at e0 e1 e2 e3
  subst e0 e1 e2 e3
  exact ⟨⟨s0, k1, k2, s3⟩, rfl, ⟨z0, z3⟩, z1, z2⟩

set_option maxRecDepth 100000 in
theorem entry_of {H : Type} {enc : TypeId × Value → H} {W : World} {base : Nat} {v : Value} {d : DataW H} {ps : List MemPlace} (hv : Value.okWide Tryd.prog W .any base 23 v) (h : DataW.Trod enc Tryd.prog W 0 (fun _ => true) true 23 v d ps) :
    ∃ E : En, v = .agg #[.string E.key, .int .i64 E.st, .int .i64 E.lf, .string E.bd] ∧ E.Sized := by
  obtain ⟨cs, rfl, hsz⟩ := okWide_struct Tryd.underlying23 hv
  obtain ⟨fuel, hf⟩ := h
  obtain ⟨A, hA, hS⟩ := entryCells_of hf
  simp only [Value.cells] at hA
  refine ⟨A, ?_, hS⟩
  cases cs with
  | mk l =>
    simp at hA
    rw [hA]
end Go.Proofs.YtepfblabdibggabDoor
