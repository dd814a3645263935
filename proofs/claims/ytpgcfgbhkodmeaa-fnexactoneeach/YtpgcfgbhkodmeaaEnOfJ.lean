/- Texts that stand in one: EnOf, EnsOf. -/
import Derived.Test.YtpgcfgbhkodmeaaEnLaw
import Derived.WalkKit
import Derived.ProofKit
import Derived.OpenShut
import Derived.ChangeOld
import Derived.Below
import Derived.Deep.Slices
import Derived.Deep.Strs
import Derived.Lib.SmallJoins
import Derived.Test.YtpgcfgbhkodmeaaEnRowsJ
import Derived.Deep.MidRow
namespace Go.Proofs.Ytpgcfgbhkodmeaa
open Go.ChangeShapes Go.WideShapes Go.ChangeAt Go.RowKit Go.Deep
theorem list4E {l : List Value} (h : l.length = 4) : ∃ a b c d, l = [a, b, c, d] := by
  match l, h with
  | [a, b, c, d], _ => exact ⟨a, b, c, d, rfl⟩

set_option maxRecDepth 100000 in
theorem entryCells_of {H : Type} {enc : TypeId × Value → H} {W : World} {fuel : Nat} {cs : List Value} {x : DataW H × List MemPlace} (h : DataW.trod enc Try.prog W 0 (fun _ => true) true fuel 98 cs = some x) :
    ∃ E : En, cs = [.string E.key, .int .i64 E.st, .int .i64 E.lf, .string E.bd] ∧ E.Sized := by
  obtain ⟨y0, y1, y2, y3, n, _, hl, h0, h1, h2, h3⟩ := Joins.trod_struct4 Try.underlying98 h
  have hc : Try.prog.cellsOf 98 = 4 := by kernel_rfl
  have hc9 : Try.prog.cellsOf 9 = 1 := by kernel_rfl
  have hc3 : Try.prog.cellsOf 3 = 1 := by kernel_rfl
  rw [hc] at hl
  obtain ⟨c0, c1, c2, c3, rfl⟩ := list4E hl
  simp only [hc9, hc3, List.drop_zero, List.take_succ_cons, List.take_zero, List.drop_succ_cons] at h0 h1 h2 h3
  obtain ⟨s0, e0, _, z0⟩ := DataW.trod_string Try.underlying9 h0
  obtain ⟨k1, e1, _, z1⟩ := DataW.trod_int Try.underlying3 h1
  obtain ⟨k2, e2, _, z2⟩ := DataW.trod_int Try.underlying3 h2
  obtain ⟨s3, e3, _, z3⟩ := DataW.trod_string Try.underlying9 h3
  simp only [List.cons.injEq, and_true] at e0 e1 e2 e3
  subst e0 e1 e2 e3
  exact ⟨⟨s0, k1, k2, s3⟩, rfl, ⟨z0, z3⟩, z1, z2⟩

set_option maxRecDepth 100000 in
theorem entry_of {H : Type} {enc : TypeId × Value → H} {W : World} {base : Nat} {v : Value} {d : DataW H} {ps : List MemPlace} (hv : Value.okWide Try.prog W .any base 98 v) (h : DataW.Trod enc Try.prog W 0 (fun _ => true) true 98 v d ps) :
    ∃ E : En, v = .agg #[.string E.key, .int .i64 E.st, .int .i64 E.lf, .string E.bd] ∧ E.Sized := by
  obtain ⟨cs, rfl, hsz⟩ := okWide_struct Try.underlying98 hv
  obtain ⟨fuel, hf⟩ := h
  obtain ⟨A, hA, hS⟩ := entryCells_of hf
  simp only [Value.cells] at hA
  refine ⟨A, ?_, hS⟩
  cases cs with
  | mk l =>
    simp at hA
    rw [hA]
end Go.Proofs.Ytpgcfgbhkodmeaa

namespace Go.Proofs.Ytpgcfgbhkodmeaa
open Go.ChangeShapes Go.WideShapes Go.ChangeAt Go.RowKit Go.Deep


theorem cells4E {w : World} {base : Nat} {a : Addr} {cs : List Value} (h : w.cells? base a 4 = some cs) : ∃ x y z u, cs = [x, y, z, u] ∧ w.cell? (a.add 0) = some x ∧ w.cell? (a.add 1) = some y ∧ w.cell? (a.add 2) = some z ∧ w.cell? (a.add 3) = some u := by
  unfold World.cells? at h
  split at h
  · rw [show List.range 4 = [0, 1, 2, 3] from rfl] at h
    simp only [List.mapM_cons, List.mapM_nil] at h
    cases h0 : w.cell? (a.add 0) with
    | none => simp [h0] at h
    | some x =>
      cases h1 : w.cell? (a.add 1) with
      | none => simp [h0, h1] at h
      | some y =>
        cases h2 : w.cell? (a.add 2) with
        | none => simp [h0, h1, h2] at h
        | some z =>
          cases h3 : w.cell? (a.add 3) with
          | none => simp [h0, h1, h2, h3] at h
          | some u =>
            simp [h0, h1, h2, h3] at h
            exact ⟨x, y, z, u, h.symm, rfl, rfl, rfl, rfl⟩
  · simp at h

set_option maxRecDepth 100000 in
theorem entries_of {H : Type} {enc : TypeId × Value → H} {W : World} {base : Nat} {v : Value} {d : DataW H} {ps : List MemPlace} (hv : Value.okWide Try.prog W .any base 22 v) (h : DataW.Trod enc Try.prog W 0 (fun _ => true) true 22 v d ps) :
    ∃ a cap L, v = .slice a (List.length L) cap ∧ NAt W a L W.heap.size ∧ SizedN L ∧ L.length ≤ maxLen := by
  obtain ⟨a0, len0, cap0, rfl⟩ := okWide_slice Try.underlying22 hv
  obtain ⟨fuel, hf⟩ := h
  have hcF : Try.prog.cellsOf 98 = 4 := by kernel_rfl
  simp only [Value.cells] at hf
  rcases open_slice Try.underlying22 hf with ⟨hcs, _⟩ | ⟨a, len, cap, m, k, D, Pl, hcs, _, hlc, hcm, hmm, _, hel⟩
  · simp at hcs
    obtain ⟨rfl, rfl, rfl⟩ := hcs
    exact ⟨none, 0, [], rfl, fun j hj => by simp at hj, fun j hj => by simp at hj, by simp [maxLen]⟩
  · simp at hcs
    obtain ⟨rfl, rfl, rfl⟩ := hcs
    simp at hmm
    subst hmm
    rw [hcF] at hel
    have hF : ∀ i, i < m → ∃ f : En, W.cell? ((a.add (i * 4)).add 0) = some (.string f.key) ∧ W.cell? ((a.add (i * 4)).add 1) = some (.int .i64 f.st) ∧ W.cell? ((a.add (i * 4)).add 2) = some (.int .i64 f.lf) ∧ W.cell? ((a.add (i * 4)).add 3) = some (.string f.bd) ∧ f.Sized := by
      intro i hi
      obtain ⟨cs', hcs', htr⟩ := hel i hi
      obtain ⟨f, rfl, hs1⟩ := entryCells_of htr
      obtain ⟨x, y, z, u, he, h0, h1, h2, h3⟩ := cells4E hcs'
      simp only [List.cons.injEq, and_true] at he
      obtain ⟨rfl, rfl, rfl, rfl⟩ := he
      exact ⟨f, h0, h1, h2, h3, hs1⟩
    haveI : Inhabited En := ⟨zen⟩
    obtain ⟨F, hF⟩ := choose_lt hF
    refine ⟨some a, m, (List.range len0).map F, by simp, fun j hj => ?_, fun j hj => ?_, by simp; omega⟩
    · simp only [List.length_map, List.length_range] at hj
      obtain ⟨h0, h1, h2, h3, _⟩ := hF j (by omega)
      obtain ⟨b, off, spot⟩ := a
      have hspot : spot = none := by
        have h00 := (hF 0 (by omega)).1
        simpa [Addr.add] using World.cell?_spot h00
      subst hspot
      have hlt := World.block_lt_of_cell? W _ h0
      refine ⟨b, off, rfl, ?_, ?_, ?_, ?_, ?_⟩
      · simpa [Addr.add_mid] using hlt
      · simpa [Addr.add_mid] using h0
      · simpa [Addr.add_mid] using h1
      · simpa [Addr.add_mid] using h2
      · simpa [Addr.add_mid] using h3
    · simp only [List.length_map, List.length_range] at hj
      have := hF j (by omega)
      simpa using this.2.2.2.2
end Go.Proofs.Ytpgcfgbhkodmeaa
