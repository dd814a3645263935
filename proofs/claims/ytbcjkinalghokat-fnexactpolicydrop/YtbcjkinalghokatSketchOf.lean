/- A sketch, as it comes in. -/
import Derived.Test.YtbcjkinalghokatSkKit
import Derived.WalkKit
import Derived.ProofKit
import Derived.OpenShut
import Derived.ChangeOld
import Derived.Below
import Derived.Deep.Slices
import Derived.Deep.Matrix
import Derived.Deep.MidRow
import Derived.Lib.SmallJoins
namespace Go.Proofs.Ytbcjkinalghokat
open Go.ChangeShapes Go.WideShapes Go.ChangeAt Go.RowKit Go.Deep

theorem list2S {l : List Value} (h : l.length = 2) : ∃ a b, l = [a, b] := by
  match l, h with
  | [a, b], _ => exact ⟨a, b, rfl⟩
set_option maxRecDepth 100000 in
theorem rowsCell_of {H : Type} {enc : TypeId × Value → H} {W : World} {fuel : Nat} {c : Value} {x : DataW H × List MemPlace} (hf : DataW.trod enc Try.prog W 0 (fun _ => true) true fuel 23 [c] = some x) :
    ∃ a cap LL, c = .slice a (List.length LL) cap ∧ SSAt W a LL W.heap.size ∧ LL.length ≤ maxLen ∧ ∀ j (hj : j < LL.length), LL[j].length ≤ maxLen := by
  have hc1 : Try.prog.cellsOf 58 = 1 := by kernel_rfl
  have hc2 : Try.prog.cellsOf 3 = 1 := by kernel_rfl
  rcases open_int_rows Try.underlying23 Try.underlying58 Try.underlying3 hc1 hc2 hf with ⟨hcs, _⟩ | ⟨a, len, cap, A, L, C, Z, hcs, _, hlc, hcm, _, hel⟩
  · simp at hcs
    subst hcs
    exact ⟨none, 0, [], rfl, fun j hj => by simp at hj, by simp [maxLen], fun j hj => by simp at hj⟩
  · simp at hcs
    subst hcs
    refine ⟨some a, cap, (List.range len).map (fun r => (Z r).take (L r)), by simp, fun j hj => ?_, by simp; omega, fun j hj => ?_⟩
    · simp only [List.length_map, List.length_range] at hj
      obtain ⟨h1, h2, h3, h4, h5, h6, h7⟩ := hel j (by omega)
      obtain ⟨b, off, spot⟩ := a
      have hspot : spot = none := by
        have h00 := (hel 0 (by omega)).1
        simpa [Addr.add] using World.cell?_spot h00
      subst hspot
      have hlt := World.block_lt_of_cell? W _ h1
      have hlen : ((Z j).take (L j)).length = L j := by rw [List.length_take]; omega
      refine ⟨b, off, A j, C j, rfl, by simpa [Addr.add_mid] using hlt, ?_, fun i hi => ?_⟩
      · simp only [List.getElem_map, List.getElem_range, hlen]
        simpa [Addr.add_mid] using h1
      · simp only [List.getElem_map, List.getElem_range, hlen] at hi ⊢
        cases hAj : A j with
        | none => have := h6 hAj; omega
        | some a' =>
          obtain ⟨_, hcell⟩ := h7 a' hAj
          obtain ⟨b', off', spot'⟩ := a'
          have hspot' : spot' = none := by
            have h00 := hcell 0 (by omega)
            simpa [Addr.add] using World.cell?_spot h00
          subst hspot'
          have hci := hcell i (by omega)
          rw [Addr.add_mid] at hci
          refine ⟨b', off', rfl, World.block_lt_of_cell? W _ hci, ?_⟩
          rw [hci]
          have hzi : i < (Z j).length := by omega
          simp [List.getD_eq_getElem?_getD, hzi]
    · simp only [List.length_map, List.length_range] at hj
      obtain ⟨_, h2, h3, h4, _⟩ := hel j (by omega)
      simp only [List.getElem_map, List.getElem_range, List.length_take]
      omega
set_option maxRecDepth 100000 in
theorem sketch_of {H : Type} {enc : TypeId × Value → H} {W : World} {base : Nat} {v : Value} {d : DataW H} {ps : List MemPlace} (hv : Value.okWide Try.prog W .any base 32 v) (h : DataW.Trod enc Try.prog W 0 (fun _ => true) true 32 v d ps) :
    ∃ (a : Option Addr) (c : Nat) (S : Sk), v = .agg #[.slice a S.rows.length c, .int .i64 S.added] ∧ SSAt W a S.rows W.heap.size ∧ S.rows.length ≤ maxLen ∧ ∀ j (hj : j < S.rows.length), S.rows[j].length ≤ maxLen := by
  obtain ⟨cs, rfl, hsz⟩ := okWide_struct Try.underlying32 hv
  obtain ⟨fuel, hf⟩ := h
  obtain ⟨y0, y1, n, _, hl, h0, h1⟩ := trod_struct2 Try.underlying32 hf
  have hc : Try.prog.cellsOf 32 = 2 := by kernel_rfl
  have hc0 : Try.prog.cellsOf 23 = 1 := by kernel_rfl
  have hc1 : Try.prog.cellsOf 3 = 1 := by kernel_rfl
  rw [hc] at hl
  obtain ⟨l⟩ := cs
  simp only [Value.cells] at hl h0 h1
  obtain ⟨a, b, rfl⟩ := list2S (l := l) hl
  simp only [hc0, hc1, List.drop_zero, List.take_succ_cons, List.take_zero, List.drop_succ_cons] at h0 h1
  obtain ⟨k1, e1, _, _⟩ := DataW.trod_int Try.underlying3 h1
  simp only [List.cons.injEq, and_true] at e1
  subst e1
  obtain ⟨pa, pc, LL, rfl, hP, hPl, hPr⟩ := rowsCell_of h0
  exact ⟨pa, pc, ⟨LL, k1⟩, rfl, hP, hPl, hPr⟩
end Go.Proofs.Ytbcjkinalghokat
