/- A policy, as it comes in. -/
import Derived.Test.YtbcjkinalghokatPolKit
import Derived.Test.YtbcjkinalghokatSketchOf
import Derived.Test.YtbcjkinalghokatStrsOf
namespace Go.Proofs.Ytbcjkinalghokat
open Go.ChangeShapes Go.WideShapes Go.ChangeAt Go.RowKit Go.Deep

theorem list4S {l : List Value} (h : l.length = 4) : ∃ a b c d, l = [a, b, c, d] := by
  match l, h with
  | [a, b, c, d], _ => exact ⟨a, b, c, d, rfl⟩
set_option maxRecDepth 100000 in
theorem strsCell_of {H : Type} {enc : TypeId × Value → H} {W : World} {fuel : Nat} {c : Value} {x : DataW H × List MemPlace} (hf : DataW.trod enc Try.prog W 0 (fun _ => true) true fuel 22 [c] = some x) :
    ∃ a cap l, c = .slice a (List.length l) cap ∧ LAt W a l W.heap.size ∧ l.length ≤ maxLen ∧ ∀ j (hj : j < l.length), l[j].size ≤ maxLen := by
  rcases open_strings Try.underlying22 Try.underlying9 (by kernel_rfl) hf with ⟨hcs, _⟩ | ⟨y, len, cap, zs, hcs, _, hl, hm, hz, _, hcell, hwz⟩
  · simp at hcs
    subst hcs
    exact ⟨none, 0, [], rfl, fun j hj => by simp at hj, by simp [maxLen], fun j hj => by simp at hj⟩
  · simp at hcs
    subst hcs
    have hz' : zs.length = cap := by simpa using hz
    refine ⟨some y, cap, zs.take len, by rw [List.length_take, show min len zs.length = len by omega], fun j hj => ?_, by rw [List.length_take]; omega, fun j hj => hwz _ (List.mem_of_mem_take (List.getElem_mem hj))⟩
    have hj' : j < len := by rw [List.length_take] at hj; omega
    have h1 := hcell j (by omega)
    have h00 := hcell 0 (by omega)
    obtain ⟨b, off, spot⟩ := y
    have hspot : spot = none := by simpa [Addr.add] using World.cell?_spot h00
    subst hspot
    have e : zs.getD j ByteArray.empty = (zs.take len)[j] := by simp [List.getD, List.getElem?_eq_getElem (show j < zs.length by omega)]
    have h2 : W.cell? ⟨b, off + j, none⟩ = some (.string (zs.getD j ByteArray.empty)) := by
      by_cases hj0 : j = 0
      · subst hj0; simpa [Addr.add] using h1
      · simpa [Addr.add, hj0] using h1
    rw [e] at h2
    exact ⟨b, off, rfl, World.block_lt_of_cell? W ⟨b, off + j, none⟩ h2, h2⟩
set_option maxRecDepth 100000 in
theorem policy_of {H : Type} {enc : TypeId × Value → H} {W : World} {base : Nat} {v : Value} {d : DataW H} {ps : List MemPlace} (hv : Value.okWide Try.prog W .any base 34 v) (h : DataW.Trod enc Try.prog W 0 (fun _ => true) true 34 v d ps) :
    ∃ (aw : Option Addr) (cw : Nat) (am : Option Addr) (cm : Nat) (ak : Option Addr) (ck : Nat) (P : Pol), v = .agg #[.slice aw P.win.length cw, .slice am P.main.length cm, .slice ak P.sk.rows.length ck, .int .i64 P.sk.added] ∧ PolAt W aw am ak P W.heap.size ∧ (P.win.length ≤ maxLen ∧ P.main.length ≤ maxLen ∧ (∀ j (hj : j < P.win.length), P.win[j].size ≤ maxLen) ∧ (∀ j (hj : j < P.main.length), P.main[j].size ≤ maxLen) ∧ P.sk.rows.length ≤ maxLen ∧ ∀ j (hj : j < P.sk.rows.length), P.sk.rows[j].length ≤ maxLen) := by
  obtain ⟨cs, rfl, hsz⟩ := okWide_struct Try.underlying34 hv
  obtain ⟨fuel, hf⟩ := h
  obtain ⟨y0, y1, y2, n, _, hl, h0, h1, h2⟩ := trod_struct3 Try.underlying34 hf
  have hc : Try.prog.cellsOf 34 = 4 := by kernel_rfl
  have hc0 : Try.prog.cellsOf 22 = 1 := by kernel_rfl
  have hc2 : Try.prog.cellsOf 32 = 2 := by kernel_rfl
  have hc3 : Try.prog.cellsOf 23 = 1 := by kernel_rfl
  have hc4 : Try.prog.cellsOf 3 = 1 := by kernel_rfl
  rw [hc] at hl
  obtain ⟨l⟩ := cs
  simp only [Value.cells] at hl h0 h1 h2
  obtain ⟨a, b, c, e, rfl⟩ := list4S (l := l) hl
  simp only [hc0, hc2, List.drop_zero, List.take_succ_cons, List.take_zero, List.drop_succ_cons] at h0 h1 h2
  obtain ⟨z0, z1, m, _, hl2, g0, g1⟩ := trod_struct2 Try.underlying32 h2
  simp only [hc3, hc4, List.drop_zero, List.take_succ_cons, List.take_zero, List.drop_succ_cons] at g0 g1
  obtain ⟨k1, e1, _, _⟩ := DataW.trod_int Try.underlying3 g1
  simp only [List.cons.injEq, and_true] at e1
  subst e1
  obtain ⟨pa, pc, LL, rfl, hP, hPl, hPr⟩ := rowsCell_of g0
  obtain ⟨wa, wc, L1, rfl, hW1, hW2, hW3⟩ := strsCell_of h0
  obtain ⟨ma, mc, L2, rfl, hM1, hM2, hM3⟩ := strsCell_of h1
  exact ⟨wa, wc, ma, mc, pa, pc, ⟨L1, L2, ⟨LL, k1⟩⟩, rfl, ⟨hW1, hM1, hP⟩, hW2, hM2, hW3, hM3, hPl, hPr⟩
end Go.Proofs.Ytbcjkinalghokat
