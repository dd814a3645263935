/- Epochs, as they come in. -/
import Derived.Test.YtockgojdmaladapGoneOf
import Derived.Test.YtockgojdmaladapEpochPlain
namespace Go.Proofs.Ytockgojdmaladap
open Go.ChangeShapes Go.WideShapes Go.ChangeAt Go.RowKit Go.Deep

set_option maxRecDepth 100000 in
theorem intsCell_of {H : Type} {enc : TypeId × Value → H} {W : World} {fuel : Nat} {c : Value} {x : DataW H × List MemPlace} (hf : DataW.trod enc Try.prog W 0 (fun _ => true) true fuel 22 [c] = some x) :
    ∃ a cap l, c = .slice a (List.length l) cap ∧ IAt W a l W.heap.size ∧ l.length ≤ maxLen := by
  rcases open_ints Try.underlying22 Try.underlying3 (by kernel_rfl) hf with ⟨hcs, _⟩ | ⟨y, l, cap, zs, hcs, _, hl, hm, hz, _, hcell, hwz⟩
  · simp at hcs
    subst hcs
    exact ⟨none, 0, [], rfl, fun j hj => by simp at hj, by simp [maxLen]⟩
  · simp at hcs
    subst hcs
    have hz' : zs.length = cap := by simpa using hz
    refine ⟨some y, cap, zs.take l, by rw [List.length_take, show min l zs.length = l by omega], fun j hj => ?_, by rw [List.length_take]; omega⟩
    have hj' : j < l := by rw [List.length_take] at hj; omega
    have h1 := hcell j (by omega)
    have h00 := hcell 0 (by omega)
    obtain ⟨b, off, spot⟩ := y
    have hspot : spot = none := by simpa [Addr.add] using World.cell?_spot h00
    subst hspot
    have e : zs.getD j 0 = (zs.take l)[j] := by simp [List.getD, List.getElem?_eq_getElem (show j < zs.length by omega)]
    have h2 : W.cell? ⟨b, off + j, none⟩ = some (.int .i64 (zs.getD j 0)) := by
      by_cases hj0 : j = 0
      · subst hj0; simpa [Addr.add] using h1
      · simpa [Addr.add, hj0] using h1
    rw [e] at h2
    exact ⟨b, off, rfl, World.block_lt_of_cell? W ⟨b, off + j, none⟩ h2, h2⟩
set_option maxRecDepth 100000 in
theorem gonesCell_of {H : Type} {enc : TypeId × Value → H} {W : World} {fuel : Nat} {c : Value} {x : DataW H × List MemPlace} (hf : DataW.trod enc Try.prog W 0 (fun _ => true) true fuel 23 [c] = some x) :
    ∃ a cap L, c = .slice a (List.length L) cap ∧ PAt W a L W.heap.size ∧ L.length ≤ maxLen := by
  have hcF : Try.prog.cellsOf 58 = 2 := by kernel_rfl
  rcases open_slice Try.underlying23 hf with ⟨hcs, _⟩ | ⟨a, len, cap, m, k, D, Pl, hcs, _, hlc, hcm, hmm, _, hel⟩
  · simp at hcs
    subst hcs
    exact ⟨none, 0, [], rfl, fun j hj => by simp at hj, by simp [maxLen]⟩
  · simp at hcs
    subst hcs
    simp at hmm
    subst hmm
    rw [hcF] at hel
    have hF : ∀ i, i < m → ∃ f : Int × Int, W.cell? ((a.add (i * 2)).add 0) = some (.int .i64 f.1) ∧ W.cell? ((a.add (i * 2)).add 1) = some (.int .i64 f.2) := by
      intro i hi
      obtain ⟨cs', hcs', htr⟩ := hel i hi
      obtain ⟨f, rfl⟩ := goneCells_of htr
      obtain ⟨x, y, he, h0, h1⟩ := cells2G hcs'
      simp only [List.cons.injEq, and_true] at he
      obtain ⟨rfl, rfl⟩ := he
      exact ⟨f, h0, h1⟩
    obtain ⟨F, hF⟩ := choose_lt hF
    refine ⟨some a, m, (List.range len).map F, by simp, fun j hj => ?_, by simp; omega⟩
    simp only [List.length_map, List.length_range] at hj
    obtain ⟨h0, h1⟩ := hF j (by omega)
    obtain ⟨b, off, spot⟩ := a
    have hspot : spot = none := by
      have h00 := (hF 0 (by omega)).1
      simpa [Addr.add] using World.cell?_spot h00
    subst hspot
    have hlt := World.block_lt_of_cell? W _ h0
    refine ⟨b, off, rfl, ?_, ?_, ?_⟩
    · simpa [Addr.add_mid] using hlt
    · simpa [Addr.add_mid] using h0
    · simpa [Addr.add_mid] using h1
theorem list3E {l : List Value} (h : l.length = 3) : ∃ a b c, l = [a, b, c] := by
  match l, h with
  | [a, b, c], _ => exact ⟨a, b, c, rfl⟩
set_option maxRecDepth 100000 in
theorem epochs_of {H : Type} {enc : TypeId × Value → H} {W : World} {base : Nat} {v : Value} {d : DataW H} {ps : List MemPlace} (hv : Value.okWide Try.prog W .any base 25 v) (h : DataW.Trod enc Try.prog W 0 (fun _ => true) true 25 v d ps) :
    ∃ (pa ga : Option Addr) (pc gc : Nat) (E : Ep), v = .agg #[.int .i64 E.now, .slice pa E.pins.length pc, .slice ga E.gone.length gc] ∧ EAt W pa ga E W.heap.size ∧ E.pins.length ≤ maxLen ∧ E.gone.length ≤ maxLen := by
  obtain ⟨cs, rfl, hsz⟩ := okWide_struct Try.underlying25 hv
  obtain ⟨fuel, hf⟩ := h
  obtain ⟨y0, y1, y2, n, _, hl, h0, h1, h2⟩ := trod_struct3 Try.underlying25 hf
  have hc : Try.prog.cellsOf 25 = 3 := by kernel_rfl
  have hc0 : Try.prog.cellsOf 3 = 1 := by kernel_rfl
  have hc1 : Try.prog.cellsOf 22 = 1 := by kernel_rfl
  have hc2 : Try.prog.cellsOf 23 = 1 := by kernel_rfl
  rw [hc] at hl
  obtain ⟨l⟩ := cs
  simp only [Value.cells] at hl h0 h1 h2
  obtain ⟨a, b, c, rfl⟩ := list3E (l := l) hl
  simp only [hc0, hc1, hc2, List.drop_zero, List.take_succ_cons, List.take_zero, List.drop_succ_cons] at h0 h1 h2
  obtain ⟨k0, e0, _, _⟩ := DataW.trod_int Try.underlying3 h0
  simp only [List.cons.injEq, and_true] at e0
  subst e0
  obtain ⟨pa, pc, pins, rfl, hP, hPl⟩ := intsCell_of h1
  obtain ⟨ga, gc, gone, rfl, hG, hGl⟩ := gonesCell_of h2
  exact ⟨pa, ga, pc, gc, ⟨k0, pins, gone⟩, rfl, ⟨hP, hG⟩, hPl, hGl⟩
end Go.Proofs.Ytockgojdmaladap
