/- A head, as it comes in. -/
import Derived.Test.YtnnaphfeeobelarDoorFieldOf
namespace Go.Proofs.YtnnaphfeeobelarDoor
open Go.ChangeShapes Go.WideShapes Go.ChangeAt Go.RowKit Go.Deep
set_option maxRecDepth 100000 in
theorem fieldsCell_of {H : Type} {enc : TypeId × Value → H} {W : World} {fuel : Nat} {c : Value} {x : DataW H × List MemPlace} (hf : DataW.trod enc Tryd.prog W 0 (fun _ => true) true fuel 28 [c] = some x) :
    ∃ a cap L, c = .slice a (List.length L) cap ∧ DAt W a L W.heap.size ∧ (∀ j (hj : j < L.length), L[j].1.size ≤ maxLen ∧ L[j].2.size ≤ maxLen) ∧ L.length ≤ maxLen := by
  have hcF : Tryd.prog.cellsOf 86 = 2 := by kernel_rfl
  rcases open_slice Tryd.underlying28 hf with ⟨hcs, _⟩ | ⟨a, len, cap, m, k, D, Pl, hcs, _, hlc, hcm, hmm, _, hel⟩
  · simp at hcs
    subst hcs
    exact ⟨none, 0, [], rfl, fun j hj => by simp at hj, fun j hj => by simp at hj, by simp [maxLen]⟩
  · simp at hcs
    subst hcs
    simp at hmm
    subst hmm
    rw [hcF] at hel
    have hF : ∀ i, i < m → ∃ f : ByteArray × ByteArray, W.cell? ((a.add (i * 2)).add 0) = some (.string f.1) ∧ W.cell? ((a.add (i * 2)).add 1) = some (.string f.2) ∧ f.1.size ≤ maxLen ∧ f.2.size ≤ maxLen := by
      intro i hi
      obtain ⟨cs', hcs', htr⟩ := hel i hi
      obtain ⟨f, rfl, z1, z2⟩ := fieldCells_of htr
      obtain ⟨x, y, he, h0, h1⟩ := cells2F hcs'
      simp only [List.cons.injEq, and_true] at he
      obtain ⟨rfl, rfl⟩ := he
      exact ⟨f, h0, h1, z1, z2⟩
    obtain ⟨F, hF⟩ := choose_lt hF
    refine ⟨some a, m, (List.range len).map F, by simp, fun j hj => ?_, fun j hj => ?_, by simp; omega⟩
    · simp only [List.length_map, List.length_range] at hj
      obtain ⟨h0, h1, _⟩ := hF j (by omega)
      obtain ⟨b, off, spot⟩ := a
      have hspot : spot = none := by
        have h00 := (hF 0 (by omega)).1
        simpa [Addr.add] using World.cell?_spot h00
      subst hspot
      have hlt := World.block_lt_of_cell? W _ h0
      refine ⟨b, off, rfl, ?_, ?_, ?_⟩
      · simpa [Addr.add_mid] using hlt
      · simpa [Addr.add_mid] using h0
      · simpa [Addr.add_mid] using h1
    · simp only [List.length_map, List.length_range] at hj
      have := hF j (by omega)
      simpa using this.2.2
set_option maxRecDepth 100000 in
theorem head_of {H : Type} {enc : TypeId × Value → H} {W : World} {base : Nat} {v : Value} {d : DataW H} {ps : List MemPlace} (hv : Value.okWide Tryd.prog W .any base 30 v) (h : DataW.Trod enc Tryd.prog W 0 (fun _ => true) true 30 v d ps) :
    ∃ (a : Option Addr) (cap : Nat) (line : ByteArray) (L : List (ByteArray × ByteArray)), v = .agg #[.string line, .slice a L.length cap] ∧ DAt W a L W.heap.size ∧ (∀ j (hj : j < L.length), L[j].1.size ≤ maxLen ∧ L[j].2.size ≤ maxLen) ∧ L.length ≤ maxLen ∧ line.size ≤ maxLen := by
  obtain ⟨cs, rfl, hsz⟩ := okWide_struct Tryd.underlying30 hv
  obtain ⟨fuel, hf⟩ := h
  obtain ⟨y0, y1, n, _, hl, h0, h1⟩ := trod_struct2 Tryd.underlying30 hf
  have hc : Tryd.prog.cellsOf 30 = 2 := by kernel_rfl
  have hc0 : Tryd.prog.cellsOf 9 = 1 := by kernel_rfl
  have hc1 : Tryd.prog.cellsOf 28 = 1 := by kernel_rfl
  rw [hc] at hl
  obtain ⟨l⟩ := cs
  simp only [Value.cells] at hl h0 h1
  obtain ⟨a, b, rfl⟩ := list2F (l := l) hl
  simp only [hc0, hc1, List.drop_zero, List.take_succ_cons, List.take_zero, List.drop_succ_cons] at h0 h1
  obtain ⟨s0, e0, _, z0⟩ := DataW.trod_string Tryd.underlying9 h0
  simp only [List.cons.injEq, and_true] at e0
  subst e0
  obtain ⟨pa, pc, L, rfl, hP, hz, hPl⟩ := fieldsCell_of h1
  exact ⟨pa, pc, s0, L, rfl, hP, hz, hPl, z0⟩
end Go.Proofs.YtnnaphfeeobelarDoor
