/- A stream, as it comes in. -/
import Derived.Test.YtmpnjijbahjinauRdOf
import Derived.Test.YtmpnjijbahjinauStmBase
namespace Go.Proofs.Ytmpnjijbahjinau
open Go.ChangeShapes Go.WideShapes Go.ChangeAt Go.RowKit Go.Deep

set_option maxRecDepth 100000 in
theorem readersCell_of {H : Type} {enc : TypeId × Value → H} {W : World} {fuel : Nat} {c : Value} {x : DataW H × List MemPlace} (hf : DataW.trod enc Try.prog W 0 (fun _ => true) true fuel 22 [c] = some x) :
    ∃ a cap L, c = .slice a (List.length L) cap ∧ PAt W a L W.heap.size ∧ L.length ≤ maxLen := by
  have hcF : Try.prog.cellsOf 68 = 2 := by kernel_rfl
  rcases open_slice Try.underlying22 hf with ⟨hcs, _⟩ | ⟨a, len, cap, m, k, D, Pl, hcs, _, hlc, hcm, hmm, _, hel⟩
  · simp at hcs
    subst hcs
    exact ⟨none, 0, [], rfl, fun j hj => by simp at hj, by simp [maxLen]⟩
  · simp at hcs
    subst hcs
    simp at hmm
    subst hmm
    rw [hcF] at hel
    have hF : ∀ i, i < m → ∃ f : Int × Int, W.cell? ((a.add (i * 2)).add 0) = some (.int .i64 f.1) ∧ W.cell? ((a.add (i * 2)).add 1) = some (.int .i64 f.2) := by
      intro i hi
      obtain ⟨cs', hcs', htr⟩ := hel i hi
      obtain ⟨f, rfl⟩ := readerCells_of htr
      obtain ⟨x, y, he, h0, h1⟩ := cells2R hcs'
      simp only [List.cons.injEq, and_true] at he
      obtain ⟨rfl, rfl⟩ := he
      exact ⟨f, h0, h1⟩
    obtain ⟨F, hF⟩ := choose_lt hF
    refine ⟨some a, m, (List.range len).map F, by simp, fun j hj => ?_, by simp; omega⟩
    simp only [List.length_map, List.length_range] at hj
    obtain ⟨h0, h1⟩ := hF j (by omega)
    obtain ⟨b, off, spot⟩ := a
    have hspot : spot = none := by
      have h00 := (hF 0 (by omega)).1
      simpa [Addr.add] using World.cell?_spot h00
    subst hspot
    have hlt := World.block_lt_of_cell? W _ h0
    refine ⟨b, off, rfl, ?_, ?_, ?_⟩
    · simpa [Addr.add_mid] using hlt
    · simpa [Addr.add_mid] using h0
    · simpa [Addr.add_mid] using h1
theorem list3M {l : List Value} (h : l.length = 3) : ∃ a b c, l = [a, b, c] := by
  match l, h with
  | [a, b, c], _ => exact ⟨a, b, c, rfl⟩
set_option maxRecDepth 100000 in
theorem stream_of {H : Type} {enc : TypeId × Value → H} {W : World} {base : Nat} {v : Value} {d : DataW H} {ps : List MemPlace} (hv : Value.okWide Try.prog W .any base 24 v) (h : DataW.Trod enc Try.prog W 0 (fun _ => true) true 24 v d ps) :
    ∃ (a : Option Addr) (c : Nat) (S : Stm), v = .agg #[.int .i64 S.st, .string S.text, .slice a S.rd.length c] ∧ PAt W a S.rd W.heap.size ∧ S.text.size ≤ maxLen ∧ S.rd.length ≤ maxLen := by
  obtain ⟨cs, rfl, hsz⟩ := okWide_struct Try.underlying24 hv
  obtain ⟨fuel, hf⟩ := h
  obtain ⟨y0, y1, y2, n, _, hl, h0, h1, h2⟩ := trod_struct3 Try.underlying24 hf
  have hc : Try.prog.cellsOf 24 = 3 := by kernel_rfl
  have hc0 : Try.prog.cellsOf 3 = 1 := by kernel_rfl
  have hc1 : Try.prog.cellsOf 9 = 1 := by kernel_rfl
  have hc2 : Try.prog.cellsOf 22 = 1 := by kernel_rfl
  rw [hc] at hl
  obtain ⟨l⟩ := cs
  simp only [Value.cells] at hl h0 h1 h2
  obtain ⟨a, b, c, rfl⟩ := list3M (l := l) hl
  simp only [hc0, hc1, hc2, List.drop_zero, List.take_succ_cons, List.take_zero, List.drop_succ_cons] at h0 h1 h2
  obtain ⟨k0, e0, _, z0⟩ := DataW.trod_int Try.underlying3 h0
  simp only [List.cons.injEq, and_true] at e0
  subst e0
  obtain ⟨s1, e1, _, z1⟩ := DataW.trod_string Try.underlying9 h1
  simp only [List.cons.injEq, and_true] at e1
  subst e1
  obtain ⟨ga, gc, rd, rfl, hG, hGl⟩ := readersCell_of h2
  exact ⟨ga, gc, ⟨k0, s1, rd⟩, rfl, hG, z1, hGl⟩
end Go.Proofs.Ytmpnjijbahjinau
