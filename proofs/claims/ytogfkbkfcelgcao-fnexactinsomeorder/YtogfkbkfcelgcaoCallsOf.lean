/- Calls, as they come in. Written by mkcallsof.py. -/
import Derived.Test.YtogfkbkfcelgcaoCallKit
import Derived.Test.YtogfkbkfcelgcaoTaskOf
import Derived.Deep.MidRow
namespace Go.Proofs.Ytogfkbkfcelgcao
open Go.ChangeShapes Go.WideShapes Go.ChangeAt Go.RowKit Go.Deep

theorem list13 {l : List Value} (h : l.length = 13) : ∃ a b c d e f g i j k m n o, l = [a, b, c, d, e, f, g, i, j, k, m, n, o] := by
  match l, h with
  | [a, b, c, d, e, f, g, i, j, k, m, n, o], _ => exact ⟨a, b, c, d, e, f, g, i, j, k, m, n, o, rfl⟩
set_option maxRecDepth 100000 in
theorem callCells_of {H : Type} {enc : TypeId × Value → H} {W : World} {fuel : Nat} {cs : List Value} {x : DataW H × List MemPlace} (h : DataW.trod enc Try.prog W 0 (fun _ => true) true fuel 69 cs = some x) :
    ∃ f : Cl, cs = f.cells := by
  obtain ⟨y0, y1, y2, n, _, hl, h0, h1, h2⟩ := trod_struct3 Try.underlying69 h
  have hc : Try.prog.cellsOf 69 = 13 := by kernel_rfl
  have hcT : Try.prog.cellsOf 54 = 11 := by kernel_rfl
  have hc3 : Try.prog.cellsOf 3 = 1 := by kernel_rfl
  rw [hc] at hl
  obtain ⟨a, b, c, d, e, f, g, i, j, k, m, u, v, rfl⟩ := list13 hl
  simp only [hc3, hcT, List.drop_zero, List.take_succ_cons, List.take_zero, List.drop_succ_cons] at h0 h1 h2
  obtain ⟨t, ht⟩ := taskCells_of h0
  obtain ⟨v1, e1, _, _⟩ := DataW.trod_int Try.underlying3 h1
  obtain ⟨v2, e2, _, _⟩ := DataW.trod_int Try.underlying3 h2
  simp only [List.cons.injEq, and_true] at e1 e2
  subst e1 e2
  refine ⟨⟨t, v1, v2⟩, ?_⟩
  unfold tcs at ht
  simp only [List.cons.injEq, and_true] at ht
  obtain ⟨rfl, rfl, rfl, rfl, rfl, rfl, rfl, rfl, rfl, rfl, rfl⟩ := ht
  rfl

set_option maxRecDepth 100000 in
theorem calls_of {H : Type} {enc : TypeId × Value → H} {W : World} {base : Nat} {v : Value} {d : DataW H} {ps : List MemPlace} (hv : Value.okWide Try.prog W .any base 38 v) (h : DataW.Trod enc Try.prog W 0 (fun _ => true) true 38 v d ps) :
    ∃ a cap L, v = .slice a (List.length L) cap ∧ KAt W a L W.heap.size ∧ L.length ≤ maxLen := by
  obtain ⟨a0, len0, cap0, rfl⟩ := okWide_slice Try.underlying38 hv
  obtain ⟨fuel, hf⟩ := h
  have hcF : Try.prog.cellsOf 69 = 13 := by kernel_rfl
  simp only [Value.cells] at hf
  rcases open_slice Try.underlying38 hf with ⟨hcs, _⟩ | ⟨a, len, cap, m, k, D, Pl, hcs, _, hlc, hcm, hmm, _, hel⟩
  · simp at hcs
    obtain ⟨rfl, rfl, rfl⟩ := hcs
    exact ⟨none, 0, [], rfl, fun j hj => by simp at hj, by simp [maxLen]⟩
  · simp at hcs
    obtain ⟨rfl, rfl, rfl⟩ := hcs
    simp at hmm
    subst hmm
    rw [hcF] at hel
    have hF : ∀ i, i < m → ∃ f : Cl, W.cell? ((a.add (i * 13)).add 0) = some (.int .i64 f.t.kind) ∧ W.cell? ((a.add (i * 13)).add 1) = some (.int .i64 f.t.key) ∧ W.cell? ((a.add (i * 13)).add 2) = some (.int .i64 f.t.val) ∧ W.cell? ((a.add (i * 13)).add 3) = some (.int .i64 f.t.node) ∧ W.cell? ((a.add (i * 13)).add 4) = some (.int .i64 f.t.pc) ∧ W.cell? ((a.add (i * 13)).add 5) = some (.int .i64 f.t.prev) ∧ W.cell? ((a.add (i * 13)).add 6) = some (.int .i64 f.t.cur) ∧ W.cell? ((a.add (i * 13)).add 7) = some (.int .i64 f.t.next) ∧ W.cell? ((a.add (i * 13)).add 8) = some (.int .i64 f.t.mark) ∧ W.cell? ((a.add (i * 13)).add 9) = some (.bool f.t.done) ∧ W.cell? ((a.add (i * 13)).add 10) = some (.int .i64 f.t.ans) ∧ W.cell? ((a.add (i * 13)).add 11) = some (.int .i64 f.bg) ∧ W.cell? ((a.add (i * 13)).add 12) = some (.int .i64 f.nd) := by
      intro i hi
      obtain ⟨cs', hcs', htr⟩ := hel i hi
      obtain ⟨f, rfl⟩ := callCells_of htr
      obtain ⟨_, _, hget⟩ := World.cells?_some hcs'
      exact ⟨f, by have := hget 0 (by omega); simpa [Cl.cells] using this, by have := hget 1 (by omega); simpa [Cl.cells] using this, by have := hget 2 (by omega); simpa [Cl.cells] using this, by have := hget 3 (by omega); simpa [Cl.cells] using this, by have := hget 4 (by omega); simpa [Cl.cells] using this, by have := hget 5 (by omega); simpa [Cl.cells] using this, by have := hget 6 (by omega); simpa [Cl.cells] using this, by have := hget 7 (by omega); simpa [Cl.cells] using this, by have := hget 8 (by omega); simpa [Cl.cells] using this, by have := hget 9 (by omega); simpa [Cl.cells] using this, by have := hget 10 (by omega); simpa [Cl.cells] using this, by have := hget 11 (by omega); simpa [Cl.cells] using this, by have := hget 12 (by omega); simpa [Cl.cells] using this⟩
    haveI : Inhabited Cl := ⟨⟨⟨0, 0, 0, 0, 0, 0, 0, 0, 0, false, 0⟩, 0, 0⟩⟩
    obtain ⟨F, hF⟩ := choose_lt hF
    refine ⟨some a, m, (List.range len0).map F, by simp, fun j hj => ?_, by simp; omega⟩
    simp only [List.length_map, List.length_range] at hj
    obtain ⟨h0, h1, h2, h3, h4, h5, h6, h7, h8, h9, h10, h11, h12⟩ := hF j (by omega)
    obtain ⟨b, off, spot⟩ := a
    have hspot : spot = none := by
      have h00 := (hF 0 (by omega)).1
      simpa [Addr.add] using World.cell?_spot h00
    subst hspot
    have hlt := World.block_lt_of_cell? W _ h0
    refine ⟨b, off, rfl, ?_, ?_, ?_, ?_, ?_, ?_, ?_, ?_, ?_, ?_, ?_, ?_, ?_, ?_⟩
    · simpa [Addr.add_mid] using hlt
    · simpa [Addr.add_mid] using h0
    · simpa [Addr.add_mid] using h1
    · simpa [Addr.add_mid] using h2
    · simpa [Addr.add_mid] using h3
    · simpa [Addr.add_mid] using h4
    · simpa [Addr.add_mid] using h5
    · simpa [Addr.add_mid] using h6
    · simpa [Addr.add_mid] using h7
    · simpa [Addr.add_mid] using h8
    · simpa [Addr.add_mid] using h9
    · simpa [Addr.add_mid] using h10
    · simpa [Addr.add_mid] using h11
    · simpa [Addr.add_mid] using h12
end Go.Proofs.Ytogfkbkfcelgcao
