/- Acts, as they come in. -/
import Derived.Test.YtghladeamdhlhalActOf
import Derived.Test.YtghladeamdhlhalActs
import Derived.Deep.MidRow
namespace Go.Proofs.Ytghladeamdhlhal
open Go.ChangeShapes Go.WideShapes Go.ChangeAt Go.RowKit Go.Deep


theorem cells4 {w : World} {base : Nat} {a : Addr} {cs : List Value} (h : w.cells? base a 4 = some cs) : ∃ x y z u, cs = [x, y, z, u] ∧ w.cell? (a.add 0) = some x ∧ w.cell? (a.add 1) = some y ∧ w.cell? (a.add 2) = some z ∧ w.cell? (a.add 3) = some u := by
  unfold World.cells? at h
  split at h
  · rw [show List.range 4 = [0, 1, 2, 3] from rfl] at h
    simp only [List.mapM_cons, List.mapM_nil] at h
    cases h0 : w.cell? (a.add 0) with
    | none => simp [h0] at h
    | some x =>
      cases h1 : w.cell? (a.add 1) with
      | none => simp [h0, h1] at h
      | some y =>
        cases h2 : w.cell? (a.add 2) with
        | none => simp [h0, h1, h2] at h
        | some z =>
          cases h3 : w.cell? (a.add 3) with
          | none => simp [h0, h1, h2, h3] at h
          | some u =>
            simp [h0, h1, h2, h3] at h
            exact ⟨x, y, z, u, h.symm, rfl, rfl, rfl, rfl⟩
  · simp at h

set_option maxRecDepth 100000 in
theorem acts_of {H : Type} {enc : TypeId × Value → H} {W : World} {base : Nat} {v : Value} {d : DataW H} {ps : List MemPlace} (hv : Value.okWide Try.prog W .any base 40 v) (h : DataW.Trod enc Try.prog W 0 (fun _ => true) true 40 v d ps) :
    ∃ a cap L, v = .slice a (List.length L) cap ∧ AAt W a L W.heap.size ∧ SizedA L ∧ L.length ≤ maxLen := by
  obtain ⟨a0, len0, cap0, rfl⟩ := okWide_slice Try.underlying40 hv
  obtain ⟨fuel, hf⟩ := h
  have hcF : Try.prog.cellsOf 26 = 4 := by kernel_rfl
  simp only [Value.cells] at hf
  rcases open_slice Try.underlying40 hf with ⟨hcs, _⟩ | ⟨a, len, cap, m, k, D, Pl, hcs, _, hlc, hcm, hmm, _, hel⟩
  · simp at hcs
    obtain ⟨rfl, rfl, rfl⟩ := hcs
    exact ⟨none, 0, [], rfl, fun j hj => by simp at hj, fun j hj => by simp at hj, by simp [maxLen]⟩
  · simp at hcs
    obtain ⟨rfl, rfl, rfl⟩ := hcs
    simp at hmm
    subst hmm
    rw [hcF] at hel
    have hF : ∀ i, i < m → ∃ f : Ac, W.cell? ((a.add (i * 4)).add 0) = some (.int .i64 f.kd) ∧ W.cell? ((a.add (i * 4)).add 1) = some (.string f.nm) ∧ W.cell? ((a.add (i * 4)).add 2) = some (.string f.tx) ∧ W.cell? ((a.add (i * 4)).add 3) = some (.string f.to) ∧ f.Sized := by
      intro i hi
      obtain ⟨cs', hcs', htr⟩ := hel i hi
      obtain ⟨f, rfl, hs1⟩ := actCells_of htr
      obtain ⟨x, y, z, u, he, h0, h1, h2, h3⟩ := cells4 hcs'
      simp only [List.cons.injEq, and_true] at he
      obtain ⟨rfl, rfl, rfl, rfl⟩ := he
      exact ⟨f, h0, h1, h2, h3, hs1⟩
    haveI : Inhabited Ac := ⟨zac⟩
    obtain ⟨F, hF⟩ := choose_lt hF
    refine ⟨some a, m, (List.range len0).map F, by simp, fun j hj => ?_, fun j hj => ?_, by simp; omega⟩
    · simp only [List.length_map, List.length_range] at hj
      obtain ⟨h0, h1, h2, h3, _⟩ := hF j (by omega)
      obtain ⟨b, off, spot⟩ := a
      have hspot : spot = none := by
        have h00 := (hF 0 (by omega)).1
        simpa [Addr.add] using World.cell?_spot h00
      subst hspot
      have hlt := World.block_lt_of_cell? W _ h0
      refine ⟨b, off, rfl, ?_, ?_, ?_, ?_, ?_⟩
      · simpa [Addr.add_mid] using hlt
      · simpa [Addr.add_mid] using h0
      · simpa [Addr.add_mid] using h1
      · simpa [Addr.add_mid] using h2
      · simpa [Addr.add_mid] using h3
    · simp only [List.length_map, List.length_range] at hj
      have := hF j (by omega)
      simpa using this.2.2.2.2
end Go.Proofs.Ytghladeamdhlhal
