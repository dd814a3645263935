/- Texts that stand in one: FilesOf, IntsOf. -/
import Derived.Test.YtpgcfgbhkodmeaaFilesLaw
import Derived.WalkKit
import Derived.ProofKit
import Derived.OpenShut
import Derived.ChangeOld
import Derived.Below
import Derived.Deep.Slices
import Derived.Deep.Strs
import Derived.Deep.MidRow
import Derived.Test.YtpgcfgbhkodmeaaIntsJ
namespace Go.Proofs.Ytpgcfgbhkodmeaa
open Go.ChangeShapes Go.WideShapes Go.ChangeAt Go.RowKit Go.Deep


theorem cells3 {w : World} {base : Nat} {a : Addr} {cs : List Value} (h : w.cells? base a 3 = some cs) : ∃ x y z, cs = [x, y, z] ∧ w.cell? (a.add 0) = some x ∧ w.cell? (a.add 1) = some y ∧ w.cell? (a.add 2) = some z := by
  unfold World.cells? at h
  split at h
  · rw [show List.range 3 = [0, 1, 2] from rfl] at h
    simp only [List.mapM_cons, List.mapM_nil] at h
    cases h0 : w.cell? (a.add 0) with
    | none => simp [h0] at h
    | some x =>
      cases h1 : w.cell? (a.add 1) with
      | none => simp [h0, h1] at h
      | some y =>
        cases h2 : w.cell? (a.add 2) with
        | none => simp [h0, h1, h2] at h
        | some z =>
          simp [h0, h1, h2] at h
          exact ⟨x, y, z, h.symm, rfl, rfl, rfl⟩
  · simp at h

theorem list3 {l : List Value} (h : l.length = 3) : ∃ a b c, l = [a, b, c] := by
  match l, h with
  | [a, b, c], _ => exact ⟨a, b, c, rfl⟩

set_option maxRecDepth 100000 in
theorem file_of {H : Type} {enc : TypeId × Value → H} {W : World} {fuel : Nat} {cs : List Value} {x : DataW H × List MemPlace} (h : DataW.trod enc Try.prog W 0 (fun _ => true) true fuel 135 cs = some x) :
    ∃ f : Fil, cs = [.string f.nm, .string f.tx, .int .i64 f.kp] ∧ f.nm.size ≤ maxLen ∧ f.tx.size ≤ maxLen := by
  obtain ⟨y0, y1, y2, n, _, hl, h0, h1, h2⟩ := trod_struct3 Try.underlying135 h
  have hc : Try.prog.cellsOf 135 = 3 := by kernel_rfl
  have hc9 : Try.prog.cellsOf 9 = 1 := by kernel_rfl
  have hc3 : Try.prog.cellsOf 3 = 1 := by kernel_rfl
  rw [hc] at hl
  obtain ⟨c0, c1, c2, rfl⟩ := list3 hl
  simp only [hc9, hc3, List.drop_zero, List.take_succ_cons, List.take_zero, List.drop_succ_cons] at h0 h1 h2
  obtain ⟨s0, e0, _, z0⟩ := DataW.trod_string Try.underlying9 h0
  obtain ⟨s1, e1, _, z1⟩ := DataW.trod_string Try.underlying9 h1
  obtain ⟨k2, e2, _, _⟩ := DataW.trod_int Try.underlying3 h2
  simp only [List.cons.injEq, and_true] at e0 e1 e2
  subst e0 e1 e2
  exact ⟨⟨s0, s1, k2⟩, rfl, z0, z1⟩

set_option maxRecDepth 100000 in
theorem disk_of {H : Type} {enc : TypeId × Value → H} {W : World} {base : Nat} {v : Value} {d : DataW H} {ps : List MemPlace} (hv : Value.okWide Try.prog W .any base 48 v) (h : DataW.Trod enc Try.prog W 0 (fun _ => true) true 48 v d ps) :
    ∃ a cap L, v = .agg #[.slice a (List.length L) cap] ∧ FAt W a L W.heap.size ∧ Sized L ∧ L.length ≤ maxLen := by
  obtain ⟨cs, rfl, hsz⟩ := okWide_struct Try.underlying48 hv
  obtain ⟨fuel, hf⟩ := h
  obtain ⟨y0, n, _, hl, h0⟩ := trod_struct1 Try.underlying48 hf
  have hc : Try.prog.cellsOf 48 = 1 := by kernel_rfl
  have hcS : Try.prog.cellsOf 46 = 1 := by kernel_rfl
  have hcF : Try.prog.cellsOf 135 = 3 := by kernel_rfl
  rw [hc] at hl
  obtain ⟨c, rfl⟩ : ∃ c, cs = #[c] := by
    match cs, hl with
    | ⟨[c]⟩, _ => exact ⟨c, rfl⟩
  simp only [Value.cells, hcS, List.drop_zero] at h0
  rcases open_slice Try.underlying46 h0 with ⟨hcs, _⟩ | ⟨a, len, cap, m, k, D, Pl, hcs, _, hlc, hcm, hmm, _, hel⟩
  · simp at hcs
    subst hcs
    exact ⟨none, 0, [], rfl, fun j hj => by simp at hj, fun j hj => by simp at hj, by simp [maxLen]⟩
  · simp at hcs
    subst hcs
    simp at hmm
    subst hmm
    rw [hcF] at hel
    have hF : ∀ i, i < m → ∃ f : Fil, W.cell? ((a.add (i * 3)).add 0) = some (.string f.nm) ∧ W.cell? ((a.add (i * 3)).add 1) = some (.string f.tx) ∧ W.cell? ((a.add (i * 3)).add 2) = some (.int .i64 f.kp) ∧ f.nm.size ≤ maxLen ∧ f.tx.size ≤ maxLen := by
      intro i hi
      obtain ⟨cs', hcs', htr⟩ := hel i hi
      obtain ⟨f, rfl, hs1, hs2⟩ := file_of htr
      obtain ⟨x, y, z, he, h0, h1, h2⟩ := cells3 hcs'
      simp only [List.cons.injEq, and_true] at he
      obtain ⟨rfl, rfl, rfl⟩ := he
      exact ⟨f, h0, h1, h2, hs1, hs2⟩
    haveI : Inhabited Fil := ⟨zfil⟩
    obtain ⟨F, hF⟩ := choose_lt hF
    refine ⟨some a, m, (List.range len).map F, by simp, fun j hj => ?_, fun j hj => ?_, by simp; omega⟩
    · simp only [List.length_map, List.length_range] at hj
      obtain ⟨h0, h1, h2, _⟩ := hF j (by omega)
      obtain ⟨b, off, spot⟩ := a
      have hspot : spot = none := by
        have h00 := (hF 0 (by omega)).1
        simpa [Addr.add] using World.cell?_spot h00
      subst hspot
      have hlt := World.block_lt_of_cell? W _ h0
      refine ⟨b, off, rfl, ?_, ?_, ?_, ?_⟩
      · simpa [Addr.add_mid] using hlt
      · simpa [Addr.add_mid] using h0
      · simpa [Addr.add_mid] using h1
      · simpa [Addr.add_mid] using h2
    · simp only [List.length_map, List.length_range] at hj
      have := hF j (by omega)
      simpa using this.2.2.2
end Go.Proofs.Ytpgcfgbhkodmeaa

namespace Go.Proofs.Ytpgcfgbhkodmeaa
open Go.ChangeShapes Go.WideShapes Go.ChangeAt Go.RowKit

set_option maxRecDepth 100000 in
theorem ints_of {H : Type} {enc : TypeId × Value → H} {W : World} {base : Nat} {v : Value} {d : DataW H} {ps : List MemPlace} (hv : Value.okWide Try.prog W .any base 49 v) (h : DataW.Trod enc Try.prog W 0 (fun _ => true) true 49 v d ps) :
    ∃ a cap l, v = .slice a (List.length l) cap ∧ IAt W a l W.heap.size ∧ l.length ≤ maxLen := by
  obtain ⟨a, len, cap, rfl⟩ := okWide_slice Try.underlying49 hv
  obtain ⟨fuel, hf⟩ := h
  have hf' : DataW.trod enc Try.prog W 0 (fun _ => true) true fuel 49 [.slice a len cap] = some (d, ps) := by simpa [Value.cells] using hf
  rcases open_ints Try.underlying49 Try.underlying3 (by kernel_rfl) hf' with ⟨hcs, _⟩ | ⟨y, l, c, zs, hcs, _, hl, hm, hz, _, hcell, hwz⟩
  · simp at hcs
    obtain ⟨rfl, rfl, rfl⟩ := hcs
    exact ⟨none, 0, [], rfl, fun j hj => by simp at hj, by simp [maxLen]⟩
  · simp at hcs
    obtain ⟨rfl, rfl, rfl⟩ := hcs
    have hz' : zs.length = cap := by simpa using hz
    refine ⟨some y, cap, zs.take len, by rw [List.length_take, show min len zs.length = len by omega], fun j hj => ?_, by rw [List.length_take]; omega⟩
    have hj' : j < len := by rw [List.length_take] at hj; omega
    have h1 := hcell j (by omega)
    have h00 := hcell 0 (by omega)
    obtain ⟨b, off, spot⟩ := y
    have hspot : spot = none := by simpa [Addr.add] using World.cell?_spot h00
    subst hspot
    have e : zs.getD j 0 = (zs.take len)[j] := by simp [List.getD, List.getElem?_eq_getElem (show j < zs.length by omega)]
    have h2 : W.cell? ⟨b, off + j, none⟩ = some (.int .i64 (zs.getD j 0)) := by
      by_cases hj0 : j = 0
      · subst hj0; simpa [Addr.add] using h1
      · simpa [Addr.add, hj0] using h1
    rw [e] at h2
    exact ⟨b, off, rfl, World.block_lt_of_cell? W ⟨b, off + j, none⟩ h2, h2⟩
theorem i64_wf {z : Int} (h : (Lit.int .i64 z).wf = true) : -9223372036854775808 ≤ z ∧ z ≤ 9223372036854775807 := by
  simp [Lit.wf] at h
  have e : IntKind.i64.min = -9223372036854775808 := by decide
  rw [e] at h
  exact h

set_option maxRecDepth 100000 in
theorem intsB_of {H : Type} {enc : TypeId × Value → H} {W : World} {base : Nat} {v : Value} {d : DataW H} {ps : List MemPlace} (hv : Value.okWide Try.prog W .any base 49 v) (h : DataW.Trod enc Try.prog W 0 (fun _ => true) true 49 v d ps) :
    ∃ a cap l, v = .slice a (List.length l) cap ∧ IAt W a l W.heap.size ∧ l.length ≤ maxLen ∧ ∀ z ∈ l, -9223372036854775808 ≤ z ∧ z ≤ 9223372036854775807 := by
  obtain ⟨a, len, cap, rfl⟩ := okWide_slice Try.underlying49 hv
  obtain ⟨fuel, hf⟩ := h
  have hf' : DataW.trod enc Try.prog W 0 (fun _ => true) true fuel 49 [.slice a len cap] = some (d, ps) := by simpa [Value.cells] using hf
  rcases open_ints Try.underlying49 Try.underlying3 (by kernel_rfl) hf' with ⟨hcs, _⟩ | ⟨y, l, c, zs, hcs, _, hl, hm, hz, _, hcell, hwz⟩
  · simp at hcs
    obtain ⟨rfl, rfl, rfl⟩ := hcs
    exact ⟨none, 0, [], rfl, fun j hj => by simp at hj, by simp [maxLen], by simp⟩
  · simp at hcs
    obtain ⟨rfl, rfl, rfl⟩ := hcs
    have hz' : zs.length = cap := by simpa using hz
    refine ⟨some y, cap, zs.take len, by rw [List.length_take, show min len zs.length = len by omega], fun j hj => ?_, by rw [List.length_take]; omega, fun z hz => ?_⟩
    case refine_2 => exact i64_wf (hwz z (List.mem_of_mem_take hz))
    have hj' : j < len := by rw [List.length_take] at hj; omega
    have h1 := hcell j (by omega)
    have h00 := hcell 0 (by omega)
    obtain ⟨b, off, spot⟩ := y
    have hspot : spot = none := by simpa [Addr.add] using World.cell?_spot h00
    subst hspot
    have e : zs.getD j 0 = (zs.take len)[j] := by simp [List.getD, List.getElem?_eq_getElem (show j < zs.length by omega)]
    have h2 : W.cell? ⟨b, off + j, none⟩ = some (.int .i64 (zs.getD j 0)) := by
      by_cases hj0 : j = 0
      · subst hj0; simpa [Addr.add] using h1
      · simpa [Addr.add, hj0] using h1
    rw [e] at h2
    exact ⟨b, off, rfl, World.block_lt_of_cell? W ⟨b, off + j, none⟩ h2, h2⟩
end Go.Proofs.Ytpgcfgbhkodmeaa
