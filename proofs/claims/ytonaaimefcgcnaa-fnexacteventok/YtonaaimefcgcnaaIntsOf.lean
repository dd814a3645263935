/- A list of numbers, as it comes in. -/
import Derived.Test.YtonaaimefcgcnaaInts
import Derived.WalkKit
import Derived.ProofKit
import Derived.OpenShut
import Derived.ChangeOld
import Derived.Below
namespace Go.Proofs.Ytonaaimefcgcnaa
open Go.ChangeShapes Go.WideShapes Go.ChangeAt Go.RowKit

set_option maxRecDepth 100000 in
theorem ints_of {H : Type} {enc : TypeId × Value → H} {W : World} {base : Nat} {v : Value} {d : DataW H} {ps : List MemPlace} (hv : Value.okWide Try.prog W .any base 22 v) (h : DataW.Trod enc Try.prog W 0 (fun _ => true) true 22 v d ps) :
    ∃ a cap l, v = .slice a (List.length l) cap ∧ IAt W a l W.heap.size ∧ l.length ≤ maxLen := by
  obtain ⟨a, len, cap, rfl⟩ := okWide_slice Try.underlying22 hv
  obtain ⟨fuel, hf⟩ := h
  have hf' : DataW.trod enc Try.prog W 0 (fun _ => true) true fuel 22 [.slice a len cap] = some (d, ps) := by simpa [Value.cells] using hf
  rcases open_ints Try.underlying22 Try.underlying3 (by kernel_rfl) hf' with ⟨hcs, _⟩ | ⟨y, l, c, zs, hcs, _, hl, hm, hz, _, hcell, hwz⟩
  · simp at hcs
    obtain ⟨rfl, rfl, rfl⟩ := hcs
    exact ⟨none, 0, [], rfl, fun j hj => by simp at hj, by simp [maxLen]⟩
  · simp at hcs
    obtain ⟨rfl, rfl, rfl⟩ := hcs
    have hz' : zs.length = cap := by simpa using hz
    refine ⟨some y, cap, zs.take len, by rw [List.length_take, show min len zs.length = len by omega], fun j hj => ?_, by rw [List.length_take]; omega⟩
    have hj' : j < len := by rw [List.length_take] at hj; omega
    have h1 := hcell j (by omega)
    have h00 := hcell 0 (by omega)
    obtain ⟨b, off, spot⟩ := y
    have hspot : spot = none := by simpa [Addr.add] using World.cell?_spot h00
    subst hspot
    have e : zs.getD j 0 = (zs.take len)[j] := by simp [List.getD, List.getElem?_eq_getElem (show j < zs.length by omega)]
    have h2 : W.cell? ⟨b, off + j, none⟩ = some (.int .i64 (zs.getD j 0)) := by
      by_cases hj0 : j = 0
      · subst hj0; simpa [Addr.add] using h1
      · simpa [Addr.add, hj0] using h1
    rw [e] at h2
    exact ⟨b, off, rfl, World.block_lt_of_cell? W ⟨b, off + j, none⟩ h2, h2⟩
theorem i64_wf {z : Int} (h : (Lit.int .i64 z).wf = true) : -9223372036854775808 ≤ z ∧ z ≤ 9223372036854775807 := by
  simp [Lit.wf] at h
  have e : IntKind.i64.min = -9223372036854775808 := by decide
  rw [e] at h
  exact h

set_option maxRecDepth 100000 in
theorem intsB_of {H : Type} {enc : TypeId × Value → H} {W : World} {base : Nat} {v : Value} {d : DataW H} {ps : List MemPlace} (hv : Value.okWide Try.prog W .any base 22 v) (h : DataW.Trod enc Try.prog W 0 (fun _ => true) true 22 v d ps) :
    ∃ a cap l, v = .slice a (List.length l) cap ∧ IAt W a l W.heap.size ∧ l.length ≤ maxLen ∧ ∀ z ∈ l, -9223372036854775808 ≤ z ∧ z ≤ 9223372036854775807 := by
  obtain ⟨a, len, cap, rfl⟩ := okWide_slice Try.underlying22 hv
  obtain ⟨fuel, hf⟩ := h
  have hf' : DataW.trod enc Try.prog W 0 (fun _ => true) true fuel 22 [.slice a len cap] = some (d, ps) := by simpa [Value.cells] using hf
  rcases open_ints Try.underlying22 Try.underlying3 (by kernel_rfl) hf' with ⟨hcs, _⟩ | ⟨y, l, c, zs, hcs, _, hl, hm, hz, _, hcell, hwz⟩
  · simp at hcs
    obtain ⟨rfl, rfl, rfl⟩ := hcs
    exact ⟨none, 0, [], rfl, fun j hj => by simp at hj, by simp [maxLen], by simp⟩
  · simp at hcs
    obtain ⟨rfl, rfl, rfl⟩ := hcs
    have hz' : zs.length = cap := by simpa using hz
    refine ⟨some y, cap, zs.take len, by rw [List.length_take, show min len zs.length = len by omega], fun j hj => ?_, by rw [List.length_take]; omega, fun z hz => ?_⟩
    case refine_2 => exact i64_wf (hwz z (List.mem_of_mem_take hz))
    have hj' : j < len := by rw [List.length_take] at hj; omega
    have h1 := hcell j (by omega)
    have h00 := hcell 0 (by omega)
    obtain ⟨b, off, spot⟩ := y
    have hspot : spot = none := by simpa [Addr.add] using World.cell?_spot h00
    subst hspot
    have e : zs.getD j 0 = (zs.take len)[j] := by simp [List.getD, List.getElem?_eq_getElem (show j < zs.length by omega)]
    have h2 : W.cell? ⟨b, off + j, none⟩ = some (.int .i64 (zs.getD j 0)) := by
      by_cases hj0 : j = 0
      · subst hj0; simpa [Addr.add] using h1
      · simpa [Addr.add, hj0] using h1
    rw [e] at h2
    exact ⟨b, off, rfl, World.block_lt_of_cell? W ⟨b, off + j, none⟩ h2, h2⟩
end Go.Proofs.Ytonaaimefcgcnaa
