/- Texts that stand in one: SketchOf, StrsOf, PolicyOf, EnOf, EnsOf. -/
import Derived.Test.YtpgcfgbhkodmeaaSkKit
import Derived.WalkKit
import Derived.ProofKit
import Derived.OpenShut
import Derived.ChangeOld
import Derived.Below
import Derived.Deep.Slices
import Derived.Deep.Matrix
import Derived.Deep.MidRow
import Derived.Lib.SmallJoins
import Derived.Test.YtpgcfgbhkodmeaaStrsJ
import Derived.SliceStrings
import Derived.Test.YtpgcfgbhkodmeaaEntPlainJ
import Derived.Deep.Strs
import Derived.Test.YtpgcfgbhkodmeaaEnRowsJ
namespace Go.Proofs.Ytpgcfgbhkodmeaa
open Go.ChangeShapes Go.WideShapes Go.ChangeAt Go.RowKit Go.Deep

theorem list2S {l : List Value} (h : l.length = 2) : ∃ a b, l = [a, b] := by
  match l, h with
  | [a, b], _ => exact ⟨a, b, rfl⟩
set_option maxRecDepth 100000 in
theorem rowsCell_of {H : Type} {enc : TypeId × Value → H} {W : World} {fuel : Nat} {c : Value} {x : DataW H × List MemPlace} (hf : DataW.trod enc Try.prog W 0 (fun _ => true) true fuel 24 [c] = some x) :
    ∃ a cap LL, c = .slice a (List.length LL) cap ∧ SSAt W a LL W.heap.size ∧ LL.length ≤ maxLen ∧ ∀ j (hj : j < LL.length), LL[j].length ≤ maxLen := by
  have hc1 : Try.prog.cellsOf 49 = 1 := by kernel_rfl
  have hc2 : Try.prog.cellsOf 3 = 1 := by kernel_rfl
  rcases open_int_rows Try.underlying24 Try.underlying49 Try.underlying3 hc1 hc2 hf with ⟨hcs, _⟩ | ⟨a, len, cap, A, L, C, Z, hcs, _, hlc, hcm, _, hel⟩
  · simp at hcs
    subst hcs
    exact ⟨none, 0, [], rfl, fun j hj => by simp at hj, by simp [maxLen], fun j hj => by simp at hj⟩
  · simp at hcs
    subst hcs
    refine ⟨some a, cap, (List.range len).map (fun r => (Z r).take (L r)), by simp, fun j hj => ?_, by simp; omega, fun j hj => ?_⟩
    · simp only [List.length_map, List.length_range] at hj
      obtain ⟨h1, h2, h3, h4, h5, h6, h7⟩ := hel j (by omega)
      obtain ⟨b, off, spot⟩ := a
      have hspot : spot = none := by
        have h00 := (hel 0 (by omega)).1
        simpa [Addr.add] using World.cell?_spot h00
      subst hspot
      have hlt := World.block_lt_of_cell? W _ h1
      have hlen : ((Z j).take (L j)).length = L j := by rw [List.length_take]; omega
      refine ⟨b, off, A j, C j, rfl, by simpa [Addr.add_mid] using hlt, ?_, fun i hi => ?_⟩
      · simp only [List.getElem_map, List.getElem_range, hlen]
        simpa [Addr.add_mid] using h1
      · simp only [List.getElem_map, List.getElem_range, hlen] at hi ⊢
        cases hAj : A j with
        | none => have := h6 hAj; omega
        | some a' =>
          obtain ⟨_, hcell⟩ := h7 a' hAj
          obtain ⟨b', off', spot'⟩ := a'
          have hspot' : spot' = none := by
            have h00 := hcell 0 (by omega)
            simpa [Addr.add] using World.cell?_spot h00
          subst hspot'
          have hci := hcell i (by omega)
          rw [Addr.add_mid] at hci
          refine ⟨b', off', rfl, World.block_lt_of_cell? W _ hci, ?_⟩
          rw [hci]
          have hzi : i < (Z j).length := by omega
          simp [List.getD_eq_getElem?_getD, hzi]
    · simp only [List.length_map, List.length_range] at hj
      obtain ⟨_, h2, h3, h4, _⟩ := hel j (by omega)
      simp only [List.getElem_map, List.getElem_range, List.length_take]
      omega
set_option maxRecDepth 100000 in
theorem sketch_of {H : Type} {enc : TypeId × Value → H} {W : World} {base : Nat} {v : Value} {d : DataW H} {ps : List MemPlace} (hv : Value.okWide Try.prog W .any base 26 v) (h : DataW.Trod enc Try.prog W 0 (fun _ => true) true 26 v d ps) :
    ∃ (a : Option Addr) (c : Nat) (S : Sk), v = .agg #[.slice a S.rows.length c, .int .i64 S.added] ∧ SSAt W a S.rows W.heap.size ∧ S.rows.length ≤ maxLen ∧ ∀ j (hj : j < S.rows.length), S.rows[j].length ≤ maxLen := by
  obtain ⟨cs, rfl, hsz⟩ := okWide_struct Try.underlying26 hv
  obtain ⟨fuel, hf⟩ := h
  obtain ⟨y0, y1, n, _, hl, h0, h1⟩ := trod_struct2 Try.underlying26 hf
  have hc : Try.prog.cellsOf 26 = 2 := by kernel_rfl
  have hc0 : Try.prog.cellsOf 24 = 1 := by kernel_rfl
  have hc1 : Try.prog.cellsOf 3 = 1 := by kernel_rfl
  rw [hc] at hl
  obtain ⟨l⟩ := cs
  simp only [Value.cells] at hl h0 h1
  obtain ⟨a, b, rfl⟩ := list2S (l := l) hl
  simp only [hc0, hc1, List.drop_zero, List.take_succ_cons, List.take_zero, List.drop_succ_cons] at h0 h1
  obtain ⟨k1, e1, _, _⟩ := DataW.trod_int Try.underlying3 h1
  simp only [List.cons.injEq, and_true] at e1
  subst e1
  obtain ⟨pa, pc, LL, rfl, hP, hPl, hPr⟩ := rowsCell_of h0
  exact ⟨pa, pc, ⟨LL, k1⟩, rfl, hP, hPl, hPr⟩
end Go.Proofs.Ytpgcfgbhkodmeaa

namespace Go.Proofs.Ytpgcfgbhkodmeaa
open Go.ChangeShapes Go.WideShapes Go.ChangeAt Go.RowKit

set_option maxRecDepth 100000 in
theorem strs_of {H : Type} {enc : TypeId × Value → H} {W : World} {base : Nat} {v : Value} {d : DataW H} {ps : List MemPlace} (hv : Value.okWide Try.prog W .any base 23 v) (h : DataW.Trod enc Try.prog W 0 (fun _ => true) true 23 v d ps) :
    ∃ a cap l, v = .slice a (List.length l) cap ∧ LAt W a l W.heap.size ∧ l.length ≤ maxLen ∧ ∀ j (hj : j < l.length), l[j].size ≤ maxLen := by
  obtain ⟨a, len, cap, rfl⟩ := okWide_slice Try.underlying23 hv
  obtain ⟨fuel, hf⟩ := h
  have hf' : DataW.trod enc Try.prog W 0 (fun _ => true) true fuel 23 [.slice a len cap] = some (d, ps) := by simpa [Value.cells] using hf
  rcases open_strings Try.underlying23 Try.underlying9 (by kernel_rfl) hf' with ⟨hcs, _⟩ | ⟨y, l, c, zs, hcs, _, hl, hm, hz, _, hcell, hwz⟩
  · simp at hcs
    obtain ⟨rfl, rfl, rfl⟩ := hcs
    exact ⟨none, 0, [], rfl, fun j hj => by simp at hj, by simp [maxLen], fun j hj => by simp at hj⟩
  · simp at hcs
    obtain ⟨rfl, rfl, rfl⟩ := hcs
    have hz' : zs.length = cap := by simpa using hz
    refine ⟨some y, cap, zs.take len, by rw [List.length_take, show min len zs.length = len by omega], fun j hj => ?_, by rw [List.length_take]; omega, fun j hj => hwz _ (List.mem_of_mem_take (List.getElem_mem hj))⟩
    have hj' : j < len := by rw [List.length_take] at hj; omega
    have h1 := hcell j (by omega)
    have h00 := hcell 0 (by omega)
    obtain ⟨b, off, spot⟩ := y
    have hspot : spot = none := by simpa [Addr.add] using World.cell?_spot h00
    subst hspot
    have e : zs.getD j ByteArray.empty = (zs.take len)[j] := by simp [List.getD, List.getElem?_eq_getElem (show j < zs.length by omega)]
    have h2 : W.cell? ⟨b, off + j, none⟩ = some (.string (zs.getD j ByteArray.empty)) := by
      by_cases hj0 : j = 0
      · subst hj0; simpa [Addr.add] using h1
      · simpa [Addr.add, hj0] using h1
    rw [e] at h2
    exact ⟨b, off, rfl, World.block_lt_of_cell? W ⟨b, off + j, none⟩ h2, h2⟩
end Go.Proofs.Ytpgcfgbhkodmeaa

namespace Go.Proofs.Ytpgcfgbhkodmeaa
open Go.ChangeShapes Go.WideShapes Go.ChangeAt Go.RowKit Go.Deep

theorem list4S {l : List Value} (h : l.length = 4) : ∃ a b c d, l = [a, b, c, d] := by
  match l, h with
  | [a, b, c, d], _ => exact ⟨a, b, c, d, rfl⟩
set_option maxRecDepth 100000 in
theorem strsCell_of {H : Type} {enc : TypeId × Value → H} {W : World} {fuel : Nat} {c : Value} {x : DataW H × List MemPlace} (hf : DataW.trod enc Try.prog W 0 (fun _ => true) true fuel 23 [c] = some x) :
    ∃ a cap l, c = .slice a (List.length l) cap ∧ LAt W a l W.heap.size ∧ l.length ≤ maxLen ∧ ∀ j (hj : j < l.length), l[j].size ≤ maxLen := by
  rcases open_strings Try.underlying23 Try.underlying9 (by kernel_rfl) hf with ⟨hcs, _⟩ | ⟨y, len, cap, zs, hcs, _, hl, hm, hz, _, hcell, hwz⟩
  · simp at hcs
    subst hcs
    exact ⟨none, 0, [], rfl, fun j hj => by simp at hj, by simp [maxLen], fun j hj => by simp at hj⟩
  · simp at hcs
    subst hcs
    have hz' : zs.length = cap := by simpa using hz
    refine ⟨some y, cap, zs.take len, by rw [List.length_take, show min len zs.length = len by omega], fun j hj => ?_, by rw [List.length_take]; omega, fun j hj => hwz _ (List.mem_of_mem_take (List.getElem_mem hj))⟩
    have hj' : j < len := by rw [List.length_take] at hj; omega
    have h1 := hcell j (by omega)
    have h00 := hcell 0 (by omega)
    obtain ⟨b, off, spot⟩ := y
    have hspot : spot = none := by simpa [Addr.add] using World.cell?_spot h00
    subst hspot
    have e : zs.getD j ByteArray.empty = (zs.take len)[j] := by simp [List.getD, List.getElem?_eq_getElem (show j < zs.length by omega)]
    have h2 : W.cell? ⟨b, off + j, none⟩ = some (.string (zs.getD j ByteArray.empty)) := by
      by_cases hj0 : j = 0
      · subst hj0; simpa [Addr.add] using h1
      · simpa [Addr.add, hj0] using h1
    rw [e] at h2
    exact ⟨b, off, rfl, World.block_lt_of_cell? W ⟨b, off + j, none⟩ h2, h2⟩
set_option maxRecDepth 100000 in
theorem policy_of {H : Type} {enc : TypeId × Value → H} {W : World} {base : Nat} {v : Value} {d : DataW H} {ps : List MemPlace} (hv : Value.okWide Try.prog W .any base 28 v) (h : DataW.Trod enc Try.prog W 0 (fun _ => true) true 28 v d ps) :
    ∃ (aw : Option Addr) (cw : Nat) (am : Option Addr) (cm : Nat) (ak : Option Addr) (ck : Nat) (P : Pol), v = .agg #[.slice aw P.win.length cw, .slice am P.main.length cm, .slice ak P.sk.rows.length ck, .int .i64 P.sk.added] ∧ PolAt W aw am ak P W.heap.size ∧ (P.win.length ≤ maxLen ∧ P.main.length ≤ maxLen ∧ (∀ j (hj : j < P.win.length), P.win[j].size ≤ maxLen) ∧ (∀ j (hj : j < P.main.length), P.main[j].size ≤ maxLen) ∧ P.sk.rows.length ≤ maxLen ∧ ∀ j (hj : j < P.sk.rows.length), P.sk.rows[j].length ≤ maxLen) := by
  obtain ⟨cs, rfl, hsz⟩ := okWide_struct Try.underlying28 hv
  obtain ⟨fuel, hf⟩ := h
  obtain ⟨y0, y1, y2, n, _, hl, h0, h1, h2⟩ := trod_struct3 Try.underlying28 hf
  have hc : Try.prog.cellsOf 28 = 4 := by kernel_rfl
  have hc0 : Try.prog.cellsOf 23 = 1 := by kernel_rfl
  have hc2 : Try.prog.cellsOf 26 = 2 := by kernel_rfl
  have hc3 : Try.prog.cellsOf 24 = 1 := by kernel_rfl
  have hc4 : Try.prog.cellsOf 3 = 1 := by kernel_rfl
  rw [hc] at hl
  obtain ⟨l⟩ := cs
  simp only [Value.cells] at hl h0 h1 h2
  obtain ⟨a, b, c, e, rfl⟩ := list4S (l := l) hl
  simp only [hc0, hc2, List.drop_zero, List.take_succ_cons, List.take_zero, List.drop_succ_cons] at h0 h1 h2
  obtain ⟨z0, z1, m, _, hl2, g0, g1⟩ := trod_struct2 Try.underlying26 h2
  simp only [hc3, hc4, List.drop_zero, List.take_succ_cons, List.take_zero, List.drop_succ_cons] at g0 g1
  obtain ⟨k1, e1, _, _⟩ := DataW.trod_int Try.underlying3 g1
  simp only [List.cons.injEq, and_true] at e1
  subst e1
  obtain ⟨pa, pc, LL, rfl, hP, hPl, hPr⟩ := rowsCell_of g0
  obtain ⟨wa, wc, L1, rfl, hW1, hW2, hW3⟩ := strsCell_of h0
  obtain ⟨ma, mc, L2, rfl, hM1, hM2, hM3⟩ := strsCell_of h1
  exact ⟨wa, wc, ma, mc, pa, pc, ⟨L1, L2, ⟨LL, k1⟩⟩, rfl, ⟨hW1, hM1, hP⟩, hW2, hM2, hW3, hM3, hPl, hPr⟩
end Go.Proofs.Ytpgcfgbhkodmeaa

namespace Go.Proofs.Ytpgcfgbhkodmeaa
open Go.ChangeShapes Go.WideShapes Go.ChangeAt Go.RowKit Go.Deep
theorem list4E {l : List Value} (h : l.length = 4) : ∃ a b c d, l = [a, b, c, d] := by
  match l, h with
  | [a, b, c, d], _ => exact ⟨a, b, c, d, rfl⟩

set_option maxRecDepth 100000 in
theorem entryCells_of {H : Type} {enc : TypeId × Value → H} {W : World} {fuel : Nat} {cs : List Value} {x : DataW H × List MemPlace} (h : DataW.trod enc Try.prog W 0 (fun _ => true) true fuel 98 cs = some x) :
    ∃ E : En, cs = [.string E.key, .int .i64 E.st, .int .i64 E.lf, .string E.bd] ∧ E.Sized := by
  obtain ⟨y0, y1, y2, y3, n, _, hl, h0, h1, h2, h3⟩ := Joins.trod_struct4 Try.underlying98 h
  have hc : Try.prog.cellsOf 98 = 4 := by kernel_rfl
  have hc9 : Try.prog.cellsOf 9 = 1 := by kernel_rfl
  have hc3 : Try.prog.cellsOf 3 = 1 := by kernel_rfl
  rw [hc] at hl
  obtain ⟨c0, c1, c2, c3, rfl⟩ := list4E hl
  simp only [hc9, hc3, List.drop_zero, List.take_succ_cons, List.take_zero, List.drop_succ_cons] at h0 h1 h2 h3
  obtain ⟨s0, e0, _, z0⟩ := DataW.trod_string Try.underlying9 h0
  obtain ⟨k1, e1, _, z1⟩ := DataW.trod_int Try.underlying3 h1
  obtain ⟨k2, e2, _, z2⟩ := DataW.trod_int Try.underlying3 h2
  obtain ⟨s3, e3, _, z3⟩ := DataW.trod_string Try.underlying9 h3
  simp only [List.cons.injEq, and_true] at e0 e1 e2 e3
  subst e0 e1 e2 e3
  exact ⟨⟨s0, k1, k2, s3⟩, rfl, ⟨z0, z3⟩, z1, z2⟩

set_option maxRecDepth 100000 in
theorem entry_of {H : Type} {enc : TypeId × Value → H} {W : World} {base : Nat} {v : Value} {d : DataW H} {ps : List MemPlace} (hv : Value.okWide Try.prog W .any base 98 v) (h : DataW.Trod enc Try.prog W 0 (fun _ => true) true 98 v d ps) :
    ∃ E : En, v = .agg #[.string E.key, .int .i64 E.st, .int .i64 E.lf, .string E.bd] ∧ E.Sized := by
  obtain ⟨cs, rfl, hsz⟩ := okWide_struct Try.underlying98 hv
  obtain ⟨fuel, hf⟩ := h
  obtain ⟨A, hA, hS⟩ := entryCells_of hf
  simp only [Value.cells] at hA
  refine ⟨A, ?_, hS⟩
  cases cs with
  | mk l =>
    simp at hA
    rw [hA]
end Go.Proofs.Ytpgcfgbhkodmeaa

namespace Go.Proofs.Ytpgcfgbhkodmeaa
open Go.ChangeShapes Go.WideShapes Go.ChangeAt Go.RowKit Go.Deep


theorem cells4E {w : World} {base : Nat} {a : Addr} {cs : List Value} (h : w.cells? base a 4 = some cs) : ∃ x y z u, cs = [x, y, z, u] ∧ w.cell? (a.add 0) = some x ∧ w.cell? (a.add 1) = some y ∧ w.cell? (a.add 2) = some z ∧ w.cell? (a.add 3) = some u := by
  unfold World.cells? at h
  split at h
  · rw [show List.range 4 = [0, 1, 2, 3] from rfl] at h
    simp only [List.mapM_cons, List.mapM_nil] at h
    cases h0 : w.cell? (a.add 0) with
    | none => simp [h0] at h
    | some x =>
      cases h1 : w.cell? (a.add 1) with
      | none => simp [h0, h1] at h
      | some y =>
        cases h2 : w.cell? (a.add 2) with
        | none => simp [h0, h1, h2] at h
        | some z =>
          cases h3 : w.cell? (a.add 3) with
          | none => simp [h0, h1, h2, h3] at h
          | some u =>
            simp [h0, h1, h2, h3] at h
            exact ⟨x, y, z, u, h.symm, rfl, rfl, rfl, rfl⟩
  · simp at h

set_option maxRecDepth 100000 in
theorem entries_of {H : Type} {enc : TypeId × Value → H} {W : World} {base : Nat} {v : Value} {d : DataW H} {ps : List MemPlace} (hv : Value.okWide Try.prog W .any base 22 v) (h : DataW.Trod enc Try.prog W 0 (fun _ => true) true 22 v d ps) :
    ∃ a cap L, v = .slice a (List.length L) cap ∧ NAt W a L W.heap.size ∧ SizedN L ∧ L.length ≤ maxLen := by
  obtain ⟨a0, len0, cap0, rfl⟩ := okWide_slice Try.underlying22 hv
  obtain ⟨fuel, hf⟩ := h
  have hcF : Try.prog.cellsOf 98 = 4 := by kernel_rfl
  simp only [Value.cells] at hf
  rcases open_slice Try.underlying22 hf with ⟨hcs, _⟩ | ⟨a, len, cap, m, k, D, Pl, hcs, _, hlc, hcm, hmm, _, hel⟩
  · simp at hcs
    obtain ⟨rfl, rfl, rfl⟩ := hcs
    exact ⟨none, 0, [], rfl, fun j hj => by simp at hj, fun j hj => by simp at hj, by simp [maxLen]⟩
  · simp at hcs
    obtain ⟨rfl, rfl, rfl⟩ := hcs
    simp at hmm
    subst hmm
    rw [hcF] at hel
    have hF : ∀ i, i < m → ∃ f : En, W.cell? ((a.add (i * 4)).add 0) = some (.string f.key) ∧ W.cell? ((a.add (i * 4)).add 1) = some (.int .i64 f.st) ∧ W.cell? ((a.add (i * 4)).add 2) = some (.int .i64 f.lf) ∧ W.cell? ((a.add (i * 4)).add 3) = some (.string f.bd) ∧ f.Sized := by
      intro i hi
      obtain ⟨cs', hcs', htr⟩ := hel i hi
      obtain ⟨f, rfl, hs1⟩ := entryCells_of htr
      obtain ⟨x, y, z, u, he, h0, h1, h2, h3⟩ := cells4E hcs'
      simp only [List.cons.injEq, and_true] at he
      obtain ⟨rfl, rfl, rfl, rfl⟩ := he
      exact ⟨f, h0, h1, h2, h3, hs1⟩
    haveI : Inhabited En := ⟨zen⟩
    obtain ⟨F, hF⟩ := choose_lt hF
    refine ⟨some a, m, (List.range len0).map F, by simp, fun j hj => ?_, fun j hj => ?_, by simp; omega⟩
    · simp only [List.length_map, List.length_range] at hj
      obtain ⟨h0, h1, h2, h3, _⟩ := hF j (by omega)
      obtain ⟨b, off, spot⟩ := a
      have hspot : spot = none := by
        have h00 := (hF 0 (by omega)).1
        simpa [Addr.add] using World.cell?_spot h00
      subst hspot
      have hlt := World.block_lt_of_cell? W _ h0
      refine ⟨b, off, rfl, ?_, ?_, ?_, ?_, ?_⟩
      · simpa [Addr.add_mid] using hlt
      · simpa [Addr.add_mid] using h0
      · simpa [Addr.add_mid] using h1
      · simpa [Addr.add_mid] using h2
      · simpa [Addr.add_mid] using h3
    · simp only [List.length_map, List.length_range] at hj
      have := hF j (by omega)
      simpa using this.2.2.2.2
end Go.Proofs.Ytpgcfgbhkodmeaa
