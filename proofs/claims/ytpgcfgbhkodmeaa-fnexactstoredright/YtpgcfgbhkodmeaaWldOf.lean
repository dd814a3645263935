/- A world, as it comes in. Written by mkwldof.py. -/
import Derived.Test.YtpgcfgbhkodmeaaWldBase
import Derived.Test.YtpgcfgbhkodmeaaPrxOf
import Derived.Test.YtpgcfgbhkodmeaaFilesOfJ
namespace Go.Proofs.Ytpgcfgbhkodmeaa
open Go.ChangeShapes Go.WideShapes Go.ChangeAt Go.RowKit Go.Deep
theorem trodX_struct4 {H : Type} {enc : TypeId × Value → H} {P : Program} {w : World} {base : Nat} {spare : Nat → Bool} {held : Bool} {t : TypeId} {f0 f1 f2 f3 : Field} {fuel : Nat} {cs : List Value} {x : DataW H × List MemPlace} (ht : P.underlying t = some (.struct #[f0, f1, f2, f3])) (h : DataW.trod enc P w base spare held fuel t cs = some x) :
    ∃ y0 y1 y2 y3 n, cs.length = P.cellsOf t ∧ DataW.trod enc P w base spare held n f0.type ((cs.drop f0.offset).take (P.cellsOf f0.type)) = some y0 ∧ DataW.trod enc P w base spare held n f1.type ((cs.drop f1.offset).take (P.cellsOf f1.type)) = some y1 ∧ DataW.trod enc P w base spare held n f2.type ((cs.drop f2.offset).take (P.cellsOf f2.type)) = some y2 ∧ DataW.trod enc P w base spare held n f3.type ((cs.drop f3.offset).take (P.cellsOf f3.type)) = some y3 := by
  obtain ⟨xs, n, _, rfl, hl, hlen, hf⟩ := DataW.trod_struct ht h
  match xs, hlen with
  | [y0, y1, y2, y3], _ => exact ⟨y0, y1, y2, y3, n, hl, by simpa using hf 0 f0 rfl, by simpa using hf 1 f1 rfl, by simpa using hf 2 f2 rfl, by simpa using hf 3 f3 rfl⟩
theorem trodX_struct1 {H : Type} {enc : TypeId × Value → H} {P : Program} {w : World} {base : Nat} {spare : Nat → Bool} {held : Bool} {t : TypeId} {f0 : Field} {fuel : Nat} {cs : List Value} {x : DataW H × List MemPlace} (ht : P.underlying t = some (.struct #[f0])) (h : DataW.trod enc P w base spare held fuel t cs = some x) :
    ∃ y0 n, cs.length = P.cellsOf t ∧ DataW.trod enc P w base spare held n f0.type ((cs.drop f0.offset).take (P.cellsOf f0.type)) = some y0 := by
  obtain ⟨xs, n, _, rfl, hl, hlen, hf⟩ := DataW.trod_struct ht h
  match xs, hlen with
  | [y0], _ => exact ⟨y0, n, hl, by simpa using hf 0 f0 rfl⟩
theorem listX12 {l : List Value} (h : l.length = 12) : ∃ z0 z1 z2 z3 z4 z5 z6 z7 z8 z9 z10 z11, l = [z0, z1, z2, z3, z4, z5, z6, z7, z8, z9, z10, z11] := by
  match l, h with
  | [z0, z1, z2, z3, z4, z5, z6, z7, z8, z9, z10, z11], _ => exact ⟨z0, z1, z2, z3, z4, z5, z6, z7, z8, z9, z10, z11, rfl⟩
set_option maxRecDepth 100000 in
theorem proxyCells_of {H : Type} {enc : TypeId × Value → H} {W : World} {fuel : Nat} {cs : List Value} {x : DataW H × List MemPlace} (hf : DataW.trod enc Try.prog W 0 (fun _ => true) true fuel 32 cs = some x) :
    ∃ (X : Pc) (R : Prx), cs = [.int .i64 R.now, X.e, X.w, X.m, X.k, .int .i64 R.pol.sk.added, X.f, X.c, .int .i64 R.hits] ∧ PxAt W X R W.heap.size ∧ PxM R := by
  obtain ⟨y0, y1, y2, y3, y4, y5, n, hl, h0, h1, h2, h3, h4, h5⟩ := trodX_struct6 Try.underlying32 hf
  have hc : Try.prog.cellsOf 32 = 9 := by kernel_rfl
  have hcE : Try.prog.cellsOf 22 = 1 := by kernel_rfl
  have hcP : Try.prog.cellsOf 28 = 4 := by kernel_rfl
  have hcF : Try.prog.cellsOf 29 = 1 := by kernel_rfl
  have hcC : Try.prog.cellsOf 30 = 1 := by kernel_rfl
  have hc3 : Try.prog.cellsOf 3 = 1 := by kernel_rfl
  rw [hc] at hl
  obtain ⟨a0, a1, a2, a3, a4, a5, a6, a7, a8, rfl⟩ := listX9 (l := cs) hl
  simp only [hc3, hcE, hcP, hcF, hcC, List.drop_zero, List.take_succ_cons, List.take_zero, List.drop_succ_cons] at h0 h1 h2 h3 h4 h5
  obtain ⟨k0, e0, _, z0⟩ := DataW.trod_int Try.underlying3 h0
  obtain ⟨k5, e5, _, z5⟩ := DataW.trod_int Try.underlying3 h5
  obtain ⟨ae, ce, LE, rfl, hE1, hE2, hE3⟩ := entRowCell_of h1
  obtain ⟨aw, cw, am, cm, ak, ck, P, eP, hP1, hP2⟩ := policyCells_of h2
  obtain ⟨af, cf, LF, rfl, hF1, hF2, hF3⟩ := fetRowCell_of h3
  obtain ⟨ac, cc, LC, rfl, hC1, hC2, hC3⟩ := cliRowCell_of h4
  simp only [List.cons.injEq, and_true] at e0 e5 eP
  obtain ⟨rfl, rfl, rfl, rfl⟩ := eP
  subst e0 e5
  exact ⟨⟨.slice ae LE.length ce, .slice aw P.win.length cw, .slice am P.main.length cm, .slice ak P.sk.rows.length ck, .slice af LF.length cf, .slice ac LC.length cc⟩, ⟨k0, LE, P, LF, LC, k5⟩, rfl,
    ⟨⟨ae, ce, rfl, hE1⟩, ⟨aw, cw, rfl, hP1.1⟩, ⟨am, cm, rfl, hP1.2.1⟩, ⟨ak, ck, rfl, hP1.2.2⟩, ⟨af, cf, rfl, hF1⟩, ⟨ac, cc, rfl, hC1⟩⟩, ⟨z0, z5, hE2, hE3, hP2, hF2, hF3, hC2, hC3⟩⟩
theorem diskCells_of {H : Type} {enc : TypeId × Value → H} {W : World} {fuel : Nat} {c : Value} {x : DataW H × List MemPlace} (hf0 : DataW.trod enc Try.prog W 0 (fun _ => true) true fuel 48 [c] = some x) :
    ∃ a cap L, c = .slice a (List.length L) cap ∧ FAt W a L W.heap.size ∧ Sized L ∧ L.length ≤ maxLen := by
  obtain ⟨y0, n, hl, hf⟩ := trodX_struct1 Try.underlying48 hf0
  have hcS : Try.prog.cellsOf 46 = 1 := by kernel_rfl
  have hcF : Try.prog.cellsOf 135 = 3 := by kernel_rfl
  simp only [hcS, List.drop_zero, List.take_succ_cons, List.take_zero] at hf
  rcases open_slice Try.underlying46 hf with ⟨hcs, _⟩ | ⟨a, len, cap, m, k, D, Pl, hcs, _, hlc, hcm, hmm, _, hel⟩
  · simp at hcs
    subst hcs
    exact ⟨none, 0, [], rfl, fun j hj => by simp at hj, fun j hj => by simp at hj, by simp [maxLen]⟩
  · simp at hcs
    subst hcs
    simp at hmm
    subst hmm
    rw [hcF] at hel
    have hF : ∀ i, i < m → ∃ f : Fil, W.cell? ((a.add (i * 3)).add 0) = some (.string f.nm) ∧ W.cell? ((a.add (i * 3)).add 1) = some (.string f.tx) ∧ W.cell? ((a.add (i * 3)).add 2) = some (.int .i64 f.kp) ∧ f.nm.size ≤ maxLen ∧ f.tx.size ≤ maxLen := by
      intro i hi
      obtain ⟨cs', hcs', htr⟩ := hel i hi
      obtain ⟨f, rfl, hs1, hs2⟩ := file_of htr
      obtain ⟨x, y, z, he, h0, h1, h2⟩ := cells3 hcs'
      simp only [List.cons.injEq, and_true] at he
      obtain ⟨rfl, rfl, rfl⟩ := he
      exact ⟨f, h0, h1, h2, hs1, hs2⟩
    haveI : Inhabited Fil := ⟨zfil⟩
    obtain ⟨F, hF⟩ := choose_lt hF
    refine ⟨some a, m, (List.range len).map F, by simp, fun j hj => ?_, fun j hj => ?_, by simp; omega⟩
    · simp only [List.length_map, List.length_range] at hj
      obtain ⟨h0, h1, h2, _⟩ := hF j (by omega)
      obtain ⟨b, off, spot⟩ := a
      have hspot : spot = none := by
        have h00 := (hF 0 (by omega)).1
        simpa [Addr.add] using World.cell?_spot h00
      subst hspot
      have hlt := World.block_lt_of_cell? W _ h0
      refine ⟨b, off, rfl, ?_, ?_, ?_, ?_⟩
      · simpa [Addr.add_mid] using hlt
      · simpa [Addr.add_mid] using h0
      · simpa [Addr.add_mid] using h1
      · simpa [Addr.add_mid] using h2
    · simp only [List.length_map, List.length_range] at hj
      have := hF j (by omega)
      simpa using this.2.2.2
theorem intsCell_of {H : Type} {enc : TypeId × Value → H} {W : World} {fuel : Nat} {c : Value} {x : DataW H × List MemPlace} (hf : DataW.trod enc Try.prog W 0 (fun _ => true) true fuel 49 [c] = some x) :
    ∃ a cap l, c = .slice a (List.length l) cap ∧ IAt W a l W.heap.size ∧ l.length ≤ maxLen := by
  rcases open_ints Try.underlying49 Try.underlying3 (by kernel_rfl) hf with ⟨hcs, _⟩ | ⟨y, len, cap, zs, hcs, _, hl, hm, hz, _, hcell, hwz⟩
  · simp at hcs
    subst hcs
    exact ⟨none, 0, [], rfl, fun j hj => by simp at hj, by simp [maxLen]⟩
  · simp at hcs
    subst hcs
    have hz' : zs.length = cap := by simpa using hz
    refine ⟨some y, cap, zs.take len, by rw [List.length_take, show min len zs.length = len by omega], fun j hj => ?_, by rw [List.length_take]; omega⟩
    have hj' : j < len := by rw [List.length_take] at hj; omega
    have h1 := hcell j (by omega)
    have h00 := hcell 0 (by omega)
    obtain ⟨b, off, spot⟩ := y
    have hspot : spot = none := by simpa [Addr.add] using World.cell?_spot h00
    subst hspot
    have e : zs.getD j 0 = (zs.take len)[j] := by simp [List.getD, List.getElem?_eq_getElem (show j < zs.length by omega)]
    have h2 : W.cell? ⟨b, off + j, none⟩ = some (.int .i64 (zs.getD j 0)) := by
      by_cases hj0 : j = 0
      · subst hj0; simpa [Addr.add] using h1
      · simpa [Addr.add, hj0] using h1
    rw [e] at h2
    exact ⟨b, off, rfl, World.block_lt_of_cell? W ⟨b, off + j, none⟩ h2, h2⟩
set_option maxRecDepth 100000 in
theorem world_of {H : Type} {enc : TypeId × Value → H} {W : World} {base : Nat} {v : Value} {d : DataW H} {ps : List MemPlace} (hv : Value.okWide Try.prog W .any base 51 v) (h : DataW.Trod enc Try.prog W 0 (fun _ => true) true 51 v d ps) :
    ∃ (X : Wc) (R : Wld), v = .agg #[.int .i64 R.px.now, X.x.e, X.x.w, X.x.m, X.x.k, .int .i64 R.px.pol.sk.added, X.x.f, X.x.c, .int .i64 R.px.hits, X.d, X.n, X.b] ∧ WAt W X R W.heap.size ∧ WM R := by
  obtain ⟨cs, rfl, hsz⟩ := okWide_struct Try.underlying51 hv
  obtain ⟨fuel, hf⟩ := h
  obtain ⟨y0, y1, y2, y3, n, hl, h0, h1, h2, h3⟩ := trodX_struct4 Try.underlying51 hf
  have hc : Try.prog.cellsOf 51 = 12 := by kernel_rfl
  have hcP : Try.prog.cellsOf 32 = 9 := by kernel_rfl
  have hcD : Try.prog.cellsOf 48 = 1 := by kernel_rfl
  have hcI : Try.prog.cellsOf 49 = 1 := by kernel_rfl
  have hcE : Try.prog.cellsOf 22 = 1 := by kernel_rfl
  rw [hc] at hl
  obtain ⟨l⟩ := cs
  simp only [Value.cells] at hl h0 h1 h2 h3
  obtain ⟨a0, a1, a2, a3, a4, a5, a6, a7, a8, a9, a10, a11, rfl⟩ := listX12 (l := l) hl
  simp only [hcP, hcD, hcI, hcE, List.drop_zero, List.take_succ_cons, List.take_zero, List.drop_succ_cons] at h0 h1 h2 h3
  obtain ⟨X, P, eP, hP1, hP2⟩ := proxyCells_of h0
  obtain ⟨ad, cd, LD, rfl, hD1, hD2, hD3⟩ := diskCells_of h1
  obtain ⟨an, cn, LN, rfl, hN1, hN2⟩ := intsCell_of h2
  obtain ⟨ab, cb, LB, rfl, hB1, hB2, hB3⟩ := entRowCell_of h3
  simp only [List.cons.injEq, and_true] at eP
  obtain ⟨rfl, rfl, rfl, rfl, rfl, rfl, rfl, rfl, rfl⟩ := eP
  exact ⟨⟨X, .slice ad LD.length cd, .slice an LN.length cn, .slice ab LB.length cb⟩, ⟨P, LD, LN, LB⟩, rfl, ⟨hP1, ⟨ad, cd, rfl, hD1⟩, ⟨an, cn, rfl, hN1⟩, ⟨ab, cb, rfl, hB1⟩⟩, ⟨hP2, hD2, hD3, hN2, hB2, hB3⟩⟩
end Go.Proofs.Ytpgcfgbhkodmeaa
