/- The law: what is told of drawn cells is what the document tells; what is added is taken away again. -/
import Derived.Test.YtogfkbkfcelgcabCellKit
import Derived.Test.YtogfkbkfcelgcabCellImpl
import Derived.Test.YtogfkbkfcelgcabCellSpec
import Derived.Test.YtogfkbkfcelgcabCellDraws
import Derived.Test.YtogfkbkfcelgcabSameInts
import Derived.Test.YtogfkbkfcelgcabBig
import Derived.Deep.RegionHeld3
namespace Go.Proofs.Ytogfkbkfcelgcab
open Go.RowKit Go.Sort

theorem back_again {l : List Int} {k : Nat} (hk : k < l.length) (h : l.all nOkC = true) (x : Int) :
    (adC (l.set k ((l.getD k 0 + x) % 1000000001)) k (-x)).1 = l := by
  have hk' : k < (l.set k ((l.getD k 0 + x) % 1000000001)).length := by rw [List.length_set]; exact hk
  rw [adC_in hk']
  have e1 : (l.set k ((l.getD k 0 + x) % 1000000001)).getD k 0 = (l.getD k 0 + x) % 1000000001 := by simp [List.getD, hk]
  have h1 : nOkC l[k] = true := List.all_eq_true.1 h _ (List.getElem_mem hk)
  have h2 : l.getD k 0 = l[k] := by simp [List.getD, hk]
  have h3 : ((l.getD k 0 + x) % 1000000001 + -x) % 1000000001 = l[k] := by
    rw [h2]
    unfold nOkC at h1
    have := of_decide_eq_true h1
    omega
  simp only [e1, h3, List.set_set]
  exact List.set_getElem_self hk

set_option maxRecDepth 100000 in
set_option maxHeartbeats 4000000 in
theorem cellsTold_walk (ca : Option Addr) (n cap : Nat) (w : World) (hcode : CodeAt w ca n w.heap.size) (hlen : n ≤ maxLen) :
    Calls Try.prog 4 #[.slice ca n cap] w fun e w' => e = .returned (.bool true) ∧ Below w.heap.size w w' := by
  unfold maxLen at hlen
  by_cases hn : n ≤ 1048576
  case neg =>
    have hbig : decide (1048576 < n) = true := by simp; omega
    clear hcode
    go_enter Try.func4, Try.ntmps4
    go_wp2_with fail
    refine (big_any ca n cap w hlen).mono ?_
    rintro e w' ⟨rfl, rfl⟩
    rw [hbig]
    go_wp2
    go_ret
    exact ⟨rfl, Below.refl _ _⟩
  have C1 : Hid (∀ w', Below w.heap.size w w' → CodeAt w' ca n w'.heap.size) := by
    intro w' hb j hj
    obtain ⟨b, off, z, h1, h2, h3, h4⟩ := hcode j hj
    exact ⟨b, off, z, h1, Nat.lt_of_lt_of_le h2 hb.size, (hb.cell (p := ⟨b, off + j, none⟩) h2).trans h3, h4⟩
  have hbig : decide (1048576 < n) = false := by simp; omega
  clear hcode
  go_enter Try.func4, Try.ntmps4
  go_wp2_with fail
  refine (big_any ca n cap w hlen).mono ?_
  rintro e w' ⟨rfl, rfl⟩
  rw [hbig]
  clear hbig
  go_wp2_with fail
  refine (drawAddCell_any w ca n cap (C1.out w (Below.refl _ _)) hn).mono ?_
  rintro e w1 ⟨v1, l, p, z, rfl, hl, ho1, hb1⟩
  obtain ⟨a1, c1, rfl, hI1⟩ := ho1.ints
  obtain ⟨A, hA⟩ : ∃ A, (adC l p z).1 = A := ⟨_, rfl⟩
  obtain ⟨r, hr⟩ : ∃ r, (adC l p z).2 = r := ⟨_, rfl⟩
  have hlA : A.length ≤ 81 := by rw [← hA, adC_len]; exact hl
  have d2 := implAdd_any w1 a1 c1 l p z hI1 (by omega)
  have D3 : Hid (∀ wi, Below w1.heap.size w1 wi → Calls Try.prog 19 #[.slice a1 l.length c1, .int .i64 p, .int .i64 z] wi fun e w' => ∃ v, e = .returned (.tuple #[v, .int .i64 r]) ∧ OwnV w' wi.heap.size 3 v (ints A) ∧ Below wi.heap.size wi w') := by
    intro wi hb
    have := specAdd_any wi a1 c1 l p z (hI1.on hb) (by omega)
    rw [hA, hr] at this
    exact this
  rw [hA, hr] at d2
  clear hA hr ho1 hI1
  go_wp2_with fail
  refine d2.mono ?_
  rintro e w2 ⟨v2, rfl, ho2, hb2⟩
  obtain ⟨a2, c2, rfl, hI2⟩ := ho2.ints
  have hB2 := andB hb1 hb2
  clear d2 ho2
  go_wp2_with fail
  refine (D3.out w2 hb2).mono ?_
  rintro e w3 ⟨v3, rfl, ho3, hb3⟩
  obtain ⟨a3, c3, rfl, hI3⟩ := ho3.ints
  have hB3 := andB hB2 hb3
  have HAB : Hid (∀ wi, Below w3.heap.size w3 wi → IAt wi a2 A wi.heap.size ∧ IAt wi a3 A wi.heap.size) := fun wi hb => ⟨(hI2.on hb3).on hb, hI3.on hb⟩
  clear D3 ho3 hI2 hI3 hb1 hb2 hb3 hB2
  go_wp2_with fail
  refine (drawSwapCell_any w3 ca n cap (C1.out w3 hB3) hn).mono ?_
  rintro e w4 ⟨v4, m, q, o, y, rfl, hlm, ho4, hb4⟩
  obtain ⟨a4, c4, rfl, hI4⟩ := ho4.ints
  have hB4 := andB hB3 hb4
  obtain ⟨M, hM⟩ : ∃ M, (swC m q o y).1 = M := ⟨_, rfl⟩
  obtain ⟨s, hs⟩ : ∃ s, (swC m q o y).2 = s := ⟨_, rfl⟩
  have hlM : M.length ≤ 81 := by rw [← hM, swC_len]; exact hlm
  have d5 := implSwap_any w4 a4 c4 m q o y hI4 (by omega)
  have D6 : Hid (∀ wi, Below w4.heap.size w4 wi → Calls Try.prog 21 #[.slice a4 m.length c4, .int .i64 q, .int .i64 o, .int .i64 y] wi fun e w' => ∃ v, e = .returned (.tuple #[v, .bool s]) ∧ OwnV w' wi.heap.size 3 v (ints M) ∧ Below wi.heap.size wi w') := by
    intro wi hb
    have := specSwap_any wi a4 c4 m q o y (hI4.on hb) (by omega)
    rw [hM, hs] at this
    exact this
  rw [hM, hs] at d5
  clear hM hs ho4 hI4
  go_wp2_with fail
  refine d5.mono ?_
  rintro e w5 ⟨v5, rfl, ho5, hb5⟩
  obtain ⟨a5, c5, rfl, hI5⟩ := ho5.ints
  have hB5 := andB hB4 hb5
  clear d5 ho5
  go_wp2_with fail
  refine (D6.out w5 hb5).mono ?_
  rintro e w6 ⟨v6, rfl, ho6, hb6⟩
  obtain ⟨a6, c6, rfl, hI6⟩ := ho6.ints
  have hB6 := andB hB5 hb6
  have h36 := andB (andB hb4 hb5) hb6
  have HCD : Hid (∀ wi, Below w6.heap.size w6 wi → IAt wi a2 A wi.heap.size ∧ IAt wi a3 A wi.heap.size ∧ IAt wi a5 M wi.heap.size ∧ IAt wi a6 M wi.heap.size) := fun wi hb => ⟨(HAB.out wi (andB h36 hb)).1, (HAB.out wi (andB h36 hb)).2, (hI5.on hb6).on hb, hI6.on hb⟩
  clear D6 ho6 hI5 hI6 hb4 hb5 hb6 hB3 hB4 hB5 HAB h36
  go_wp2_with fail
  refine (drawCells_any w6 ca n cap (C1.out w6 hB6) hn).mono ?_
  rintro e w7 ⟨v7, Y, rfl, hY1, hY6, hYa, ho7, hb7⟩
  have HY : Hid (Y.all nOkC = true) := hYa
  have hB7 := andB hB6 hb7
  obtain ⟨a7, c7, rfl, hI7⟩ := ho7.ints
  clear hYa ho7
  go_wp2_with fail
  refine (drawPlaces_any w7 ca n cap (C1.out w7 hB7) hn).mono ?_
  rintro e w8 ⟨v8, P, rfl, h12, hzs, ho8, hb8⟩
  have hB8 := andB hB7 hb8
  obtain ⟨gp, cp, x0, x1, x2, rfl, hx0, hx1, hx2, hgp, hP0⟩ := places_of ho8 h12 hzs
  have h68 := andB hb7 hb8
  have HH : Hid (∀ wi, Below w8.heap.size w8 wi → IAt wi a2 A wi.heap.size ∧ IAt wi a3 A wi.heap.size ∧ IAt wi a5 M wi.heap.size ∧ IAt wi a6 M wi.heap.size ∧ IAt wi a7 Y wi.heap.size ∧ wi.cell? ⟨gp, 0, none⟩ = some (.int .i64 x0) ∧ wi.cell? ⟨gp, 1, none⟩ = some (.int .i64 x1)) := fun wi hb =>
    ⟨(HCD.out wi (andB h68 hb)).1, (HCD.out wi (andB h68 hb)).2.1, (HCD.out wi (andB h68 hb)).2.2.1, (HCD.out wi (andB h68 hb)).2.2.2, (hI7.on hb8).on hb, (hP0 wi hb).1, (hP0 wi hb).2.1⟩
  clear HCD h68 hP0 hI7 ho8 hzs h12 hb7 hb8 hB6 hB7 hx2
  obtain ⟨k, hk, hkl⟩ : ∃ k : Nat, x0 % (Y.length : Int) = (k : Int) ∧ k < Y.length := ⟨(x0 % (Y.length : Int)).toNat, by have := Int.emod_nonneg x0 (show (Y.length : Int) ≠ 0 by omega); omega, by have := Int.emod_lt_of_pos x0 (show (0 : Int) < (Y.length : Int) by omega); have := Int.emod_nonneg x0 (show (Y.length : Int) ≠ 0 by omega); omega⟩
  have hkt : x0.tmod (Y.length : Int) = (k : Int) := by rw [Int.tmod_eq_emod_of_nonneg hx0.1]; exact hk
  have hY0 : ¬ ((Y.length : Int) = 0) := by omega
  have hYn : ¬ Y = [] := by rintro rfl; simp at hkl
  obtain ⟨yk, hyk⟩ : ∃ yk, Y.getD k 0 = yk := ⟨_, rfl⟩
  obtain ⟨E, hE⟩ : ∃ E, Y.set k ((yk + x1) % 1000000001) = E := ⟨_, rfl⟩
  have HC1 : Hid (∀ wi, Below w8.heap.size w8 wi → Calls Try.prog 18 #[.slice a7 Y.length c7, .int .i64 k, .int .i64 x1] wi fun e w' => ∃ v, e = .returned (.tuple #[v, .int .i64 yk]) ∧ OwnV w' wi.heap.size 3 v (ints E) ∧ Below wi.heap.size wi w') := by
    intro wi hb
    have := implAdd_any wi a7 c7 Y k x1 (HH.out wi hb).2.2.2.2.1 (by omega)
    rw [adC_in hkl, hyk, hE] at this
    exact this
  have HEb : Hid ((adC E k (-x1)).1 = Y) := by
    show _ = _
    rw [← hE, ← hyk]
    exact back_again hkl HY.out x1
  have hEl : E.length ≤ 6 := by rw [← hE, List.length_set]; exact hY6
  have hEl1 : 1 ≤ E.length := by rw [← hE, List.length_set]; exact hY1
  have HEa : Hid (E.all nOkC = true) := by
    rw [← hE]
    exact all_set HY.out (decide_eq_true (by omega))
  have HYk : Hid (Y[k] = yk) := by show _ = _; rw [← hyk]; simp [List.getD, hkl]
  obtain ⟨_, _, _, _, _, p0, p1⟩ := HH.out w8 (Below.refl _ _)
  have hS0 : Below w8.heap.size w8 w8.drew ∧ w8.drew.cell? ⟨gp, 0, none⟩ = some (.int .i64 x0) ∧ w8.drew.cell? ⟨gp, 1, none⟩ = some (.int .i64 x1) := ⟨⟨rfl, rfl, rfl, Nat.le_refl _, fun _ _ => rfl⟩, p0, p1⟩
  clear p0 p1 hE hyk
  go_wp2
  go_region_held3 (fun w' => Below w8.heap.size w8 w' ∧ w'.cell? ⟨gp, 0, none⟩ = some (.int .i64 x0) ∧ w'.cell? ⟨gp, 1, none⟩ = some (.int .i64 x1)) (first | exact hS0 | (refine keepTwo (by assumption) hgp hgp ?_; assumption))
    ((go_at_call 18; refine (HC1.out _ (And.left (by assumption))).mono ?_; rintro e w9 ⟨v9, rfl, ho9, hb9⟩))
  have h89 : Below w8.heap.size w8 w9 := And.left (by assumption)
  obtain ⟨a9, c9, rfl, hI9⟩ := ho9.ints
  have hB9 := andB hB8 h89
  obtain ⟨r2, hr2⟩ : ∃ r2, (adC E k (-x1)).2 = r2 := ⟨_, rfl⟩
  have HC2 : Hid (∀ wi, Below w9.heap.size w9 wi → Calls Try.prog 18 #[.slice a9 E.length c9, .int .i64 k, .int .i64 (-x1)] wi fun e w' => ∃ v, e = .returned (.tuple #[v, .int .i64 r2]) ∧ OwnV w' wi.heap.size 3 v (ints Y) ∧ Below wi.heap.size wi w') := by
    intro wi hb
    have := implAdd_any wi a9 c9 E k (-x1) (hI9.on hb) (by omega)
    rw [HEb.out, hr2] at this
    exact this
  have HI9 : Hid (∀ wi, Below w9.heap.size w9 wi → IAt wi a9 E wi.heap.size) := fun wi hb => hI9.on hb
  have hgp9 : gp < w9.heap.size := Nat.lt_of_lt_of_le hgp h89.size
  obtain ⟨_, _, _, _, _, p0, p1⟩ := HH.out w9 h89
  have hS1 : Below w9.heap.size w9 w9.drew ∧ w9.drew.cell? ⟨gp, 0, none⟩ = some (.int .i64 x0) ∧ w9.drew.cell? ⟨gp, 1, none⟩ = some (.int .i64 x1) := ⟨⟨rfl, rfl, rfl, Nat.le_refl _, fun _ _ => rfl⟩, p0, p1⟩
  have hneg : IntKind.i64.wrap (-x1) = -x1 := by rw [IntKind.wrap_i64]; omega
  clear p0 p1 hS0 hr2 ho9 hI9 HC1 HEb hb9
  go_wp2
  go_region_held3 (fun w' => Below w9.heap.size w9 w' ∧ w'.cell? ⟨gp, 0, none⟩ = some (.int .i64 x0) ∧ w'.cell? ⟨gp, 1, none⟩ = some (.int .i64 x1)) (first | exact hS1 | (refine keepTwo (by assumption) hgp9 hgp9 ?_; assumption))
    ((go_at_call 18; refine (HC2.out _ (And.left (by assumption))).mono ?_; rintro e w10 ⟨v10, rfl, ho10, hb10⟩))
  have h910 : Below w9.heap.size w9 w10 := And.left (by assumption)
  obtain ⟨a10, c10, rfl, hI10⟩ := ho10.ints
  have hB10 := andB hB9 h910
  have h810 := andB h89 h910
  clear hS1 ho10 HC2 hb10 hneg
  go_wp2_with fail
  refine (drawCellsOk_any w10 ca n cap (C1.out w10 hB10) hn).mono ?_
  rintro e w11 ⟨v11, Z, rfl, hZl, ho11, hb11⟩
  obtain ⟨a11, c11, rfl, hI11⟩ := ho11.ints
  have hB11 := andB hB10 hb11
  have HX : Hid (∀ wi, Below w11.heap.size w11 wi → IAt wi a2 A wi.heap.size ∧ IAt wi a3 A wi.heap.size ∧ IAt wi a5 M wi.heap.size ∧ IAt wi a6 M wi.heap.size ∧ IAt wi a7 Y wi.heap.size ∧ IAt wi a10 Y wi.heap.size ∧ IAt wi a9 E wi.heap.size ∧ IAt wi a11 Z wi.heap.size ∧ wi.cell? ⟨gp, 0, none⟩ = some (.int .i64 x0) ∧ Below w.heap.size w wi) := by
    intro wi hb
    have h := HH.out wi (andB (andB h810 hb11) hb)
    exact ⟨h.1, h.2.1, h.2.2.1, h.2.2.2.1, h.2.2.2.2.1, (hI10.on hb11).on hb, HI9.out wi (andB (andB h910 hb11) hb), hI11.on hb, h.2.2.2.2.2.1, andB hB11 hb⟩
  clear hI10 hI11 ho11 hb11 h910 h810 h89 hB8 hB9 hB10 hB11 HH HI9 C1
  obtain ⟨x2_, x3_, _⟩ := HX.out w11 (Below.refl _ _)
  have d12 := sameInts_same w11 a2 a3 c2 c3 A x2_ x3_ (by omega)
  clear x2_ x3_
  go_wp2_with fail
  refine d12.mono ?_
  rintro e w12 ⟨rfl, hb12⟩
  obtain ⟨_, _, x5_, x6_, _⟩ := HX.out w12 hb12
  have d13 := sameInts_same w12 a5 a6 c5 c6 M x5_ x6_ (by omega)
  clear x5_ x6_ d12
  go_wp2_with fail
  refine d13.mono ?_
  rintro e w13 ⟨rfl, hb13⟩
  have h13 := andB hb12 hb13
  obtain ⟨_, _, _, _, x7_, x10_, _⟩ := HX.out w13 h13
  have d14 := sameInts_same w13 a10 a7 c10 c7 Y x10_ x7_ (by omega)
  clear x7_ x10_ d13
  go_wp2_with fail
  refine d14.mono ?_
  rintro e w14 ⟨rfl, hb14⟩
  have h14 := andB h13 hb14
  obtain ⟨_, _, _, _, x7_, _, x9_, x11_, p0, hB14⟩ := HX.out w14 h14
  obtain ⟨g7, o7, rfl, _, q7⟩ := x7_ k hkl
  rw [HYk.out] at q7
  have hi1 : (0 : Int) ≤ (k : Int) := by omega
  have hi2 : (k : Int) < (Y.length : Int) := by omega
  have dE := implOk_any w14 a9 c9 E x9_ (by omega)
  rw [okC_small hEl1 hEl HEa.out] at dE
  have dZ := implOk_any w14 a11 c11 Z x11_ (by omega)
  have dS := specOk_any w14 a11 c11 Z x11_ (by omega)
  have hx00 := hx0.1
  have hl0 : (0 : Int) < (Y.length : Int) := by omega
  clear x7_ x9_ x11_ d14 hb12 hb13 hb14 h13 h14
  go_wp2_with fail
  refine dE.mono ?_
  rintro e w15 ⟨rfl, rfl⟩
  go_wp2_with fail
  refine dZ.mono ?_
  rintro e w15 ⟨rfl, rfl⟩
  go_wp2_with fail
  refine dS.mono ?_
  rintro e w15 ⟨rfl, rfl⟩
  go_wp2
  go_ret
  exact ⟨rfl, hB14⟩
end Go.Proofs.Ytogfkbkfcelgcab
