/- The law: what is stored in a cell is loaded; all others stay. -/
import Derived.Test.YtiddmmmgmoofnabCellKit
import Derived.Test.YtiddmmmgmoofnabCellImpl
import Derived.Test.YtiddmmmgmoofnabCellDraws
import Derived.Test.YtiddmmmgmoofnabSameInts
import Derived.Test.YtiddmmmgmoofnabBig
import Derived.Deep.RegionHeld3
namespace Go.Proofs.Ytiddmmmgmoofnab
open Go.RowKit Go.Sort

theorem set_get {l : List Int} {k j : Nat} {x : Int} (h : ¬ j = k) (hj : j < l.length) (hj2 : j < (l.set k x).length) : (l.set k x)[j] = l[j] := by
  rw [List.getElem_set_ne (fun e => h e.symm)]

set_option maxRecDepth 100000 in
set_option maxHeartbeats 4000000 in
theorem cells_walk (ca : Option Addr) (n cap : Nat) (w : World) (hcode : CodeAt w ca n w.heap.size) (hlen : n ≤ maxLen) :
    Calls Try.prog 3 #[.slice ca n cap] w fun e w' => e = .returned (.bool true) ∧ Below w.heap.size w w' := by
  unfold maxLen at hlen
  by_cases hn : n ≤ 1048576
  case neg =>
    have hbig : decide (1048576 < n) = true := by simp; omega
    clear hcode
    go_enter Try.func3, Try.ntmps3
    go_wp2_with fail
    refine (big_any ca n cap w hlen).mono ?_
    rintro e w' ⟨rfl, rfl⟩
    rw [hbig]
    go_wp2
    go_ret
    exact ⟨rfl, Below.refl _ _⟩
  have C1 : Hid (∀ w', Below w.heap.size w w' → CodeAt w' ca n w'.heap.size) := by
    intro w' hb j hj
    obtain ⟨b, off, z, h1, h2, h3, h4⟩ := hcode j hj
    exact ⟨b, off, z, h1, Nat.lt_of_lt_of_le h2 hb.size, (hb.cell (p := ⟨b, off + j, none⟩) h2).trans h3, h4⟩
  have hbig : decide (1048576 < n) = false := by simp; omega
  clear hcode
  go_enter Try.func3, Try.ntmps3
  go_wp2_with fail
  refine (big_any ca n cap w hlen).mono ?_
  rintro e w' ⟨rfl, rfl⟩
  rw [hbig]
  clear hbig
  go_wp2_with fail
  refine (drawCells_any w ca n cap (C1.out w (Below.refl _ _)) hn).mono ?_
  rintro e w1 ⟨v1, l, rfl, hl1, hl6, hall, ho1, hb1⟩
  have HA : Hid (l.all nOkC = true) := hall
  clear hall
  go_wp2_with fail
  refine (drawPlaces_any w1 ca n cap (C1.out w1 hb1) hn).mono ?_
  rintro e w2 ⟨v2, P, rfl, h12, hzs, ho2, hb2⟩
  have hB2 := andB hb1 hb2
  have hl2 := ho1.below hb2 (Nat.le_refl _)
  obtain ⟨al, cl, rfl, hI2⟩ := hl2.ints
  obtain ⟨gp, cp, x0, x1, x2, rfl, hx0, hx1, hx2, hgp, hP0⟩ := places_of ho2 h12 hzs
  have HP : Hid (∀ wi, Below w2.heap.size w2 wi → wi.cell? ⟨gp, 0, none⟩ = some (.int .i64 x0) ∧ wi.cell? ⟨gp, 1, none⟩ = some (.int .i64 x1) ∧ wi.cell? ⟨gp, 2, none⟩ = some (.int .i64 x2)) := hP0
  have HI : Hid (∀ wi, Below w2.heap.size w2 wi → IAt wi al l wi.heap.size) := fun wi hb => hI2.on hb
  clear ho1 ho2 h12 hzs hl2 hP0 hI2 hb1 hb2 C1
  obtain ⟨k, hk, hkl⟩ : ∃ k : Nat, x0 % (l.length : Int) = (k : Int) ∧ k < l.length := ⟨(x0 % (l.length : Int)).toNat, by have := Int.emod_nonneg x0 (show (l.length : Int) ≠ 0 by omega); omega, by have := Int.emod_lt_of_pos x0 (show (0 : Int) < (l.length : Int) by omega); have := Int.emod_nonneg x0 (show (l.length : Int) ≠ 0 by omega); omega⟩
  have hx00 := hx0.1
  have hl0 : (0 : Int) < (l.length : Int) := by omega
  obtain ⟨p0, p1, p2⟩ := HP.out w2 (Below.refl _ _)
  have c1 := implStore_any w2 al cl l k x1 (HI.out w2 (Below.refl _ _)) (by omega)
  rw [stC_in hkl (small_ok hx1)] at c1
  obtain ⟨A, hA⟩ : ∃ A, l.set k x1 = A := ⟨_, rfl⟩
  rw [hA] at c1
  go_wp2_with fail
  refine c1.mono ?_
  rintro e w3 ⟨v3, rfl, ho3, hb3⟩
  rw [hk]
  have hB3 := andB hB2 hb3
  obtain ⟨a3, c3, rfl, hI3⟩ := ho3.ints
  have hkA : k < A.length := by rw [← hA, List.length_set]; exact hkl
  have hlA : A.length ≤ 6 := by rw [← hA, List.length_set]; exact hl6
  have hlA2 : l.length ≤ A.length := by rw [← hA, List.length_set]; exact Nat.le_refl _
  have hAk : A.getD k 0 = x1 := by rw [← hA]; simp [List.getD, hkl]
  have HAe : Hid (∀ j (h1 : j < A.length) (h2 : j < l.length), ¬ j = k → A[j] = l[j]) := by
    subst hA
    intro j h1 h2 h3
    exact set_get h3 h2 h1
  have HAB : Hid (A.set k x2 = l.set k x2) := by show _ = _; rw [← hA, List.set_set]
  clear hk hA hx00 hl0 p0 p1 p2 c1 ho3
  have c2 := implLoad_any w3 a3 c3 A k hI3
  rw [ldC_in hkA, hAk] at c2
  go_wp2_with fail
  refine c2.mono ?_
  rintro e w3' ⟨rfl, rfl⟩
  clear c2
  obtain ⟨p0, p1, p2⟩ := HP.out _ hb3
  have hgp3 := Nat.lt_of_lt_of_le hgp hb3.size
  have HC1 : Hid (∀ wi, IAt wi a3 A wi.heap.size → Calls Try.prog 10 #[.slice a3 A.length c3, .int .i64 k, .int .i64 x1, .int .i64 x2] wi fun e w' => ∃ v, e = .returned (.tuple #[v, .bool true]) ∧ OwnV w' wi.heap.size 3 v (ints (l.set k x2)) ∧ Below wi.heap.size wi w') := by
    intro wi h
    have := implSwap_any wi a3 c3 A k x1 x2 h (by omega)
    rw [swC_hit hkA (small_ok hx2) hAk, HAB.out] at this
    exact this
  have HC2 : Hid (∀ wi, IAt wi a3 A wi.heap.size → Calls Try.prog 10 #[.slice a3 A.length c3, .int .i64 k, .int .i64 (x1 + 1), .int .i64 x2] wi fun e w' => ∃ v, e = .returned (.tuple #[v, .bool false]) ∧ OwnV w' wi.heap.size 3 v (ints A) ∧ Below wi.heap.size wi w') := by
    intro wi h
    have := implSwap_any wi a3 c3 A k (x1 + 1) x2 h (by omega)
    rw [swC_miss (by omega)] at this
    exact this
  have hS0 : Below w3'.heap.size w3' w3'.drew ∧ w3'.drew.cell? ⟨gp, 1, none⟩ = some (.int .i64 x1) ∧ w3'.drew.cell? ⟨gp, 2, none⟩ = some (.int .i64 x2) := ⟨⟨rfl, rfl, rfl, Nat.le_refl _, fun _ _ => rfl⟩, p1, p2⟩
  clear p0 p1 p2 hAk
  go_wp2
  go_region_held3 (fun w' => Below w3'.heap.size w3' w' ∧ w'.cell? ⟨gp, 1, none⟩ = some (.int .i64 x1) ∧ w'.cell? ⟨gp, 2, none⟩ = some (.int .i64 x2)) (first | exact hS0 | (refine keepTwo (by assumption) hgp3 hgp3 ?_; assumption))
    ((go_at_call 10; refine (HC1.out _ (hI3.on (And.left (by assumption)))).mono ?_; rintro e w4 ⟨v4, rfl, ho4, hb4⟩))
  have h34 : Below w3'.heap.size w3' w4 := And.left (by assumption)
  have hB4 := andB hB3 h34
  have h24 := andB hb3 h34
  have hI4 := hI3.on h34
  obtain ⟨p0, p1, p2⟩ := HP.out _ h24
  have hgp4 := Nat.lt_of_lt_of_le hgp3 h34.size
  obtain ⟨B, hBe⟩ : ∃ B, l.set k x2 = B := ⟨_, rfl⟩
  rw [hBe] at ho4
  have hkB : k < B.length := by rw [← hBe, List.length_set]; exact hkl
  have hlB : B.length ≤ 6 := by rw [← hBe, List.length_set]; exact hl6
  have hlB2 : l.length ≤ B.length := by rw [← hBe, List.length_set]; exact Nat.le_refl _
  have HBe : Hid (∀ j (h1 : j < B.length) (h2 : j < l.length), ¬ j = k → B[j] = l[j]) := by
    subst hBe
    intro j h1 h2 h3
    exact set_get h3 h2 h1
  have HBk : Hid (B[k] = x2) := by subst hBe; show _ = _; simp
  have HBA : Hid (B.all nOkC = true) := by rw [← hBe]; exact all_set HA.out (small_ok hx2)
  obtain ⟨a4, c4, rfl, hJ4⟩ := ho4.ints
  have hS1 : Below w4.heap.size w4 w4.drew ∧ w4.drew.cell? ⟨gp, 1, none⟩ = some (.int .i64 x1) ∧ w4.drew.cell? ⟨gp, 2, none⟩ = some (.int .i64 x2) := ⟨⟨rfl, rfl, rfl, Nat.le_refl _, fun _ _ => rfl⟩, p1, p2⟩
  have hwr : IntKind.i64.wrap (x1 + 1) = x1 + 1 := by rw [IntKind.wrap_i64]; omega
  clear p0 p1 p2 hBe ho4 hS0 hI3 HC1 HAB
  go_wp2
  go_region_held3 (fun w' => Below w4.heap.size w4 w' ∧ w'.cell? ⟨gp, 1, none⟩ = some (.int .i64 x1) ∧ w'.cell? ⟨gp, 2, none⟩ = some (.int .i64 x2)) (first | exact hS1 | (refine keepTwo (by assumption) hgp4 hgp4 ?_; assumption))
    ((go_at_call 10; refine (HC2.out _ (hI4.on (And.left (by assumption)))).mono ?_; rintro e w5 ⟨v5, rfl, ho5, hb5⟩))
  have h45 : Below w4.heap.size w4 w5 := And.left (by assumption)
  have hB5 := andB hB4 h45
  have h25 := andB h24 h45
  have hI5 := hI4.on h45
  have hJ5 := hJ4.on h45
  have hK5 := HI.out _ h25
  obtain ⟨a5, c5, rfl, hC5⟩ := ho5.ints
  clear hS1 ho5 hI4 hJ4 HC2 hgp3 hgp4 h34 h24 hb4 hb5 h45 hwr
  go_wp2
  go_loopw [14] (fun i wr => Box (∃ (j nq : Nat), j ≤ l.length ∧ i = .int .i64 j ∧ wr = w5.drewN nq))
    (fun i _ => l.length - (intOf i).toNat)
  case atStart => exact ⟨⟨0, 0, by omega, rfl, rfl⟩⟩
  case round =>
    obtain ⟨j, nq, hj, rfl, rfl⟩ := hrel.out
    clear hrel
    by_cases hlt : j < l.length
    · have hjA : j < A.length := by omega
      have hjB : j < B.length := by omega
      by_cases hjk : j = k
      · subst hjk
        have d0 : decide (¬ (j : Int) = (j : Int)) = false := by simp
        go_wp2
        go_quiet (fail)
        go_wp2
        go_roundw
        case rel =>
          try ((repeat apply Exists.intro); refine ⟨?_, rfl⟩)
          exact ⟨⟨j + 1, _, by omega, by go_num, rfl⟩⟩
        case measure => simp [intOf]; omega
      · have hne : ¬ (j : Int) = (k : Int) := by omega
        obtain ⟨g1, o1, hg1, _, q1⟩ := hI5 j hjA
        obtain ⟨g2, o2, hg2, _, q2⟩ := hJ5 j hjB
        obtain ⟨g3, o3, hg3, _, q3⟩ := hK5 j hlt
        rw [HAe.out j hjA hlt hjk] at q1
        rw [HBe.out j hjB hlt hjk] at q2
        obtain ⟨x, hx⟩ : ∃ x, l[j] = x := ⟨_, rfl⟩
        rw [hx] at q1 q2 q3
        subst hg1
        subst hg2
        subst hg3
        have hi1 : (0 : Int) ≤ (j : Int) := by omega
        have hi2 : (j : Int) < (l.length : Int) := by omega
        have hi3 : (j : Int) < (A.length : Int) := by omega
        have hi4 : (j : Int) < (B.length : Int) := by omega
        clear hx hI5 hJ5 hK5 hC5 hjk
        go_wp2
        go_quiet (fail)
        go_wp2
        go_roundw
        case rel =>
          try ((repeat apply Exists.intro); refine ⟨?_, rfl⟩)
          exact ⟨⟨j + 1, _, by omega, by go_num, rfl⟩⟩
        case measure => simp [intOf]; omega
    · have hbx : Below w5.heap.size w5 (w5.drewN nq) := ⟨rfl, rfl, rfl, Nat.le_refl _, fun _ _ => rfl⟩
      obtain ⟨wx, hwx⟩ : ∃ wx, w5.drewN nq = wx := ⟨_, rfl⟩
      rw [hwx] at hbx ⊢
      clear hwx
      have hBx := andB hB5 hbx
      have hIx := hI5.on hbx
      have hJx := hJ5.on hbx
      have hKx := hK5.on hbx
      have hCx := hC5.on hbx
      obtain ⟨p0, p1, p2⟩ := HP.out _ (andB h25 hbx)
      have c6 := implLoad_any wx al cl l l.length hKx
      rw [ldC_out (.inr (Int.le_refl _))] at c6
      obtain ⟨g2, o2, hg2, _, q2⟩ := hJx k hkB
      rw [HBk.out] at q2
      have hi1 : (0 : Int) ≤ (k : Int) := by omega
      have hi4 : (k : Int) < (B.length : Int) := by omega
      have k1 := cell_regrown p1
      have k2 := cell_regrown p2
      have kB := cell_regrown q2
      have cO1 : ∀ d os, Calls Try.prog 11 #[.slice al l.length cl] (grow (redrawn wx d) os) fun e w'' => e = .returned (.bool true) ∧ ∃ p : Regrown, w'' = grow (redrawn wx p.d) p.os := fun d os => Calls.regrown_of (by
        have h := implOk_any (grow (redrawn wx d) os) al cl l (hKx.on (below_regrown wx d os)) (by omega)
        rw [okC_small hl1 hl6 HA.out] at h
        exact h.mono (by rintro e w1 ⟨rfl, rfl⟩; exact ⟨rfl, Below.refl _ _⟩))
      have cO2 : ∀ d os, Calls Try.prog 11 #[.slice a4 B.length c4] (grow (redrawn wx d) os) fun e w'' => e = .returned (.bool true) ∧ ∃ p : Regrown, w'' = grow (redrawn wx p.d) p.os := fun d os => Calls.regrown_of (by
        have h := implOk_any (grow (redrawn wx d) os) a4 c4 B (hJx.on (below_regrown wx d os)) (by omega)
        rw [okC_small (by omega) hlB HBA.out] at h
        exact h.mono (by rintro e w1 ⟨rfl, rfl⟩; exact ⟨rfl, Below.refl _ _⟩))
      have cS : ∀ d os, Calls Try.prog 12 #[.slice a5 A.length c5, .slice a3 A.length c3] (grow (redrawn wx d) os) fun e w'' => e = .returned (.bool true) ∧ ∃ p : Regrown, w'' = grow (redrawn wx p.d) p.os := fun d os => Calls.regrown_of (by
        have hb := below_regrown wx d os
        exact sameInts_same _ a5 a3 c5 c3 A (hCx.on hb) (hIx.on hb) (by omega))
      subst hg2
      clear hI5 hJ5 hK5 hC5 hIx hJx hKx hCx p0 p1 p2 q2 hbx
      go_wp2_with fail
      refine c6.mono ?_
      rintro e wx' ⟨rfl, rfl⟩
      clear c6
      go_wp2
      refine wp_region_quiet_below (by kernel_rfl) (by kernel_rfl) ?_
      repeat (first | go_big_quiet_step (first | with_reducible exact cO1 _ _ | with_reducible exact cO2 _ _ | with_reducible exact cS _ _) | quiet_step (first | with_reducible exact cO1 _ _ | with_reducible exact cO2 _ _ | with_reducible exact cS _ _))
      refine wpQuiet_nil ?_
      intro _ hw'
      obtain ⟨⟨dq, osq⟩, hw''⟩ := hw'
      subst hw''
      go_wp2
      go_ret
      exact ⟨rfl, hBx.trans ((below_regrown _ dq osq).mono hBx.size)⟩
end Go.Proofs.Ytiddmmmgmoofnab
