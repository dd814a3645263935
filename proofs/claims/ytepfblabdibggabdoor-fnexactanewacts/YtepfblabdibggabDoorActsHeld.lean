/- The marks that a law lays into acts, and looks for again. Written by mkrow4.py. -/
import Derived.Test.YtepfblabdibggabDoorActsMark
namespace Go.Proofs.YtepfblabdibggabDoor
open Go.RowKit Go.Sort

def mAc (n : Nat) : Ac := ⟨((n : Nat) : Int), mkT (n + 1), mkT (n + 2), mkT (n + 3)⟩
def mAcl (k n : Nat) : List Ac := (List.range n).map fun j => mAc (k + 4 * j)
theorem mAcl_length (k n : Nat) : (mAcl k n).length = n := by simp [mAcl]
theorem mAcl_at {k n j : Nat} (h : j < n) : (mAcl k n)[j]'(by rw [mAcl_length]; exact h) = mAc (k + 4 * j) := by simp [mAcl]
theorem mAcl_succ (k n : Nat) : mAcl k (n + 1) = mAcl k n ++ [mAc (k + 4 * n)] := by simp [mAcl, List.range_succ]
theorem mAcl_set (k j : Nat) (L : List Ac) (h : j < L.length) : (mAcl k j ++ L.drop j).set j (mAc (k + 4 * j)) = mAcl k (j + 1) ++ L.drop (j + 1) := by
  rw [List.set_append_right _ _ (by rw [mAcl_length]; exact Nat.le_refl _), mAcl_length, Nat.sub_self, List.drop_eq_getElem_cons h, List.set_cons_zero, mAcl_succ]
  simp

set_option maxRecDepth 100000 in
set_option maxHeartbeats 4000000 in
theorem markActsM_any (w : World) (base : Nat) (v : Value) (L : List Ac) (k : Nat) (hown : OwnA w base 57 v L) (hl : L.length ≤ 1048576) (hk0 : 0 < k) (hk1 : k ≤ 100000000) :
    Calls Tryd.prog 11 #[v, .int .i64 k] w fun e w' => e = .returned (.int .i64 ((k + 4 * L.length : Nat) : Int)) ∧ OwnA w' base 57 v (mAcl k L.length) ∧ w.grownBy w' v.ownBlock := by
  obtain ⟨a, cap, rfl, _⟩ := hown.at
  obtain ⟨n, hn⟩ : ∃ n, L.length = n := ⟨_, rfl⟩
  have HN : Hid (L.length = n) := hn
  rw [hn] at hl ⊢
  rw [hn] at hown
  clear hn
  go_enter Tryd.func11, Tryd.ntmps11
  go_wp2
  go_loopw [1, 5] (fun q i wr => Box (∃ (j : Nat), j ≤ n ∧ i = .int .i64 j ∧ q = .int .i64 ((k + 4 * j : Nat) : Int) ∧ OwnA wr base 57 (.slice a n cap) (mAcl k j ++ L.drop j) ∧ w.grownBy wr (Value.slice a n cap).ownBlock))
    (fun _ i _ => n - (intOf i).toNat)
  case atStart => exact ⟨⟨0, by omega, rfl, rfl, hown, grownBy_refl _ _⟩⟩
  case round =>
    obtain ⟨j, hj, rfl, rfl, hown1, hgr⟩ := hrel.out
    clear hrel hown
    by_cases hlt : j < n
    · have hlt' : j < L.length := by have := HN.out; omega
      obtain ⟨M, hM⟩ : ∃ M, mAcl k j ++ L.drop j = M := ⟨_, rfl⟩
      have HL : Hid (M.length = n) := by show _ = _; have := HN.out; rw [← hM, List.length_append, mAcl_length, List.length_drop]; omega
      have HS : Hid (M.set j (mAc (k + 4 * j)) = mAcl k (j + 1) ++ L.drop (j + 1)) := by rw [← hM]; exact mAcl_set k j L hlt'
      rw [hM] at hown1
      clear hM hlt'
      have hrow1 : wr.ownsRow base 57 4 (.slice a n cap) n (acl M) := by have h := hown1; unfold OwnA at h; rwa [HL.out] at h
      obtain ⟨g, rfl, hgs, _⟩ := row4_addr hrow1 (by omega)
      have hi1 : (0 : Int) ≤ (j : Int) := by omega
      have hi2 : (j : Int) < (n : Int) := by omega
      obtain ⟨p, hp⟩ : ∃ p, k + 4 * j = p := ⟨_, rfl⟩
      have HP : Hid (k + 4 * j = p) := hp
      have hpb : p ≤ 110000000 := by omega
      have hp0 : 0 < p := by omega
      rw [hp] at HS ⊢
      clear hp
      have HR : Hid (wr.ownsRow base 57 4 (.slice (some ⟨g, 0, none⟩) n cap) n (acl M)) := hrow1
      have HG : Hid (w.grownBy wr (some g)) := hgr
      clear hrow1 hgr hown1 hgs
      have S0 := row4_stored HR.out (j * 4) (.int .i64 ((p : Int)))
      obtain ⟨u0, k0, f0⟩ := row4_there HR.out (j * 4) (by omega)
      have HR1 : Hid ((wr.setCell ⟨g, j * 4, none⟩ (.int .i64 ((p : Int)))).ownsRow base 57 4 (.slice (some ⟨g, 0, none⟩) n cap) n ((acl M).set (j * 4) (.int .i64 ((p : Int))))) := S0.1
      have HG1 : Hid (w.grownBy (wr.setCell ⟨g, j * 4, none⟩ (.int .i64 ((p : Int)))) (some g)) := (grownBy_trans HG.out S0.2)
      clear S0 HR HG
      obtain ⟨wa1, hwa1⟩ : ∃ x, (wr.setCell ⟨g, j * 4, none⟩ (.int .i64 ((p : Int)))) = x := ⟨_, rfl⟩
      rw [hwa1] at HR1 HG1
      have HW1 : Hid ((wr.setCell ⟨g, j * 4, none⟩ (.int .i64 ((p : Int)))) = wa1) := hwa1
      clear hwa1
      have cM := markText_any (p + 1) wa1 (by omega) (by omega)
      rw [show ((p + 1 : Nat) : Int) = (p : Int) + 1 by omega] at cM
      go_wp2_with fail
      rw [HW1.out]
      refine cM.mono ?_
      rintro e w2 ⟨rfl, hb⟩
      have HR2 : Hid (w2.ownsRow base 57 4 (.slice (some ⟨g, 0, none⟩) n cap) n ((acl M).set (j * 4) (.int .i64 ((p : Int))))) := row4_below HR1.out hb (Nat.le_refl _)
      have HG2 : Hid (w.grownBy w2 (some g)) := grownBy_trans HG1.out (grownBy_below hb)
      clear cM hb HR1 HG1 k0 f0
      have HR : Hid (w2.ownsRow base 57 4 (.slice (some ⟨g, 0, none⟩) n cap) n ((acl M).set (j * 4) (.int .i64 ((p : Int))))) := HR2.out
      have HG : Hid (w.grownBy w2 (some g)) := HG2.out
      clear HR2 HG2
      have S0 := row4_stored HR.out (j * 4 + 1) (.string (mkT (p + 1)))
      obtain ⟨u0, k0, f0⟩ := row4_there HR.out (j * 4 + 1) (by omega)
      have HR1 : Hid ((w2.setCell ⟨g, j * 4 + 1, none⟩ (.string (mkT (p + 1)))).ownsRow base 57 4 (.slice (some ⟨g, 0, none⟩) n cap) n (((acl M).set (j * 4) (.int .i64 ((p : Int)))).set (j * 4 + 1) (.string (mkT (p + 1))))) := S0.1
      have HG1 : Hid (w.grownBy (w2.setCell ⟨g, j * 4 + 1, none⟩ (.string (mkT (p + 1)))) (some g)) := (grownBy_trans HG.out S0.2)
      clear S0 HR HG
      obtain ⟨wa2, hwa2⟩ : ∃ x, (w2.setCell ⟨g, j * 4 + 1, none⟩ (.string (mkT (p + 1)))) = x := ⟨_, rfl⟩
      rw [hwa2] at HR1 HG1
      have HW2 : Hid ((w2.setCell ⟨g, j * 4 + 1, none⟩ (.string (mkT (p + 1)))) = wa2) := hwa2
      clear hwa2
      have cM := markText_any (p + 2) wa2 (by omega) (by omega)
      rw [show ((p + 2 : Nat) : Int) = (p : Int) + 1 + 1 by omega] at cM
      go_wp2_with fail
      rw [HW2.out]
      refine cM.mono ?_
      rintro e w3 ⟨rfl, hb⟩
      have HR2 : Hid (w3.ownsRow base 57 4 (.slice (some ⟨g, 0, none⟩) n cap) n (((acl M).set (j * 4) (.int .i64 ((p : Int)))).set (j * 4 + 1) (.string (mkT (p + 1))))) := row4_below HR1.out hb (Nat.le_refl _)
      have HG2 : Hid (w.grownBy w3 (some g)) := grownBy_trans HG1.out (grownBy_below hb)
      clear cM hb HR1 HG1 k0 f0
      have HR : Hid (w3.ownsRow base 57 4 (.slice (some ⟨g, 0, none⟩) n cap) n (((acl M).set (j * 4) (.int .i64 ((p : Int)))).set (j * 4 + 1) (.string (mkT (p + 1))))) := HR2.out
      have HG : Hid (w.grownBy w3 (some g)) := HG2.out
      clear HR2 HG2
      have S0 := row4_stored HR.out (j * 4 + 2) (.string (mkT (p + 2)))
      obtain ⟨u0, k0, f0⟩ := row4_there HR.out (j * 4 + 2) (by omega)
      have HR1 : Hid ((w3.setCell ⟨g, j * 4 + 2, none⟩ (.string (mkT (p + 2)))).ownsRow base 57 4 (.slice (some ⟨g, 0, none⟩) n cap) n ((((acl M).set (j * 4) (.int .i64 ((p : Int)))).set (j * 4 + 1) (.string (mkT (p + 1)))).set (j * 4 + 2) (.string (mkT (p + 2))))) := S0.1
      have HG1 : Hid (w.grownBy (w3.setCell ⟨g, j * 4 + 2, none⟩ (.string (mkT (p + 2)))) (some g)) := (grownBy_trans HG.out S0.2)
      clear S0 HR HG
      obtain ⟨wa3, hwa3⟩ : ∃ x, (w3.setCell ⟨g, j * 4 + 2, none⟩ (.string (mkT (p + 2)))) = x := ⟨_, rfl⟩
      rw [hwa3] at HR1 HG1
      have HW3 : Hid ((w3.setCell ⟨g, j * 4 + 2, none⟩ (.string (mkT (p + 2)))) = wa3) := hwa3
      clear hwa3
      have cM := markText_any (p + 3) wa3 (by omega) (by omega)
      rw [show ((p + 3 : Nat) : Int) = (p : Int) + 1 + 1 + 1 by omega] at cM
      go_wp2_with fail
      rw [HW3.out]
      refine cM.mono ?_
      rintro e w4 ⟨rfl, hb⟩
      have HR2 : Hid (w4.ownsRow base 57 4 (.slice (some ⟨g, 0, none⟩) n cap) n ((((acl M).set (j * 4) (.int .i64 ((p : Int)))).set (j * 4 + 1) (.string (mkT (p + 1)))).set (j * 4 + 2) (.string (mkT (p + 2))))) := row4_below HR1.out hb (Nat.le_refl _)
      have HG2 : Hid (w.grownBy w4 (some g)) := grownBy_trans HG1.out (grownBy_below hb)
      clear cM hb HR1 HG1 k0 f0
      have HR : Hid (w4.ownsRow base 57 4 (.slice (some ⟨g, 0, none⟩) n cap) n ((((acl M).set (j * 4) (.int .i64 ((p : Int)))).set (j * 4 + 1) (.string (mkT (p + 1)))).set (j * 4 + 2) (.string (mkT (p + 2))))) := HR2.out
      have HG : Hid (w.grownBy w4 (some g)) := HG2.out
      clear HR2 HG2
      have S0 := row4_stored HR.out (j * 4 + 3) (.string (mkT (p + 3)))
      obtain ⟨u0, k0, f0⟩ := row4_there HR.out (j * 4 + 3) (by omega)
      have HR1 : Hid ((w4.setCell ⟨g, j * 4 + 3, none⟩ (.string (mkT (p + 3)))).ownsRow base 57 4 (.slice (some ⟨g, 0, none⟩) n cap) n (((((acl M).set (j * 4) (.int .i64 ((p : Int)))).set (j * 4 + 1) (.string (mkT (p + 1)))).set (j * 4 + 2) (.string (mkT (p + 2)))).set (j * 4 + 3) (.string (mkT (p + 3))))) := S0.1
      have HG1 : Hid (w.grownBy (w4.setCell ⟨g, j * 4 + 3, none⟩ (.string (mkT (p + 3)))) (some g)) := (grownBy_trans HG.out S0.2)
      clear S0 HR HG
      go_wp2
      go_roundw
      case rel =>
        try ((repeat apply Exists.intro); refine ⟨?_, rfl⟩)
        refine ⟨⟨j + 1, by omega, by go_num, ?_, ?_, HG1.out⟩⟩
        · have := HP.out
          congr 1
          omega
        · have h := HR1.out
          have e : (((((acl M).set (j * 4) (.int .i64 ((p : Int)))).set (j * 4 + 1) (.string (mkT (p + 1)))).set (j * 4 + 2) (.string (mkT (p + 2)))).set (j * 4 + 3) (.string (mkT (p + 3)))) = acl (M.set j (mAc p)) := acl_set M j (mAc p)
          rw [e] at h
          rw [← HS.out]
          unfold OwnA
          rw [List.length_set, HL.out]
          exact h
      case measure => simp [intOf]; omega
    · go_wp2
      go_ret
      have hje : j = n := by omega
      have hd : L.drop j = [] := List.drop_of_length_le (by have := HN.out; omega)
      rw [hd, List.append_nil] at hown1
      subst hje
      exact ⟨rfl, hown1, hgr⟩

set_option maxRecDepth 100000 in
set_option maxHeartbeats 4000000 in
theorem heldActS_any (w : World) (base : Nat) (v : Value) (n k : Nat) (hown : OwnA w base 57 v (mAcl k n)) (hl : n ≤ 1048576) (hk0 : 0 < k) (hk1 : k ≤ 100000000) :
    Calls Tryd.prog 12 #[v, .int .i64 k] w fun e w' => e = .returned (.int .i64 ((k + 4 * n : Nat) : Int)) ∧ Below w.heap.size w w' := by
  obtain ⟨a, cap, rfl, hA⟩ := hown.at
  rw [mAcl_length] at *
  clear hown
  go_enter Tryd.func12, Tryd.ntmps12
  go_wp2
  go_loopw [1, 5] (fun m i wr => Box (∃ (j : Nat), j ≤ n ∧ i = .int .i64 j ∧ m = .int .i64 ((k + 4 * j : Nat) : Int) ∧ Below w.heap.size w wr))
    (fun _ i _ => n - (intOf i).toNat)
  case atStart => exact ⟨⟨0, by omega, rfl, rfl, Below.refl _ _⟩⟩
  case round =>
    obtain ⟨j, hj, rfl, rfl, hbel⟩ := hrel.out
    by_cases hlt : j < n
    · obtain ⟨g, off, rfl, hg, hc0, hc1, hc2, hc3⟩ := (hA.below hbel (Nat.le_refl _)) j (by rw [mAcl_length]; exact hlt)
      rw [mAcl_at hlt] at hc0 hc1 hc2 hc3
      obtain ⟨N, hN⟩ : ∃ N, k + 4 * j = N := ⟨_, rfl⟩
      rw [hN] at hc0 hc1 hc2 hc3
      have HN : Hid (k + 4 * j = N) := hN
      have hN1 : 0 < N := by omega
      have hN2 : N ≤ 110000000 := by omega
      simp only [mAc] at hc0 hc1 hc2 hc3
      have hi1 : (0 : Int) ≤ (j : Int) := by omega
      have hi2 : (j : Int) < (n : Int) := by omega
      have HC : Hid (∀ w', Below wr.heap.size wr w' → w'.cell? ⟨g, off + j * 4, none⟩ = some (.int .i64 ((N : Int))) ∧ w'.cell? ⟨g, off + j * 4 + 1, none⟩ = some (.string (mkT (N + 1))) ∧ w'.cell? ⟨g, off + j * 4 + 2, none⟩ = some (.string (mkT (N + 2))) ∧ w'.cell? ⟨g, off + j * 4 + 3, none⟩ = some (.string (mkT (N + 3)))) := fun w' hb => ⟨(hb.cell (Nat.lt_of_lt_of_le hg hbel.size)).trans hc0, (hb.cell (Nat.lt_of_lt_of_le hg hbel.size)).trans hc1, (hb.cell (Nat.lt_of_lt_of_le hg hbel.size)).trans hc2, (hb.cell (Nat.lt_of_lt_of_le hg hbel.size)).trans hc3⟩
      rw [hN]
      clear hrel hA hN hc0 hc1 hc2 hc3
      obtain ⟨d0, d1, d2, d3⟩ := HC.out wr (Below.refl _ _)
      have l0 := cell_regrown d1
      have cV : ∀ d os, Calls Tryd.prog 31 #[.int .i64 ((N : Int) + 1)] (grow (redrawn wr d) os) fun e w'' => e = .returned (.string (mkT (N + 1))) ∧ ∃ p : Regrown, w'' = grow (redrawn wr p.d) p.os := fun d os => Calls.regrown_of (by have := markText_any (N + 1) (grow (redrawn wr d) os) (by omega) (by omega); rw [show ((N + 1 : Nat) : Int) = (N : Int) + 1 by omega] at this; exact this)
      clear d1 d2 d3
      go_wp2
      refine wp_region_quiet_below (by kernel_rfl) (by kernel_rfl) ?_
      repeat (first | go_big_quiet_step (exact cV _ _) | quiet_step (exact cV _ _))
      refine wpQuiet_nil ?_
      intro _ hw'
      obtain ⟨⟨dq, osq⟩, hw''⟩ := hw'
      subst hw''
      have hb := below_regrown wr dq osq
      obtain ⟨w1, hwn⟩ : ∃ x, grow (redrawn wr dq) osq = x := ⟨_, rfl⟩
      rw [hwn] at hb ⊢
      have hbc : Below wr.heap.size wr w1 := hb
      clear hwn l0 cV hb d0
      obtain ⟨d0, d1, d2, d3⟩ := HC.out w1 hbc
      have l0 := cell_regrown d2
      have cV : ∀ d os, Calls Tryd.prog 31 #[.int .i64 ((N : Int) + 1 + 1)] (grow (redrawn w1 d) os) fun e w'' => e = .returned (.string (mkT (N + 2))) ∧ ∃ p : Regrown, w'' = grow (redrawn w1 p.d) p.os := fun d os => Calls.regrown_of (by have := markText_any (N + 2) (grow (redrawn w1 d) os) (by omega) (by omega); rw [show ((N + 2 : Nat) : Int) = (N : Int) + 1 + 1 by omega] at this; exact this)
      clear d1 d2 d3
      go_wp2
      refine wp_region_quiet_below (by kernel_rfl) (by kernel_rfl) ?_
      repeat (first | go_big_quiet_step (exact cV _ _) | quiet_step (exact cV _ _))
      refine wpQuiet_nil ?_
      intro _ hw'
      obtain ⟨⟨dq, osq⟩, hw''⟩ := hw'
      subst hw''
      have hb := below_regrown w1 dq osq
      obtain ⟨w2, hwn⟩ : ∃ x, grow (redrawn w1 dq) osq = x := ⟨_, rfl⟩
      rw [hwn] at hb ⊢
      have hbc : Below wr.heap.size wr w2 := (hbc.trans (hb.mono hbc.size))
      clear hwn l0 cV hb d0
      obtain ⟨d0, d1, d2, d3⟩ := HC.out w2 hbc
      have l0 := cell_regrown d3
      have cV : ∀ d os, Calls Tryd.prog 31 #[.int .i64 ((N : Int) + 1 + 1 + 1)] (grow (redrawn w2 d) os) fun e w'' => e = .returned (.string (mkT (N + 3))) ∧ ∃ p : Regrown, w'' = grow (redrawn w2 p.d) p.os := fun d os => Calls.regrown_of (by have := markText_any (N + 3) (grow (redrawn w2 d) os) (by omega) (by omega); rw [show ((N + 3 : Nat) : Int) = (N : Int) + 1 + 1 + 1 by omega] at this; exact this)
      clear d1 d2 d3
      go_wp2
      refine wp_region_quiet_below (by kernel_rfl) (by kernel_rfl) ?_
      repeat (first | go_big_quiet_step (exact cV _ _) | quiet_step (exact cV _ _))
      refine wpQuiet_nil ?_
      intro _ hw'
      obtain ⟨⟨dq, osq⟩, hw''⟩ := hw'
      subst hw''
      have hb := below_regrown w2 dq osq
      obtain ⟨w3, hwn⟩ : ∃ x, grow (redrawn w2 dq) osq = x := ⟨_, rfl⟩
      rw [hwn] at hb ⊢
      have hbc : Below wr.heap.size wr w3 := (hbc.trans (hb.mono hbc.size))
      clear hwn l0 cV hb d0
      go_wp2
      go_roundw
      case rel =>
        try ((repeat apply Exists.intro); refine ⟨?_, rfl⟩)
        exact ⟨⟨j + 1, by omega, by go_num, by have := HN.out; congr 1; omega, hbel.trans (hbc.mono hbel.size)⟩⟩
      case measure => simp [intOf]; omega
    · go_wp2
      go_ret
      have hje : j = n := by omega
      subst hje
      exact ⟨rfl, hbel⟩
end Go.Proofs.YtepfblabdibggabDoor
