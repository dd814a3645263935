/- The other text's StreamOk. -/
import Derived.Test.YtmpnjijbahjinafStmBase
import Derived.Lib.QuietBelow
import Derived.BigQuiet
namespace Go.Proofs.Ytmpnjijbahjinaf
open Go.RowKit Go.Sort

set_option maxRecDepth 100000 in
set_option maxHeartbeats 4000000 in
theorem specStreamOk_any (w : World) (a : Option Addr) (c : Nat) (S : Stm) (hE : PAt w a S.rd w.heap.size) (ht : S.text.size ≤ 1048576) (hm : S.rd.length ≤ 1048577) :
    Calls Try.prog 26 #[.agg #[.int .i64 S.st, .string S.text, .slice a S.rd.length c]] w fun e w' => e = .returned (.bool (okM S)) ∧ Below w.heap.size w w' := by
  obtain ⟨st, t, rd⟩ := S
  dsimp only at hE hm ht ⊢
  obtain ⟨w1, hw1⟩ : ∃ w1, w.alloc (.cells #[.int .i64 st, .string t, .slice a rd.length c] 26) = w1 := ⟨_, rfl⟩
  have hb1 : Below w.heap.size w w1 := by rw [← hw1]; exact (Below.refl _ _).alloc (Nat.le_refl _) _
  have hB1 : MBox w1 w.heap.size (.int .i64 st) (.string t) (.slice a rd.length c) := by rw [← hw1]; exact MBox.new _ _ _ _
  have hE1 : PAt w1 a rd w1.heap.size := hE.on hb1
  have HW : Hid (w.alloc (.cells #[.int .i64 st, .string t, .slice a rd.length c] 26) = w1) := hw1
  have HB : Hid (Below w.heap.size w w1) := hb1
  have HO : Hid (okM ⟨st, t, rd⟩ = (rdOkTo t.size rd rd.length && (inN st 1 3 && decide (t.size ≤ 400) && decide (rd.length ≤ 6)))) := rfl
  clear hw1 hE hb1
  go_enter Try.func26, Try.ntmps26
  go_wp2_with fail
  rw [HW.out]
  go_loopw [3] (fun i wr => Box (∃ k : Nat, k ≤ rd.length ∧ i = .int .i64 k ∧ rdOkTo t.size rd k = true ∧ Below w1.heap.size w1 wr))
    (fun i _ => rd.length - (intOf i).toNat)
  case atStart => exact ⟨⟨0, by omega, rfl, rfl, Below.refl _ _⟩⟩
  case round =>
    obtain ⟨k, hk, rfl, hno, hbr⟩ := hrel.out
    obtain ⟨wo, hwo⟩ : ∃ wo, wo = wr := ⟨_, rfl⟩
    subst hwo
    have HN : Hid (rdOkTo t.size rd k = true) := hno
    have HBR : Hid (Below w.heap.size w wo) := HB.out.trans (hbr.mono HB.out.size)
    have HBR2 : Hid (Below w1.heap.size w1 wo) := hbr
    have hB := hB1.on hbr
    obtain ⟨b0, b1, b2⟩ := hB.cells
    have HP := hE1.on hbr
    clear hno hrel hbr
    by_cases hlt : k < rd.length
    · obtain ⟨gg, offg, hga, _, q0, q1⟩ := HP k hlt
      obtain ⟨r, hr⟩ : ∃ r, rd[k] = r := ⟨_, rfl⟩
      have hgd : rd.getD k (0, 0) = r := by simp [List.getD, List.getElem?_eq_getElem hlt, hr]
      rw [hr] at q0 q1
      have hi1 : (0 : Int) ≤ (k : Int) := by omega
      have hi3 : (k : Int) < (rd.length : Int) := by omega
      have HK : Hid ((k : Int) < (rd.length : Int)) := hi3
      have HSu : Hid (rdOkTo t.size rd (k + 1) = (inN r.1 1 9 && !(decide (0 < k) && decide (r.1 ≤ (rd.getD (k - 1) (0, 0)).1)) && inN r.2 0 t.size)) := by
        show _ = _
        rw [rdOkTo_succ, HN.out, hgd]; rfl
      obtain ⟨w2, hw2⟩ : ∃ w2, wo.alloc (.cells #[.int .i64 r.1, .int .i64 r.2] 38) = w2 := ⟨_, rfl⟩
      have hb2 : Below wo.heap.size wo w2 := by rw [← hw2]; exact (Below.refl _ _).alloc (Nat.le_refl _) _
      subst hga
      have HB2 : Hid (Below w.heap.size w w2) := HBR.out.trans (hb2.mono HBR.out.size)
      have HB3 : Hid (Below w1.heap.size w1 w2) := HBR2.out.trans (hb2.mono HBR2.out.size)
      have hRB : w2.heap[wo.heap.size]? = some (.cells #[.int .i64 r.1, .int .i64 r.2] 38 (0, 0)) := by rw [← hw2]; exact heap_alloc_new wo _
      obtain ⟨d0, d1, d2⟩ := (hB.on hb2).cells
      have z1 := cell_regrown d1
      have z2 := cell_regrown d2
      have z3 := cell_regrown (show w2.cell? ⟨wo.heap.size, 0, none⟩ = some (.int .i64 r.1) by rw [cell_of_row w2 wo.heap.size 0 _ _ (0, 0) hRB]; rfl)
      have z4 := cell_regrown (show w2.cell? ⟨wo.heap.size, 1, none⟩ = some (.int .i64 r.2) by rw [cell_of_row w2 wo.heap.size 1 _ _ (0, 0) hRB]; rfl)
      have HPV : Hid (∀ j (hj : j < rd.length), w2.cell? ⟨gg, offg + j * 2, none⟩ = some (.int .i64 rd[j].1)) := fun j hj => by
        obtain ⟨g', o', he, _, h, _⟩ := (HP.on hb2) j hj
        cases he
        exact h
      have HW2 : Hid (wo.alloc (.cells #[.int .i64 r.1, .int .i64 r.2] 38) = w2) := hw2
      have cV : ∀ (x a b : Int) d os, Calls Try.prog 53 #[.int .i64 x, .int .i64 a, .int .i64 b] (grow (redrawn w2 d) os) fun e w'' => e = .returned (.bool (inN x a b)) ∧ ∃ p : Regrown, w'' = grow (redrawn w2 p.d) p.os := fun x a b d os => Calls.regrown_of ((in_any x a b (grow (redrawn w2 d) os)).mono (by rintro e w'' ⟨rfl, rfl⟩; exact ⟨rfl, Below.refl _ _⟩))
      have cA := cV r.1 1 9
      have cB := cV r.2 0 t.size
      clear hw2 hb2 hB hRB d0 d1 d2 hr hgd HP cV
      cases hA1 : inN r.1 1 9 with
      | false =>
        rw [hA1] at cA
        have HPO : Hid (rdOkTo t.size rd (k + 1) = false) := by show _ = _; rw [HSu.out]; rw [hA1]; rfl
        clear HSu
        go_wp2_with fail
        rw [HW2.out]
        refine wp_region_quiet_below (by kernel_rfl) (by kernel_rfl) ?_
        repeat (first | go_big_quiet_step (exact cA _ _) | quiet_step (exact cA _ _))
        refine wpQuiet_nil ?_
        intro _ hw'
        obtain ⟨⟨dq, osq⟩, hw''⟩ := hw'
        subst hw''
        go_wp2_with fail
        go_ret
        refine ⟨?_, HB2.out.trans ((below_regrown w2 dq osq).mono HB2.out.size)⟩
        rw [HO.out, rdOkTo_down t.size rd rd.length (by have := HK.out; omega) HPO.out]
        rfl
      | true =>
        rw [hA1] at cA
        by_cases h0 : k = 0
        · have HS2 : Hid (rdOkTo t.size rd (k + 1) = (inN r.1 1 9 && inN r.2 0 t.size)) := by show _ = _; rw [HSu.out]; simp [h0]
          clear HSu
          have HSu := HS2
          clear HS2
          have hgN : decide (0 < k) = false := decide_eq_false (by omega)
          clear h0
          cases hA2 : inN r.2 0 t.size with
          | false =>
            rw [hA2] at cB
            have HPO : Hid (rdOkTo t.size rd (k + 1) = false) := by show _ = _; rw [HSu.out]; rw [hA1, hA2]; simp
            clear HSu
            go_wp2_with fail
            rw [HW2.out]
            refine wp_region_quiet_below (by kernel_rfl) (by kernel_rfl) ?_
            repeat (first | go_big_quiet_step (first | with_reducible exact cA _ _ | with_reducible exact cB _ _) | quiet_step (first | with_reducible exact cA _ _ | with_reducible exact cB _ _))
            refine wpQuiet_nil ?_
            intro _ hw'
            obtain ⟨⟨dq, osq⟩, hw''⟩ := hw'
            subst hw''
            go_wp2_with fail
            go_ret
            refine ⟨?_, HB2.out.trans ((below_regrown w2 dq osq).mono HB2.out.size)⟩
            rw [HO.out, rdOkTo_down t.size rd rd.length (by have := HK.out; omega) HPO.out]
            rfl
          | true =>
            rw [hA2] at cB
            have HPO : Hid (rdOkTo t.size rd (k + 1) = true) := by show _ = _; rw [HSu.out]; rw [hA1, hA2]; simp
            clear HSu
            go_wp2_with fail
            rw [HW2.out]
            refine wp_region_quiet_below (by kernel_rfl) (by kernel_rfl) ?_
            repeat (first | go_big_quiet_step (first | with_reducible exact cA _ _ | with_reducible exact cB _ _) | quiet_step (first | with_reducible exact cA _ _ | with_reducible exact cB _ _))
            refine wpQuiet_nil ?_
            intro _ hw'
            obtain ⟨⟨dq, osq⟩, hw''⟩ := hw'
            subst hw''
            go_wp2_with fail
            go_roundw
            case rel =>
              try ((repeat apply Exists.intro); refine ⟨?_, rfl⟩)
              exact ⟨⟨k + 1, by have := HK.out; omega, by go_num, HPO.out, HB3.out.trans ((below_regrown w2 dq osq).mono HB3.out.size)⟩⟩
            case measure => have := HK.out; simp [intOf]; omega
        · obtain ⟨j, hkj⟩ : ∃ j, k = j + 1 := ⟨k - 1, by omega⟩
          have z5 := cell_regrown (HPV.out j (by omega))
          obtain ⟨x, hx⟩ : ∃ x, rd[j].1 = x := ⟨_, rfl⟩
          have hxd : (rd.getD (k - 1) (0, 0)).1 = x := by rw [← hx, show k - 1 = j by omega]; simp [List.getD, List.getElem?_eq_getElem (show j < rd.length by omega)]
          have HS2 : Hid (rdOkTo t.size rd (k + 1) = (inN r.1 1 9 && !decide (r.1 ≤ x) && inN r.2 0 t.size)) := by show _ = _; rw [HSu.out, hxd, show decide (0 < k) = true from decide_eq_true (by omega)]; rfl
          clear HSu
          have HSu := HS2
          clear HS2
          rw [hx] at z5
          have hg : 0 < k := by omega
          have hgN : decide (0 < k) = true := decide_eq_true hg
          have hjj : (k : Int) - 1 = (j : Int) := by omega
          have hj0 : (0 : Int) ≤ (j : Int) := by omega
          have hj1 : (j : Int) < (rd.length : Int) := by omega
          clear hxd hx hkj h0
          by_cases hle : r.1 ≤ x
          · have hle' : decide (r.1 ≤ x) = true := decide_eq_true hle
            have HPO : Hid (rdOkTo t.size rd (k + 1) = false) := by show _ = _; rw [HSu.out]; simp [hle]
            clear HSu
            go_wp2_with fail
            rw [HW2.out]
            refine wp_region_quiet_below (by kernel_rfl) (by kernel_rfl) ?_
            repeat (first | go_big_quiet_step (exact cA _ _) | quiet_step (exact cA _ _))
            refine wpQuiet_nil ?_
            intro _ hw'
            obtain ⟨⟨dq, osq⟩, hw''⟩ := hw'
            subst hw''
            go_wp2_with fail
            go_ret
            refine ⟨?_, HB2.out.trans ((below_regrown w2 dq osq).mono HB2.out.size)⟩
            rw [HO.out, rdOkTo_down t.size rd rd.length (by have := HK.out; omega) HPO.out]
            rfl
          · have hle' : decide (r.1 ≤ x) = false := decide_eq_false hle
            cases hA2 : inN r.2 0 t.size with
            | false =>
              rw [hA2] at cB
              have HPO : Hid (rdOkTo t.size rd (k + 1) = false) := by show _ = _; rw [HSu.out]; rw [hA1, hA2]; simp [hle]
              clear HSu
              go_wp2_with fail
              rw [HW2.out]
              refine wp_region_quiet_below (by kernel_rfl) (by kernel_rfl) ?_
              repeat (first | go_big_quiet_step (first | with_reducible exact cA _ _ | with_reducible exact cB _ _) | quiet_step (first | with_reducible exact cA _ _ | with_reducible exact cB _ _))
              refine wpQuiet_nil ?_
              intro _ hw'
              obtain ⟨⟨dq, osq⟩, hw''⟩ := hw'
              subst hw''
              go_wp2_with fail
              go_ret
              refine ⟨?_, HB2.out.trans ((below_regrown w2 dq osq).mono HB2.out.size)⟩
              rw [HO.out, rdOkTo_down t.size rd rd.length (by have := HK.out; omega) HPO.out]
              rfl
            | true =>
              rw [hA2] at cB
              have HPO : Hid (rdOkTo t.size rd (k + 1) = true) := by show _ = _; rw [HSu.out]; rw [hA1, hA2]; simp [hle]
              clear HSu
              go_wp2_with fail
              rw [HW2.out]
              refine wp_region_quiet_below (by kernel_rfl) (by kernel_rfl) ?_
              repeat (first | go_big_quiet_step (first | with_reducible exact cA _ _ | with_reducible exact cB _ _) | quiet_step (first | with_reducible exact cA _ _ | with_reducible exact cB _ _))
              refine wpQuiet_nil ?_
              intro _ hw'
              obtain ⟨⟨dq, osq⟩, hw''⟩ := hw'
              subst hw''
              go_wp2_with fail
              go_roundw
              case rel =>
                try ((repeat apply Exists.intro); refine ⟨?_, rfl⟩)
                exact ⟨⟨k + 1, by have := HK.out; omega, by go_num, HPO.out, HB3.out.trans ((below_regrown w2 dq osq).mono HB3.out.size)⟩⟩
              case measure => have := HK.out; simp [intOf]; omega
    · have hi3 : ¬ (k : Int) < (rd.length : Int) := by omega
      have cI := in_any st 1 3 wo
      have HF : Hid (okM ⟨st, t, rd⟩ = (inN st 1 3 && decide (t.size ≤ 400) && decide (rd.length ≤ 6))) := by
        show _ = _
        rw [HO.out, show rd.length = k by omega, HN.out]; rfl
      cases hA : inN st 1 3 with
      | false =>
        rw [hA] at cI HF
        go_wp2_with fail
        refine cI.mono ?_
        rintro e w' ⟨rfl, rfl⟩
        go_wp2_with fail
        go_ret
        exact ⟨by rw [HF.out]; rfl, HBR.out⟩
      | true =>
        rw [hA] at cI HF
        by_cases hT : t.size ≤ 400
        · have hT' : (t.size : Int) ≤ 400 := by omega
          by_cases hR : rd.length ≤ 6
          · have hR' : (rd.length : Int) ≤ 6 := by omega
            go_wp2_with fail
            refine cI.mono ?_
            rintro e w' ⟨rfl, rfl⟩
            go_wp2_with fail
            go_ret
            exact ⟨by rw [HF.out]; simp [hT, hR], HBR.out⟩
          · have hR' : ¬ (rd.length : Int) ≤ 6 := by omega
            go_wp2_with fail
            refine cI.mono ?_
            rintro e w' ⟨rfl, rfl⟩
            go_wp2_with fail
            go_ret
            exact ⟨by rw [HF.out]; simp [hT, hR]; omega, HBR.out⟩
        · have hT' : ¬ (t.size : Int) ≤ 400 := by omega
          go_wp2_with fail
          refine cI.mono ?_
          rintro e w' ⟨rfl, rfl⟩
          go_wp2_with fail
          go_ret
          exact ⟨by rw [HF.out]; simp [hT], HBR.out⟩
end Go.Proofs.Ytmpnjijbahjinaf
