/- Texts that stand in one: StmOkSpec, StmPut, SkCopySpec. -/
import Derived.Test.YtcaakommnglnbaaGreatDoorStmBaseJ
import Derived.Lib.QuietBelow
import Derived.BigQuiet
import Derived.Test.YtcaakommnglnbaaGreatDoorSpecOpenJ
import Derived.Test.YtcaakommnglnbaaGreatDoorFetPlusJ
import Derived.Test.YtcaakommnglnbaaGreatDoorSkLaw2J
import Derived.Test.YtcaakommnglnbaaGreatDoorKeysCopyJ
namespace Go.Proofs.YtcaakommnglnbaaGreatDoor
open Go.RowKit Go.Sort

set_option maxRecDepth 100000 in
set_option maxHeartbeats 4000000 in
theorem specStreamOk_any (w : World) (a : Option Addr) (c : Nat) (S : Stm) (hE : PAt w a S.rd w.heap.size) (ht : S.text.size ≤ 1048576) (hm : S.rd.length ≤ 1048577) :
    Calls Tryz.prog 45 #[.agg #[.int .i64 S.st, .string S.text, .slice a S.rd.length c]] w fun e w' => e = .returned (.bool (okM S)) ∧ Below w.heap.size w w' := by
  obtain ⟨st, t, rd⟩ := S
  dsimp only at hE hm ht ⊢
  obtain ⟨w1, hw1⟩ : ∃ w1, w.alloc (.cells #[.int .i64 st, .string t, .slice a rd.length c] 56) = w1 := ⟨_, rfl⟩
  have hb1 : Below w.heap.size w w1 := by rw [← hw1]; exact (Below.refl _ _).alloc (Nat.le_refl _) _
  have hB1 : MBox w1 w.heap.size (.int .i64 st) (.string t) (.slice a rd.length c) := by rw [← hw1]; exact MBox.new _ _ _ _
  have hE1 : PAt w1 a rd w1.heap.size := hE.on hb1
  have HW : Hid (w.alloc (.cells #[.int .i64 st, .string t, .slice a rd.length c] 56) = w1) := hw1
  have HB : Hid (Below w.heap.size w w1) := hb1
  have HO : Hid (okM ⟨st, t, rd⟩ = (rdOkTo t.size rd rd.length && (inN st 1 3 && decide (t.size ≤ 400) && decide (rd.length ≤ 6)))) := rfl
  clear hw1 hE hb1
  go_enter Tryz.func45, Tryz.ntmps45
  go_wp2_with fail
  rw [HW.out]
  go_loopw [3] (fun i wr => Box (∃ k : Nat, k ≤ rd.length ∧ i = .int .i64 k ∧ rdOkTo t.size rd k = true ∧ Below w1.heap.size w1 wr))
    (fun i _ => rd.length - (intOf i).toNat)
  case atStart => exact ⟨⟨0, by omega, rfl, rfl, Below.refl _ _⟩⟩
  case round =>
    obtain ⟨k, hk, rfl, hno, hbr⟩ := hrel.out
    obtain ⟨wo, hwo⟩ : ∃ wo, wo = wr := ⟨_, rfl⟩
    subst hwo
    have HN : Hid (rdOkTo t.size rd k = true) := hno
    have HBR : Hid (Below w.heap.size w wo) := HB.out.trans (hbr.mono HB.out.size)
    have HBR2 : Hid (Below w1.heap.size w1 wo) := hbr
    have hB := hB1.on hbr
    obtain ⟨b0, b1, b2⟩ := hB.cells
    have HP := hE1.on hbr
    clear hno hrel hbr
    by_cases hlt : k < rd.length
    · obtain ⟨gg, offg, hga, _, q0, q1⟩ := HP k hlt
      obtain ⟨r, hr⟩ : ∃ r, rd[k] = r := ⟨_, rfl⟩
      have hgd : rd.getD k (0, 0) = r := by simp [List.getD, List.getElem?_eq_getElem hlt, hr]
      rw [hr] at q0 q1
      have hi1 : (0 : Int) ≤ (k : Int) := by omega
      have hi3 : (k : Int) < (rd.length : Int) := by omega
      have HK : Hid ((k : Int) < (rd.length : Int)) := hi3
      have HSu : Hid (rdOkTo t.size rd (k + 1) = (inN r.1 1 9 && !(decide (0 < k) && decide (r.1 ≤ (rd.getD (k - 1) (0, 0)).1)) && inN r.2 0 t.size)) := by
        show _ = _
        rw [rdOkTo_succ, HN.out, hgd]; rfl
      obtain ⟨w2, hw2⟩ : ∃ w2, wo.alloc (.cells #[.int .i64 r.1, .int .i64 r.2] 119) = w2 := ⟨_, rfl⟩
      have hb2 : Below wo.heap.size wo w2 := by rw [← hw2]; exact (Below.refl _ _).alloc (Nat.le_refl _) _
      subst hga
      have HB2 : Hid (Below w.heap.size w w2) := HBR.out.trans (hb2.mono HBR.out.size)
      have HB3 : Hid (Below w1.heap.size w1 w2) := HBR2.out.trans (hb2.mono HBR2.out.size)
      have hRB : w2.heap[wo.heap.size]? = some (.cells #[.int .i64 r.1, .int .i64 r.2] 119 (0, 0)) := by rw [← hw2]; exact heap_alloc_new wo _
      obtain ⟨d0, d1, d2⟩ := (hB.on hb2).cells
      have z1 := cell_regrown d1
      have z2 := cell_regrown d2
      have z3 := cell_regrown (show w2.cell? ⟨wo.heap.size, 0, none⟩ = some (.int .i64 r.1) by rw [cell_of_row w2 wo.heap.size 0 _ _ (0, 0) hRB]; rfl)
      have z4 := cell_regrown (show w2.cell? ⟨wo.heap.size, 1, none⟩ = some (.int .i64 r.2) by rw [cell_of_row w2 wo.heap.size 1 _ _ (0, 0) hRB]; rfl)
      have HPV : Hid (∀ j (hj : j < rd.length), w2.cell? ⟨gg, offg + j * 2, none⟩ = some (.int .i64 rd[j].1)) := fun j hj => by
        obtain ⟨g', o', he, _, h, _⟩ := (HP.on hb2) j hj
        cases he
        exact h
      have HW2 : Hid (wo.alloc (.cells #[.int .i64 r.1, .int .i64 r.2] 119) = w2) := hw2
      have cV : ∀ (x a b : Int) d os, Calls Tryz.prog 43 #[.int .i64 x, .int .i64 a, .int .i64 b] (grow (redrawn w2 d) os) fun e w'' => e = .returned (.bool (inN x a b)) ∧ ∃ p : Regrown, w'' = grow (redrawn w2 p.d) p.os := fun x a b d os => Calls.regrown_of ((in_any x a b (grow (redrawn w2 d) os)).mono (by rintro e w'' ⟨rfl, rfl⟩; exact ⟨rfl, Below.refl _ _⟩))
      have cA := cV r.1 1 9
      have cB := cV r.2 0 t.size
      clear hw2 hb2 hB hRB d0 d1 d2 hr hgd HP cV
      cases hA1 : inN r.1 1 9 with
      | false =>
        rw [hA1] at cA
        have HPO : Hid (rdOkTo t.size rd (k + 1) = false) := by show _ = _; rw [HSu.out]; rw [hA1]; rfl
        clear HSu
        go_wp2_with fail
        rw [HW2.out]
        refine wp_region_quiet_below (by kernel_rfl) (by kernel_rfl) ?_
        repeat (first | go_big_quiet_step (exact cA _ _) | quiet_step (exact cA _ _))
        refine wpQuiet_nil ?_
        intro _ hw'
        obtain ⟨⟨dq, osq⟩, hw''⟩ := hw'
        subst hw''
        go_wp2_with fail
        go_ret
        refine ⟨?_, HB2.out.trans ((below_regrown w2 dq osq).mono HB2.out.size)⟩
        rw [HO.out, rdOkTo_down t.size rd rd.length (by have := HK.out; omega) HPO.out]
        rfl
      | true =>
        rw [hA1] at cA
        by_cases h0 : k = 0
        · have HS2 : Hid (rdOkTo t.size rd (k + 1) = (inN r.1 1 9 && inN r.2 0 t.size)) := by show _ = _; rw [HSu.out]; simp [h0]
          clear HSu
          have HSu := HS2
          clear HS2
          have hgN : decide (0 < k) = false := decide_eq_false (by omega)
          clear h0
          cases hA2 : inN r.2 0 t.size with
          | false =>
            rw [hA2] at cB
            have HPO : Hid (rdOkTo t.size rd (k + 1) = false) := by show _ = _; rw [HSu.out]; rw [hA1, hA2]; simp
            clear HSu
            go_wp2_with fail
            rw [HW2.out]
            refine wp_region_quiet_below (by kernel_rfl) (by kernel_rfl) ?_
            repeat (first | go_big_quiet_step (first | with_reducible exact cA _ _ | with_reducible exact cB _ _) | quiet_step (first | with_reducible exact cA _ _ | with_reducible exact cB _ _))
            refine wpQuiet_nil ?_
            intro _ hw'
            obtain ⟨⟨dq, osq⟩, hw''⟩ := hw'
            subst hw''
            go_wp2_with fail
            go_ret
            refine ⟨?_, HB2.out.trans ((below_regrown w2 dq osq).mono HB2.out.size)⟩
            rw [HO.out, rdOkTo_down t.size rd rd.length (by have := HK.out; omega) HPO.out]
            rfl
          | true =>
            rw [hA2] at cB
            have HPO : Hid (rdOkTo t.size rd (k + 1) = true) := by show _ = _; rw [HSu.out]; rw [hA1, hA2]; simp
            clear HSu
            go_wp2_with fail
            rw [HW2.out]
            refine wp_region_quiet_below (by kernel_rfl) (by kernel_rfl) ?_
            repeat (first | go_big_quiet_step (first | with_reducible exact cA _ _ | with_reducible exact cB _ _) | quiet_step (first | with_reducible exact cA _ _ | with_reducible exact cB _ _))
            refine wpQuiet_nil ?_
            intro _ hw'
            obtain ⟨⟨dq, osq⟩, hw''⟩ := hw'
            subst hw''
            go_wp2_with fail
            go_roundw
            case rel =>
              try ((repeat apply Exists.intro); refine ⟨?_, rfl⟩)
              exact ⟨⟨k + 1, by have := HK.out; omega, by go_num, HPO.out, HB3.out.trans ((below_regrown w2 dq osq).mono HB3.out.size)⟩⟩
            case measure => have := HK.out; simp [intOf]; omega
        · obtain ⟨j, hkj⟩ : ∃ j, k = j + 1 := ⟨k - 1, by omega⟩
          have z5 := cell_regrown (HPV.out j (by omega))
          obtain ⟨x, hx⟩ : ∃ x, rd[j].1 = x := ⟨_, rfl⟩
          have hxd : (rd.getD (k - 1) (0, 0)).1 = x := by rw [← hx, show k - 1 = j by omega]; simp [List.getD, List.getElem?_eq_getElem (show j < rd.length by omega)]
          have HS2 : Hid (rdOkTo t.size rd (k + 1) = (inN r.1 1 9 && !decide (r.1 ≤ x) && inN r.2 0 t.size)) := by show _ = _; rw [HSu.out, hxd, show decide (0 < k) = true from decide_eq_true (by omega)]; rfl
          clear HSu
          have HSu := HS2
          clear HS2
          rw [hx] at z5
          have hg : 0 < k := by omega
          have hgN : decide (0 < k) = true := decide_eq_true hg
          have hjj : (k : Int) - 1 = (j : Int) := by omega
          have hj0 : (0 : Int) ≤ (j : Int) := by omega
          have hj1 : (j : Int) < (rd.length : Int) := by omega
          clear hxd hx hkj h0
          by_cases hle : r.1 ≤ x
          · have hle' : decide (r.1 ≤ x) = true := decide_eq_true hle
            have HPO : Hid (rdOkTo t.size rd (k + 1) = false) := by show _ = _; rw [HSu.out]; simp [hle]
            clear HSu
            go_wp2_with fail
            rw [HW2.out]
            refine wp_region_quiet_below (by kernel_rfl) (by kernel_rfl) ?_
            repeat (first | go_big_quiet_step (exact cA _ _) | quiet_step (exact cA _ _))
            refine wpQuiet_nil ?_
            intro _ hw'
            obtain ⟨⟨dq, osq⟩, hw''⟩ := hw'
            subst hw''
            go_wp2_with fail
            go_ret
            refine ⟨?_, HB2.out.trans ((below_regrown w2 dq osq).mono HB2.out.size)⟩
            rw [HO.out, rdOkTo_down t.size rd rd.length (by have := HK.out; omega) HPO.out]
            rfl
          · have hle' : decide (r.1 ≤ x) = false := decide_eq_false hle
            cases hA2 : inN r.2 0 t.size with
            | false =>
              rw [hA2] at cB
              have HPO : Hid (rdOkTo t.size rd (k + 1) = false) := by show _ = _; rw [HSu.out]; rw [hA1, hA2]; simp [hle]
              clear HSu
              go_wp2_with fail
              rw [HW2.out]
              refine wp_region_quiet_below (by kernel_rfl) (by kernel_rfl) ?_
              repeat (first | go_big_quiet_step (first | with_reducible exact cA _ _ | with_reducible exact cB _ _) | quiet_step (first | with_reducible exact cA _ _ | with_reducible exact cB _ _))
              refine wpQuiet_nil ?_
              intro _ hw'
              obtain ⟨⟨dq, osq⟩, hw''⟩ := hw'
              subst hw''
              go_wp2_with fail
              go_ret
              refine ⟨?_, HB2.out.trans ((below_regrown w2 dq osq).mono HB2.out.size)⟩
              rw [HO.out, rdOkTo_down t.size rd rd.length (by have := HK.out; omega) HPO.out]
              rfl
            | true =>
              rw [hA2] at cB
              have HPO : Hid (rdOkTo t.size rd (k + 1) = true) := by show _ = _; rw [HSu.out]; rw [hA1, hA2]; simp [hle]
              clear HSu
              go_wp2_with fail
              rw [HW2.out]
              refine wp_region_quiet_below (by kernel_rfl) (by kernel_rfl) ?_
              repeat (first | go_big_quiet_step (first | with_reducible exact cA _ _ | with_reducible exact cB _ _) | quiet_step (first | with_reducible exact cA _ _ | with_reducible exact cB _ _))
              refine wpQuiet_nil ?_
              intro _ hw'
              obtain ⟨⟨dq, osq⟩, hw''⟩ := hw'
              subst hw''
              go_wp2_with fail
              go_roundw
              case rel =>
                try ((repeat apply Exists.intro); refine ⟨?_, rfl⟩)
                exact ⟨⟨k + 1, by have := HK.out; omega, by go_num, HPO.out, HB3.out.trans ((below_regrown w2 dq osq).mono HB3.out.size)⟩⟩
              case measure => have := HK.out; simp [intOf]; omega
    · have hi3 : ¬ (k : Int) < (rd.length : Int) := by omega
      have cI := in_any st 1 3 wo
      have HF : Hid (okM ⟨st, t, rd⟩ = (inN st 1 3 && decide (t.size ≤ 400) && decide (rd.length ≤ 6))) := by
        show _ = _
        rw [HO.out, show rd.length = k by omega, HN.out]; rfl
      cases hA : inN st 1 3 with
      | false =>
        rw [hA] at cI HF
        go_wp2_with fail
        refine cI.mono ?_
        rintro e w' ⟨rfl, rfl⟩
        go_wp2_with fail
        go_ret
        exact ⟨by rw [HF.out]; rfl, HBR.out⟩
      | true =>
        rw [hA] at cI HF
        by_cases hT : t.size ≤ 400
        · have hT' : (t.size : Int) ≤ 400 := by omega
          by_cases hR : rd.length ≤ 6
          · have hR' : (rd.length : Int) ≤ 6 := by omega
            go_wp2_with fail
            refine cI.mono ?_
            rintro e w' ⟨rfl, rfl⟩
            go_wp2_with fail
            go_ret
            exact ⟨by rw [HF.out]; simp [hT, hR], HBR.out⟩
          · have hR' : ¬ (rd.length : Int) ≤ 6 := by omega
            go_wp2_with fail
            refine cI.mono ?_
            rintro e w' ⟨rfl, rfl⟩
            go_wp2_with fail
            go_ret
            exact ⟨by rw [HF.out]; simp [hT, hR]; omega, HBR.out⟩
        · have hT' : ¬ (t.size : Int) ≤ 400 := by omega
          go_wp2_with fail
          refine cI.mono ?_
          rintro e w' ⟨rfl, rfl⟩
          go_wp2_with fail
          go_ret
          exact ⟨by rw [HF.out]; simp [hT], HBR.out⟩
end Go.Proofs.YtcaakommnglnbaaGreatDoor

namespace Go.Proofs.YtcaakommnglnbaaGreatDoor
open Go.RowKit Go.Sort

set_option maxRecDepth 100000 in
set_option maxHeartbeats 4000000 in
theorem specStreamPut_any (w : World) (a : Option Addr) (c : Nat) (S : Stm) (pt : ByteArray) (hE : PAt w a S.rd w.heap.size) (ht : S.text.size ≤ 1048576) (hm : S.rd.length ≤ 1048576) (hp : pt.size ≤ 1048576) :
    Calls Tryz.prog 17 #[.agg #[.int .i64 S.st, .string S.text, .slice a S.rd.length c], .string pt] w fun e w' => ∃ v, e = .returned (.tuple #[v, .bool (putM S pt).2]) ∧ MOwn w' w.heap.size v (putM S pt).1 ∧ Below w.heap.size w w' := by
  obtain ⟨st, t, rd⟩ := S
  dsimp only at hE ht hm ⊢
  obtain ⟨w0, hw0⟩ : ∃ x, w.alloc (.cells #[.int .i64 st, .string t, .slice a rd.length c] 56) = x := ⟨_, rfl⟩
  obtain ⟨w1, hw1⟩ : ∃ x, w0.alloc (.cells #[.int .i64 0, .string ⟨#[]⟩, .slice none 0 0] 56) = x := ⟨_, rfl⟩
  have hb0 : Below w.heap.size w w0 := by rw [← hw0]; exact (Below.refl _ _).alloc (Nat.le_refl _) _
  have hb1 : Below w0.heap.size w0 w1 := by rw [← hw1]; exact (Below.refl _ _).alloc (Nat.le_refl _) _
  have s0 : w0.heap.size = w.heap.size + 1 := by rw [← hw0]; simp
  have s1 : w1.heap.size = w.heap.size + 2 := by rw [← hw1]; simp; omega
  have hB : MBox w1 w.heap.size (.int .i64 st) (.string t) (.slice a rd.length c) := by
    have h : MBox w0 w.heap.size (.int .i64 st) (.string t) (.slice a rd.length c) := by rw [← hw0]; exact MBox.new _ _ _ _
    exact h.on hb1
  have hR : MBox w1 (w.heap.size + 1) (.int .i64 0) (.string ⟨#[]⟩) (.slice none 0 0) := by rw [← hw1, ← s0]; exact MBox.new _ _ _ _
  have hBw : Below w.heap.size w w1 := hb0.trans (hb1.mono hb0.size)
  have HW : Hid ((w.alloc (.cells #[.int .i64 st, .string t, .slice a rd.length c] 56)).alloc (.cells #[.int .i64 0, .string ⟨#[]⟩, .slice none 0 0] 56) = w1) := by rw [hw0]; exact hw1
  have HX : Hid (∀ wi, Below w1.heap.size w1 wi → MBox wi w.heap.size (.int .i64 st) (.string t) (.slice a rd.length c) ∧ MBox wi (w.heap.size + 1) (.int .i64 0) (.string ⟨#[]⟩) (.slice none 0 0) ∧ PAt wi a rd wi.heap.size ∧ Below w.heap.size w wi) := fun wi hi => ⟨hB.on hi, hR.on hi, (hE.on hBw).on hi, hBw.trans (hi.mono hBw.size)⟩
  have HS1 : Hid (w1.heap.size = w.heap.size + 2) := s1
  have c0 := l14Copy_any w1 a c ⟨st, t, rd⟩ (hE.on hBw) hm
  obtain ⟨b0, b1, b2⟩ := hB.cells
  clear hw0 hw1 hb0 hb1 hB hR s0 s1 hE hBw
  go_enter Tryz.func17, Tryz.ntmps17
  go_wp2_with fail
  rw [HW.out]
  refine c0.mono ?_
  rintro e w2 ⟨v0, rfl, ho, hb2⟩
  obtain ⟨a2, c2, rfl, hA2⟩ := ho.at
  clear c0 b0 b1 b2
  dsimp only at hA2 ⊢
  obtain ⟨w3, hw3⟩ : ∃ x, w2.alloc (.cells #[.int .i64 st, .string t, .slice a2 rd.length c2] 56) = x := ⟨_, rfl⟩
  have hb3 : Below w2.heap.size w2 w3 := by rw [← hw3]; exact (Below.refl _ _).alloc (Nat.le_refl _) _
  have hb23 : Below w1.heap.size w1 w3 := hb2.trans (hb3.mono hb2.size)
  have hT : MBox w3 w2.heap.size (.int .i64 st) (.string t) (.slice a2 rd.length c2) := by rw [← hw3]; exact MBox.new _ _ _ _
  have ho3 := ho.below hb3 (Nat.le_refl _)
  have HW3 : Hid (w2.alloc (.cells #[.int .i64 st, .string t, .slice a2 rd.length c2] 56) = w3) := hw3
  obtain ⟨hB3, hR3, hE3, hw3b⟩ := HX.out w3 hb23
  obtain ⟨b0, b1, b2⟩ := hB3.cells
  have hsz : w.heap.size + 2 ≤ w2.heap.size := by rw [← HS1.out]; exact hb2.size
  clear hw3
  have cO := specStreamOk_any w3 a c ⟨st, t, rd⟩ hE3 ht (by dsimp only; omega)
  rw [← HW3.out] at b0 b1 b2
  go_wp2_with fail
  rw [HW3.out] at b0 b1 b2 ⊢
  refine cO.mono ?_
  rintro e w4 ⟨rfl, hb4⟩
  clear cO
  have hb14 : Below w1.heap.size w1 w4 := hb23.trans (hb4.mono hb23.size)
  obtain ⟨hB4, hR4, hE4, hw4b⟩ := HX.out w4 hb14
  have hT4 := hT.on hb4
  have ho4 := ho3.below hb4 (Nat.le_refl _)
  clear b0 b1 b2 hB3 hR3 hE3 hw3b hT ho3 ho hA2 hb3 hb23 hb4 HW3 HW
  obtain ⟨t0, t1, t2⟩ := hT4.cells
  obtain ⟨z0, z1, z2⟩ := (⟨hT4.thaw 0, hT4.thaw 1, hT4.thaw 2⟩ : _ ∧ _ ∧ _)
  obtain ⟨r0, r1, r2⟩ := hR4.cells
  obtain ⟨f0, f1, f2⟩ := (⟨hR4.thaw 0, hR4.thaw 1, hR4.thaw 2⟩ : _ ∧ _ ∧ _)
  obtain ⟨b0, b1, b2⟩ := hB4.cells
  cases hok : okM ⟨st, t, rd⟩ with
  | false =>
    have HP : Hid (putM ⟨st, t, rd⟩ pt = (⟨st, t, rd⟩, false)) := by show _ = _; unfold putM; rw [hok]; rfl
    go_wp2_with fail
    obtain ⟨q0, q1, q2⟩ := (hR4.put (.int .i64 st) (.string t) (.slice a2 rd.length c2)).cells
    refine bodyPost_ret (v := .tuple #[.agg #[(.int .i64 st), (.string t), (.slice a2 rd.length c2)], .bool false]) (by simp [results, Tryz.results17, go_sem, q0, q1, q2]) rfl ⟨_, by rw [HP.out], ?_, Below.put3M hw4b (by have := HS1.out; omega) _ _ _⟩
    rw [HP.out]
    exact ((ho4).put3 hR4 _ _ _).mono (by have := HS1.out; omega)
  | true =>
    by_cases hs : st = 1
    · subst hs
      have cI := in_any pt.size 1 40 w4
      by_cases hl : 1 ≤ pt.size ∧ pt.size ≤ 40
      · rw [show inN pt.size 1 40 = true from decide_eq_true (by omega)] at cI
        have hlt : t.size ≤ 400 := by
          unfold okM at hok
          simp at hok
          exact hok.2.1.2
        by_cases hf : t.size + pt.size ≤ 400
        · have hf' : ¬ (400 : Int) < (t.size : Int) + (pt.size : Int) := by omega
          have HP : Hid (putM ⟨1, t, rd⟩ pt = (⟨1, t ++ pt, rd⟩, true)) := by show _ = _; unfold putM; rw [hok]; simp [hl, hf]
          have hT5 := hT4.set1 (.string (t ++ pt))
          obtain ⟨y0, y1, y2⟩ := hT5.cells
          have hR5 : MBox (w4.setCell ⟨w2.heap.size, 1, none⟩ (.string (t ++ pt))) (w.heap.size + 1) (.int .i64 0) (.string ⟨#[]⟩) (.slice none 0 0) := hR4.kept (Below.heap_setCell _ _ _ _ (show w.heap.size + 1 ≠ w2.heap.size by omega))
          obtain ⟨s0, s1, s2⟩ := hR5.cells
          obtain ⟨g0, g1, g2⟩ := (⟨hR5.thaw 0, hR5.thaw 1, hR5.thaw 2⟩ : _ ∧ _ ∧ _)
          have HO5 : Hid (MOwn (w4.setCell ⟨w2.heap.size, 1, none⟩ (.string (t ++ pt))) w1.heap.size (.agg #[(.int .i64 1), (.string (t ++ pt)), .slice a2 rd.length c2]) ⟨1, t ++ pt, rd⟩) := by
            obtain ⟨v1, hv, h1⟩ := ho4.box hT4 (w' := w4.setCell ⟨w2.heap.size, 1, none⟩ (.string (t ++ pt))) fun k hk => Below.heap_setCell _ _ _ _ hk
            simp only [Value.agg.injEq, Array.mk.injEq, List.cons.injEq, and_true] at hv
            obtain ⟨_, _, rfl⟩ := hv
            exact ⟨_, rfl, h1⟩
          have hw5 : Below w.heap.size w (w4.setCell ⟨w2.heap.size, 1, none⟩ (.string (t ++ pt))) := hw4b.setCell (show w.heap.size ≤ w2.heap.size by omega) _
          clear ho4 r0 r1 r2 f0 f1 f2
          go_wp2_with fail
          refine cI.mono ?_
          rintro e w5 ⟨rfl, rfl⟩
          clear cI
          go_wp2_with fail
          obtain ⟨q0, q1, q2⟩ := (hR5.put (.int .i64 1) (.string (t ++ pt)) (.slice a2 rd.length c2)).cells
          refine bodyPost_ret (v := .tuple #[.agg #[(.int .i64 1), (.string (t ++ pt)), (.slice a2 rd.length c2)], .bool true]) (by simp [results, Tryz.results17, go_sem, q0, q1, q2]) rfl ⟨_, by rw [HP.out], ?_, Below.put3M hw5 (by have := HS1.out; omega) _ _ _⟩
          rw [HP.out]
          exact ((HO5.out).put3 hR5 _ _ _).mono (by have := HS1.out; omega)
        · have hf' : (400 : Int) < (t.size : Int) + (pt.size : Int) := by omega
          have HP : Hid (putM ⟨1, t, rd⟩ pt = (⟨1, t, rd⟩, false)) := by show _ = _; unfold putM; rw [hok]; simp [hf]
          go_wp2_with fail
          refine cI.mono ?_
          rintro e w5 ⟨rfl, rfl⟩
          clear cI
          go_wp2_with fail
          obtain ⟨q0, q1, q2⟩ := (hR4.put (.int .i64 1) (.string t) (.slice a2 rd.length c2)).cells
          refine bodyPost_ret (v := .tuple #[.agg #[(.int .i64 1), (.string t), (.slice a2 rd.length c2)], .bool false]) (by simp [results, Tryz.results17, go_sem, q0, q1, q2]) rfl ⟨_, by rw [HP.out], ?_, Below.put3M hw4b (by have := HS1.out; omega) _ _ _⟩
          rw [HP.out]
          exact ((ho4).put3 hR4 _ _ _).mono (by have := HS1.out; omega)
      · rw [show inN pt.size 1 40 = false from decide_eq_false (by omega)] at cI
        have HP : Hid (putM ⟨1, t, rd⟩ pt = (⟨1, t, rd⟩, false)) := by show _ = _; unfold putM; rw [hok, show (decide (1 ≤ pt.size) && decide (pt.size ≤ 40)) = false by rw [← Bool.decide_and]; exact decide_eq_false hl]; simp
        go_wp2_with fail
        refine cI.mono ?_
        rintro e w5 ⟨rfl, rfl⟩
        clear cI
        go_wp2_with fail
        obtain ⟨q0, q1, q2⟩ := (hR4.put (.int .i64 1) (.string t) (.slice a2 rd.length c2)).cells
        refine bodyPost_ret (v := .tuple #[.agg #[(.int .i64 1), (.string t), (.slice a2 rd.length c2)], .bool false]) (by simp [results, Tryz.results17, go_sem, q0, q1, q2]) rfl ⟨_, by rw [HP.out], ?_, Below.put3M hw4b (by have := HS1.out; omega) _ _ _⟩
        rw [HP.out]
        exact ((ho4).put3 hR4 _ _ _).mono (by have := HS1.out; omega)
    · have hs' : (st != 1) = true := by simp [hs]
      have HP : Hid (putM ⟨st, t, rd⟩ pt = (⟨st, t, rd⟩, false)) := by show _ = _; unfold putM; rw [hok]; simp [hs]
      go_wp2_with fail
      obtain ⟨q0, q1, q2⟩ := (hR4.put (.int .i64 st) (.string t) (.slice a2 rd.length c2)).cells
      refine bodyPost_ret (v := .tuple #[.agg #[(.int .i64 st), (.string t), (.slice a2 rd.length c2)], .bool false]) (by simp [results, Tryz.results17, go_sem, q0, q1, q2]) rfl ⟨_, by rw [HP.out], ?_, Below.put3M hw4b (by have := HS1.out; omega) _ _ _⟩
      rw [HP.out]
      exact ((ho4).put3 hR4 _ _ _).mono (by have := HS1.out; omega)
end Go.Proofs.YtcaakommnglnbaaGreatDoor

namespace Go.Proofs.YtcaakommnglnbaaGreatDoor
open Go.RowKit Go.Sort

theorem ownV_of_row {w : World} {base : Nat} {v : Value} {l : List Int} (h : w.ownsRow base 3 1 v l.length (ints l)) : OwnV w base 3 v (ints l) := by unfold OwnV; rw [ints_length]; exact h
set_option maxRecDepth 100000 in
set_option maxHeartbeats 4000000 in
theorem l12Copy_any (w : World) (a : Option Addr) (c : Nat) (S : Sk) (hA : SSAt w a S.rows w.heap.size) (hm : SkSz S) :
    Calls Tryz.prog 65 #[.agg #[.slice a S.rows.length c, .int .i64 S.added]] w fun e w' => ∃ v, e = .returned v ∧ SkOwn w' w.heap.size w'.heap.size v S ∧ Below w.heap.size w w' := by
  obtain ⟨rows, added⟩ := S
  unfold SkSz at hm
  dsimp only at *
  obtain ⟨w0, hw0⟩ : ∃ x, w.alloc (.cells #[.slice a rows.length c, .int .i64 added] 35) = x := ⟨_, rfl⟩
  obtain ⟨w1, hw1⟩ : ∃ x, w0.alloc (.cells #[.slice none 0 0, .int .i64 0] 35) = x := ⟨_, rfl⟩
  obtain ⟨w2, hw2⟩ : ∃ x, w1.alloc (.cells #[.slice none 0 0, .int .i64 added] 35) = x := ⟨_, rfl⟩
  have hb0 : Below w.heap.size w w0 := by rw [← hw0]; exact (Below.refl _ _).alloc (Nat.le_refl _) _
  have hb1 : Below w0.heap.size w0 w1 := by rw [← hw1]; exact (Below.refl _ _).alloc (Nat.le_refl _) _
  have hb2 : Below w1.heap.size w1 w2 := by rw [← hw2]; exact (Below.refl _ _).alloc (Nat.le_refl _) _
  have s0 : w0.heap.size = w.heap.size + 1 := by rw [← hw0]; simp
  have s1 : w1.heap.size = w.heap.size + 1 + 1 := by rw [← hw1]; simp; omega
  have s2 : w2.heap.size = w.heap.size + 1 + 1 + 1 := by rw [← hw2]; simp; omega
  have hb12 : Below w0.heap.size w0 w2 := hb1.trans (hb2.mono hb1.size)
  have hbw : Below w.heap.size w w2 := hb0.trans (hb12.mono hb0.size)
  have hB0 : SkBox w0 w.heap.size (.slice a rows.length c) (.int .i64 added) := by rw [← hw0]; exact SkBox.new _ _ _
  have hB : SkBox w2 w.heap.size (.slice a rows.length c) (.int .i64 added) := hB0.on hb12
  have hR : SkBox w2 (w.heap.size + 1) (.slice none 0 0) (.int .i64 0) := by
    have h : SkBox w1 (w.heap.size + 1) (.slice none 0 0) (.int .i64 0) := by rw [← hw1, ← s0]; exact SkBox.new _ _ _
    exact h.on hb2
  have hT : SkBox w2 (w.heap.size + 1 + 1) (.slice none 0 0) (.int .i64 added) := by rw [← hw2, ← s1]; exact SkBox.new _ _ _
  have HW : Hid (((w.alloc (.cells #[.slice a rows.length c, .int .i64 added] 35)).alloc (.cells #[.slice none 0 0, .int .i64 0] 35)).alloc (.cells #[.slice none 0 0, .int .i64 added] 35) = w2) := by rw [hw0, hw1]; exact hw2
  have bb := (hB0.on hb1).cells
  obtain ⟨b0, b1⟩ := bb
  rw [← hw1, ← hw0] at b0 b1
  clear hw0 hw1 hw2 s0 s1 hb0 hb1 hb2 hb12 hB0
  go_enter Tryz.func65, Tryz.ntmps65
  go_wp2
  rw [HW.out]
  clear b0 b1
  go_loopw [4] (fun i wr => Box (∃ (k : Nat) (v : Value), k ≤ rows.length ∧ i = .int .i64 k ∧ SkBox wr w.heap.size (.slice a rows.length c) (.int .i64 added) ∧ SkBox wr (w.heap.size + 1) (.slice none 0 0) (.int .i64 0) ∧ SkBox wr (w.heap.size + 1 + 1) v (.int .i64 added) ∧ OwnSS wr (w.heap.size + 3) wr.heap.size v (rows.take k) ∧ Below w.heap.size w wr ∧ w.heap.size + 3 ≤ wr.heap.size))
    (fun i _ => rows.length - (intOf i).toNat)
  case atStart => exact ⟨⟨0, _, by omega, rfl, hB, hR, hT, OwnSS.nil _ _ _, hbw, by omega⟩⟩
  case round =>
    obtain ⟨k, v, hk, rfl, hB1, hR1, hT1, hown, hbel, hsz⟩ := hrel.out
    by_cases hlt : k < rows.length
    · obtain ⟨vs, hv, hvb, hvl, hvr, hvd⟩ := hown
      obtain ⟨g, off, ai, ci, rfl, hg, hc, hI⟩ := (hA.below hbel (Nat.le_refl _)) k hlt
      have hlen := tot_at rows k hlt
      have HTK : Hid (rows.take (k + 1) = rows.take k ++ [rows[k]]) := List.take_succ_eq_append_getElem hlt
      have hgs : g < wr.heap.size := Nat.lt_of_lt_of_le hg hbel.size
      obtain ⟨r, hr⟩ : ∃ r, rows[k] = r := ⟨_, rfl⟩
      rw [hr] at hc hI HTK hlen
      have HSI : Hid ((ai = none → r.length = 0) ∧ ∀ W, Below wr.heap.size wr W → ∀ ad, ai = some ad → ∀ j u, (ints r)[j]? = some u → W.cell? (ad.add j) = some u) := ⟨hI.srcI.1, fun W hW => ((hI.mono hbel.size).on hW).srcI.2⟩
      have KC : ∀ W, Below wr.heap.size wr W → W.cell? ⟨w.heap.size, 0, none⟩ = some (.slice (some ⟨g, off, none⟩) rows.length c) ∧ W.cell? ⟨w.heap.size + 1 + 1, 0, none⟩ = some v ∧ W.cell? ⟨g, off + k, none⟩ = some (.slice ai r.length ci) := fun W h => ⟨(hB1.on h).cells.1, (hT1.on h).cells.1, (h.cell hgs).trans hc⟩
      have HKC : Hid (∀ W, Below wr.heap.size wr W → W.cell? ⟨w.heap.size, 0, none⟩ = some (.slice (some ⟨g, off, none⟩) rows.length c) ∧ W.cell? ⟨w.heap.size + 1 + 1, 0, none⟩ = some v ∧ W.cell? ⟨g, off + k, none⟩ = some (.slice ai r.length ci)) := KC
      obtain ⟨d0, d1, d2⟩ := KC wr (Below.refl _ _)
      have hbE : Below wr.heap.size wr (wr.alloc (.cells #[] 3)) := (Below.refl _ _).alloc (Nat.le_refl _) _
      have hbEd : Below wr.heap.size wr (wr.alloc (.cells #[] 3)).drew := hbE.trans ⟨rfl, rfl, rfl, Nat.le_refl _, fun _ _ => rfl⟩
      obtain ⟨e0, e1, e2⟩ := KC _ hbE
      have hvk : vs.length = k := by rw [hvl, List.length_take]; omega
      have hvk1 : (vs.length + 1) * 24 ≤ 140737488355328 := by omega
      have hvk2 : vs.length < 140737488355328 := by omega
      have HV : Hid (∀ W, Below wr.heap.size wr W → OwnV W (w.heap.size + 3) 139 v vs ∧ w.heap.size + 3 ≤ W.heap.size) := fun W h => ⟨hv.below h (Nat.le_refl _), Nat.le_trans hsz h.size⟩
      have HG : Hid (∀ v' u wx w3, Below wr.heap.size wr wx → OwnV wx wr.heap.size 3 u (ints r) → OwnV w3 (w.heap.size + 3) 139 v' (vs ++ [u]) → wx.grownBy w3 v.ownBlock → w3.cell? ⟨w.heap.size + 1 + 1, 0, none⟩ = some v ∧ w3.frozen? ⟨w.heap.size + 1 + 1, 0, none⟩ = false ∧ Hid (SkBox (w3.setCell ⟨w.heap.size + 1 + 1, 0, none⟩ v') w.heap.size (.slice (some ⟨g, off, none⟩) rows.length c) (.int .i64 added) ∧ SkBox (w3.setCell ⟨w.heap.size + 1 + 1, 0, none⟩ v') (w.heap.size + 1) (.slice none 0 0) (.int .i64 0) ∧ SkBox (w3.setCell ⟨w.heap.size + 1 + 1, 0, none⟩ v') (w.heap.size + 1 + 1) v' (.int .i64 added) ∧ OwnSS (w3.setCell ⟨w.heap.size + 1 + 1, 0, none⟩ v') (w.heap.size + 3) (w3.setCell ⟨w.heap.size + 1 + 1, 0, none⟩ v').heap.size v' (rows.take (k + 1)) ∧ Below w.heap.size w (w3.setCell ⟨w.heap.size + 1 + 1, 0, none⟩ v') ∧ w.heap.size + 3 ≤ (w3.setCell ⟨w.heap.size + 1 + 1, 0, none⟩ v').heap.size)) := by
        intro v' u wx w3 hbx hu ho hg3
        obtain ⟨g1, g2, g3, g4, g5, g6⟩ := gatherSS hT1 (by omega) hsz hbel (by omega) hv hvl hvr hvd hbx hu hg3 ho
        refine ⟨g1, g2, hB1.kept (g5 _ (by omega) (by omega)), hR1.kept (g5 _ (by omega) (by omega)), g3, ?_, g6, ?_⟩
        · rw [HTK.out]; exact g4
        · have := hg3.size
          have := hbx.size
          simp
          omega
      have hrl : r.length ≤ 1048576 := by omega
      clear hrel hB hR hT hbw hA hB1 hR1 hT1 hv hvb hvl hvr hvd hbel hI hc hlen hvk KC hr hbE
      have hi1 : (0 : Int) ≤ (k : Int) := by omega
      have hi2 : (k : Int) < (rows.length : Int) := by omega
      go_wp2
      go_region_law (first
        | (refine step_allI rfl (.tmp 17) (.tmp 22) 139 rfl 3 Tryz.underlying139 (.int .i64 0) 1 8 Tryz.infoInt rfl (by omega) (by omega) wr.heap.size rfl (by exact heap_alloc_new _ _) ai r.length ci (ints r) rfl (by rw [ints_length]; omega) HSI.out.1 (HSI.out.2 _ hbEd) (ints_one' r) hrl ?_; rintro g4 c4 w4 o4 b4 n4 k4; have hb4 : Below wr.heap.size wr w4 := hbEd.trans b4; have hu4 := ownV_of_row o4; have hb5 : Below wr.heap.size wr (w4.alloc (.cells #[.slice (some ⟨g4, 0, none⟩) r.length c4] 139)) := hb4.alloc hb4.size _; have hu5 := hu4.alloc (.cells #[.slice (some ⟨g4, 0, none⟩) r.length c4] 139); have f1 := (HKC.out _ hb4).2.1; have f2 := (HKC.out _ hb5).2.1; have HV5 := HV.out _ hb5; clear o4 b4 n4 k4)
        | (refine step_snocO (by rfl) _ _ 24 (by rfl) (w.heap.size + 3) 139 Tryz.underlying24 (.slice none 0 0) 24 Tryz.infoIntS rfl v vs (by rfl) (by exact HV5.1) w4.heap.size (.slice (some ⟨g4, 0, none⟩) r.length c4) (0, 0) (by rfl) (by exact heap_alloc_new w4 _) rfl hvk1 hvk2 (by exact HV5.2) ?_; intro g6 c6 w6 hown6 hgr6; have hk6 := HG.out _ _ _ w6 hb5 hu5 hown6 hgr6; have q6 := hk6.1; have z6 := hk6.2.1; have HK6 := hk6.2.2; clear hk6 hown6 hgr6))
      all_goals (
        clear hb4 hb5 hu4 hu5 f1 f2 HV5 q6 z6 HV HG HSI HKC d0 d1 d2 e0 e1 e2 hbEd
        go_wp2
        refine ⟨?_, ?_⟩
        · exact ⟨⟨k + 1, _, by omega, by go_num, HK6.out.1, HK6.out.2.1, HK6.out.2.2.1, HK6.out.2.2.2.1, HK6.out.2.2.2.2.1, HK6.out.2.2.2.2.2⟩⟩
        · simp [intOf]; omega)
    · have hke : k = rows.length := by omega
      subst hke
      rw [List.take_length] at hown
      obtain ⟨av, cv, rfl, _⟩ := hown.at
      obtain ⟨b0, b1⟩ := hB1.cells
      obtain ⟨t0, t1⟩ := hT1.cells
      obtain ⟨r0, r1⟩ := hR1.cells
      have f0 := hR1.thaw 0
      have f1 := hR1.thaw 1
      have HO : Hid (OwnSS wr (w.heap.size + 3) wr.heap.size (.slice av rows.length cv) rows) := hown
      clear hrel hown hT1 hlt hB hR hT hbw hA hB1
      go_wp2
      obtain ⟨q0, q1⟩ := (hR1.put (.slice av rows.length cv) (.int .i64 added)).cells
      refine bodyPost_ret (v := .agg #[.slice av rows.length cv, .int .i64 added]) (by simp [results, Tryz.results65, go_sem, q0, q1]) rfl ⟨_, rfl, ⟨_, rfl, ?_⟩, Below.put2 hbel (by omega) _ _⟩
      refine (HO.out.put2 hR1 _ _).mono (by omega) ?_
      simp
end Go.Proofs.YtcaakommnglnbaaGreatDoor
