/- The other text's l16Entries. -/
import Derived.Test.YtpgcfgbhkodmeaaPxPlain
import Derived.Test.YtpgcfgbhkodmeaaVarJ
import Derived.Test.YtpgcfgbhkodmeaaPolOkSpecJ
import Derived.Lib.QuietBelow
import Derived.BigQuiet
import Derived.Laws.Cover1
namespace Go.Proofs.Ytpgcfgbhkodmeaa
open Go.RowKit Go.Sort

theorem quietB {P : Program} {f : FuncId} {args : Array Value} {W : World} {b : Bool} (h : ∀ w', Below W.heap.size W w' → Calls P f args w' fun e w'' => e = .returned (.bool b) ∧ Below w'.heap.size w' w'') (d : Nat) (os : Array Obj) :
    Calls P f args (grow (redrawn W d) os) fun e w'' => e = .returned (.bool b) ∧ ∃ p : Regrown, w'' = grow (redrawn W p.d) p.os := Calls.regrown_of (h _ (below_regrown W d os))
set_option maxRecDepth 100000 in
set_option maxHeartbeats 8000000 in
theorem l16Entries_any (w : World) (X : Pc) (R : Prx) (hA : PxAt w X R w.heap.size) (hsz : PxSz R) :
    Calls Try.prog 45 #[.agg #[.int .i64 R.now, X.e, X.w, X.m, X.k, .int .i64 R.pol.sk.added, X.f, X.c, .int .i64 R.hits]] w fun e w' => e = .returned (.bool (okP R.pol && entsOkX R.ents R.pol)) ∧ Below w.heap.size w w' := by
  obtain ⟨xe, xw, xm, xk, xf, xc⟩ := X
  obtain ⟨⟨e0, e1, he, hE⟩, ⟨p0, p1, hp, hPw⟩, ⟨m0, m1, hm, hPm⟩, ⟨k0, k1, hk, hPk⟩, ⟨f0, f1, hf, _⟩, ⟨c0, c1, hc, _⟩⟩ := hA
  dsimp only at he hp hm hk hf hc ⊢
  subst he hp hm hk hf hc
  obtain ⟨hl, hps, _, _⟩ := hsz.parts
  obtain ⟨w1, hw1⟩ : ∃ x, w.alloc (.cells #[.int .i64 R.now, .slice e0 R.ents.length e1, .slice p0 R.pol.win.length p1, .slice m0 R.pol.main.length m1, .slice k0 R.pol.sk.rows.length k1, .int .i64 R.pol.sk.added, .slice f0 R.fes.length f1, .slice c0 R.cls.length c1, .int .i64 R.hits] 42) = x := ⟨_, rfl⟩
  have hb1 : Below w.heap.size w w1 := by rw [← hw1]; exact (Below.refl _ _).alloc (Nat.le_refl _) _
  have hB1 : NB w1 w.heap.size 42 (.int .i64 R.now) (.slice e0 R.ents.length e1) (.slice p0 R.pol.win.length p1) (.slice m0 R.pol.main.length m1) (.slice k0 R.pol.sk.rows.length k1) (.int .i64 R.pol.sk.added) (.slice f0 R.fes.length f1) (.slice c0 R.cls.length c1) (.int .i64 R.hits) := by rw [← hw1]; exact NB.new _ _ _ _ _ _ _ _ _ _ _
  have hE1 := hE.on hb1
  have hP1 : PolAt w1 p0 m0 k0 R.pol w1.heap.size := ⟨hPw.on hb1, hPm.on hb1, hPk.on hb1⟩
  have HW : Hid (w.alloc (.cells #[.int .i64 R.now, .slice e0 R.ents.length e1, .slice p0 R.pol.win.length p1, .slice m0 R.pol.main.length m1, .slice k0 R.pol.sk.rows.length k1, .int .i64 R.pol.sk.added, .slice f0 R.fes.length f1, .slice c0 R.cls.length c1, .int .i64 R.hits] 42) = w1) := hw1
  have HB : Hid (Below w.heap.size w w1) := hb1
  have HSZ : Hid (PolSz R.pol) := hps
  obtain ⟨L, hL⟩ : ∃ L, R.ents = L := ⟨_, rfl⟩
  obtain ⟨P, hP⟩ : ∃ P, R.pol = P := ⟨_, rfl⟩
  rw [hL] at hE1 hB1 HW hl ⊢
  rw [hP] at hP1 hB1 HW HSZ ⊢
  have HO : Hid (∀ k, k < L.length → entF L P k = false → (okP P && entsOkX L P) = false) := fun k hk h => by
    unfold entsOkX
    rw [allT_down hk h]
    simp
  have HO2 : Hid (allT (entF L P) L.length = true → (okP P && entsOkX L P) = (okP P && decide (L.length = P.win.length + P.main.length))) := fun h => by
    unfold entsOkX
    rw [h]
    simp
  generalize (okP P && entsOkX L P) = res at HO HO2 ⊢
  clear hw1 hE hPw hPm hPk hb1 hps hsz hL hP
  go_enter Try.func45, Try.ntmps45
  go_wp2_with fail
  rw [HW.out]
  go_loopw [3] (fun i wr => Box (∃ k : Nat, k ≤ L.length ∧ i = .int .i64 k ∧ allT (entF L P) k = true ∧ Below w1.heap.size w1 wr))
    (fun i _ => L.length - (intOf i).toNat)
  case atStart => exact ⟨⟨0, by omega, rfl, rfl, Below.refl _ _⟩⟩
  case round =>
    obtain ⟨k, hk, rfl, hno, hbr⟩ := hrel.out
    obtain ⟨wo, hwo⟩ : ∃ wo, wo = wr := ⟨_, rfl⟩
    subst hwo
    have HN : Hid (allT (entF L P) k = true) := hno
    have HBR : Hid (Below w.heap.size w wo) := HB.out.trans (hbr.mono HB.out.size)
    have HBR2 : Hid (Below w1.heap.size w1 wo) := hbr
    have hB := hB1.on hbr
    have hPo := (show PolAt wo p0 m0 k0 P wo.heap.size from ⟨hP1.1.on hbr, hP1.2.1.on hbr, hP1.2.2.on hbr⟩)
    have hEo := hE1.on hbr
    obtain ⟨b0, b1, b2, b3, b4, b5, b6, b7, b8⟩ := hB.cells
    clear hno hrel hbr b0 b6 b7 b8
    by_cases hlt : k < L.length
    · obtain ⟨gg, offg, hga, _, q0, q1, q2, q3⟩ := hEo k hlt
      obtain ⟨r, hr⟩ : ∃ r, L[k] = r := ⟨_, rfl⟩
      have hgd : L.getD k zen = r := by rw [getD_of hlt, hr]
      rw [hr] at q0 q1 q2 q3
      subst hga
      have hi1 : (0 : Int) ≤ (k : Int) := by omega
      have hi3 : (k : Int) < (L.length : Int) := by omega
      have HK : Hid ((k : Int) < (L.length : Int)) := hi3
      have HV : Hid (∀ j (hj : j < L.length), wo.cell? ⟨gg, offg + j * 4, none⟩ = some (.string L[j].key)) := fun j hj => by
        obtain ⟨g', o', he, _, h, _⟩ := hEo j hj
        cases he
        exact h
      have z1 := cell_regrown b1
      have z2 := cell_regrown b2
      have z3 := cell_regrown b3
      have z4 := cell_regrown b4
      have z5 := cell_regrown b5
      have y0 := cell_regrown q0
      have y1 := cell_regrown q1
      have y2 := cell_regrown q2
      have y3 := cell_regrown q3
      have cA := quietB (W := wo) (fun w' _ => specEntryOk_any w' r.key r.bd r.st r.lf)
      have hrs : r.key.size ≤ 1048576 ∨ True := .inr trivial
      have cB := quietB (W := wo) (fun w' hb => specPolicyHas_any w' p0 m0 k0 p1 m1 k1 P r.key ⟨hPo.1.on hb, hPo.2.1.on hb, hPo.2.2.on hb⟩ (by have := HSZ.out.parts; omega) (by have := HSZ.out.parts; omega))
      have HSu : Hid (allT (entF L P) (k + 1) = (enOk r && (!(decide (0 < k) && !ltS (L.getD (k - 1) zen).key r.key) && hasP P r.key))) := by
        show _ = _
        unfold allT
        rw [HN.out, Bool.true_and]
        unfold entF
        rw [hgd]
      have HF : Hid (allT (entF L P) (k + 1) = false → res = false) := fun h => HO.out k hlt (by unfold allT at h; rw [HN.out] at h; simpa using h)
      change ∀ d os, Calls _ _ _ _ fun e w'' => e = .returned (.bool (enOk r)) ∧ _ at cA
      generalize enOk r = x1 at cA HSu
      generalize hasP P r.key = x2 at cB HSu
      clear hr hgd hEo hPo q0 q1 q2 q3 hB hrs hlt
      by_cases h0 : k = 0
      · have hS : Hid (allT (entF L P) (k + 1) = (x1 && x2)) := by
          show _ = _
          rw [HSu.out]; simp [h0]
        have hgN : decide (0 < k) = false := decide_eq_false (by omega)
        have hgI : ¬ (0 : Int) < (k : Int) := by omega
        clear HSu h0
        go_wp2_with fail
        refine wp_region_quiet_below (by kernel_rfl) (by kernel_rfl) ?_
        repeat (first | go_big_quiet_step (first | with_reducible exact cA _ _ | with_reducible exact cB _ _) | quiet_step (first | with_reducible exact cA _ _ | with_reducible exact cB _ _))
        cases x1 with
        | false =>
          simp only [Bool.not_false]
          repeat (first | go_big_quiet_step (first | with_reducible exact cA _ _ | with_reducible exact cB _ _) | quiet_step (first | with_reducible exact cA _ _ | with_reducible exact cB _ _))
          refine wpQuiet_nil ?_
          intro _ hw'
          obtain ⟨⟨dq, osq⟩, hw''⟩ := hw'
          subst hw''
          have HPO : Hid (allT (entF L P) (k + 1) = false) := by show _ = _; rw [hS.out]; simp
          go_wp2_with fail
          go_ret
          exact ⟨by rw [HF.out HPO.out]; rfl, HBR.out.trans ((below_regrown wo dq osq).mono HBR.out.size)⟩
        | true =>
          simp only [Bool.not_true]
          repeat (first | go_big_quiet_step (first | with_reducible exact cA _ _ | with_reducible exact cB _ _) | quiet_step (first | with_reducible exact cA _ _ | with_reducible exact cB _ _))
          cases x2 with
          | false =>
            simp only [Bool.not_false]
            repeat (first | go_big_quiet_step (first | with_reducible exact cA _ _ | with_reducible exact cB _ _) | quiet_step (first | with_reducible exact cA _ _ | with_reducible exact cB _ _))
            refine wpQuiet_nil ?_
            intro _ hw'
            obtain ⟨⟨dq, osq⟩, hw''⟩ := hw'
            subst hw''
            have HPO : Hid (allT (entF L P) (k + 1) = false) := by show _ = _; rw [hS.out]; simp
            go_wp2_with fail
            go_ret
            exact ⟨by rw [HF.out HPO.out]; rfl, HBR.out.trans ((below_regrown wo dq osq).mono HBR.out.size)⟩
          | true =>
            simp only [Bool.not_true]
            repeat (first | go_big_quiet_step (first | with_reducible exact cA _ _ | with_reducible exact cB _ _) | quiet_step (first | with_reducible exact cA _ _ | with_reducible exact cB _ _))
            refine wpQuiet_nil ?_
            intro _ hw'
            obtain ⟨⟨dq, osq⟩, hw''⟩ := hw'
            subst hw''
            have HPO : Hid (allT (entF L P) (k + 1) = true) := by show _ = _; rw [hS.out]; simp
            go_wp2_with fail
            go_roundw
            case rel =>
              try ((repeat apply Exists.intro); refine ⟨?_, rfl⟩)
              exact ⟨⟨k + 1, by have := HK.out; omega, by go_num, HPO.out, HBR2.out.trans ((below_regrown wo dq osq).mono HBR2.out.size)⟩⟩
            case measure => have := HK.out; simp [intOf]; omega
      · obtain ⟨j, hkj⟩ : ∃ j, k = j + 1 := ⟨k - 1, by omega⟩
        have z6 := cell_regrown (HV.out j (by have := HK.out; omega))
        obtain ⟨x, hx⟩ : ∃ x, (L[j]'(by have := HK.out; omega)).key = x := ⟨_, rfl⟩
        have hxd : (L.getD (k - 1) zen).key = x := by rw [show k - 1 = j by omega, getD_of (show j < L.length by have := HK.out; omega), hx]
        obtain ⟨x3, hx3⟩ : ∃ b, Op.bytesLess x.toList r.key.toList = b := ⟨_, rfl⟩
        have hS : Hid (allT (entF L P) (k + 1) = (x1 && (x3 && x2))) := by
          show _ = _
          rw [HSu.out, hxd, show decide (0 < k) = true from decide_eq_true (by omega), ← hx3]
          simp [ltS]
        rw [hx] at z6
        have hgN : decide (0 < k) = true := decide_eq_true (by omega)
        have hgI : (0 : Int) < (k : Int) := by omega
        have hjj : (k : Int) - 1 = (j : Int) := by omega
        have hj0 : (0 : Int) ≤ (j : Int) := by omega
        have hj1 : (j : Int) < (L.length : Int) := by omega
        clear HSu h0 hx hxd hkj
        go_wp2_with fail
        refine wp_region_quiet_below (by kernel_rfl) (by kernel_rfl) ?_
        repeat (first | go_big_quiet_step (first | with_reducible exact cA _ _ | with_reducible exact cB _ _) | quiet_step (first | with_reducible exact cA _ _ | with_reducible exact cB _ _))
        cases x1 with
        | false =>
          simp only [Bool.not_false]
          repeat (first | go_big_quiet_step (first | with_reducible exact cA _ _ | with_reducible exact cB _ _) | quiet_step (first | with_reducible exact cA _ _ | with_reducible exact cB _ _))
          refine wpQuiet_nil ?_
          intro _ hw'
          obtain ⟨⟨dq, osq⟩, hw''⟩ := hw'
          subst hw''
          have HPO : Hid (allT (entF L P) (k + 1) = false) := by show _ = _; rw [hS.out]; simp
          go_wp2_with fail
          go_ret
          exact ⟨by rw [HF.out HPO.out]; rfl, HBR.out.trans ((below_regrown wo dq osq).mono HBR.out.size)⟩
        | true =>
          simp only [Bool.not_true]
          repeat (first | go_big_quiet_step (first | with_reducible exact cA _ _ | with_reducible exact cB _ _) | quiet_step (first | with_reducible exact cA _ _ | with_reducible exact cB _ _))
          cases x3 with
          | false =>
            simp only [Bool.not_false]
            repeat (first | go_big_quiet_step (first | with_reducible exact cA _ _ | with_reducible exact cB _ _) | quiet_step (first | with_reducible exact cA _ _ | with_reducible exact cB _ _))
            refine wpQuiet_nil ?_
            intro _ hw'
            obtain ⟨⟨dq, osq⟩, hw''⟩ := hw'
            subst hw''
            have HPO : Hid (allT (entF L P) (k + 1) = false) := by show _ = _; rw [hS.out]; simp
            go_wp2_with fail
            go_ret
            exact ⟨by rw [HF.out HPO.out]; rfl, HBR.out.trans ((below_regrown wo dq osq).mono HBR.out.size)⟩
          | true =>
            simp only [Bool.not_true]
            repeat (first | go_big_quiet_step (first | with_reducible exact cA _ _ | with_reducible exact cB _ _) | quiet_step (first | with_reducible exact cA _ _ | with_reducible exact cB _ _))
            cases x2 with
            | false =>
              simp only [Bool.not_false]
              repeat (first | go_big_quiet_step (first | with_reducible exact cA _ _ | with_reducible exact cB _ _) | quiet_step (first | with_reducible exact cA _ _ | with_reducible exact cB _ _))
              refine wpQuiet_nil ?_
              intro _ hw'
              obtain ⟨⟨dq, osq⟩, hw''⟩ := hw'
              subst hw''
              have HPO : Hid (allT (entF L P) (k + 1) = false) := by show _ = _; rw [hS.out]; simp
              go_wp2_with fail
              go_ret
              exact ⟨by rw [HF.out HPO.out]; rfl, HBR.out.trans ((below_regrown wo dq osq).mono HBR.out.size)⟩
            | true =>
              simp only [Bool.not_true]
              repeat (first | go_big_quiet_step (first | with_reducible exact cA _ _ | with_reducible exact cB _ _) | quiet_step (first | with_reducible exact cA _ _ | with_reducible exact cB _ _))
              refine wpQuiet_nil ?_
              intro _ hw'
              obtain ⟨⟨dq, osq⟩, hw''⟩ := hw'
              subst hw''
              have HPO : Hid (allT (entF L P) (k + 1) = true) := by show _ = _; rw [hS.out]; simp
              go_wp2_with fail
              go_roundw
              case rel =>
                try ((repeat apply Exists.intro); refine ⟨?_, rfl⟩)
                exact ⟨⟨k + 1, by have := HK.out; omega, by go_num, HPO.out, HBR2.out.trans ((below_regrown wo dq osq).mono HBR2.out.size)⟩⟩
              case measure => have := HK.out; simp [intOf]; omega
    · have hi3 : ¬ (k : Int) < (L.length : Int) := by omega
      have cO := specPolicyOk_sz wo p0 m0 k0 p1 m1 k1 P hPo HSZ.out
      have HT : Hid (res = (okP P && decide (L.length = P.win.length + P.main.length))) := HO2.out (by rw [show L.length = k by omega]; exact HN.out)
      have HBN : Hid (NB wo w.heap.size 42 (.int .i64 R.now) (.slice e0 L.length e1) (.slice p0 P.win.length p1) (.slice m0 P.main.length m1) (.slice k0 P.sk.rows.length k1) (.int .i64 P.sk.added) (.slice f0 R.fes.length f1) (.slice c0 R.cls.length c1) (.int .i64 R.hits)) := hB
      clear hEo hPo hB
      generalize okP P = q at cO HT
      go_wp2_with fail
      refine cO.mono ?_
      rintro e w2 ⟨rfl, hb2⟩
      have HB2 : Hid (Below w.heap.size w w2) := HBR.out.trans (hb2.mono HBR.out.size)
      obtain ⟨d0, d1, d2, d3, d4, d5, d6, d7, d8⟩ := (HBN.out.on hb2).cells
      clear cO hb2 b1 b2 b3 b4 b5
      cases q with
      | false =>
        go_wp2_with fail
        go_ret
        exact ⟨by rw [HT.out]; rfl, HB2.out⟩
      | true =>
        obtain ⟨l1, l2, _⟩ := HSZ.out.parts
        by_cases hq : L.length = P.win.length + P.main.length
        · have HT2 : Hid (res = true) := by show _ = _; rw [HT.out]; simp [hq]
          have hq' : ((L.length : Int) == (P.win.length : Int) + (P.main.length : Int)) = true := by simp; omega
          clear HT hq
          go_wp2_with fail
          go_ret
          exact ⟨by rw [HT2.out]; rfl, HB2.out⟩
        · have HT2 : Hid (res = false) := by show _ = _; rw [HT.out]; simp [hq]
          have hq' : ((L.length : Int) == (P.win.length : Int) + (P.main.length : Int)) = false := by simp; omega
          clear HT hq
          go_wp2_with fail
          go_ret
          exact ⟨by rw [HT2.out]; rfl, HB2.out⟩
end Go.Proofs.Ytpgcfgbhkodmeaa
