/- The program's ProxyOk. Written by mkpxi.py. -/
import Derived.Test.YtpgcfgbhkodmeaaPxCliImpl
import Derived.Test.YtpgcfgbhkodmeaaKeyImplJ
import Derived.Test.YtpgcfgbhkodmeaaSkOkImplJ
namespace Go.Proofs.Ytpgcfgbhkodmeaa
open Go.RowKit Go.Sort
set_option maxRecDepth 100000 in
set_option maxHeartbeats 8000000 in
theorem implProxyOk_any (w : World) (X : Pc) (R : Prx) (hA : PxAt w X R w.heap.size) (hsz : PxSz R) (hcap : RoomF X.f R.fes.length) :
    Calls Try.prog 20 #[.agg #[.int .i64 R.now, X.e, X.w, X.m, X.k, .int .i64 R.pol.sk.added, X.f, X.c, .int .i64 R.hits]] w fun e w' => e = .returned (.bool (okX R)) ∧ Below w.heap.size w w' := by
  obtain ⟨e0, e1, p0, p1, m0, m1, k0, k1, f0, f1, c0, c1, rfl⟩ := hA.slices
  dsimp only at hcap ⊢
  obtain ⟨w1, hw1⟩ : ∃ x, w.alloc (.cells #[.int .i64 R.now, .slice e0 R.ents.length e1, .slice p0 R.pol.win.length p1, .slice m0 R.pol.main.length m1, .slice k0 R.pol.sk.rows.length k1, .int .i64 R.pol.sk.added, .slice f0 R.fes.length f1, .slice c0 R.cls.length c1, .int .i64 R.hits] 42) = x := ⟨_, rfl⟩
  have hb1 : Below w.heap.size w w1 := by rw [← hw1]; exact (Below.refl _ _).alloc (Nat.le_refl _) _
  have hB1 : NB w1 w.heap.size 42 (.int .i64 R.now) (.slice e0 R.ents.length e1) (.slice p0 R.pol.win.length p1) (.slice m0 R.pol.main.length m1) (.slice k0 R.pol.sk.rows.length k1) (.int .i64 R.pol.sk.added) (.slice f0 R.fes.length f1) (.slice c0 R.cls.length c1) (.int .i64 R.hits) := by rw [← hw1]; exact NB.new _ _ _ _ _ _ _ _ _ _ _
  have HN1 : Hid (NB w1 w.heap.size 42 (.int .i64 R.now) (.slice e0 R.ents.length e1) (.slice p0 R.pol.win.length p1) (.slice m0 R.pol.main.length m1) (.slice k0 R.pol.sk.rows.length k1) (.int .i64 R.pol.sk.added) (.slice f0 R.fes.length f1) (.slice c0 R.cls.length c1) (.int .i64 R.hits)) := hB1
  have HA1 : Hid (PxAt w1 ⟨.slice e0 R.ents.length e1, .slice p0 R.pol.win.length p1, .slice m0 R.pol.main.length m1, .slice k0 R.pol.sk.rows.length k1, .slice f0 R.fes.length f1, .slice c0 R.cls.length c1⟩ R w1.heap.size) := hA.on hb1
  have HB1 : Hid (Below w.heap.size w w1) := hb1
  have HW : Hid (w.alloc (.cells #[.int .i64 R.now, .slice e0 R.ents.length e1, .slice p0 R.pol.win.length p1, .slice m0 R.pol.main.length m1, .slice k0 R.pol.sk.rows.length k1, .int .i64 R.pol.sk.added, .slice f0 R.fes.length f1, .slice c0 R.cls.length c1, .int .i64 R.hits] 42) = w1) := hw1
  have HSZ : Hid (PxSz R) := hsz
  have HC : Hid (R.fes.length ≤ f1) := hcap _ _ _ rfl
  have HSE : Hid (∀ e ∈ R.ents, e.key.size ≤ 1048576 ∧ e.bd.size ≤ 1048576) := hsz.ents
  have HSF : Hid (∀ e ∈ R.fes, e.key.size ≤ 1048576 ∧ e.tx.size ≤ 1048576) := hsz.fes
  obtain ⟨res, hres⟩ : ∃ r, okX R = r := ⟨_, rfl⟩
  obtain ⟨x4, hx4⟩ : ∃ b, okP R.pol = b := ⟨_, rfl⟩
  obtain ⟨x5, hx5⟩ : ∃ b, entsOkX R.ents R.pol = b := ⟨_, rfl⟩
  obtain ⟨x6, hx6⟩ : ∃ b, fesOkX R.now R.fes = b := ⟨_, rfl⟩
  obtain ⟨x7, hx7⟩ : ∃ b, clsOkX R = b := ⟨_, rfl⟩
  obtain ⟨y0, hy0⟩ : ∃ b, decide (0 < R.now) = b := ⟨_, rfl⟩
  have HY4 : Hid (okP R.pol = x4) := hx4
  have HY5 : Hid (entsOkX R.ents R.pol = x5) := hx5
  have HY6 : Hid (fesOkX R.now R.fes = x6) := hx6
  have HY7 : Hid (clsOkX R = x7) := hx7
  have HE : Hid (res = (y0 && (inB R.now 0 1000000000 && (inB R.hits 0 1000000000 && (x4 && (x5 && (x6 && x7))))))) := by
    show _ = _
    rw [← hres]
    unfold okX
    rw [hx4, hx5, hx6, hx7, ← hy0, show inB R.now 1 1000000000 = (decide (0 < R.now) && inB R.now 0 1000000000) by
      unfold inB
      by_cases h : 0 < R.now
      · rw [decide_eq_true h, decide_eq_true (show (1 : Int) ≤ R.now by omega), decide_eq_true (show (0 : Int) ≤ R.now by omega)]; rfl
      · rw [decide_eq_false h, decide_eq_false (show ¬ (1 : Int) ≤ R.now by omega)]; rfl]
    simp only [Bool.and_assoc]
  rw [hres]
  have cK2 := numE_any R.now w1
  have cK3 := numE_any R.hits w1
  generalize inB R.now 0 1000000000 = x2 at cK2 HE
  generalize inB R.hits 0 1000000000 = x3 at cK3 HE
  obtain ⟨b0, b1, b2, b3, b4, b5, b6, b7, b8⟩ := hB1.cells
  rw [← hw1] at b0
  clear hw1 hb1 hB1 hA hsz hres hx4 hx5 hx6 hx7 hcap
  go_enter Try.func20, Try.ntmps20
  cases y0 with
  | false =>
    have HR : Hid (res = false) := by show _ = _; rw [HE.out]; simp
    go_wp2_with fail
    rw [HW.out]
    go_ret
    exact ⟨by rw [HR.out]; rfl, HB1.out⟩
  | true =>
    go_wp2_with fail
    rw [HW.out] at b0 ⊢
    refine cK2.mono ?_
    rintro e w' ⟨rfl, rfl⟩
    cases x2 with
    | false =>
      have HR : Hid (res = false) := by show _ = _; rw [HE.out]; simp
      go_wp2_with fail
      go_ret
      exact ⟨by rw [HR.out]; rfl, HB1.out⟩
    | true =>
      go_wp2_with fail
      refine cK3.mono ?_
      rintro e w' ⟨rfl, rfl⟩
      cases x3 with
      | false =>
        have HR : Hid (res = false) := by show _ = _; rw [HE.out]; simp
        go_wp2_with fail
        go_ret
        exact ⟨by rw [HR.out]; rfl, HB1.out⟩
      | true =>
        have cK4 := implPolicyOk_sz w1 p0 m0 k0 p1 m1 k1 R.pol HA1.out.polAt HSZ.out.parts.2.1
        rw [HY4.out] at cK4
        go_wp2_with fail
        refine cK4.mono ?_
        rintro e w2 ⟨rfl, hb⟩
        clear b0 b1 b2 b3 b4 b5 b6 b7 b8
        have HB2 : Hid (Below w.heap.size w w2) := HB1.out.trans (hb.mono HB1.out.size)
        have HN2 : Hid (NB w2 w.heap.size 42 (.int .i64 R.now) (.slice e0 R.ents.length e1) (.slice p0 R.pol.win.length p1) (.slice m0 R.pol.main.length m1) (.slice k0 R.pol.sk.rows.length k1) (.int .i64 R.pol.sk.added) (.slice f0 R.fes.length f1) (.slice c0 R.cls.length c1) (.int .i64 R.hits)) := HN1.out.on hb
        have HA2 : Hid (PxAt w2 ⟨.slice e0 R.ents.length e1, .slice p0 R.pol.win.length p1, .slice m0 R.pol.main.length m1, .slice k0 R.pol.sk.rows.length k1, .slice f0 R.fes.length f1, .slice c0 R.cls.length c1⟩ R w2.heap.size) := HA1.out.on hb
        clear hb
        obtain ⟨b0, b1, b2, b3, b4, b5, b6, b7, b8⟩ := HN2.out.cells
        cases x4 with
        | false =>
          have HR : Hid (res = false) := by show _ = _; rw [HE.out]; simp
          go_wp2_with fail
          go_ret
          exact ⟨by rw [HR.out]; rfl, HB2.out⟩
        | true =>
          have cK5 := implEntries_any w2 e0 p0 m0 k0 e1 p1 m1 k1 R.ents R.pol (EnsV.at' HA2.out.e) HA2.out.polAt HSZ.out.parts.1 HSZ.out.parts.2.1 HSE.out
          rw [HY5.out] at cK5
          go_wp2_with fail
          refine cK5.mono ?_
          rintro e w3 ⟨rfl, hb⟩
          clear b0 b1 b2 b3 b4 b5 b6 b7 b8
          have HB3 : Hid (Below w.heap.size w w3) := HB2.out.trans (hb.mono HB2.out.size)
          have HN3 : Hid (NB w3 w.heap.size 42 (.int .i64 R.now) (.slice e0 R.ents.length e1) (.slice p0 R.pol.win.length p1) (.slice m0 R.pol.main.length m1) (.slice k0 R.pol.sk.rows.length k1) (.int .i64 R.pol.sk.added) (.slice f0 R.fes.length f1) (.slice c0 R.cls.length c1) (.int .i64 R.hits)) := HN2.out.on hb
          have HA3 : Hid (PxAt w3 ⟨.slice e0 R.ents.length e1, .slice p0 R.pol.win.length p1, .slice m0 R.pol.main.length m1, .slice k0 R.pol.sk.rows.length k1, .slice f0 R.fes.length f1, .slice c0 R.cls.length c1⟩ R w3.heap.size) := HA2.out.on hb
          clear hb
          obtain ⟨b0, b1, b2, b3, b4, b5, b6, b7, b8⟩ := HN3.out.cells
          cases x5 with
          | false =>
            have HR : Hid (res = false) := by show _ = _; rw [HE.out]; simp
            go_wp2_with fail
            go_ret
            exact ⟨by rw [HR.out]; rfl, HB3.out⟩
          | true =>
            have cK6 := implFetches_any w3 f0 f1 R.fes R.now (FetV.at' HA3.out.f) HC.out (fun f hf => by have := HSF.out f hf; omega)
            rw [HY6.out] at cK6
            go_wp2_with fail
            refine cK6.mono ?_
            rintro e w4 ⟨rfl, hb⟩
            clear b0 b1 b2 b3 b4 b5 b6 b7 b8
            have HB4 : Hid (Below w.heap.size w w4) := HB3.out.trans (hb.mono HB3.out.size)
            have HN4 : Hid (NB w4 w.heap.size 42 (.int .i64 R.now) (.slice e0 R.ents.length e1) (.slice p0 R.pol.win.length p1) (.slice m0 R.pol.main.length m1) (.slice k0 R.pol.sk.rows.length k1) (.int .i64 R.pol.sk.added) (.slice f0 R.fes.length f1) (.slice c0 R.cls.length c1) (.int .i64 R.hits)) := HN3.out.on hb
            have HA4 : Hid (PxAt w4 ⟨.slice e0 R.ents.length e1, .slice p0 R.pol.win.length p1, .slice m0 R.pol.main.length m1, .slice k0 R.pol.sk.rows.length k1, .slice f0 R.fes.length f1, .slice c0 R.cls.length c1⟩ R w4.heap.size) := HA3.out.on hb
            clear hb
            obtain ⟨b0, b1, b2, b3, b4, b5, b6, b7, b8⟩ := HN4.out.cells
            cases x6 with
            | false =>
              have HR : Hid (res = false) := by show _ = _; rw [HE.out]; simp
              go_wp2_with fail
              go_ret
              exact ⟨by rw [HR.out]; rfl, HB4.out⟩
            | true =>
              have cK7 := implClients_any w4 ⟨.slice e0 R.ents.length e1, .slice p0 R.pol.win.length p1, .slice m0 R.pol.main.length m1, .slice k0 R.pol.sk.rows.length k1, .slice f0 R.fes.length f1, .slice c0 R.cls.length c1⟩ R HA4.out HSZ.out
              dsimp only at cK7
              rw [HY7.out] at cK7
              go_wp2_with fail
              refine cK7.mono ?_
              rintro e w5 ⟨rfl, hb⟩
              clear b0 b1 b2 b3 b4 b5 b6 b7 b8
              have HB5 : Hid (Below w.heap.size w w5) := HB4.out.trans (hb.mono HB4.out.size)
              have HN5 : Hid (NB w5 w.heap.size 42 (.int .i64 R.now) (.slice e0 R.ents.length e1) (.slice p0 R.pol.win.length p1) (.slice m0 R.pol.main.length m1) (.slice k0 R.pol.sk.rows.length k1) (.int .i64 R.pol.sk.added) (.slice f0 R.fes.length f1) (.slice c0 R.cls.length c1) (.int .i64 R.hits)) := HN4.out.on hb
              have HA5 : Hid (PxAt w5 ⟨.slice e0 R.ents.length e1, .slice p0 R.pol.win.length p1, .slice m0 R.pol.main.length m1, .slice k0 R.pol.sk.rows.length k1, .slice f0 R.fes.length f1, .slice c0 R.cls.length c1⟩ R w5.heap.size) := HA4.out.on hb
              clear hb
              obtain ⟨b0, b1, b2, b3, b4, b5, b6, b7, b8⟩ := HN5.out.cells
              cases x7 with
              | false =>
                have HR : Hid (res = false) := by show _ = _; rw [HE.out]; simp
                go_wp2_with fail
                go_ret
                exact ⟨by rw [HR.out]; rfl, HB5.out⟩
              | true =>
                have HR : Hid (res = true) := by show _ = _; rw [HE.out]; rfl
                go_wp2_with fail
                go_ret
                exact ⟨by rw [HR.out]; rfl, HB5.out⟩
end Go.Proofs.Ytpgcfgbhkodmeaa
