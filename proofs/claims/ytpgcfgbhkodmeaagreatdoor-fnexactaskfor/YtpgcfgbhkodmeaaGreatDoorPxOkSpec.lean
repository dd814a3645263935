/- The other text's ProxyOk. Written by mkpxs.py. -/
import Derived.Test.YtpgcfgbhkodmeaaGreatDoorPolDropSpecJ
import Derived.Test.YtpgcfgbhkodmeaaGreatDoorDiskPlainJ
namespace Go.Proofs.YtpgcfgbhkodmeaaGreatDoor
open Go.RowKit Go.Sort
theorem inQ (x a b : Int) (w : World) : Calls Tryz.prog 44 #[.int .i64 x,.int .i64 a,.int .i64 b] w fun e w' => e = .returned (.bool (inB x a b)) ∧ Below w.heap.size w w' := (l01In_any x a b w).mono (by rintro e w' ⟨rfl,rfl⟩; exact ⟨rfl,Below.refl _ _⟩)
theorem keyQ (w : World) (s : ByteArray) : Calls Tryz.prog 45 #[.string s] w fun e w' => e = .returned (.bool (enKey s)) ∧ Below w.heap.size w w' := (l13KeyE_any w s).mono (by rintro e w' ⟨rfl,rfl⟩; exact ⟨rfl,Below.refl _ _⟩)
set_option maxRecDepth 100000 in
set_option maxHeartbeats 16000000 in
theorem specProxyOk_any (w : World) (X : Pc) (R : Prx) (hA : PxAt w X R w.heap.size) (hsz : PxSz R) :
  Calls Tryz.prog 23 #[.agg #[.int .i64 R.now,X.e,X.w,X.m,X.k,.int .i64 R.pol.sk.added,X.f,X.c,.int .i64 R.hits]] w fun e w' => e = .returned (.bool (okX R)) ∧ Below w.heap.size w w' := by
 obtain ⟨e0,e1,p0,p1,m0,m1,k0,k1,f0,f1,c0,c1,rfl⟩ := hA.slices
 dsimp only
 obtain ⟨_,_,hl1,hl2⟩ := hsz.parts
 obtain ⟨w1,hw1⟩ : ∃ x,w.alloc (.cells #[.int .i64 R.now,.slice e0 R.ents.length e1,.slice p0 R.pol.win.length p1,.slice m0 R.pol.main.length m1,.slice k0 R.pol.sk.rows.length k1,.int .i64 R.pol.sk.added,.slice f0 R.fes.length f1,.slice c0 R.cls.length c1,.int .i64 R.hits] 48) = x := ⟨_,rfl⟩
 have hb1 : Below w.heap.size w w1 := by rw [← hw1]; exact (Below.refl _ _).alloc (Nat.le_refl _) _
 have hB1 : NB w1 w.heap.size 48 (.int .i64 R.now) (.slice e0 R.ents.length e1) (.slice p0 R.pol.win.length p1) (.slice m0 R.pol.main.length m1) (.slice k0 R.pol.sk.rows.length k1) (.int .i64 R.pol.sk.added) (.slice f0 R.fes.length f1) (.slice c0 R.cls.length c1) (.int .i64 R.hits) := by rw [← hw1]; exact NB.new _ _ _ _ _ _ _ _ _ _ _
 have hA1 := hA.on hb1
 have cE := l16Entries_any w1 ⟨.slice e0 R.ents.length e1,.slice p0 R.pol.win.length p1,.slice m0 R.pol.main.length m1,.slice k0 R.pol.sk.rows.length k1,.slice f0 R.fes.length f1,.slice c0 R.cls.length c1⟩ R hA1 hsz
 dsimp only at cE
 have cK1 := l01In_any R.now 1 1000000000 w1
 have HW : Hid (w.alloc (.cells #[.int .i64 R.now,.slice e0 R.ents.length e1,.slice p0 R.pol.win.length p1,.slice m0 R.pol.main.length m1,.slice k0 R.pol.sk.rows.length k1,.int .i64 R.pol.sk.added,.slice f0 R.fes.length f1,.slice c0 R.cls.length c1,.int .i64 R.hits] 48) = w1) := hw1
 have HB1 : Hid (Below w.heap.size w w1) := hb1
 have HN1 : Hid (NB w1 w.heap.size 48 (.int .i64 R.now) (.slice e0 R.ents.length e1) (.slice p0 R.pol.win.length p1) (.slice m0 R.pol.main.length m1) (.slice k0 R.pol.sk.rows.length k1) (.int .i64 R.pol.sk.added) (.slice f0 R.fes.length f1) (.slice c0 R.cls.length c1) (.int .i64 R.hits)) := hB1
 have HA1 : Hid (PxAt w1 ⟨.slice e0 R.ents.length e1,.slice p0 R.pol.win.length p1,.slice m0 R.pol.main.length m1,.slice k0 R.pol.sk.rows.length k1,.slice f0 R.fes.length f1,.slice c0 R.cls.length c1⟩ R w1.heap.size) := hA1
 have HSZ : Hid (PxSz R) := hsz
 obtain ⟨res,hres⟩ : ∃ r,okX R = r := ⟨_,rfl⟩
 obtain ⟨xh,hxh⟩ : ∃ b,inB R.hits 0 1000000000 = b := ⟨_,rfl⟩
 have HXH0 : Hid (inB R.hits 0 1000000000 = xh) := hxh
 have HE : Hid (res = (inB R.now 1 1000000000 && ((okP R.pol && entsOkX R.ents R.pol) && (decide (R.fes.length ≤ 20) && (decide (R.cls.length ≤ 6) && (xh && (allT (fetF R.now R.fes) R.fes.length && allT (cliF R.now R.fes.length R.cls) R.cls.length))))))) := by
  show _ = _
  rw [← hres]
  unfold okX fesOkX clsOkX
  rw [hxh]
  cases inB R.now 1 1000000000 <;> cases xh <;> cases okP R.pol <;> cases entsOkX R.ents R.pol <;> cases decide (R.fes.length ≤ 20) <;> cases decide (R.cls.length ≤ 6) <;> simp
 rw [hres]
 generalize inB R.now 1 1000000000 = xa at cK1 HE
 generalize (okP R.pol && entsOkX R.ents R.pol) = xe at cE HE
 obtain ⟨b0,b1,b2,b3,b4,b5,b6,b7,b8⟩ := hB1.cells
 rw [← hw1] at b0
 clear hw1 hB1 hA1 hA hb1 hres hxh hsz
 go_enter Tryz.func23,Tryz.ntmps23
 go_wp2_with fail
 rw [HW.out] at b0 ⊢
 refine cK1.mono ?_
 rintro e w' ⟨rfl,rfl⟩
 cases xa with
 | false =>
  have HR : Hid (res = false) := by show _ = _; rw [HE.out]; simp
  go_wp2_with fail
  go_ret
  exact ⟨by rw [HR.out]; rfl,HB1.out⟩
 | true =>
  go_wp2_with fail
  refine cE.mono ?_
  rintro e w2 ⟨rfl,hb2⟩
  have HB2 : Hid (Below w.heap.size w w2) := HB1.out.trans (hb2.mono HB1.out.size)
  have HN2 : Hid (NB w2 w.heap.size 48 (.int .i64 R.now) (.slice e0 R.ents.length e1) (.slice p0 R.pol.win.length p1) (.slice m0 R.pol.main.length m1) (.slice k0 R.pol.sk.rows.length k1) (.int .i64 R.pol.sk.added) (.slice f0 R.fes.length f1) (.slice c0 R.cls.length c1) (.int .i64 R.hits)) := HN1.out.on hb2
  have HA2 : Hid (PxAt w2 ⟨.slice e0 R.ents.length e1,.slice p0 R.pol.win.length p1,.slice m0 R.pol.main.length m1,.slice k0 R.pol.sk.rows.length k1,.slice f0 R.fes.length f1,.slice c0 R.cls.length c1⟩ R w2.heap.size) := HA1.out.on hb2
  clear b0 b1 b2 b3 b4 b5 b6 b7 b8 cE hb2 HB1 HN1 HA1 HW
  obtain ⟨b0,b1,b2,b3,b4,b5,b6,b7,b8⟩ := HN2.out.cells
  cases xe with
  | false =>
   have HR : Hid (res = false) := by show _ = _; rw [HE.out]; simp
   go_wp2_with fail
   go_ret
   exact ⟨by rw [HR.out]; rfl,HB2.out⟩
  | true =>
   by_cases h20 : R.fes.length ≤ 20
   case neg =>
    have h20' : (20 : Int) < (R.fes.length : Int) := by omega
    have HR : Hid (res = false) := by show _ = _; rw [HE.out,decide_eq_false h20]; simp
    clear h20
    go_wp2_with fail
    go_ret
    exact ⟨by rw [HR.out]; rfl,HB2.out⟩
   have h20' : ¬ (20 : Int) < (R.fes.length : Int) := by omega
   rw [decide_eq_true h20] at HE
   clear h20
   by_cases h6 : R.cls.length ≤ 6
   case neg =>
    have h6' : (6 : Int) < (R.cls.length : Int) := by omega
    have HR : Hid (res = false) := by show _ = _; rw [HE.out,decide_eq_false h6]; simp
    clear h6
    go_wp2_with fail
    go_ret
    exact ⟨by rw [HR.out]; rfl,HB2.out⟩
   have h6' : ¬ (6 : Int) < (R.cls.length : Int) := by omega
   rw [decide_eq_true h6] at HE
   clear h6
   have cK3 := l01In_any R.hits 0 1000000000 w2
   have HXH : Hid (inB R.hits 0 1000000000 = xh) := HXH0.out
   rw [HXH.out] at cK3
   go_wp2_with fail
   refine cK3.mono ?_
   rintro e w' ⟨rfl,rfl⟩
   cases xh with
   | false =>
    have HR : Hid (res = false) := by show _ = _; rw [HE.out]; simp
    go_wp2_with fail
    go_ret
    exact ⟨by rw [HR.out]; rfl,HB2.out⟩
   | true =>
    have HE0 : Hid (res = (allT (fetF R.now R.fes) R.fes.length && allT (cliF R.now R.fes.length R.cls) R.cls.length)) := by show _ = _; rw [HE.out]; simp
    clear HE HXH HXH0 cK3
    have HE := HE0
    clear HE0
    go_wp2_with fail
    go_loopw [3] (fun i wr => Box (∃ k : Nat,k ≤ R.fes.length ∧ i = .int .i64 k ∧ allT (fetF R.now R.fes) k = true ∧ Below w2.heap.size w2 wr))
     (fun i _ => R.fes.length - (intOf i).toNat)
    case atStart => exact ⟨⟨0,by omega,rfl,rfl,Below.refl _ _⟩⟩
    case round =>
     obtain ⟨k,hk,rfl,hno,hbr⟩ := hrel.out
     obtain ⟨wo,hwo⟩ : ∃ wo,wo = wr := ⟨_,rfl⟩
     subst hwo
     have HN : Hid (allT (fetF R.now R.fes) k = true) := hno
     have HBO : Hid (Below w.heap.size w wo) := HB2.out.trans (hbr.mono HB2.out.size)
     have HBS : Hid (Below w2.heap.size w2 wo) := hbr
     have hB := HN2.out.on hbr
     obtain ⟨b0,b1,b2,b3,b4,b5,b6,b7,b8⟩ := hB.cells
     have hAo := HA2.out.on hbr
     have HNO : Hid (NB wo w.heap.size 48 (.int .i64 R.now) (.slice e0 R.ents.length e1) (.slice p0 R.pol.win.length p1) (.slice m0 R.pol.main.length m1) (.slice k0 R.pol.sk.rows.length k1) (.int .i64 R.pol.sk.added) (.slice f0 R.fes.length f1) (.slice c0 R.cls.length c1) (.int .i64 R.hits)) := hB
     have HAO : Hid (PxAt wo ⟨.slice e0 R.ents.length e1,.slice p0 R.pol.win.length p1,.slice m0 R.pol.main.length m1,.slice k0 R.pol.sk.rows.length k1,.slice f0 R.fes.length f1,.slice c0 R.cls.length c1⟩ R wo.heap.size) := hAo
     clear hrel hno hbr hB
     by_cases hlt : k < R.fes.length
     ·have cF := l16Fetch_any wo ⟨.slice e0 R.ents.length e1,.slice p0 R.pol.win.length p1,.slice m0 R.pol.main.length m1,.slice k0 R.pol.sk.rows.length k1,.slice f0 R.fes.length f1,.slice c0 R.cls.length c1⟩ R k hlt hAo HSZ.out
      dsimp only at cF
      have HF : Hid (fetF R.now R.fes k = false → res = false) := fun h => by rw [HE.out,allT_down hlt h]; simp
      have hi1 : (0 : Int) ≤ (k : Int) := by omega
      have hi3 : (k : Int) < (R.fes.length : Int) := by omega
      have HK : Hid (k < R.fes.length) := hlt
      obtain ⟨q,hq⟩ : ∃ q,fetF R.now R.fes k = q := ⟨_,rfl⟩
      rw [hq] at cF HF
      have HQ : Hid (fetF R.now R.fes k = q) := hq
      clear hq hlt hAo
      go_wp2_with fail
      refine cF.mono ?_
      rintro e w3 ⟨rfl,hb3⟩
      cases q with
      | false =>
       go_wp2_with fail
       go_ret
       exact ⟨by rw [HF.out (by first | rfl | trivial)]; rfl,HBO.out.trans (hb3.mono HBO.out.size)⟩
      | true =>
       go_wp2_with fail
       go_roundw
       case rel =>
        try ((repeat apply Exists.intro); refine ⟨?_,rfl⟩)
        exact ⟨⟨k + 1,by have := HK.out; omega,by go_num,by unfold allT; rw [HN.out,HQ.out]; rfl,HBS.out.trans (hb3.mono HBS.out.size)⟩⟩
       case measure => have := HK.out; simp [intOf]; omega
     ·have hi3 : ¬ (k : Int) < (R.fes.length : Int) := by omega
      have HE2 : Hid (res = allT (cliF R.now R.fes.length R.cls) R.cls.length) := by show _ = _; rw [HE.out,show R.fes.length = k by omega,HN.out]; rfl
      have HE3 := HE
      clear HE HE3
      have HE := HE2
      clear HE2 hlt hk hAo HN HBS
      obtain ⟨wB,hwB⟩ : ∃ x,x = wo := ⟨_,rfl⟩
      subst hwB
      have HBB := HBO
      have HNB := HNO
      have HAB := HAO
      clear HBO HNO HAO
      go_wp2_with fail
      go_loopw [4] (fun i wr => Box (∃ k : Nat,k ≤ R.cls.length ∧ i = .int .i64 k ∧ allT (cliF R.now R.fes.length R.cls) k = true ∧ Below wB.heap.size wB wr))
       (fun i _ => R.cls.length - (intOf i).toNat)
      case atStart => exact ⟨⟨0,by omega,rfl,rfl,Below.refl _ _⟩⟩
      case round =>
       obtain ⟨k,hk,rfl,hno,hbr⟩ := hrel.out
       obtain ⟨wo,hwo⟩ : ∃ wo,wo = wr := ⟨_,rfl⟩
       subst hwo
       have HN : Hid (allT (cliF R.now R.fes.length R.cls) k = true) := hno
       have HBO : Hid (Below w.heap.size w wo) := HBB.out.trans (hbr.mono HBB.out.size)
       have HBS : Hid (Below wB.heap.size wB wo) := hbr
       have hB := HNB.out.on hbr
       obtain ⟨b0,b1,b2,b3,b4,b5,b6,b7,b8⟩ := hB.cells
       have hAo := HAB.out.on hbr
       clear hrel hno hbr
       by_cases hlt : k < R.cls.length
       ·obtain ⟨gg,offg,hga,_,q0,q1,q2,q3,q4,q5,q6⟩ := CliV.at' hAo.c k hlt
        obtain ⟨c,hc⟩ : ∃ c,R.cls[k] = c := ⟨_,rfl⟩
        rw [hc] at q0 q1 q2 q3 q4 q5 q6
        have hi1 : (0 : Int) ≤ (k : Int) := by omega
        have hi3 : (k : Int) < (R.cls.length : Int) := by omega
        have HK : Hid (k < R.cls.length) := hlt
        obtain ⟨w4,hw4⟩ : ∃ x,wo.alloc (.cells #[.int .i64 c.id,.string c.key,.int .i64 c.fe,.int .i64 c.fr,.int .i64 c.st,.string c.got,.int .i64 c.ag] 87) = x := ⟨_,rfl⟩
        have hb4 : Below wo.heap.size wo w4 := by rw [← hw4]; exact (Below.refl _ _).alloc (Nat.le_refl _) _
        have HB4 : Hid (Below w.heap.size w w4) := HBO.out.trans (hb4.mono HBO.out.size)
        have HB5 : Hid (Below wB.heap.size wB w4) := HBS.out.trans (hb4.mono HBS.out.size)
        have hCB : w4.heap[wo.heap.size]? = some (.cells #[.int .i64 c.id,.string c.key,.int .i64 c.fe,.int .i64 c.fr,.int .i64 c.st,.string c.got,.int .i64 c.ag] 87 (0, 0)) := by rw [← hw4]; exact heap_alloc_new _ _
        obtain ⟨d0,d1,d2,d3,d4,d5,d6,d7,d8⟩ := (hB.on hb4).cells
        have z0 := cell_regrown d0
        have z6 := cell_regrown d6
        have z7 := cell_regrown d7
        have y0 := cell_regrown (show w4.cell? ⟨wo.heap.size, 0,none⟩ = some (.int .i64 c.id) by rw [cell_of_row w4 wo.heap.size 0 _ _ (0, 0) hCB]; rfl)
        have y1 := cell_regrown (show w4.cell? ⟨wo.heap.size, 1,none⟩ = some (.string c.key) by rw [cell_of_row w4 wo.heap.size 1 _ _ (0, 0) hCB]; rfl)
        have y2 := cell_regrown (show w4.cell? ⟨wo.heap.size, 2,none⟩ = some (.int .i64 c.fe) by rw [cell_of_row w4 wo.heap.size 2 _ _ (0, 0) hCB]; rfl)
        have y3 := cell_regrown (show w4.cell? ⟨wo.heap.size, 3,none⟩ = some (.int .i64 c.fr) by rw [cell_of_row w4 wo.heap.size 3 _ _ (0, 0) hCB]; rfl)
        have y4 := cell_regrown (show w4.cell? ⟨wo.heap.size, 4,none⟩ = some (.int .i64 c.st) by rw [cell_of_row w4 wo.heap.size 4 _ _ (0, 0) hCB]; rfl)
        have y5 := cell_regrown (show w4.cell? ⟨wo.heap.size, 5,none⟩ = some (.string c.got) by rw [cell_of_row w4 wo.heap.size 5 _ _ (0, 0) hCB]; rfl)
        have y6 := cell_regrown (show w4.cell? ⟨wo.heap.size, 6,none⟩ = some (.int .i64 c.ag) by rw [cell_of_row w4 wo.heap.size 6 _ _ (0, 0) hCB]; rfl)
        have HW4 : Hid (wo.alloc (.cells #[.int .i64 c.id,.string c.key,.int .i64 c.fe,.int .i64 c.fr,.int .i64 c.st,.string c.got,.int .i64 c.ag] 87) = w4) := hw4
        have cA := quietB (W := w4) (fun w' _ => inQ c.id 1 9 w')
        have cB := quietB (W := w4) (fun w' _ => keyQ w' c.key)
        have cC := quietB (W := w4) (fun w' _ => inQ c.st 1 3 w')
        have cD := quietB (W := w4) (fun w' _ => inQ c.fe 0 (R.fes.length : Int) w')
        have cE := quietB (W := w4) (fun w' _ => inQ c.fr 0 R.now w')
        have hgd : R.cls.getD k zCli = c := by rw [getD_of hlt,hc]
        have HF : Hid (cliF R.now R.fes.length R.cls k = false → res = false) := fun h => by rw [HE.out,allT_down hlt h]
        obtain ⟨x7,hx7⟩ : ∃ b,decide ((400 : Int) < (c.got.size : Int)) = b := ⟨_,rfl⟩
        obtain ⟨x9,hx9⟩ : ∃ b,decide (c.ag < 0) = b := ⟨_,rfl⟩
        have e7 : decide (c.got.size ≤ 400) = !x7 := by rw [← hx7, ← decide_not]; exact decide_eq_decide.2 (by omega)
        have e9 : decide (0 ≤ c.ag) = !x9 := by rw [← hx9, ← decide_not]; exact decide_eq_decide.2 (by omega)
        have HSu : Hid (cliF R.now R.fes.length R.cls k = ((inB c.id 1 9 && (enKey c.key && (inB c.st 1 3 && (!x7 && (inB c.fe 0 R.fes.length && (inB c.fr 0 R.now && !x9)))))) && !(decide (0 < k) && decide (c.id ≤ (R.cls.getD (k - 1) zCli).id)))) := by
         show _ = _
         unfold cliF
         rw [hgd,e7,e9]
        have HV : Hid (∀ j (hj : j < R.cls.length),w4.cell? ⟨gg,offg + j * 7,none⟩ = some (.int .i64 R.cls[j].id)) := fun j hj => by
         obtain ⟨g',o',he,_,h,_⟩ := CliV.at' (hAo.on hb4).c j hj
         rw [hga] at he
         cases he
         exact h
        subst hga
        generalize inB c.id 1 9 = x1 at cA HSu
        generalize enKey c.key = x3 at cB HSu
        generalize inB c.st 1 3 = x4 at cC HSu
        generalize inB c.fe 0 R.fes.length = x5 at cD HSu
        generalize inB c.fr 0 R.now = x8 at cE HSu
        clear hc hgd hAo e7 e9 d0 d1 d2 d3 d4 d5 d6 d7 d8 hCB hw4 hb4 hB hlt HAB HNB
        by_cases h0 : k = 0
        ·have hS : Hid (cliF R.now R.fes.length R.cls k = (x1 && (x3 && (x4 && (!x7 && (x5 && (x8 && !x9))))))) := by
          show _ = _
          rw [HSu.out]; simp [h0]
         have hgN : decide (0 < k) = false := decide_eq_false (by omega)
         have hgI : ¬ (0 : Int) < (k : Int) := by omega
         clear HSu h0
         go_wp2_with fail
         rw [HW4.out]
         refine wp_region_quiet_below (by kernel_rfl) (by kernel_rfl) ?_
         repeat (first | go_big_quiet_step (first | with_reducible exact cA _ _ | with_reducible exact cB _ _ | with_reducible exact cC _ _ | with_reducible exact cD _ _ | with_reducible exact cE _ _) | quiet_step (first | with_reducible exact cA _ _ | with_reducible exact cB _ _ | with_reducible exact cC _ _ | with_reducible exact cD _ _ | with_reducible exact cE _ _))
         cases x1 with
         | false =>
          simp only [Bool.not_false]
          repeat (first | go_big_quiet_step (first | with_reducible exact cA _ _ | with_reducible exact cB _ _ | with_reducible exact cC _ _ | with_reducible exact cD _ _ | with_reducible exact cE _ _) | quiet_step (first | with_reducible exact cA _ _ | with_reducible exact cB _ _ | with_reducible exact cC _ _ | with_reducible exact cD _ _ | with_reducible exact cE _ _))
          refine wpQuiet_nil ?_
          intro _ hw'
          obtain ⟨⟨dq,osq⟩,hw''⟩ := hw'
          subst hw''
          have HPO : Hid (cliF R.now R.fes.length R.cls k = false) := by show _ = _; rw [hS.out]; simp
          go_wp2_with fail
          go_ret
          exact ⟨by rw [HF.out HPO.out]; rfl,HB4.out.trans ((below_regrown w4 dq osq).mono HB4.out.size)⟩
         | true =>
          simp only [Bool.not_true]
          repeat (first | go_big_quiet_step (first | with_reducible exact cA _ _ | with_reducible exact cB _ _ | with_reducible exact cC _ _ | with_reducible exact cD _ _ | with_reducible exact cE _ _) | quiet_step (first | with_reducible exact cA _ _ | with_reducible exact cB _ _ | with_reducible exact cC _ _ | with_reducible exact cD _ _ | with_reducible exact cE _ _))
          cases x3 with
          | false =>
           simp only [Bool.not_false]
           repeat (first | go_big_quiet_step (first | with_reducible exact cA _ _ | with_reducible exact cB _ _ | with_reducible exact cC _ _ | with_reducible exact cD _ _ | with_reducible exact cE _ _) | quiet_step (first | with_reducible exact cA _ _ | with_reducible exact cB _ _ | with_reducible exact cC _ _ | with_reducible exact cD _ _ | with_reducible exact cE _ _))
           refine wpQuiet_nil ?_
           intro _ hw'
           obtain ⟨⟨dq,osq⟩,hw''⟩ := hw'
           subst hw''
           have HPO : Hid (cliF R.now R.fes.length R.cls k = false) := by show _ = _; rw [hS.out]; simp
           go_wp2_with fail
           go_ret
           exact ⟨by rw [HF.out HPO.out]; rfl,HB4.out.trans ((below_regrown w4 dq osq).mono HB4.out.size)⟩
          | true =>
           simp only [Bool.not_true]
           repeat (first | go_big_quiet_step (first | with_reducible exact cA _ _ | with_reducible exact cB _ _ | with_reducible exact cC _ _ | with_reducible exact cD _ _ | with_reducible exact cE _ _) | quiet_step (first | with_reducible exact cA _ _ | with_reducible exact cB _ _ | with_reducible exact cC _ _ | with_reducible exact cD _ _ | with_reducible exact cE _ _))
           cases x4 with
           | false =>
            simp only [Bool.not_false]
            repeat (first | go_big_quiet_step (first | with_reducible exact cA _ _ | with_reducible exact cB _ _ | with_reducible exact cC _ _ | with_reducible exact cD _ _ | with_reducible exact cE _ _) | quiet_step (first | with_reducible exact cA _ _ | with_reducible exact cB _ _ | with_reducible exact cC _ _ | with_reducible exact cD _ _ | with_reducible exact cE _ _))
            refine wpQuiet_nil ?_
            intro _ hw'
            obtain ⟨⟨dq,osq⟩,hw''⟩ := hw'
            subst hw''
            have HPO : Hid (cliF R.now R.fes.length R.cls k = false) := by show _ = _; rw [hS.out]; simp
            go_wp2_with fail
            go_ret
            exact ⟨by rw [HF.out HPO.out]; rfl,HB4.out.trans ((below_regrown w4 dq osq).mono HB4.out.size)⟩
           | true =>
            simp only [Bool.not_true]
            repeat (first | go_big_quiet_step (first | with_reducible exact cA _ _ | with_reducible exact cB _ _ | with_reducible exact cC _ _ | with_reducible exact cD _ _ | with_reducible exact cE _ _) | quiet_step (first | with_reducible exact cA _ _ | with_reducible exact cB _ _ | with_reducible exact cC _ _ | with_reducible exact cD _ _ | with_reducible exact cE _ _))
            cases x5 with
            | false =>
             simp only [Bool.not_false]
             repeat (first | go_big_quiet_step (first | with_reducible exact cA _ _ | with_reducible exact cB _ _ | with_reducible exact cC _ _ | with_reducible exact cD _ _ | with_reducible exact cE _ _) | quiet_step (first | with_reducible exact cA _ _ | with_reducible exact cB _ _ | with_reducible exact cC _ _ | with_reducible exact cD _ _ | with_reducible exact cE _ _))
             refine wpQuiet_nil ?_
             intro _ hw'
             obtain ⟨⟨dq,osq⟩,hw''⟩ := hw'
             subst hw''
             have HPO : Hid (cliF R.now R.fes.length R.cls k = false) := by show _ = _; rw [hS.out]; simp
             go_wp2_with fail
             go_ret
             exact ⟨by rw [HF.out HPO.out]; rfl,HB4.out.trans ((below_regrown w4 dq osq).mono HB4.out.size)⟩
            | true =>
             simp only [Bool.not_true]
             repeat (first | go_big_quiet_step (first | with_reducible exact cA _ _ | with_reducible exact cB _ _ | with_reducible exact cC _ _ | with_reducible exact cD _ _ | with_reducible exact cE _ _) | quiet_step (first | with_reducible exact cA _ _ | with_reducible exact cB _ _ | with_reducible exact cC _ _ | with_reducible exact cD _ _ | with_reducible exact cE _ _))
             cases x7 with
             | false =>
              repeat (first | go_big_quiet_step (first | with_reducible exact cA _ _ | with_reducible exact cB _ _ | with_reducible exact cC _ _ | with_reducible exact cD _ _ | with_reducible exact cE _ _) | quiet_step (first | with_reducible exact cA _ _ | with_reducible exact cB _ _ | with_reducible exact cC _ _ | with_reducible exact cD _ _ | with_reducible exact cE _ _))
              cases x8 with
              | false =>
               simp only [Bool.not_false]
               repeat (first | go_big_quiet_step (first | with_reducible exact cA _ _ | with_reducible exact cB _ _ | with_reducible exact cC _ _ | with_reducible exact cD _ _ | with_reducible exact cE _ _) | quiet_step (first | with_reducible exact cA _ _ | with_reducible exact cB _ _ | with_reducible exact cC _ _ | with_reducible exact cD _ _ | with_reducible exact cE _ _))
               refine wpQuiet_nil ?_
               intro _ hw'
               obtain ⟨⟨dq,osq⟩,hw''⟩ := hw'
               subst hw''
               have HPO : Hid (cliF R.now R.fes.length R.cls k = false) := by show _ = _; rw [hS.out]; simp
               go_wp2_with fail
               go_ret
               exact ⟨by rw [HF.out HPO.out]; rfl,HB4.out.trans ((below_regrown w4 dq osq).mono HB4.out.size)⟩
              | true =>
               simp only [Bool.not_true]
               repeat (first | go_big_quiet_step (first | with_reducible exact cA _ _ | with_reducible exact cB _ _ | with_reducible exact cC _ _ | with_reducible exact cD _ _ | with_reducible exact cE _ _) | quiet_step (first | with_reducible exact cA _ _ | with_reducible exact cB _ _ | with_reducible exact cC _ _ | with_reducible exact cD _ _ | with_reducible exact cE _ _))
               cases x9 with
               | false =>
                repeat (first | go_big_quiet_step (first | with_reducible exact cA _ _ | with_reducible exact cB _ _ | with_reducible exact cC _ _ | with_reducible exact cD _ _ | with_reducible exact cE _ _) | quiet_step (first | with_reducible exact cA _ _ | with_reducible exact cB _ _ | with_reducible exact cC _ _ | with_reducible exact cD _ _ | with_reducible exact cE _ _))
                refine wpQuiet_nil ?_
                intro _ hw'
                obtain ⟨⟨dq,osq⟩,hw''⟩ := hw'
                subst hw''
                have HPO : Hid (cliF R.now R.fes.length R.cls k = true) := by show _ = _; rw [hS.out]; simp
                go_wp2_with fail
                go_roundw
                case rel =>
                 try ((repeat apply Exists.intro); refine ⟨?_,rfl⟩)
                 exact ⟨⟨k + 1,by have := HK.out; omega,by go_num,by unfold allT; rw [HN.out,HPO.out]; rfl,HB5.out.trans ((below_regrown w4 dq osq).mono HB5.out.size)⟩⟩
                case measure => have := HK.out; simp [intOf]; omega
               | true =>
                repeat (first | go_big_quiet_step (first | with_reducible exact cA _ _ | with_reducible exact cB _ _ | with_reducible exact cC _ _ | with_reducible exact cD _ _ | with_reducible exact cE _ _) | quiet_step (first | with_reducible exact cA _ _ | with_reducible exact cB _ _ | with_reducible exact cC _ _ | with_reducible exact cD _ _ | with_reducible exact cE _ _))
                refine wpQuiet_nil ?_
                intro _ hw'
                obtain ⟨⟨dq,osq⟩,hw''⟩ := hw'
                subst hw''
                have HPO : Hid (cliF R.now R.fes.length R.cls k = false) := by show _ = _; rw [hS.out]; simp
                go_wp2_with fail
                go_ret
                exact ⟨by rw [HF.out HPO.out]; rfl,HB4.out.trans ((below_regrown w4 dq osq).mono HB4.out.size)⟩
             | true =>
              repeat (first | go_big_quiet_step (first | with_reducible exact cA _ _ | with_reducible exact cB _ _ | with_reducible exact cC _ _ | with_reducible exact cD _ _ | with_reducible exact cE _ _) | quiet_step (first | with_reducible exact cA _ _ | with_reducible exact cB _ _ | with_reducible exact cC _ _ | with_reducible exact cD _ _ | with_reducible exact cE _ _))
              refine wpQuiet_nil ?_
              intro _ hw'
              obtain ⟨⟨dq,osq⟩,hw''⟩ := hw'
              subst hw''
              have HPO : Hid (cliF R.now R.fes.length R.cls k = false) := by show _ = _; rw [hS.out]; simp
              go_wp2_with fail
              go_ret
              exact ⟨by rw [HF.out HPO.out]; rfl,HB4.out.trans ((below_regrown w4 dq osq).mono HB4.out.size)⟩
        ·obtain ⟨j,hkj⟩ : ∃ j,k = j + 1 := ⟨k - 1,by omega⟩
         have z9 := cell_regrown (HV.out j (by have := HK.out; omega))
         obtain ⟨x,hx⟩ : ∃ x,(R.cls[j]'(by have := HK.out; omega)).id = x := ⟨_,rfl⟩
         have hxd : (R.cls.getD (k - 1) zCli).id = x := by rw [show k - 1 = j by omega,getD_of (show j < R.cls.length by have := HK.out; omega),hx]
         obtain ⟨x2,hx2⟩ : ∃ b,decide (c.id ≤ x) = b := ⟨_,rfl⟩
         have hS : Hid (cliF R.now R.fes.length R.cls k = ((x1 && (x3 && (x4 && (!x7 && (x5 && (x8 && !x9)))))) && !x2)) := by
          show _ = _
          rw [HSu.out,hxd,show decide (0 < k) = true from decide_eq_true (by omega),hx2]
          simp
         rw [hx] at z9
         have hgN : decide (0 < k) = true := decide_eq_true (by omega)
         have hgI : (0 : Int) < (k : Int) := by omega
         have hjj : (k : Int) - 1 = (j : Int) := by omega
         have hj0 : (0 : Int) ≤ (j : Int) := by omega
         have hj1 : (j : Int) < (R.cls.length : Int) := by have := HK.out; omega
         clear HSu h0 hx hxd hkj
         go_wp2_with fail
         rw [HW4.out]
         refine wp_region_quiet_below (by kernel_rfl) (by kernel_rfl) ?_
         repeat (first | go_big_quiet_step (first | with_reducible exact cA _ _ | with_reducible exact cB _ _ | with_reducible exact cC _ _ | with_reducible exact cD _ _ | with_reducible exact cE _ _) | quiet_step (first | with_reducible exact cA _ _ | with_reducible exact cB _ _ | with_reducible exact cC _ _ | with_reducible exact cD _ _ | with_reducible exact cE _ _))
         cases x1 with
         | false =>
          simp only [Bool.not_false]
          repeat (first | go_big_quiet_step (first | with_reducible exact cA _ _ | with_reducible exact cB _ _ | with_reducible exact cC _ _ | with_reducible exact cD _ _ | with_reducible exact cE _ _) | quiet_step (first | with_reducible exact cA _ _ | with_reducible exact cB _ _ | with_reducible exact cC _ _ | with_reducible exact cD _ _ | with_reducible exact cE _ _))
          refine wpQuiet_nil ?_
          intro _ hw'
          obtain ⟨⟨dq,osq⟩,hw''⟩ := hw'
          subst hw''
          have HPO : Hid (cliF R.now R.fes.length R.cls k = false) := by show _ = _; rw [hS.out]; simp
          go_wp2_with fail
          go_ret
          exact ⟨by rw [HF.out HPO.out]; rfl,HB4.out.trans ((below_regrown w4 dq osq).mono HB4.out.size)⟩
         | true =>
          simp only [Bool.not_true]
          repeat (first | go_big_quiet_step (first | with_reducible exact cA _ _ | with_reducible exact cB _ _ | with_reducible exact cC _ _ | with_reducible exact cD _ _ | with_reducible exact cE _ _) | quiet_step (first | with_reducible exact cA _ _ | with_reducible exact cB _ _ | with_reducible exact cC _ _ | with_reducible exact cD _ _ | with_reducible exact cE _ _))
          cases x2 with
          | false =>
           repeat (first | go_big_quiet_step (first | with_reducible exact cA _ _ | with_reducible exact cB _ _ | with_reducible exact cC _ _ | with_reducible exact cD _ _ | with_reducible exact cE _ _) | quiet_step (first | with_reducible exact cA _ _ | with_reducible exact cB _ _ | with_reducible exact cC _ _ | with_reducible exact cD _ _ | with_reducible exact cE _ _))
           cases x3 with
           | false =>
            simp only [Bool.not_false]
            repeat (first | go_big_quiet_step (first | with_reducible exact cA _ _ | with_reducible exact cB _ _ | with_reducible exact cC _ _ | with_reducible exact cD _ _ | with_reducible exact cE _ _) | quiet_step (first | with_reducible exact cA _ _ | with_reducible exact cB _ _ | with_reducible exact cC _ _ | with_reducible exact cD _ _ | with_reducible exact cE _ _))
            refine wpQuiet_nil ?_
            intro _ hw'
            obtain ⟨⟨dq,osq⟩,hw''⟩ := hw'
            subst hw''
            have HPO : Hid (cliF R.now R.fes.length R.cls k = false) := by show _ = _; rw [hS.out]; simp
            go_wp2_with fail
            go_ret
            exact ⟨by rw [HF.out HPO.out]; rfl,HB4.out.trans ((below_regrown w4 dq osq).mono HB4.out.size)⟩
           | true =>
            simp only [Bool.not_true]
            repeat (first | go_big_quiet_step (first | with_reducible exact cA _ _ | with_reducible exact cB _ _ | with_reducible exact cC _ _ | with_reducible exact cD _ _ | with_reducible exact cE _ _) | quiet_step (first | with_reducible exact cA _ _ | with_reducible exact cB _ _ | with_reducible exact cC _ _ | with_reducible exact cD _ _ | with_reducible exact cE _ _))
            cases x4 with
            | false =>
             simp only [Bool.not_false]
             repeat (first | go_big_quiet_step (first | with_reducible exact cA _ _ | with_reducible exact cB _ _ | with_reducible exact cC _ _ | with_reducible exact cD _ _ | with_reducible exact cE _ _) | quiet_step (first | with_reducible exact cA _ _ | with_reducible exact cB _ _ | with_reducible exact cC _ _ | with_reducible exact cD _ _ | with_reducible exact cE _ _))
             refine wpQuiet_nil ?_
             intro _ hw'
             obtain ⟨⟨dq,osq⟩,hw''⟩ := hw'
             subst hw''
             have HPO : Hid (cliF R.now R.fes.length R.cls k = false) := by show _ = _; rw [hS.out]; simp
             go_wp2_with fail
             go_ret
             exact ⟨by rw [HF.out HPO.out]; rfl,HB4.out.trans ((below_regrown w4 dq osq).mono HB4.out.size)⟩
            | true =>
             simp only [Bool.not_true]
             repeat (first | go_big_quiet_step (first | with_reducible exact cA _ _ | with_reducible exact cB _ _ | with_reducible exact cC _ _ | with_reducible exact cD _ _ | with_reducible exact cE _ _) | quiet_step (first | with_reducible exact cA _ _ | with_reducible exact cB _ _ | with_reducible exact cC _ _ | with_reducible exact cD _ _ | with_reducible exact cE _ _))
             cases x5 with
             | false =>
              simp only [Bool.not_false]
              repeat (first | go_big_quiet_step (first | with_reducible exact cA _ _ | with_reducible exact cB _ _ | with_reducible exact cC _ _ | with_reducible exact cD _ _ | with_reducible exact cE _ _) | quiet_step (first | with_reducible exact cA _ _ | with_reducible exact cB _ _ | with_reducible exact cC _ _ | with_reducible exact cD _ _ | with_reducible exact cE _ _))
              refine wpQuiet_nil ?_
              intro _ hw'
              obtain ⟨⟨dq,osq⟩,hw''⟩ := hw'
              subst hw''
              have HPO : Hid (cliF R.now R.fes.length R.cls k = false) := by show _ = _; rw [hS.out]; simp
              go_wp2_with fail
              go_ret
              exact ⟨by rw [HF.out HPO.out]; rfl,HB4.out.trans ((below_regrown w4 dq osq).mono HB4.out.size)⟩
             | true =>
              simp only [Bool.not_true]
              repeat (first | go_big_quiet_step (first | with_reducible exact cA _ _ | with_reducible exact cB _ _ | with_reducible exact cC _ _ | with_reducible exact cD _ _ | with_reducible exact cE _ _) | quiet_step (first | with_reducible exact cA _ _ | with_reducible exact cB _ _ | with_reducible exact cC _ _ | with_reducible exact cD _ _ | with_reducible exact cE _ _))
              cases x7 with
              | false =>
               repeat (first | go_big_quiet_step (first | with_reducible exact cA _ _ | with_reducible exact cB _ _ | with_reducible exact cC _ _ | with_reducible exact cD _ _ | with_reducible exact cE _ _) | quiet_step (first | with_reducible exact cA _ _ | with_reducible exact cB _ _ | with_reducible exact cC _ _ | with_reducible exact cD _ _ | with_reducible exact cE _ _))
               cases x8 with
               | false =>
                simp only [Bool.not_false]
                repeat (first | go_big_quiet_step (first | with_reducible exact cA _ _ | with_reducible exact cB _ _ | with_reducible exact cC _ _ | with_reducible exact cD _ _ | with_reducible exact cE _ _) | quiet_step (first | with_reducible exact cA _ _ | with_reducible exact cB _ _ | with_reducible exact cC _ _ | with_reducible exact cD _ _ | with_reducible exact cE _ _))
                refine wpQuiet_nil ?_
                intro _ hw'
                obtain ⟨⟨dq,osq⟩,hw''⟩ := hw'
                subst hw''
                have HPO : Hid (cliF R.now R.fes.length R.cls k = false) := by show _ = _; rw [hS.out]; simp
                go_wp2_with fail
                go_ret
                exact ⟨by rw [HF.out HPO.out]; rfl,HB4.out.trans ((below_regrown w4 dq osq).mono HB4.out.size)⟩
               | true =>
                simp only [Bool.not_true]
                repeat (first | go_big_quiet_step (first | with_reducible exact cA _ _ | with_reducible exact cB _ _ | with_reducible exact cC _ _ | with_reducible exact cD _ _ | with_reducible exact cE _ _) | quiet_step (first | with_reducible exact cA _ _ | with_reducible exact cB _ _ | with_reducible exact cC _ _ | with_reducible exact cD _ _ | with_reducible exact cE _ _))
                cases x9 with
                | false =>
                 repeat (first | go_big_quiet_step (first | with_reducible exact cA _ _ | with_reducible exact cB _ _ | with_reducible exact cC _ _ | with_reducible exact cD _ _ | with_reducible exact cE _ _) | quiet_step (first | with_reducible exact cA _ _ | with_reducible exact cB _ _ | with_reducible exact cC _ _ | with_reducible exact cD _ _ | with_reducible exact cE _ _))
                 refine wpQuiet_nil ?_
                 intro _ hw'
                 obtain ⟨⟨dq,osq⟩,hw''⟩ := hw'
                 subst hw''
                 have HPO : Hid (cliF R.now R.fes.length R.cls k = true) := by show _ = _; rw [hS.out]; simp
                 go_wp2_with fail
                 go_roundw
                 case rel =>
                  try ((repeat apply Exists.intro); refine ⟨?_,rfl⟩)
                  exact ⟨⟨k + 1,by have := HK.out; omega,by go_num,by unfold allT; rw [HN.out,HPO.out]; rfl,HB5.out.trans ((below_regrown w4 dq osq).mono HB5.out.size)⟩⟩
                 case measure => have := HK.out; simp [intOf]; omega
                | true =>
                 repeat (first | go_big_quiet_step (first | with_reducible exact cA _ _ | with_reducible exact cB _ _ | with_reducible exact cC _ _ | with_reducible exact cD _ _ | with_reducible exact cE _ _) | quiet_step (first | with_reducible exact cA _ _ | with_reducible exact cB _ _ | with_reducible exact cC _ _ | with_reducible exact cD _ _ | with_reducible exact cE _ _))
                 refine wpQuiet_nil ?_
                 intro _ hw'
                 obtain ⟨⟨dq,osq⟩,hw''⟩ := hw'
                 subst hw''
                 have HPO : Hid (cliF R.now R.fes.length R.cls k = false) := by show _ = _; rw [hS.out]; simp
                 go_wp2_with fail
                 go_ret
                 exact ⟨by rw [HF.out HPO.out]; rfl,HB4.out.trans ((below_regrown w4 dq osq).mono HB4.out.size)⟩
              | true =>
               repeat (first | go_big_quiet_step (first | with_reducible exact cA _ _ | with_reducible exact cB _ _ | with_reducible exact cC _ _ | with_reducible exact cD _ _ | with_reducible exact cE _ _) | quiet_step (first | with_reducible exact cA _ _ | with_reducible exact cB _ _ | with_reducible exact cC _ _ | with_reducible exact cD _ _ | with_reducible exact cE _ _))
               refine wpQuiet_nil ?_
               intro _ hw'
               obtain ⟨⟨dq,osq⟩,hw''⟩ := hw'
               subst hw''
               have HPO : Hid (cliF R.now R.fes.length R.cls k = false) := by show _ = _; rw [hS.out]; simp
               go_wp2_with fail
               go_ret
               exact ⟨by rw [HF.out HPO.out]; rfl,HB4.out.trans ((below_regrown w4 dq osq).mono HB4.out.size)⟩
          | true =>
           repeat (first | go_big_quiet_step (first | with_reducible exact cA _ _ | with_reducible exact cB _ _ | with_reducible exact cC _ _ | with_reducible exact cD _ _ | with_reducible exact cE _ _) | quiet_step (first | with_reducible exact cA _ _ | with_reducible exact cB _ _ | with_reducible exact cC _ _ | with_reducible exact cD _ _ | with_reducible exact cE _ _))
           refine wpQuiet_nil ?_
           intro _ hw'
           obtain ⟨⟨dq,osq⟩,hw''⟩ := hw'
           subst hw''
           have HPO : Hid (cliF R.now R.fes.length R.cls k = false) := by show _ = _; rw [hS.out]; simp
           go_wp2_with fail
           go_ret
           exact ⟨by rw [HF.out HPO.out]; rfl,HB4.out.trans ((below_regrown w4 dq osq).mono HB4.out.size)⟩
       ·have hi3 : ¬ (k : Int) < (R.cls.length : Int) := by omega
        have HR : Hid (res = true) := by show _ = _; rw [HE.out,show R.cls.length = k by omega,HN.out]
        clear hlt hk
        go_wp2_with fail
        go_ret
        exact ⟨by rw [HR.out]; rfl,HBO.out⟩
end Go.Proofs.YtpgcfgbhkodmeaaGreatDoor
