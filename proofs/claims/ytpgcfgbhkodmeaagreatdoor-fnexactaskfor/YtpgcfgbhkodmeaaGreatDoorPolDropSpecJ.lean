/- Texts that stand in one: PolDropSpec, PolHasSz, PxEntsSpec, PxFetSpec. -/
import Derived.Test.YtpgcfgbhkodmeaaGreatDoorPrxMarkJ
import Derived.Test.YtpgcfgbhkodmeaaGreatDoorSkStepJ
import Derived.Test.YtpgcfgbhkodmeaaGreatDoorPvMoreJ
import Derived.Test.YtpgcfgbhkodmeaaGreatDoorPolSzTextJ
import Derived.Deep.RegionHeld3
import Derived.Test.YtpgcfgbhkodmeaaGreatDoorSkLaw3J
import Derived.Test.YtpgcfgbhkodmeaaGreatDoorDiskPlainJ
import Derived.Test.YtpgcfgbhkodmeaaGreatDoorPolDropImplJ
import Derived.Test.YtpgcfgbhkodmeaaGreatDoorPolOkSzJ
import Derived.Lib.QuietBelow
import Derived.BigQuiet
import Derived.Laws.Cover1
namespace Go.Proofs.YtpgcfgbhkodmeaaGreatDoor
open Go.RowKit Go.Sort
set_option maxRecDepth 100000 in
set_option maxHeartbeats 8000000 in
theorem specPolicyDrop_any (w : World) (aw am ak : Option Addr) (cw cm ck : Nat) (P : Pol) (key : ByteArray) (hA : PolAt w aw am ak P w.heap.size) (hsz : PolSz P) :
  Calls Tryz.prog 50 #[.agg #[.slice aw P.win.length cw,.slice am P.main.length cm,.slice ak P.sk.rows.length ck,.int .i64 P.sk.added],.string key] w fun e w' => ∃ v,e = .returned v ∧ POwn w' w.heap.size w'.heap.size v (dropP P key) ∧ Below w.heap.size w w' := by
 obtain ⟨l1,l2,l3⟩ := hsz.parts
 obtain ⟨w0,hw0⟩ : ∃ x,w.alloc (.cells #[.slice aw P.win.length cw,.slice am P.main.length cm,.slice ak P.sk.rows.length ck,.int .i64 P.sk.added] 44) = x := ⟨_,rfl⟩
 obtain ⟨w1,hw1⟩ : ∃ x,w0.alloc (.cells #[.slice none 0 0,.slice none 0 0,.slice none 0 0,.int .i64 0] 44) = x := ⟨_,rfl⟩
 have hb0 : Below w.heap.size w w0 := by rw [← hw0]; exact (Below.refl _ _).alloc (Nat.le_refl _) _
 have hb01 : Below w0.heap.size w0 w1 := by rw [← hw1]; exact (Below.refl _ _).alloc (Nat.le_refl _) _
 have s0 : w0.heap.size = w.heap.size + 1 := by rw [← hw0]; simp
 have s1 : w1.heap.size = w.heap.size + 2 := by rw [← hw1]; simp; omega
 have hb1 : Below w.heap.size w w1 := hb0.trans (hb01.mono hb0.size)
 have hB : PBox w1 w.heap.size (.slice aw P.win.length cw) (.slice am P.main.length cm) (.slice ak P.sk.rows.length ck) (.int .i64 P.sk.added) := by
  have h : PBox w0 w.heap.size (.slice aw P.win.length cw) (.slice am P.main.length cm) (.slice ak P.sk.rows.length ck) (.int .i64 P.sk.added) := by rw [← hw0]; exact PBox.new _ _ _ _ _
  exact h.on hb01
 have hR : PBox w1 (w.heap.size + 1) (.slice none 0 0) (.slice none 0 0) (.slice none 0 0) (.int .i64 0) := by rw [← hw1, ← s0]; exact PBox.new _ _ _ _ _
 have hA1 := hA.on hb1
 have HW : Hid ((w.alloc (.cells #[.slice aw P.win.length cw,.slice am P.main.length cm,.slice ak P.sk.rows.length ck,.int .i64 P.sk.added] 44)).alloc (.cells #[.slice none 0 0,.slice none 0 0,.slice none 0 0,.int .i64 0] 44) = w1) := by rw [hw0]; exact hw1
 have KS : ∀ W,Below w1.heap.size w1 W → W.cell? ⟨w.heap.size, 0,none⟩ = some (.slice aw P.win.length cw) ∧ W.cell? ⟨w.heap.size, 1,none⟩ = some (.slice am P.main.length cm) ∧ W.cell? ⟨w.heap.size, 2,none⟩ = some (.slice ak P.sk.rows.length ck) ∧ W.cell? ⟨w.heap.size, 3,none⟩ = some (.int .i64 P.sk.added) := fun W h => (hB.on h).cells
 have HC1 : Hid (∀ W,Below w1.heap.size w1 W → Calls Tryz.prog 109 #[.slice aw P.win.length cw,.string key] W fun e w' => ∃ a2 k2,e = .returned (.slice a2 (without P.win key).length k2) ∧ OwnV w' W.heap.size 9 (.slice a2 (without P.win key).length k2) (strs (without P.win key)) ∧ Below w1.heap.size w1 w') := fun W h => by
  refine (l13Without_any W aw cw P.win key (hA1.on h).1 (by omega)).mono ?_
  rintro e w' ⟨v,rfl,_,ho,hb⟩
  obtain ⟨a2,k2,rfl,_⟩ := ho.strsAt
  exact ⟨a2,k2,rfl,ho,h.trans (hb.mono h.size)⟩
 have HC2 : Hid (∀ W,Below w1.heap.size w1 W → Calls Tryz.prog 109 #[.slice am P.main.length cm,.string key] W fun e w' => ∃ a2 k2,e = .returned (.slice a2 (without P.main key).length k2) ∧ OwnV w' W.heap.size 9 (.slice a2 (without P.main key).length k2) (strs (without P.main key)) ∧ Below W.heap.size W w') := fun W h => by
  refine (l13Without_any W am cm P.main key (hA1.on h).2.1 (by omega)).mono ?_
  rintro e w' ⟨v,rfl,_,ho,hb⟩
  obtain ⟨a2,k2,rfl,_⟩ := ho.strsAt
  exact ⟨a2,k2,rfl,ho,hb⟩
 have HC3 : Hid (∀ W,Below w1.heap.size w1 W → Calls Tryz.prog 111 #[.agg #[.slice ak P.sk.rows.length ck,.int .i64 P.sk.added]] W fun e w' => ∃ a2 k2,e = .returned (.agg #[.slice a2 P.sk.rows.length k2,.int .i64 P.sk.added]) ∧ OwnSS w' W.heap.size w'.heap.size (.slice a2 P.sk.rows.length k2) P.sk.rows ∧ Below W.heap.size W w') := fun W h => by
  refine (l12Copy_any W ak ck P.sk (hA1.on h).2.2 l3).mono ?_
  rintro e w' ⟨v,rfl,⟨u,rfl,ho⟩,hb⟩
  obtain ⟨a2,k2,rfl,_⟩ := ho.at
  exact ⟨a2,k2,rfl,ho,hb⟩
 have hdr : Below w1.heap.size w1 w1.drew := ⟨rfl,rfl,rfl,Nat.le_refl _,fun _ _ => rfl⟩
 have HRB : Hid (∀ W,Below w1.heap.size w1 W → PBox W (w.heap.size + 1) (.slice none 0 0) (.slice none 0 0) (.slice none 0 0) (.int .i64 0)) := fun W h => hR.on h
 have HB1 : Hid (Below w.heap.size w w1 ∧ w1.heap.size = w.heap.size + 2) := ⟨hb1,s1⟩
 have HS5 : Hid (∀ W x y z u,Below w1.heap.size w1 W → PBox ((((W.setCell ⟨w.heap.size + 1, 0,none⟩ x).setCell ⟨w.heap.size + 1, 1,none⟩ y).setCell ⟨w.heap.size + 1, 2,none⟩ z).setCell ⟨w.heap.size + 1, 3,none⟩ u) w.heap.size (.slice aw P.win.length cw) (.slice am P.main.length cm) (.slice ak P.sk.rows.length ck) (.int .i64 P.sk.added)) := fun W x y z u h => (hB.on h).kept (put4_other W _ x y z u _ (by omega))
 obtain ⟨R1,hR1⟩ : ∃ R,(without P.win key) = R := ⟨_,rfl⟩
 obtain ⟨R2,hR2⟩ : ∃ R,(without P.main key) = R := ⟨_,rfl⟩
 rw [hR1] at HC1
 rw [hR2] at HC2
 have HRS : Hid ((dropP P key) = ⟨R1,R2,P.sk⟩) := by show _ = _; rw [← hR1, ← hR2]; rfl
 clear hR1 hR2
 clear hw0 hw1 hb0 hb01 s0 hA hA1 hB hR hb1 s1 hsz l1 l2 l3
 go_enter Tryz.func50,Tryz.ntmps50
 go_wp2
 rw [HW.out]
 clear HW
 go_region_held3 (fun W => W.cell? ⟨w.heap.size, 0,none⟩ = some (.slice aw P.win.length cw) ∧ W.cell? ⟨w.heap.size, 1,none⟩ = some (.slice am P.main.length cm) ∧ W.cell? ⟨w.heap.size, 2,none⟩ = some (.slice ak P.sk.rows.length ck) ∧ W.cell? ⟨w.heap.size, 3,none⟩ = some (.int .i64 P.sk.added)) (first | with_reducible exact KS _ hdr | with_reducible exact KS _ hC4 | with_reducible exact KS _ hC3 | with_reducible exact KS _ hC2 | with_reducible exact hS5)
  (first
   | (go_at_call 109; first
     | (with_reducible refine (HC1.out _ hdr).mono ?_; rintro e w2 ⟨a2,k2,rfl,ho2,hC2⟩)
     | (with_reducible refine (HC2.out _ hC2).mono ?_; rintro e w3 ⟨a3,k3,rfl,ho3,hb3⟩; have hC3 : Below w1.heap.size w1 w3 := hC2.trans (hb3.mono hC2.size)))
   | (go_at_call 111; with_reducible refine (HC3.out _ hC3).mono ?_; rintro e w4 ⟨a4,k4,rfl,ho4,hb4⟩; have hC4 : Below w1.heap.size w1 w4 := hC3.trans (hb4.mono hC3.size); have hR4 := HRB.out _ hC4; obtain ⟨r0,r1,r2,r3⟩ := hR4.cells; have f0 := hR4.thaw 0; have f1 := hR4.thaw 1; have f2 := hR4.thaw 2; have f3 := hR4.thaw 3; have hS5 := (HS5.out w4 (.slice a2 R1.length k2) (.slice a3 R2.length k3) (.slice a4 P.sk.rows.length k4) (.int .i64 P.sk.added) hC4).cells))
 all_goals (
  obtain ⟨hb1,s1⟩ := HB1.out
  have hR4 := HRB.out _ hC4
  have hOA : POwn w4 w.heap.size w4.heap.size (.agg #[.slice a2 R1.length k2,.slice a3 R2.length k3,.slice a4 P.sk.rows.length k4,.int .i64 P.sk.added]) ⟨R1,R2,P.sk⟩ :=
   POwn.mk3 (P := ⟨R1,R2,P.sk⟩) ((ho2.below hb3 (Nat.le_refl _)).below hb4 (Nat.le_refl _)) (ho3.below hb4 (Nat.le_refl _)) ho4 (by simp; omega) (by have := hC2.size; omega) (by have := hC3.size; omega) (fun k hk => by
    intro e
    have h1 := (ho2.lt k hk).2
    have h2 := (ho3.lt k e).1
    omega)
  have HOA : Hid _ := hOA.put4 hR4 (.slice a2 R1.length k2) (.slice a3 R2.length k3) (.slice a4 P.sk.rows.length k4) (.int .i64 P.sk.added)
  have HBF : Hid _ := Below.put4 (hb1.trans (hC4.mono (by omega))) (T := w.heap.size + 1) (by omega) (.slice a2 R1.length k2) (.slice a3 R2.length k3) (.slice a4 P.sk.rows.length k4) (.int .i64 P.sk.added)
  obtain ⟨q0,q1,q2,q3⟩ := (hR4.put (.slice a2 R1.length k2) (.slice a3 R2.length k3) (.slice a4 P.sk.rows.length k4) (.int .i64 P.sk.added)).cells
  clear hOA
  try go_wp2_with fail
  refine bodyPost_ret (v := .agg #[.slice a2 R1.length k2,.slice a3 R2.length k3,.slice a4 P.sk.rows.length k4,.int .i64 P.sk.added]) (by simp [results,Tryz.results50,go_sem,q0,q1,q2,q3]) rfl ⟨_,rfl, ?_,HBF.out⟩
  rw [HRS.out]
  refine POwn.mono HOA.out (Nat.le_refl _) ?_
  simp)
theorem quietB {P : Program} {f : FuncId} {args : Array Value} {W : World} {b : Bool} (h : ∀ w',Below W.heap.size W w' → Calls P f args w' fun e w'' => e = .returned (.bool b) ∧ Below w'.heap.size w' w'') (d : Nat) (os : Array Obj) :
  Calls P f args (grow (redrawn W d) os) fun e w'' => e = .returned (.bool b) ∧ ∃ p : Regrown,w'' = grow (redrawn W p.d) p.os := Calls.regrown_of (h _ (below_regrown W d os))
set_option maxRecDepth 100000 in
set_option maxHeartbeats 8000000 in
theorem l16Entries_any (w : World) (X : Pc) (R : Prx) (hA : PxAt w X R w.heap.size) (hsz : PxSz R) :
  Calls Tryz.prog 81 #[.agg #[.int .i64 R.now,X.e,X.w,X.m,X.k,.int .i64 R.pol.sk.added,X.f,X.c,.int .i64 R.hits]] w fun e w' => e = .returned (.bool (okP R.pol && entsOkX R.ents R.pol)) ∧ Below w.heap.size w w' := by
 obtain ⟨xe,xw,xm,xk,xf,xc⟩ := X
 obtain ⟨⟨e0,e1,he,hE⟩,⟨p0,p1,hp,hPw⟩,⟨m0,m1,hm,hPm⟩,⟨k0,k1,hk,hPk⟩,⟨f0,f1,hf,_⟩,⟨c0,c1,hc,_⟩⟩ := hA
 dsimp only at he hp hm hk hf hc ⊢
 subst he hp hm hk hf hc
 obtain ⟨hl,hps,_,_⟩ := hsz.parts
 obtain ⟨w1,hw1⟩ : ∃ x,w.alloc (.cells #[.int .i64 R.now,.slice e0 R.ents.length e1,.slice p0 R.pol.win.length p1,.slice m0 R.pol.main.length m1,.slice k0 R.pol.sk.rows.length k1,.int .i64 R.pol.sk.added,.slice f0 R.fes.length f1,.slice c0 R.cls.length c1,.int .i64 R.hits] 48) = x := ⟨_,rfl⟩
 have hb1 : Below w.heap.size w w1 := by rw [← hw1]; exact (Below.refl _ _).alloc (Nat.le_refl _) _
 have hB1 : NB w1 w.heap.size 48 (.int .i64 R.now) (.slice e0 R.ents.length e1) (.slice p0 R.pol.win.length p1) (.slice m0 R.pol.main.length m1) (.slice k0 R.pol.sk.rows.length k1) (.int .i64 R.pol.sk.added) (.slice f0 R.fes.length f1) (.slice c0 R.cls.length c1) (.int .i64 R.hits) := by rw [← hw1]; exact NB.new _ _ _ _ _ _ _ _ _ _ _
 have hE1 := hE.on hb1
 have hP1 : PolAt w1 p0 m0 k0 R.pol w1.heap.size := ⟨hPw.on hb1,hPm.on hb1,hPk.on hb1⟩
 have HW : Hid (w.alloc (.cells #[.int .i64 R.now,.slice e0 R.ents.length e1,.slice p0 R.pol.win.length p1,.slice m0 R.pol.main.length m1,.slice k0 R.pol.sk.rows.length k1,.int .i64 R.pol.sk.added,.slice f0 R.fes.length f1,.slice c0 R.cls.length c1,.int .i64 R.hits] 48) = w1) := hw1
 have HB : Hid (Below w.heap.size w w1) := hb1
 have HSZ : Hid (PolSz R.pol) := hps
 obtain ⟨L,hL⟩ : ∃ L,R.ents = L := ⟨_,rfl⟩
 obtain ⟨P,hP⟩ : ∃ P,R.pol = P := ⟨_,rfl⟩
 rw [hL] at hE1 hB1 HW hl ⊢
 rw [hP] at hP1 hB1 HW HSZ ⊢
 have HO : Hid (∀ k,k < L.length → entF L P k = false → (okP P && entsOkX L P) = false) := fun k hk h => by
  unfold entsOkX
  rw [allT_down hk h]
  simp
 have HO2 : Hid (allT (entF L P) L.length = true → (okP P && entsOkX L P) = (okP P && decide (L.length = P.win.length + P.main.length))) := fun h => by
  unfold entsOkX
  rw [h]
  simp
 generalize (okP P && entsOkX L P) = res at HO HO2 ⊢
 clear hw1 hE hPw hPm hPk hb1 hps hsz hL hP
 go_enter Tryz.func81,Tryz.ntmps81
 go_wp2_with fail
 rw [HW.out]
 go_loopw [3] (fun i wr => Box (∃ k : Nat,k ≤ L.length ∧ i = .int .i64 k ∧ allT (entF L P) k = true ∧ Below w1.heap.size w1 wr))
  (fun i _ => L.length - (intOf i).toNat)
 case atStart => exact ⟨⟨0,by omega,rfl,rfl,Below.refl _ _⟩⟩
 case round =>
  obtain ⟨k,hk,rfl,hno,hbr⟩ := hrel.out
  obtain ⟨wo,hwo⟩ : ∃ wo,wo = wr := ⟨_,rfl⟩
  subst hwo
  have HN : Hid (allT (entF L P) k = true) := hno
  have HBR : Hid (Below w.heap.size w wo) := HB.out.trans (hbr.mono HB.out.size)
  have HBR2 : Hid (Below w1.heap.size w1 wo) := hbr
  have hB := hB1.on hbr
  have hPo := (show PolAt wo p0 m0 k0 P wo.heap.size from ⟨hP1.1.on hbr,hP1.2.1.on hbr,hP1.2.2.on hbr⟩)
  have hEo := hE1.on hbr
  obtain ⟨b0,b1,b2,b3,b4,b5,b6,b7,b8⟩ := hB.cells
  clear hno hrel hbr b0 b6 b7 b8
  by_cases hlt : k < L.length
  ·obtain ⟨gg,offg,hga,_,q0,q1,q2,q3⟩ := hEo k hlt
   obtain ⟨r,hr⟩ : ∃ r,L[k] = r := ⟨_,rfl⟩
   have hgd : L.getD k zen = r := by rw [getD_of hlt,hr]
   rw [hr] at q0 q1 q2 q3
   subst hga
   have hi1 : (0 : Int) ≤ (k : Int) := by omega
   have hi3 : (k : Int) < (L.length : Int) := by omega
   have HK : Hid ((k : Int) < (L.length : Int)) := hi3
   have HV : Hid (∀ j (hj : j < L.length),wo.cell? ⟨gg,offg + j * 4,none⟩ = some (.string L[j].key)) := fun j hj => by
    obtain ⟨g',o',he,_,h,_⟩ := hEo j hj
    cases he
    exact h
   have z1 := cell_regrown b1
   have z2 := cell_regrown b2
   have z3 := cell_regrown b3
   have z4 := cell_regrown b4
   have z5 := cell_regrown b5
   have y0 := cell_regrown q0
   have y1 := cell_regrown q1
   have y2 := cell_regrown q2
   have y3 := cell_regrown q3
   have cA := quietB (W := wo) (fun w' _ => specEntryOk_any w' r.key r.bd r.st r.lf)
   have hrs : r.key.size ≤ 1048576 ∨ True := .inr trivial
   have cB := quietB (W := wo) (fun w' hb => specPolicyHas_any w' p0 m0 k0 p1 m1 k1 P r.key ⟨hPo.1.on hb,hPo.2.1.on hb,hPo.2.2.on hb⟩ (by have := HSZ.out.parts; omega) (by have := HSZ.out.parts; omega))
   have HSu : Hid (allT (entF L P) (k + 1) = (enOk r && (!(decide (0 < k) && !ltS (L.getD (k - 1) zen).key r.key) && hasP P r.key))) := by
    show _ = _
    unfold allT
    rw [HN.out,Bool.true_and]
    unfold entF
    rw [hgd]
   have HF : Hid (allT (entF L P) (k + 1) = false → res = false) := fun h => HO.out k hlt (by unfold allT at h; rw [HN.out] at h; simpa using h)
   change ∀ d os,Calls _ _ _ _ fun e w'' => e = .returned (.bool (enOk r)) ∧ _ at cA
   generalize enOk r = x1 at cA HSu
   generalize hasP P r.key = x2 at cB HSu
   clear hr hgd hEo hPo q0 q1 q2 q3 hB hrs hlt
   by_cases h0 : k = 0
   ·have hS : Hid (allT (entF L P) (k + 1) = (x1 && x2)) := by
     show _ = _
     rw [HSu.out]; simp [h0]
    have hgN : decide (0 < k) = false := decide_eq_false (by omega)
    have hgI : ¬ (0 : Int) < (k : Int) := by omega
    clear HSu h0
    go_wp2_with fail
    refine wp_region_quiet_below (by kernel_rfl) (by kernel_rfl) ?_
    repeat (first | go_big_quiet_step (first | with_reducible exact cA _ _ | with_reducible exact cB _ _) | quiet_step (first | with_reducible exact cA _ _ | with_reducible exact cB _ _))
    cases x1 with
    | false =>
     simp only [Bool.not_false]
     repeat (first | go_big_quiet_step (first | with_reducible exact cA _ _ | with_reducible exact cB _ _) | quiet_step (first | with_reducible exact cA _ _ | with_reducible exact cB _ _))
     refine wpQuiet_nil ?_
     intro _ hw'
     obtain ⟨⟨dq,osq⟩,hw''⟩ := hw'
     subst hw''
     have HPO : Hid (allT (entF L P) (k + 1) = false) := by show _ = _; rw [hS.out]; simp
     go_wp2_with fail
     go_ret
     exact ⟨by rw [HF.out HPO.out]; rfl,HBR.out.trans ((below_regrown wo dq osq).mono HBR.out.size)⟩
    | true =>
     simp only [Bool.not_true]
     repeat (first | go_big_quiet_step (first | with_reducible exact cA _ _ | with_reducible exact cB _ _) | quiet_step (first | with_reducible exact cA _ _ | with_reducible exact cB _ _))
     cases x2 with
     | false =>
      simp only [Bool.not_false]
      repeat (first | go_big_quiet_step (first | with_reducible exact cA _ _ | with_reducible exact cB _ _) | quiet_step (first | with_reducible exact cA _ _ | with_reducible exact cB _ _))
      refine wpQuiet_nil ?_
      intro _ hw'
      obtain ⟨⟨dq,osq⟩,hw''⟩ := hw'
      subst hw''
      have HPO : Hid (allT (entF L P) (k + 1) = false) := by show _ = _; rw [hS.out]; simp
      go_wp2_with fail
      go_ret
      exact ⟨by rw [HF.out HPO.out]; rfl,HBR.out.trans ((below_regrown wo dq osq).mono HBR.out.size)⟩
     | true =>
      simp only [Bool.not_true]
      repeat (first | go_big_quiet_step (first | with_reducible exact cA _ _ | with_reducible exact cB _ _) | quiet_step (first | with_reducible exact cA _ _ | with_reducible exact cB _ _))
      refine wpQuiet_nil ?_
      intro _ hw'
      obtain ⟨⟨dq,osq⟩,hw''⟩ := hw'
      subst hw''
      have HPO : Hid (allT (entF L P) (k + 1) = true) := by show _ = _; rw [hS.out]; simp
      go_wp2_with fail
      go_roundw
      case rel =>
       try ((repeat apply Exists.intro); refine ⟨?_,rfl⟩)
       exact ⟨⟨k + 1,by have := HK.out; omega,by go_num,HPO.out,HBR2.out.trans ((below_regrown wo dq osq).mono HBR2.out.size)⟩⟩
      case measure => have := HK.out; simp [intOf]; omega
   ·obtain ⟨j,hkj⟩ : ∃ j,k = j + 1 := ⟨k - 1,by omega⟩
    have z6 := cell_regrown (HV.out j (by have := HK.out; omega))
    obtain ⟨x,hx⟩ : ∃ x,(L[j]'(by have := HK.out; omega)).key = x := ⟨_,rfl⟩
    have hxd : (L.getD (k - 1) zen).key = x := by rw [show k - 1 = j by omega,getD_of (show j < L.length by have := HK.out; omega),hx]
    obtain ⟨x3,hx3⟩ : ∃ b,Op.bytesLess x.toList r.key.toList = b := ⟨_,rfl⟩
    have hS : Hid (allT (entF L P) (k + 1) = (x1 && (x3 && x2))) := by
     show _ = _
     rw [HSu.out,hxd,show decide (0 < k) = true from decide_eq_true (by omega), ← hx3]
     simp [ltS]
    rw [hx] at z6
    have hgN : decide (0 < k) = true := decide_eq_true (by omega)
    have hgI : (0 : Int) < (k : Int) := by omega
    have hjj : (k : Int) - 1 = (j : Int) := by omega
    have hj0 : (0 : Int) ≤ (j : Int) := by omega
    have hj1 : (j : Int) < (L.length : Int) := by omega
    clear HSu h0 hx hxd hkj
    go_wp2_with fail
    refine wp_region_quiet_below (by kernel_rfl) (by kernel_rfl) ?_
    repeat (first | go_big_quiet_step (first | with_reducible exact cA _ _ | with_reducible exact cB _ _) | quiet_step (first | with_reducible exact cA _ _ | with_reducible exact cB _ _))
    cases x1 with
    | false =>
     simp only [Bool.not_false]
     repeat (first | go_big_quiet_step (first | with_reducible exact cA _ _ | with_reducible exact cB _ _) | quiet_step (first | with_reducible exact cA _ _ | with_reducible exact cB _ _))
     refine wpQuiet_nil ?_
     intro _ hw'
     obtain ⟨⟨dq,osq⟩,hw''⟩ := hw'
     subst hw''
     have HPO : Hid (allT (entF L P) (k + 1) = false) := by show _ = _; rw [hS.out]; simp
     go_wp2_with fail
     go_ret
     exact ⟨by rw [HF.out HPO.out]; rfl,HBR.out.trans ((below_regrown wo dq osq).mono HBR.out.size)⟩
    | true =>
     simp only [Bool.not_true]
     repeat (first | go_big_quiet_step (first | with_reducible exact cA _ _ | with_reducible exact cB _ _) | quiet_step (first | with_reducible exact cA _ _ | with_reducible exact cB _ _))
     cases x3 with
     | false =>
      simp only [Bool.not_false]
      repeat (first | go_big_quiet_step (first | with_reducible exact cA _ _ | with_reducible exact cB _ _) | quiet_step (first | with_reducible exact cA _ _ | with_reducible exact cB _ _))
      refine wpQuiet_nil ?_
      intro _ hw'
      obtain ⟨⟨dq,osq⟩,hw''⟩ := hw'
      subst hw''
      have HPO : Hid (allT (entF L P) (k + 1) = false) := by show _ = _; rw [hS.out]; simp
      go_wp2_with fail
      go_ret
      exact ⟨by rw [HF.out HPO.out]; rfl,HBR.out.trans ((below_regrown wo dq osq).mono HBR.out.size)⟩
     | true =>
      simp only [Bool.not_true]
      repeat (first | go_big_quiet_step (first | with_reducible exact cA _ _ | with_reducible exact cB _ _) | quiet_step (first | with_reducible exact cA _ _ | with_reducible exact cB _ _))
      cases x2 with
      | false =>
       simp only [Bool.not_false]
       repeat (first | go_big_quiet_step (first | with_reducible exact cA _ _ | with_reducible exact cB _ _) | quiet_step (first | with_reducible exact cA _ _ | with_reducible exact cB _ _))
       refine wpQuiet_nil ?_
       intro _ hw'
       obtain ⟨⟨dq,osq⟩,hw''⟩ := hw'
       subst hw''
       have HPO : Hid (allT (entF L P) (k + 1) = false) := by show _ = _; rw [hS.out]; simp
       go_wp2_with fail
       go_ret
       exact ⟨by rw [HF.out HPO.out]; rfl,HBR.out.trans ((below_regrown wo dq osq).mono HBR.out.size)⟩
      | true =>
       simp only [Bool.not_true]
       repeat (first | go_big_quiet_step (first | with_reducible exact cA _ _ | with_reducible exact cB _ _) | quiet_step (first | with_reducible exact cA _ _ | with_reducible exact cB _ _))
       refine wpQuiet_nil ?_
       intro _ hw'
       obtain ⟨⟨dq,osq⟩,hw''⟩ := hw'
       subst hw''
       have HPO : Hid (allT (entF L P) (k + 1) = true) := by show _ = _; rw [hS.out]; simp
       go_wp2_with fail
       go_roundw
       case rel =>
        try ((repeat apply Exists.intro); refine ⟨?_,rfl⟩)
        exact ⟨⟨k + 1,by have := HK.out; omega,by go_num,HPO.out,HBR2.out.trans ((below_regrown wo dq osq).mono HBR2.out.size)⟩⟩
       case measure => have := HK.out; simp [intOf]; omega
  ·have hi3 : ¬ (k : Int) < (L.length : Int) := by omega
   have cO := specPolicyOk_sz wo p0 m0 k0 p1 m1 k1 P hPo HSZ.out
   have HT : Hid (res = (okP P && decide (L.length = P.win.length + P.main.length))) := HO2.out (by rw [show L.length = k by omega]; exact HN.out)
   have HBN : Hid (NB wo w.heap.size 48 (.int .i64 R.now) (.slice e0 L.length e1) (.slice p0 P.win.length p1) (.slice m0 P.main.length m1) (.slice k0 P.sk.rows.length k1) (.int .i64 P.sk.added) (.slice f0 R.fes.length f1) (.slice c0 R.cls.length c1) (.int .i64 R.hits)) := hB
   clear hEo hPo hB
   generalize okP P = q at cO HT
   go_wp2_with fail
   refine cO.mono ?_
   rintro e w2 ⟨rfl,hb2⟩
   have HB2 : Hid (Below w.heap.size w w2) := HBR.out.trans (hb2.mono HBR.out.size)
   obtain ⟨d0,d1,d2,d3,d4,d5,d6,d7,d8⟩ := (HBN.out.on hb2).cells
   clear cO hb2 b1 b2 b3 b4 b5
   cases q with
   | false =>
    go_wp2_with fail
    go_ret
    exact ⟨by rw [HT.out]; rfl,HB2.out⟩
   | true =>
    obtain ⟨l1,l2,_⟩ := HSZ.out.parts
    by_cases hq : L.length = P.win.length + P.main.length
    ·have HT2 : Hid (res = true) := by show _ = _; rw [HT.out]; simp [hq]
     have hq' : ((L.length : Int) == (P.win.length : Int) + (P.main.length : Int)) = true := by simp; omega
     clear HT hq
     go_wp2_with fail
     go_ret
     exact ⟨by rw [HT2.out]; rfl,HB2.out⟩
    ·have HT2 : Hid (res = false) := by show _ = _; rw [HT.out]; simp [hq]
     have hq' : ((L.length : Int) == (P.win.length : Int) + (P.main.length : Int)) = false := by simp; omega
     clear HT hq
     go_wp2_with fail
     go_ret
     exact ⟨by rw [HT2.out]; rfl,HB2.out⟩
set_option maxRecDepth 100000 in
set_option maxHeartbeats 8000000 in
theorem l16Fetch_any (w : World) (X : Pc) (R : Prx) (k : Nat) (hk : k < R.fes.length) (hA : PxAt w X R w.heap.size) (hsz : PxSz R) :
  Calls Tryz.prog 82 #[.agg #[.int .i64 R.now,X.e,X.w,X.m,X.k,.int .i64 R.pol.sk.added,X.f,X.c,.int .i64 R.hits],.int .i64 (k : Int)] w fun e w' => e = .returned (.bool (fetF R.now R.fes k)) ∧ Below w.heap.size w w' := by
 obtain ⟨xe,xw,xm,xk,xf,xc⟩ := X
 obtain ⟨⟨e0,e1,he,_⟩,⟨p0,p1,hp,_⟩,⟨m0,m1,hm,_⟩,⟨k0,k1,hk',_⟩,⟨f0,f1,hf,hF⟩,⟨c0,c1,hc,_⟩⟩ := hA
 dsimp only at he hp hm hk' hf hc ⊢
 subst he hp hm hk' hf hc
 obtain ⟨_,_,hl,_⟩ := hsz.parts
 obtain ⟨L,hL⟩ : ∃ L,R.fes = L := ⟨_,rfl⟩
 rw [hL] at hF hk hl ⊢
 obtain ⟨f,hf⟩ : ∃ f,L[k] = f := ⟨_,rfl⟩
 obtain ⟨w1,hw1⟩ : ∃ x,w.alloc (.cells #[.int .i64 R.now,.slice e0 R.ents.length e1,.slice p0 R.pol.win.length p1,.slice m0 R.pol.main.length m1,.slice k0 R.pol.sk.rows.length k1,.int .i64 R.pol.sk.added,.slice f0 L.length f1,.slice c0 R.cls.length c1,.int .i64 R.hits] 48) = x := ⟨_,rfl⟩
 have hb1 : Below w.heap.size w w1 := by rw [← hw1]; exact (Below.refl _ _).alloc (Nat.le_refl _) _
 have hB1 : NB w1 w.heap.size 48 (.int .i64 R.now) (.slice e0 R.ents.length e1) (.slice p0 R.pol.win.length p1) (.slice m0 R.pol.main.length m1) (.slice k0 R.pol.sk.rows.length k1) (.int .i64 R.pol.sk.added) (.slice f0 L.length f1) (.slice c0 R.cls.length c1) (.int .i64 R.hits) := by rw [← hw1]; exact NB.new _ _ _ _ _ _ _ _ _ _ _
 obtain ⟨w2,hw2⟩ : ∃ x,w1.alloc (.cells #[.string f.key,.string f.tx,.int .i64 f.st,.int .i64 f.lf,.int .i64 f.sto] 94) = x := ⟨_,rfl⟩
 have hb2 : Below w1.heap.size w1 w2 := by rw [← hw2]; exact (Below.refl _ _).alloc (Nat.le_refl _) _
 have hB2 := hB1.on hb2
 have hFB : w2.heap[w1.heap.size]? = some (.cells #[.string f.key,.string f.tx,.int .i64 f.st,.int .i64 f.lf,.int .i64 f.sto] 94 (0, 0)) := by rw [← hw2]; exact heap_alloc_new _ _
 have HFA : Hid (FetAt w2 f0 L w2.heap.size) := (hF.on hb1).on hb2
 have HB2 : Hid (Below w.heap.size w w2) := hb1.trans (hb2.mono hb1.size)
 have HW : Hid ((w.alloc (.cells #[.int .i64 R.now,.slice e0 R.ents.length e1,.slice p0 R.pol.win.length p1,.slice m0 R.pol.main.length m1,.slice k0 R.pol.sk.rows.length k1,.int .i64 R.pol.sk.added,.slice f0 L.length f1,.slice c0 R.cls.length c1,.int .i64 R.hits] 48)).alloc (.cells #[.string f.key,.string f.tx,.int .i64 f.st,.int .i64 f.lf,.int .i64 f.sto] 94) = w2) := by show _ = _; rw [hw1]; exact hw2
 have HBX : Hid (NB w2 w.heap.size 48 (.int .i64 R.now) (.slice e0 R.ents.length e1) (.slice p0 R.pol.win.length p1) (.slice m0 R.pol.main.length m1) (.slice k0 R.pol.sk.rows.length k1) (.int .i64 R.pol.sk.added) (.slice f0 L.length f1) (.slice c0 R.cls.length c1) (.int .i64 R.hits)) := hB2
 have hE1 := hF.on hb1
 obtain ⟨gk,ok,hgk,_,q0,q1,q2,q3,q4⟩ := hE1 k hk
 rw [hf] at q0 q1 q2 q3 q4
 subst hgk
 obtain ⟨b0,b1,b2,b3,b4,b5,b6,b7,b8⟩ := hB1.cells
 rw [← hw1] at b6 q0 q1 q2 q3 q4
 obtain ⟨d0,d1,d2,d3,d4,d5,d6,d7,d8⟩ := hB2.cells
 have g0 : w2.cell? ⟨w1.heap.size, 0,none⟩ = some (.string f.key) := by rw [cell_of_row w2 w1.heap.size 0 _ _ (0, 0) hFB]; rfl
 have g1 : w2.cell? ⟨w1.heap.size, 1,none⟩ = some (.string f.tx) := by rw [cell_of_row w2 w1.heap.size 1 _ _ (0, 0) hFB]; rfl
 have g2 : w2.cell? ⟨w1.heap.size, 2,none⟩ = some (.int .i64 f.st) := by rw [cell_of_row w2 w1.heap.size 2 _ _ (0, 0) hFB]; rfl
 have g3 : w2.cell? ⟨w1.heap.size, 3,none⟩ = some (.int .i64 f.lf) := by rw [cell_of_row w2 w1.heap.size 3 _ _ (0, 0) hFB]; rfl
 have g4 : w2.cell? ⟨w1.heap.size, 4,none⟩ = some (.int .i64 f.sto) := by rw [cell_of_row w2 w1.heap.size 4 _ _ (0, 0) hFB]; rfl
 have HS1 : Hid (w1.heap.size = w.heap.size + 1) := by show _ = _; rw [← hw1]; simp
 have cK1 := l13KeyE_any w2 f.key
 have cK3 := l01In_any f.st 1 3 w2
 have cK4 := l01In_any f.lf 0 999999 w2
 have cK5 := l01In_any f.sto 0 R.now w2
 obtain ⟨res,hres⟩ : ∃ r,fetF R.now L k = r := ⟨_,rfl⟩
 have HE : Hid (res = ((enKey f.key && (decide (f.tx.size ≤ 400) && (inB f.st 1 3 && (inB f.lf 0 999999 && inB f.sto 0 R.now)))) && !((f.st == 1) && (L.take k).any (openP f.key)))) := by
  show _ = _
  rw [← hres]
  unfold fetF
  rw [getD_of hk,hf]
 rw [hres]
 generalize enKey f.key = x1 at cK1 HE
 generalize inB f.st 1 3 = x3 at cK3 HE
 generalize inB f.lf 0 999999 = x4 at cK4 HE
 generalize inB f.sto 0 R.now = x5 at cK5 HE
 have hi1 : (0 : Int) ≤ (k : Int) := by omega
 have hi3 : (k : Int) < (L.length : Int) := by omega
 have hkn : Hid (k < L.length) := hk
 rw [HS1.out] at g0 g1 g2 g3 g4 hFB
 have HFX : Hid (w2.heap[w.heap.size + 1]? = some (.cells #[.string f.key,.string f.tx,.int .i64 f.st,.int .i64 f.lf,.int .i64 f.sto] 94 (0, 0))) := hFB
 clear hw1 hw2 hB1 hB2 hFB hE1 hF hf hb1 hb2 hk hL hsz hres b0 b1 b2 b3 b4 b5 b7 b8
 go_enter Tryz.func82,Tryz.ntmps82
 go_wp2_with fail
 rw [HW.out]
 refine cK1.mono ?_
 rintro e w' ⟨rfl,rfl⟩
 cases x1 with
 | false =>
  have HR : Hid (res = false) := by show _ = _; rw [HE.out]; simp
  go_wp2_with fail
  go_ret
  exact ⟨by rw [HR.out]; rfl,HB2.out⟩
 | true =>
  by_cases h2 : f.tx.size ≤ 400
  case neg =>
   have h2' : (400 : Int) < (f.tx.size : Int) := by omega
   have HR : Hid (res = false) := by show _ = _; rw [HE.out,decide_eq_false h2]; simp
   clear h2
   go_wp2_with fail
   go_ret
   exact ⟨by rw [HR.out]; rfl,HB2.out⟩
  have h2' : ¬ (400 : Int) < (f.tx.size : Int) := by omega
  rw [decide_eq_true h2] at HE
  clear h2
  go_wp2_with fail
  refine cK3.mono ?_
  rintro e w' ⟨rfl,rfl⟩
  cases x3 with
  | false =>
   have HR : Hid (res = false) := by show _ = _; rw [HE.out]; simp
   go_wp2_with fail
   go_ret
   exact ⟨by rw [HR.out]; rfl,HB2.out⟩
  | true =>
   go_wp2_with fail
   refine cK4.mono ?_
   rintro e w' ⟨rfl,rfl⟩
   cases x4 with
   | false =>
    have HR : Hid (res = false) := by show _ = _; rw [HE.out]; simp
    go_wp2_with fail
    go_ret
    exact ⟨by rw [HR.out]; rfl,HB2.out⟩
   | true =>
    go_wp2_with fail
    refine cK5.mono ?_
    rintro e w' ⟨rfl,rfl⟩
    cases x5 with
    | false =>
     have HR : Hid (res = false) := by show _ = _; rw [HE.out]; simp
     go_wp2_with fail
     go_ret
     exact ⟨by rw [HR.out]; rfl,HB2.out⟩
    | true =>
     go_wp2_with fail
     go_loopw [6] (fun i wr => Box (∃ n : Nat,n ≤ k ∧ i = .int .i64 n ∧ (f.st = 1 → (L.take n).any (openP f.key) = false) ∧ Below w2.heap.size w2 wr))
      (fun i _ => k - (intOf i).toNat)
     case atStart => exact ⟨⟨0,by omega,rfl,fun _ => rfl,Below.refl _ _⟩⟩
     case round =>
      obtain ⟨n,hn,rfl,hno,hbr⟩ := hrel.out
      obtain ⟨wo,hwo⟩ : ∃ wo,wo = wr := ⟨_,rfl⟩
      subst hwo
      have HBR : Hid (Below w2.heap.size w2 wo) := hbr
      have HBO : Hid (Below w.heap.size w wo) := HB2.out.trans (hbr.mono HB2.out.size)
      have z6 := cell_regrown (HBX.out.on hbr).cells.2.2.2.2.2.2.1
      have hFB := (hbr.block _ (Array.getElem?_eq_some_iff.1 HFX.out).1).trans HFX.out
      have z0 := cell_regrown (show wo.cell? ⟨w.heap.size + 1, 0,none⟩ = some (.string f.key) by rw [cell_of_row wo (w.heap.size + 1) 0 _ _ (0, 0) hFB]; rfl)
      have z2 := cell_regrown (show wo.cell? ⟨w.heap.size + 1, 2,none⟩ = some (.int .i64 f.st) by rw [cell_of_row wo (w.heap.size + 1) 2 _ _ (0, 0) hFB]; rfl)
      clear hFB
      have HN : Hid (f.st = 1 → (L.take n).any (openP f.key) = false) := hno
      clear hrel hno hbr
      by_cases hlt : n < k
      ·have hnl : n < L.length := Nat.lt_trans hlt hkn.out
       obtain ⟨gg,offg,hga,_,q0,q1,q2,q3,q4⟩ := (HFA.out.on HBR.out) n hnl
       obtain ⟨g,hg⟩ : ∃ g,L[n] = g := ⟨_,rfl⟩
       rw [hg] at q0 q1 q2 q3 q4
       cases hga
       have y0 := cell_regrown q0
       have y2 := cell_regrown q2
       clear q0 q1 q2 q3 q4
       have hi1 : (0 : Int) ≤ (n : Int) := by omega
       have hi3 : (n : Int) < (L.length : Int) := by omega
       have hi4 : (n : Int) < (k : Int) := by omega
       have HK : Hid (n < k) := hlt
       have HS : Hid ((L.take (n + 1)).any (openP f.key) = ((L.take n).any (openP f.key) || openP f.key g)) := by
        show _ = _
        rw [List.take_succ_eq_append_getElem hnl,hg,List.any_append]
        simp
       clear hg hnl hlt
       cases he : (g.key.toList == f.key.toList) with
       | false =>
        have HP : Hid (openP f.key g = false) := by show _ = _; unfold openP eqS; rw [he]; rfl
        go_wp2_with fail
        refine wp_region_quiet_below (by kernel_rfl) (by kernel_rfl) ?_
        repeat (first | go_big_quiet_step (fail) | quiet_step (fail))
        refine wpQuiet_nil ?_
        intro _ hw'
        obtain ⟨⟨dq,osq⟩,hw''⟩ := hw'
        subst hw''
        go_wp2_with fail
        go_roundw
        case rel =>
         try ((repeat apply Exists.intro); refine ⟨?_,rfl⟩)
         exact ⟨⟨n + 1,by have := HK.out; omega,by go_num,fun h => by rw [HS.out,HN.out h,HP.out]; rfl,HBR.out.trans ((below_regrown wo dq osq).mono HBR.out.size)⟩⟩
        case measure => have := HK.out; simp [intOf]; omega
       | true =>
        by_cases h1 : g.st = 1
        ·have hs1 : (g.st == 1) = true := by simp [h1]
         by_cases h3 : f.st = 1
         ·have hs3 : (f.st == 1) = true := by simp [h3]
          have HP : Hid (openP f.key g = true) := by show _ = _; unfold openP eqS; rw [he,hs1]; rfl
          have HQ : Hid ((L.take k).any (openP f.key) = true) := by
           show _ = _
           rw [List.any_eq_true]
           have hnl : n < L.length := Nat.lt_trans HK.out hkn.out
           have h := HS.out
           rw [HP.out,Bool.or_true,List.any_eq_true] at h
           obtain ⟨y,hy,hp⟩ := h
           refine ⟨y, ?_,hp⟩
           rw [List.mem_take_iff_getElem] at hy ⊢
           obtain ⟨i,hi,e⟩ := hy
           exact ⟨i,by have := HK.out; omega,e⟩
          have HR : Hid (res = false) := by show _ = _; rw [HE.out,HQ.out,hs3]; simp
          clear h1 h3
          go_wp2_with fail
          refine wp_region_quiet_below (by kernel_rfl) (by kernel_rfl) ?_
          repeat (first | go_big_quiet_step (fail) | quiet_step (fail))
          refine wpQuiet_nil ?_
          intro _ hw'
          obtain ⟨⟨dq,osq⟩,hw''⟩ := hw'
          subst hw''
          go_wp2_with fail
          go_ret
          exact ⟨by rw [HR.out]; rfl,HBO.out.trans ((below_regrown wo dq osq).mono HBO.out.size)⟩
         ·have hs3 : (f.st == 1) = false := by simp [h3]
          have HP : Hid (¬ f.st = 1) := h3
          clear h1 h3
          go_wp2_with fail
          refine wp_region_quiet_below (by kernel_rfl) (by kernel_rfl) ?_
          repeat (first | go_big_quiet_step (fail) | quiet_step (fail))
          refine wpQuiet_nil ?_
          intro _ hw'
          obtain ⟨⟨dq,osq⟩,hw''⟩ := hw'
          subst hw''
          go_wp2_with fail
          go_roundw
          case rel =>
           try ((repeat apply Exists.intro); refine ⟨?_,rfl⟩)
           exact ⟨⟨n + 1,by have := HK.out; omega,by go_num,fun h => absurd h HP.out,HBR.out.trans ((below_regrown wo dq osq).mono HBR.out.size)⟩⟩
          case measure => have := HK.out; simp [intOf]; omega
        ·have hs1 : (g.st == 1) = false := by simp [h1]
         have HP : Hid (openP f.key g = false) := by show _ = _; unfold openP eqS; rw [hs1,Bool.and_false]
         clear h1
         go_wp2_with fail
         refine wp_region_quiet_below (by kernel_rfl) (by kernel_rfl) ?_
         repeat (first | go_big_quiet_step (fail) | quiet_step (fail))
         refine wpQuiet_nil ?_
         intro _ hw'
         obtain ⟨⟨dq,osq⟩,hw''⟩ := hw'
         subst hw''
         go_wp2_with fail
         go_roundw
         case rel =>
          try ((repeat apply Exists.intro); refine ⟨?_,rfl⟩)
          exact ⟨⟨n + 1,by have := HK.out; omega,by go_num,fun h => by rw [HS.out,HN.out h,HP.out]; rfl,HBR.out.trans ((below_regrown wo dq osq).mono HBR.out.size)⟩⟩
         case measure => have := HK.out; simp [intOf]; omega
      ·have hi4 : ¬ (n : Int) < (k : Int) := by omega
       have HR : Hid (res = true) := by
        show _ = _
        rw [HE.out]
        by_cases h3 : f.st = 1
        ·rw [show k = n by omega,HN.out h3]; simp
        ·simp [h3]
       clear hlt hn
       go_wp2_with fail
       go_ret
       exact ⟨by rw [HR.out]; rfl,HBO.out⟩
end Go.Proofs.YtpgcfgbhkodmeaaGreatDoor
