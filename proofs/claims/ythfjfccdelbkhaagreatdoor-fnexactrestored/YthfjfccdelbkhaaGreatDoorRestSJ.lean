/- Texts that stand in one: RestS, RestoredWalk, EnOf, EnsOf. -/
import Derived.Test.YthfjfccdelbkhaaGreatDoorSkNewImplJ
import Derived.Test.YthfjfccdelbkhaaGreatDoorRet9XJ
import Derived.Test.YthfjfccdelbkhaaGreatDoorSpecStore
import Derived.Deep.RegionHeld3
import Derived.Test.YthfjfccdelbkhaaGreatDoorPrxMark
import Derived.Test.YthfjfccdelbkhaaGreatDoorEnsMarkJ
import Derived.Test.YthfjfccdelbkhaaGreatDoorRestIJ
import Derived.Test.YthfjfccdelbkhaaGreatDoorReadPlainJ
import Derived.WalkKit
import Derived.ProofKit
import Derived.OpenShut
import Derived.ChangeOld
import Derived.Below
import Derived.Deep.Slices
import Derived.Deep.Strs
import Derived.Lib.SmallJoins
import Derived.Test.YthfjfccdelbkhaaGreatDoorFilesJ
import Derived.Deep.MidRow
namespace Go.Proofs.YthfjfccdelbkhaaGreatDoor
open Go.RowKit Go.Sort
theorem filterR_on {L : List En} {p : En → Bool} {k : Nat} (hk : k < L.length) {x : En} (hx : L[k] = x) (hp : p x = true) : (L.take (k + 1)).filter p = (L.take k).filter p ++ [x] := by
 rw [List.take_succ_eq_append_getElem hk,List.filter_append,hx]; simp [hp]
theorem filterR_off {L : List En} {p : En → Bool} {k : Nat} (hk : k < L.length) {x : En} (hx : L[k] = x) (hp : p x = false) : (L.take (k + 1)).filter p = (L.take k).filter p := by
 rw [List.take_succ_eq_append_getElem hk,List.filter_append,hx]; simp [hp]
set_option maxRecDepth 100000 in
set_option maxHeartbeats 8000000 in
theorem specRestored_any (w : World) (a : Option Addr) (c : Nat) (L : List En) (now : Int) (hL : NAt w a L w.heap.size) (hm : L.length ≤ 1048576) :
  Calls Tryz.prog 5 #[.int .i64 now,.slice a L.length c] w fun e' w' => ∃ Y : Pc,e' = .returned (.agg #[.int .i64 (restR now L).now,Y.e,Y.w,Y.m,Y.k,.int .i64 (restR now L).pol.sk.added,Y.f,Y.c,.int .i64 (restR now L).hits]) ∧ PxOwn w' w.heap.size w'.heap.size Y (restR now L) ∧ Below w.heap.size w w' := by
 obtain ⟨A,hA⟩ : ∃ A,w.heap.size = A := ⟨_,rfl⟩
 obtain ⟨w1,hw1⟩ : ∃ x,w.alloc (.cells #[.int .i64 0,.slice none 0 0,.slice none 0 0,.slice none 0 0,.slice none 0 0,.int .i64 0,.slice none 0 0,.slice none 0 0,.int .i64 0] 34) = x := ⟨_,rfl⟩
 have hb1 : Below w.heap.size w w1 := by rw [← hw1]; exact (Below.refl _ _).alloc (Nat.le_refl _) _
 have hs1 : w1.heap.size = A + 1 := by rw [← hw1, ← hA]; simp
 have hRB0 : NB w1 A 34 (.int .i64 0) (.slice none 0 0) (.slice none 0 0) (.slice none 0 0) (.slice none 0 0) (.int .i64 0) (.slice none 0 0) (.slice none 0 0) (.int .i64 0) := by rw [← hw1, ← hA]; exact NB.new _ _ _ _ _ _ _ _ _ _ _
 have HRB : Hid (NB w1 A 34 (.int .i64 0) (.slice none 0 0) (.slice none 0 0) (.slice none 0 0) (.slice none 0 0) (.int .i64 0) (.slice none 0 0) (.slice none 0 0) (.int .i64 0)) := hRB0
 have HBA : Hid (Below A w w1) := by show Below _ _ _; rw [← hA]; exact hb1
 have HA1 : Hid (A ≤ w1.heap.size) := by show _ ≤ _; omega
 have HLL : Hid (NAt w1 a L w1.heap.size ∧ L.length ≤ 1048576) := ⟨hL.on hb1,hm⟩
 have HW : Hid (w.alloc (.cells #[.int .i64 0,.slice none 0 0,.slice none 0 0,.slice none 0 0,.slice none 0 0,.int .i64 0,.slice none 0 0,.slice none 0 0,.int .i64 0] 34) = w1) := hw1
 have c1 := specProxyNew_any w1
 rw [hA]
 clear hw1 hb1 hRB0 hL hm hs1
 go_enter Tryz.func5,Tryz.ntmps5
 go_wp2_with fail
 rw [HW.out]
 try rw [hA]
 refine c1.mono ?_
 rintro e' w2 ⟨X,he,ho2,hb2⟩
 obtain ⟨e0,e1,xw0,xw1,xm0,xm1,xk0,xk1,xf0,xf1,xc0,xc1,rfl⟩ := ho2.slices
 dsimp only at he
 subst he
 obtain ⟨T,hT⟩ : ∃ T,w2.heap.size = T := ⟨_,rfl⟩
 obtain ⟨w4,hw4⟩ : ∃ x,w2.alloc (.cells #[.int .i64 now,.slice e0 newR.ents.length e1,.slice xw0 newR.pol.win.length xw1,.slice xm0 newR.pol.main.length xm1,.slice xk0 newR.pol.sk.rows.length xk1,.int .i64 newR.pol.sk.added,.slice xf0 newR.fes.length xf1,.slice xc0 newR.cls.length xc1,.int .i64 newR.hits] 34) = x := ⟨_,rfl⟩
 have hb3 : Below w2.heap.size w2 w4 := by rw [← hw4]; exact (Below.refl _ _).alloc (Nat.le_refl _) _
 have HH4 : Hid (PvAt w4 w1.heap.size T ⟨.slice e0 newR.ents.length e1,.slice xw0 newR.pol.win.length xw1,.slice xm0 newR.pol.main.length xm1,.slice xk0 newR.pol.sk.rows.length xk1,.slice xf0 newR.fes.length xf1,.slice xc0 newR.cls.length xc1⟩ (restZ now)) := by
  have h := (ho2.below hb3 (Nat.le_refl _)).up
  refine ⟨?_,⟨h.e,h.p,h.f,h.c,h.eh,h.fh,h.ch⟩,by rw [← hT]; exact hb2.size⟩
  rw [← hw4, ← hT]
  exact NB.new _ _ _ _ _ _ _ _ _ _ _
 have HB4 : Hid (Below w1.heap.size w1 w4) := hb2.trans (hb3.mono hb2.size)
 have HW4 : Hid (w2.alloc (.cells #[.int .i64 now,.slice e0 newR.ents.length e1,.slice xw0 newR.pol.win.length xw1,.slice xm0 newR.pol.main.length xm1,.slice xk0 newR.pol.sk.rows.length xk1,.int .i64 newR.pol.sk.added,.slice xf0 newR.fes.length xf1,.slice xc0 newR.cls.length xc1,.int .i64 newR.hits] 34) = w4) := hw4
 clear c1 hw4 hb3 ho2 hb2
 go_upto_region 3 with fail
 rw [HW4.out]
 try rw [hT]
 clear HW4
 go_wp2_with fail
 go_loopw [6] (fun i wr => Box (∃ (k : Nat) (X : Pc),k ≤ L.length ∧ i = .int .i64 k ∧ PvAt wr w1.heap.size T X (restL now ((L.take k).filter fun x => enFresh x now)) ∧ Below w1.heap.size w1 wr))
  (fun i _ => L.length - (intOf i).toNat)
 case atStart => exact ⟨⟨0,_,by omega,rfl,HH4.out,HB4.out⟩⟩
 case round =>
  obtain ⟨k,X,hk,rfl,hH,hbA⟩ := hrel.out
  by_cases hlt : k < L.length
  ·obtain ⟨g,off,hga,hg,hc0,hc1,hc2,hc3⟩ := HLL.out.1.on hbA k hlt
   obtain ⟨x,hx⟩ : ∃ x,L[k] = x := ⟨_,rfl⟩
   rw [hx] at hc0 hc1 hc2 hc3
   have hi1 : (0 : Int) ≤ (k : Int) := by omega
   have hi2 : (k : Int) < (L.length : Int) := by omega
   have HK : Hid (k < L.length) := hlt
   have HX : Hid (L[k] = x) := hx
   have hfl := HLL.out.2
   subst hga
   obtain ⟨wo,hwo⟩ : ∃ wo,wo = wr := ⟨_,rfl⟩
   subst hwo
   have HHo : Hid (PvAt wo w1.heap.size T X (restL now ((L.take k).filter fun x => enFresh x now)) ∧ Below w1.heap.size w1 wo) := ⟨hH,hbA⟩
   have KR : ∀ W,Below w1.heap.size w1 W → W.cell? ⟨g,off + k * 4,none⟩ = some (.string x.key) ∧ W.cell? ⟨g,off + k * 4 + 1,none⟩ = some (.int .i64 x.st) ∧ W.cell? ⟨g,off + k * 4 + 2,none⟩ = some (.int .i64 x.lf) ∧ W.cell? ⟨g,off + k * 4 + 3,none⟩ = some (.string x.bd) := fun W h => by
    obtain ⟨g',off',hga',_,d0,d1,d2,d3⟩ := HLL.out.1.on h k HK.out
    simp only [Option.some.injEq,Addr.mk.injEq,and_true] at hga'
    obtain ⟨rfl,rfl⟩ := hga'
    have e := HX.out
    subst e
    exact ⟨d0,d1,d2,d3⟩
   have HKR : Hid _ := (fun (_ : Unit) => KR)
   clear hrel hx hH hbA hg KR
   obtain ⟨ob,hob⟩ : ∃ b,enOk x = b := ⟨_,rfl⟩
   have cE := specEntryOk_any wo x.key x.bd x.st x.lf
   rw [show (⟨x.key,x.st,x.lf,x.bd⟩ : En) = x from rfl,hob] at cE
   have HOB : Hid (enOk x = ob) := hob
   clear hob
   cases ob with
   | false =>
    have HSN : Hid (((L.take (k + 1)).filter fun x => enFresh x now) = (L.take k).filter fun x => enFresh x now) := filterR_off (p := fun x => enFresh x now) HK.out HX.out (enFresh_bad HOB.out)
    go_wp2_with fail
    refine cE.mono ?_
    rintro e' w5 ⟨rfl,hb5⟩
    have HG : Hid (PvAt w5 w1.heap.size T X (restL now ((L.take (k + 1)).filter fun x => enFresh x now)) ∧ Below w1.heap.size w1 w5) := by
     rw [HSN.out]
     exact ⟨HHo.out.1.on hb5,HHo.out.2.trans (hb5.mono HHo.out.2.size)⟩
    clear cE hb5 hc0 hc1 hc2 hc3 HHo HKR
    go_wp2_with fail
    go_roundw
    case rel =>
     try ((repeat apply Exists.intro); refine ⟨?_,rfl⟩)
     exact ⟨⟨k + 1,X,by have := HK.out; omega,by go_num,HG.out⟩⟩
    case measure => have := HK.out; simp [intOf]; omega
   | true =>
    go_wp2_with fail
    refine cE.mono ?_
    rintro e' w5 ⟨rfl,hb5⟩
    have HH5 : Hid (PvAt w5 w1.heap.size T X (restL now ((L.take k).filter fun x => enFresh x now)) ∧ Below w1.heap.size w1 w5) := ⟨HHo.out.1.on hb5,HHo.out.2.trans (hb5.mono HHo.out.2.size)⟩
    clear cE hb5 hc0 hc1 hc2 hc3 HHo
    obtain ⟨hc0,hc1,hc2,hc3⟩ := HKR.out () w5 HH5.out.2
    obtain ⟨fb,hfb⟩ : ∃ b,enFresh x now = b := ⟨_,rfl⟩
    have cF := specFreshAt_any w5 x.key x.bd x.st x.lf now
    rw [show (⟨x.key,x.st,x.lf,x.bd⟩ : En) = x from rfl,hfb] at cF
    have HFB : Hid (enFresh x now = fb) := hfb
    clear hfb
    go_wp2_with fail
    refine cF.mono ?_
    rintro e' w6 ⟨rfl,hb6⟩
    have HH6 : Hid (PvAt w6 w1.heap.size T X (restL now ((L.take k).filter fun x => enFresh x now)) ∧ Below w1.heap.size w1 w6) := ⟨HH5.out.1.on hb6,HH5.out.2.trans (hb6.mono HH5.out.2.size)⟩
    clear cF hb6 hc0 hc1 hc2 hc3 HH5
    cases fb with
    | false =>
     have HSN : Hid (((L.take (k + 1)).filter fun x => enFresh x now) = (L.take k).filter fun x => enFresh x now) := filterR_off (p := fun x => enFresh x now) HK.out HX.out HFB.out
     have HG : Hid (PvAt w6 w1.heap.size T X (restL now ((L.take (k + 1)).filter fun x => enFresh x now)) ∧ Below w1.heap.size w1 w6) := by
      rw [HSN.out]
      exact HH6.out
     clear HH6 HKR
     go_wp2_with fail
     go_roundw
     case rel =>
      try ((repeat apply Exists.intro); refine ⟨?_,rfl⟩)
      exact ⟨⟨k + 1,X,by have := HK.out; omega,by go_num,HG.out⟩⟩
     case measure => have := HK.out; simp [intOf]; omega
    | true =>
     have HSN : Hid (restL now ((L.take (k + 1)).filter fun x => enFresh x now) = keepR (restL now ((L.take k).filter fun x => enFresh x now)) x) := by
      show _ = _
      rw [filterR_on (p := fun x => enFresh x now) HK.out HX.out HFB.out,restL_snoc]
     obtain ⟨hc0,hc1,hc2,hc3⟩ := HKR.out () w6 HH6.out.2
     obtain ⟨hKJ,hf5,hc5,_,_⟩ := restL_J now _ ((L.take k).filter fun x => enFresh x now) rfl (fun y hy => enFresh_ok (List.mem_filter.1 hy).2)
     have hKz := hKJ.sz hf5 hc5
     have cS := l16Store_any w6 w1.heap.size T X (restL now ((L.take k).filter fun x => enFresh x now)) x HH6.out.1 (by unfold PxSz; omega) (by have := hKJ.len; omega) (by have := (enOk_iff.1 HOB.out).1; omega)
     rw [storeR_keep (fun y hy => (hKJ.ents y hy).1), ← HSN.out] at cS
     clear hKJ hf5 hc5 hKz
     go_wp2_with fail
     refine cS.mono ?_
     rintro e' w7 ⟨rfl,Y,hH7,hb7⟩
     have HG : Hid (PvAt w7 w1.heap.size T Y (restL now ((L.take (k + 1)).filter fun x => enFresh x now)) ∧ Below w1.heap.size w1 w7) := ⟨hH7,HH6.out.2.trans hb7⟩
     clear cS hH7 hb7 HH6 HKR HSN hc0 hc1 hc2 hc3
     go_wp2_with fail
     go_roundw
     case rel =>
      try ((repeat apply Exists.intro); refine ⟨?_,rfl⟩)
      exact ⟨⟨k + 1,Y,by have := HK.out; omega,by go_num,HG.out⟩⟩
     case measure => have := HK.out; simp [intOf]; omega
  ·have hke : k = L.length := by omega
   have hi2 : ¬ (k : Int) < (L.length : Int) := by omega
   rw [hke,List.take_length] at hH
   obtain ⟨F,hF⟩ : ∃ F,freshL now L = F := ⟨_,rfl⟩
   have HF : Hid (freshL now L = F) := hF
   rw [show (L.filter fun x => enFresh x now) = F from hF] at hH
   clear hrel hke hlt hk hF
   obtain ⟨RF,hRF⟩ : ∃ RF,restL now F = RF := ⟨_,rfl⟩
   have HRF : Hid (restR now L = RF) := by show _ = _; unfold restR; rw [HF.out]; exact hRF
   rw [hRF] at hH
   obtain ⟨g0,g1,g2,g3,g4,g5,g6,g7,g8⟩ := hH.box.cells
   obtain ⟨y0,y1,yp0,yp1,ym0,ym1,yk0,yk1,yf0,yf1,yc0,yc1,rfl⟩ := hH.own.slices
   dsimp only at g1 g2 g3 g4 g6 g7
   have hrr := HRB.out.on hbA
   obtain ⟨r0,r1,r2,r3,r4,r5,r6,r7,r8⟩ := hrr.cells
   have tt := hrr.thaw
   obtain ⟨t0,t1,t2,t3,t4,t5,t6,t7,t8⟩ := And.intro (tt 0) (And.intro (tt 1) (And.intro (tt 2) (And.intro (tt 3) (And.intro (tt 4) (And.intro (tt 5) (And.intro (tt 6) (And.intro (tt 7) (tt 8))))))))
   have hR9 := ret9x (A := A) (r := A) (w0 := w) hH.own hrr (HBA.out.trans (hbA.mono HA1.out)) (Nat.le_refl _)
   dsimp only at hR9
   have HR9 : Hid _ := (fun (_ : Unit) => hR9)
   clear hH hbA hR9 tt hrr hRF
   go_wp2_with fail
   obtain ⟨q0,q1,q2,q3,q4,q5,q6,q7,q8⟩ := (HR9.out ()).1.cells
   refine bodyPost_ret (v := .agg #[.int .i64 RF.now,.slice y0 RF.ents.length y1,.slice yp0 RF.pol.win.length yp1,.slice ym0 RF.pol.main.length ym1,.slice yk0 RF.pol.sk.rows.length yk1,.int .i64 RF.pol.sk.added,.slice yf0 RF.fes.length yf1,.slice yc0 RF.cls.length yc1,.int .i64 RF.hits]) (by simp [results,Tryz.results5,go_sem,q0,q1,q2,q3,q4,q5,q6,q7,q8]) rfl ?_
   rw [HRF.out]
   exact ⟨_,rfl,(HR9.out ()).2.1.mono HA1.out (Nat.le_refl _),(HR9.out ()).2.2⟩
set_option maxRecDepth 100000 in
set_option maxHeartbeats 8000000 in
theorem restored_walk (n : Int) (b : Option Addr) (capb : Nat) (M : List En) (w : World) (_ : (Lit.int .i64 n).wf = true) (hI : NAt w b M w.heap.size) (hsA : SizedN M) (hi : M.length ≤ maxLen) (ht : Tab w) :
  Calls Tryz.prog 3 #[.int .i64 n,.slice b M.length capb] w fun e w' => e = .returned (.bool true) ∧ Below w.heap.size w w' := by
 have HB : Hid (∀ wi,Below w.heap.size w wi → NAt wi b M wi.heap.size) := fun wi h => hI.on h
 have HT : Hid (∀ wi,Below w.heap.size w wi → Tab wi) := fun wi h => ht.below h (Nat.le_refl _)
 have c1 := szEntryS_any w b capb M 1048576 (by omega) (by omega) hI hsA hi
 clear hI ht
 go_enter Tryz.func3,Tryz.ntmps3
 go_wp2_with fail
 refine c1.mono ?_
 rintro e wa ⟨r,rfl,hr,hba⟩
 clear c1
 rcases hr with rfl | ⟨hr0,hr1⟩
 ·go_wp2
  go_ret
  exact ⟨rfl,hba⟩
 have hlf : M.length ≤ 1048576 := by omega
 have hlg : ewg M ≤ 1048576 := by omega
 have hz : ∀ x ∈ M,x.key.size ≤ 1048576 ∧ x.bd.size ≤ 1048576 := fun x hx => by
  obtain ⟨j,hj,rfl⟩ := List.mem_iff_getElem.1 hx
  have := ewg_mem hj
  unfold En.wg at this
  omega
 obtain ⟨RES,hRES⟩ : ∃ R,restR n M = R := ⟨_,rfl⟩
 have hRl : PxSz RES := by
  have h := restL_J n _ (freshL n M) rfl (fun x hx => freshL_ok x hx)
  have h2 := h.1.sz h.2.1 h.2.2.1
  unfold PxSz
  rw [← hRES]
  unfold restR
  omega
 have CS : Hid (∀ (wi : World) (x : Option Addr) (cx : Nat),NAt wi x M wi.heap.size → Calls Tryz.prog 5 #[.int .i64 n,.slice x M.length cx] wi fun e w' => ∃ Y : Pc,e = .returned (.agg #[.int .i64 RES.now,Y.e,Y.w,Y.m,Y.k,.int .i64 RES.pol.sk.added,Y.f,Y.c,.int .i64 RES.hits]) ∧ PxOwn w' wi.heap.size w'.heap.size Y RES ∧ Below wi.heap.size wi w') := by intro wi x cx h; rw [← hRES]; exact specRestored_any wi x cx M n h hlf
 have CI : Hid (∀ (wi : World) (x : Option Addr) (cx : Nat),Below w.heap.size w wi → NAt wi x M wi.heap.size → Calls Tryz.prog 7 #[.int .i64 n,.slice x M.length cx] wi fun e w' => ∃ Y : Pc,e = .returned (.agg #[.int .i64 RES.now,Y.e,Y.w,Y.m,Y.k,.int .i64 RES.pol.sk.added,Y.f,Y.c,.int .i64 RES.hits]) ∧ PxOwn w' wi.heap.size w'.heap.size Y RES ∧ Below wi.heap.size wi w') := by intro wi x cx hb h; rw [← hRES]; exact implRestored_any wi x cx M n h hlf hz (HT.out wi hb)
 have hHa : Hid (Below w.heap.size w wa) := hba
 clear hRES hr1 hlg hz hsA hi hba
 go_wp2_with fail
 refine (toEntryS_any wa b capb M (HB.out wa hHa.out) hlf).mono ?_
 rintro e wc ⟨v1,rfl,ho1,hb1⟩
 obtain ⟨a1,cap1,rfl,hA1⟩ := ho1.at
 have hBc := hHa.out.trans (hb1.mono hHa.out.size)
 have c0 := CS.out wc a1 cap1 hA1
 clear ho1 hA1
 go_wp2_with fail
 refine c0.mono ?_
 rintro e w1 ⟨Y_,he_,how1,hbw1⟩
 obtain ⟨aw1e0,aw1e1,aw1w0,aw1w1,aw1m0,aw1m1,aw1k0,aw1k1,aw1f0,aw1f1,aw1c0,aw1c1,rfl⟩ := how1.slices
 dsimp only at he_
 subst he_
 clear c0
 have hB_w1 : Below w.heap.size w w1 := hBc.trans (hbw1.mono hBc.size)
 obtain ⟨w2,hw2⟩ : ∃ x,w1.alloc (.cells #[.int .i64 RES.now,.slice aw1e0 RES.ents.length aw1e1,.slice aw1w0 RES.pol.win.length aw1w1,.slice aw1m0 RES.pol.main.length aw1m1,.slice aw1k0 RES.pol.sk.rows.length aw1k1,.int .i64 RES.pol.sk.added,.slice aw1f0 RES.fes.length aw1f1,.slice aw1c0 RES.cls.length aw1c1,.int .i64 RES.hits] 34) = x := ⟨_,rfl⟩
 have hbw2 : Below w1.heap.size w1 w2 := by rw [← hw2]; exact (Below.refl _ _).alloc (Nat.le_refl _) _
 have evP2 : PXV w2 wc.heap.size w1.heap.size ⟨.slice aw1e0 RES.ents.length aw1e1,.slice aw1w0 RES.pol.win.length aw1w1,.slice aw1m0 RES.pol.main.length aw1m1,.slice aw1k0 RES.pol.sk.rows.length aw1k1,.slice aw1f0 RES.fes.length aw1f1,.slice aw1c0 RES.cls.length aw1c1⟩ RES := by rw [← hw2]; exact PXV.new how1 hbw1.size
 have sw2 : w2.heap.size = w1.heap.size + 1 := by rw [← hw2]; simp
 have HW2 : Hid (w1.alloc (.cells #[.int .i64 RES.now,.slice aw1e0 RES.ents.length aw1e1,.slice aw1w0 RES.pol.win.length aw1w1,.slice aw1m0 RES.pol.main.length aw1m1,.slice aw1k0 RES.pol.sk.rows.length aw1k1,.int .i64 RES.pol.sk.added,.slice aw1f0 RES.fes.length aw1f1,.slice aw1c0 RES.cls.length aw1c1,.int .i64 RES.hits] 34) = w2) := hw2
 have hB_w2 : Below w.heap.size w w2 := hB_w1.trans (hbw2.mono hB_w1.size)
 have HE1 : Hid (w.heap.size ≤ wc.heap.size ∧ wc.heap.size ≤ w1.heap.size ∧ w2.heap.size = w1.heap.size + 1) := ⟨hBc.size,hbw1.size,sw2⟩
 have HP2 : Hid (PXV w2 wc.heap.size w1.heap.size ⟨.slice aw1e0 RES.ents.length aw1e1,.slice aw1w0 RES.pol.win.length aw1w1,.slice aw1m0 RES.pol.main.length aw1m1,.slice aw1k0 RES.pol.sk.rows.length aw1k1,.slice aw1f0 RES.fes.length aw1f1,.slice aw1c0 RES.cls.length aw1c1⟩ RES ∧ Below w.heap.size w w2) := ⟨evP2,hB_w2⟩
 clear hw2 how1 evP2 hB_w1 hbw2 sw2 hbw1 hb1 hBc hB_w2
 go_upto_region 6 with fail
 rw [HW2.out]
 clear HW2
 go_wp2_with fail
 refine (toEntryS_any w2 b capb M (HB.out w2 HP2.out.2) hlf).mono ?_
 rintro e w3 ⟨v3,rfl,ho3,hb3⟩
 obtain ⟨a3,cap3,rfl,hA3⟩ := ho3.at
 have HP3 : Hid (PXV w3 wc.heap.size w1.heap.size ⟨.slice aw1e0 RES.ents.length aw1e1,.slice aw1w0 RES.pol.win.length aw1w1,.slice aw1m0 RES.pol.main.length aw1m1,.slice aw1k0 RES.pol.sk.rows.length aw1k1,.slice aw1f0 RES.fes.length aw1f1,.slice aw1c0 RES.cls.length aw1c1⟩ RES ∧ Below w.heap.size w w3 ∧ OwnN w3 w2.heap.size 47 (.slice a3 M.length cap3) M ∧ w2.heap.size ≤ w3.heap.size) := ⟨HP2.out.1.on hb3,HP2.out.2.trans (hb3.mono HP2.out.2.size),ho3,hb3.size⟩
 have c0 := CI.out w3 a3 cap3 HP3.out.2.1 hA3
 clear ho3 hb3 HP2 hA3
 go_wp2_with fail
 refine c0.mono ?_
 rintro e w4 ⟨Y_,he_,how4,hbw4⟩
 obtain ⟨aw4e0,aw4e1,aw4w0,aw4w1,aw4m0,aw4m1,aw4k0,aw4k1,aw4f0,aw4f1,aw4c0,aw4c1,rfl⟩ := how4.slices
 dsimp only at he_
 subst he_
 clear c0
 obtain ⟨w5,hw5⟩ : ∃ x,w4.alloc (.cells #[.int .i64 RES.now,.slice aw4e0 RES.ents.length aw4e1,.slice aw4w0 RES.pol.win.length aw4w1,.slice aw4m0 RES.pol.main.length aw4m1,.slice aw4k0 RES.pol.sk.rows.length aw4k1,.int .i64 RES.pol.sk.added,.slice aw4f0 RES.fes.length aw4f1,.slice aw4c0 RES.cls.length aw4c1,.int .i64 RES.hits] 34) = x := ⟨_,rfl⟩
 have hbw5 : Below w4.heap.size w4 w5 := by rw [← hw5]; exact (Below.refl _ _).alloc (Nat.le_refl _) _
 have hb45 : Below w3.heap.size w3 w5 := hbw4.trans (hbw5.mono hbw4.size)
 have evQ5 : PXV w5 w3.heap.size w4.heap.size ⟨.slice aw4e0 RES.ents.length aw4e1,.slice aw4w0 RES.pol.win.length aw4w1,.slice aw4m0 RES.pol.main.length aw4m1,.slice aw4k0 RES.pol.sk.rows.length aw4k1,.slice aw4f0 RES.fes.length aw4f1,.slice aw4c0 RES.cls.length aw4c1⟩ RES := by rw [← hw5]; exact PXV.new how4 hbw4.size
 have sw5 : w5.heap.size = w4.heap.size + 1 := by rw [← hw5]; simp
 have HW5 : Hid (w4.alloc (.cells #[.int .i64 RES.now,.slice aw4e0 RES.ents.length aw4e1,.slice aw4w0 RES.pol.win.length aw4w1,.slice aw4m0 RES.pol.main.length aw4m1,.slice aw4k0 RES.pol.sk.rows.length aw4k1,.int .i64 RES.pol.sk.added,.slice aw4f0 RES.fes.length aw4f1,.slice aw4c0 RES.cls.length aw4c1,.int .i64 RES.hits] 34) = w5) := hw5
 have HE2 : Hid (w2.heap.size ≤ w3.heap.size ∧ w3.heap.size ≤ w4.heap.size ∧ w5.heap.size = w4.heap.size + 1) := ⟨HP3.out.2.2.2,hbw4.size,sw5⟩
 have HP5 : Hid (PXV w5 wc.heap.size w1.heap.size ⟨.slice aw1e0 RES.ents.length aw1e1,.slice aw1w0 RES.pol.win.length aw1w1,.slice aw1m0 RES.pol.main.length aw1m1,.slice aw1k0 RES.pol.sk.rows.length aw1k1,.slice aw1f0 RES.fes.length aw1f1,.slice aw1c0 RES.cls.length aw1c1⟩ RES ∧ PXV w5 w3.heap.size w4.heap.size ⟨.slice aw4e0 RES.ents.length aw4e1,.slice aw4w0 RES.pol.win.length aw4w1,.slice aw4m0 RES.pol.main.length aw4m1,.slice aw4k0 RES.pol.sk.rows.length aw4k1,.slice aw4f0 RES.fes.length aw4f1,.slice aw4c0 RES.cls.length aw4c1⟩ RES ∧ Below w.heap.size w w5 ∧ OwnN w5 w2.heap.size 47 (.slice a3 M.length cap3) M) := ⟨HP3.out.1.on hb45,evQ5,HP3.out.2.1.trans (hb45.mono HP3.out.2.1.size),HP3.out.2.2.1.below hb45 (Nat.le_refl _)⟩
 have HX : Hid (∀ k,(Value.slice a3 M.length cap3).ownBlock = some k → w2.heap.size ≤ k ∧ k < w3.heap.size) := fun k hk => HP3.out.2.2.1.lt k hk
 clear hw5 how4 hbw4 hbw5 hb45 evQ5 sw5 HP3
 go_upto_region 8 with fail
 rw [HW5.out]
 clear HW5
 obtain ⟨p0,p1,p2,p3,p4,p5,p6,p7,p8⟩ := HP5.out.1.box.cells
 obtain ⟨q0,q1,q2,q3,q4,q5,q6,q7,q8⟩ := HP5.out.2.1.box.cells
 go_wp2_with fail
 refine (eqProxy_same w5 ⟨.slice aw4e0 RES.ents.length aw4e1,.slice aw4w0 RES.pol.win.length aw4w1,.slice aw4m0 RES.pol.main.length aw4m1,.slice aw4k0 RES.pol.sk.rows.length aw4k1,.slice aw4f0 RES.fes.length aw4f1,.slice aw4c0 RES.cls.length aw4c1⟩ ⟨.slice aw1e0 RES.ents.length aw1e1,.slice aw1w0 RES.pol.win.length aw1w1,.slice aw1m0 RES.pol.main.length aw1m1,.slice aw1k0 RES.pol.sk.rows.length aw1k1,.slice aw1f0 RES.fes.length aw1f1,.slice aw1c0 RES.cls.length aw1c1⟩ RES HP5.out.2.1.at HP5.out.1.at hRl).mono ?_
 rintro e w6 ⟨rfl,hb6⟩
 have HP6 : Hid (PXV w6 wc.heap.size w1.heap.size ⟨.slice aw1e0 RES.ents.length aw1e1,.slice aw1w0 RES.pol.win.length aw1w1,.slice aw1m0 RES.pol.main.length aw1m1,.slice aw1k0 RES.pol.sk.rows.length aw1k1,.slice aw1f0 RES.fes.length aw1f1,.slice aw1c0 RES.cls.length aw1c1⟩ RES ∧ PXV w6 w3.heap.size w4.heap.size ⟨.slice aw4e0 RES.ents.length aw4e1,.slice aw4w0 RES.pol.win.length aw4w1,.slice aw4m0 RES.pol.main.length aw4m1,.slice aw4k0 RES.pol.sk.rows.length aw4k1,.slice aw4f0 RES.fes.length aw4f1,.slice aw4c0 RES.cls.length aw4c1⟩ RES ∧ Below w.heap.size w w6 ∧ OwnN w6 w2.heap.size 47 (.slice a3 M.length cap3) M) := ⟨HP5.out.1.on hb6,HP5.out.2.1.on hb6,HP5.out.2.2.1.trans (hb6.mono HP5.out.2.2.1.size),HP5.out.2.2.2.below hb6 (Nat.le_refl _)⟩
 clear p0 p1 p2 p3 p4 p5 p6 p7 p8 q0 q1 q2 q3 q4 q5 q6 q7 q8 hb6 HP5
 go_wp2_with fail
 refine (toEntryS_any w6 b capb M (HB.out w6 HP6.out.2.2.1) hlf).mono ?_
 rintro e w7 ⟨v7,rfl,ho7,hb7⟩
 obtain ⟨a7,cap7,rfl,hA7⟩ := ho7.at
 obtain ⟨av,cv,hav,hAv⟩ := (HP6.out.2.2.2.below hb7 (Nat.le_refl _)).at
 simp only [Value.slice.injEq,true_and] at hav
 obtain ⟨rfl,rfl⟩ := hav
 go_wp2_with fail
 refine (eqEntryS_same w7 _ _ _ _ M hAv hA7 hlf).mono ?_
 rintro e w8 ⟨rfl,hb8⟩
 have hb68 : Below w6.heap.size w6 w8 := hb7.trans (hb8.mono hb7.size)
 have HP8 : Hid (PXV w8 wc.heap.size w1.heap.size ⟨.slice aw1e0 RES.ents.length aw1e1,.slice aw1w0 RES.pol.win.length aw1w1,.slice aw1m0 RES.pol.main.length aw1m1,.slice aw1k0 RES.pol.sk.rows.length aw1k1,.slice aw1f0 RES.fes.length aw1f1,.slice aw1c0 RES.cls.length aw1c1⟩ RES ∧ PXV w8 w3.heap.size w4.heap.size ⟨.slice aw4e0 RES.ents.length aw4e1,.slice aw4w0 RES.pol.win.length aw4w1,.slice aw4m0 RES.pol.main.length aw4m1,.slice aw4k0 RES.pol.sk.rows.length aw4k1,.slice aw4f0 RES.fes.length aw4f1,.slice aw4c0 RES.cls.length aw4c1⟩ RES ∧ Below w.heap.size w w8 ∧ OwnN w8 w2.heap.size 47 (.slice a3 M.length cap3) M) := ⟨HP6.out.1.on hb68,HP6.out.2.1.on hb68,HP6.out.2.2.1.trans (hb68.mono HP6.out.2.2.1.size),HP6.out.2.2.2.below hb68 (Nat.le_refl _)⟩
 clear ho7 hA7 hAv hb7 hb8 hb68 HP6
 have cM := markEntryS_any w8 w2.heap.size _ M 1 HP8.out.2.2.2 hlf (by omega) (by omega)
 go_wp2_with fail
 refine cM.mono ?_
 rintro e w9 ⟨he9,_,hg9⟩
 obtain ⟨k9,hk9⟩ : ∃ k9 : Nat, 1 + 4 * M.length = k9 := ⟨_,rfl⟩
 rw [hk9] at he9
 subst he9
 have hd9 : decide ((k9 : Int) < 0) = false := decide_eq_false (by omega)
 have hn9 : ¬ ((k9 : Int) < 0) := by omega
 have ht9 : Tch (fun k => (Value.slice a3 M.length cap3).ownBlock = some k) w8 w9 := Tch.of_grown hg9 (fun k h => h)
 have HP9 : Hid (PXV w9 wc.heap.size w1.heap.size ⟨.slice aw1e0 RES.ents.length aw1e1,.slice aw1w0 RES.pol.win.length aw1w1,.slice aw1m0 RES.pol.main.length aw1m1,.slice aw1k0 RES.pol.sk.rows.length aw1k1,.slice aw1f0 RES.fes.length aw1f1,.slice aw1c0 RES.cls.length aw1c1⟩ RES ∧ PXV w9 w3.heap.size w4.heap.size ⟨.slice aw4e0 RES.ents.length aw4e1,.slice aw4w0 RES.pol.win.length aw4w1,.slice aw4m0 RES.pol.main.length aw4m1,.slice aw4k0 RES.pol.sk.rows.length aw4k1,.slice aw4f0 RES.fes.length aw4f1,.slice aw4c0 RES.cls.length aw4c1⟩ RES ∧ Below w.heap.size w w9) := ⟨HP8.out.1.tch ht9 (fun k hk => by have := HX.out k hk; have := HE1.out; omega),HP8.out.2.1.tch ht9 (fun k hk => by have := HX.out k hk; omega),Tch.below HP8.out.2.2.1 ht9 HP8.out.2.2.1.size (fun k hk => by have := HX.out k hk; have := HE1.out; omega)⟩
 clear cM hk9 hg9 ht9 HP8
 obtain ⟨p0,p1,p2,p3,p4,p5,p6,p7,p8⟩ := HP9.out.1.box.cells
 obtain ⟨q0,q1,q2,q3,q4,q5,q6,q7,q8⟩ := HP9.out.2.1.box.cells
 go_wp2_with fail
 refine (eqProxy_same w9 ⟨.slice aw4e0 RES.ents.length aw4e1,.slice aw4w0 RES.pol.win.length aw4w1,.slice aw4m0 RES.pol.main.length aw4m1,.slice aw4k0 RES.pol.sk.rows.length aw4k1,.slice aw4f0 RES.fes.length aw4f1,.slice aw4c0 RES.cls.length aw4c1⟩ ⟨.slice aw1e0 RES.ents.length aw1e1,.slice aw1w0 RES.pol.win.length aw1w1,.slice aw1m0 RES.pol.main.length aw1m1,.slice aw1k0 RES.pol.sk.rows.length aw1k1,.slice aw1f0 RES.fes.length aw1f1,.slice aw1c0 RES.cls.length aw1c1⟩ RES HP9.out.2.1.at HP9.out.1.at hRl).mono ?_
 rintro e w10 ⟨rfl,hb10⟩
 have HP10 : Hid (PXV w10 wc.heap.size w1.heap.size ⟨.slice aw1e0 RES.ents.length aw1e1,.slice aw1w0 RES.pol.win.length aw1w1,.slice aw1m0 RES.pol.main.length aw1m1,.slice aw1k0 RES.pol.sk.rows.length aw1k1,.slice aw1f0 RES.fes.length aw1f1,.slice aw1c0 RES.cls.length aw1c1⟩ RES ∧ PXV w10 w3.heap.size w4.heap.size ⟨.slice aw4e0 RES.ents.length aw4e1,.slice aw4w0 RES.pol.win.length aw4w1,.slice aw4m0 RES.pol.main.length aw4m1,.slice aw4k0 RES.pol.sk.rows.length aw4k1,.slice aw4f0 RES.fes.length aw4f1,.slice aw4c0 RES.cls.length aw4c1⟩ RES ∧ Below w.heap.size w w10) := ⟨HP9.out.1.on hb10,HP9.out.2.1.on hb10,HP9.out.2.2.trans (hb10.mono HP9.out.2.2.size)⟩
 clear p0 p1 p2 p3 p4 p5 p6 p7 p8 q0 q1 q2 q3 q4 q5 q6 q7 q8 hb10 HP9 hd9 hn9
 obtain ⟨q0,q1,q2,q3,q4,q5,q6,q7,q8⟩ := HP10.out.2.1.box.cells
 go_wp2_with fail
 refine (markProxy_any w10 w3.heap.size w4.heap.size ⟨.slice aw4e0 RES.ents.length aw4e1,.slice aw4w0 RES.pol.win.length aw4w1,.slice aw4m0 RES.pol.main.length aw4m1,.slice aw4k0 RES.pol.sk.rows.length aw4k1,.slice aw4f0 RES.fes.length aw4f1,.slice aw4c0 RES.cls.length aw4c1⟩ RES HP10.out.2.1.own hRl (Nat.le_of_lt HP10.out.2.1.box.lt)).mono ?_
 rintro e w11 ⟨he,hoG,ht11⟩
 obtain ⟨K,hK⟩ : ∃ K : Nat, 1 + mkN RES = K := ⟨_,rfl⟩
 rw [hK] at he
 subst he
 have hn : ¬ ((K : Int) < 0) := by omega
 have HCH : Hid (∀ wi,PXM wi w3.heap.size w4.heap.size ⟨.slice aw4e0 RES.ents.length aw4e1,.slice aw4w0 RES.pol.win.length aw4w1,.slice aw4m0 RES.pol.main.length aw4m1,.slice aw4k0 RES.pol.sk.rows.length aw4k1,.slice aw4f0 RES.fes.length aw4f1,.slice aw4c0 RES.cls.length aw4c1⟩ RES → Calls Tryz.prog 12 #[.agg #[.int .i64 RES.now,.slice aw4e0 RES.ents.length aw4e1,.slice aw4w0 RES.pol.win.length aw4w1,.slice aw4m0 RES.pol.main.length aw4m1,.slice aw4k0 RES.pol.sk.rows.length aw4k1,.int .i64 RES.pol.sk.added,.slice aw4f0 RES.fes.length aw4f1,.slice aw4c0 RES.cls.length aw4c1,.int .i64 RES.hits],.int .i64 1] wi fun e w' => e = .returned (.int .i64 (K : Int)) ∧ Below wi.heap.size wi w') := by
  intro wi h
  rw [← hK]
  exact heldProxy_any wi w3.heap.size w4.heap.size ⟨.slice aw4e0 RES.ents.length aw4e1,.slice aw4w0 RES.pol.win.length aw4w1,.slice aw4m0 RES.pol.main.length aw4m1,.slice aw4k0 RES.pol.sk.rows.length aw4k1,.slice aw4f0 RES.fes.length aw4f1,.slice aw4c0 RES.cls.length aw4c1⟩ RES h.own hRl
 have HP11 : Hid (PXV w11 wc.heap.size w1.heap.size ⟨.slice aw1e0 RES.ents.length aw1e1,.slice aw1w0 RES.pol.win.length aw1w1,.slice aw1m0 RES.pol.main.length aw1m1,.slice aw1k0 RES.pol.sk.rows.length aw1k1,.slice aw1f0 RES.fes.length aw1f1,.slice aw1c0 RES.cls.length aw1c1⟩ RES ∧ PXM w11 w3.heap.size w4.heap.size ⟨.slice aw4e0 RES.ents.length aw4e1,.slice aw4w0 RES.pol.win.length aw4w1,.slice aw4m0 RES.pol.main.length aw4m1,.slice aw4k0 RES.pol.sk.rows.length aw4k1,.slice aw4f0 RES.fes.length aw4f1,.slice aw4c0 RES.cls.length aw4c1⟩ RES ∧ Below w.heap.size w w11) := ⟨HP10.out.1.tch ht11 (fun k hk => by have := HE1.out; have := HE2.out; omega),⟨HP10.out.2.1.le,HP10.out.2.1.box.kept (ht11.2 _ HP10.out.2.1.box.lt (fun e => by omega)),hoG⟩,Tch.below HP10.out.2.2 ht11 HP10.out.2.2.size (fun k hk => by have := HE1.out; have := HE2.out; omega)⟩
 clear q0 q1 q2 q3 q4 q5 q6 q7 q8 hoG ht11 hK HP10
 obtain ⟨q0,q1,q2,q3,q4,q5,q6,q7,q8⟩ := HP11.out.2.1.box.cells
 have hkk : ((K : Int) != (K : Int)) = false := by simp
 go_wp2_with fail
 refine (HCH.out w11 HP11.out.2.1).mono ?_
 rintro e w12 ⟨rfl,hb12⟩
 have HP12 : Hid (PXV w12 wc.heap.size w1.heap.size ⟨.slice aw1e0 RES.ents.length aw1e1,.slice aw1w0 RES.pol.win.length aw1w1,.slice aw1m0 RES.pol.main.length aw1m1,.slice aw1k0 RES.pol.sk.rows.length aw1k1,.slice aw1f0 RES.fes.length aw1f1,.slice aw1c0 RES.cls.length aw1c1⟩ RES ∧ PXM w12 w3.heap.size w4.heap.size ⟨.slice aw4e0 RES.ents.length aw4e1,.slice aw4w0 RES.pol.win.length aw4w1,.slice aw4m0 RES.pol.main.length aw4m1,.slice aw4k0 RES.pol.sk.rows.length aw4k1,.slice aw4f0 RES.fes.length aw4f1,.slice aw4c0 RES.cls.length aw4c1⟩ RES ∧ Below w.heap.size w w12) := ⟨HP11.out.1.on hb12,HP11.out.2.1.on hb12,HP11.out.2.2.trans (hb12.mono HP11.out.2.2.size)⟩
 clear q0 q1 q2 q3 q4 q5 q6 q7 q8 hb12 HP11
 go_wp2_with fail
 refine (toEntryS_any w12 b capb M (HB.out w12 HP12.out.2.2) hlf).mono ?_
 rintro e w13 ⟨v13,rfl,ho13,hb13⟩
 obtain ⟨a13,cap13,rfl,hA13⟩ := ho13.at
 have HP13 : Hid (PXV w13 wc.heap.size w1.heap.size ⟨.slice aw1e0 RES.ents.length aw1e1,.slice aw1w0 RES.pol.win.length aw1w1,.slice aw1m0 RES.pol.main.length aw1m1,.slice aw1k0 RES.pol.sk.rows.length aw1k1,.slice aw1f0 RES.fes.length aw1f1,.slice aw1c0 RES.cls.length aw1c1⟩ RES ∧ PXM w13 w3.heap.size w4.heap.size ⟨.slice aw4e0 RES.ents.length aw4e1,.slice aw4w0 RES.pol.win.length aw4w1,.slice aw4m0 RES.pol.main.length aw4m1,.slice aw4k0 RES.pol.sk.rows.length aw4k1,.slice aw4f0 RES.fes.length aw4f1,.slice aw4c0 RES.cls.length aw4c1⟩ RES ∧ Below w.heap.size w w13) := ⟨HP12.out.1.on hb13,HP12.out.2.1.on hb13,HP12.out.2.2.trans (hb13.mono HP12.out.2.2.size)⟩
 have c0 := CI.out w13 a13 cap13 HP13.out.2.2 hA13
 clear ho13 hA13 hb13 HP12
 go_wp2_with fail
 refine c0.mono ?_
 rintro e w14 ⟨Y_,he_,how14,hbw14⟩
 obtain ⟨aw14e0,aw14e1,aw14w0,aw14w1,aw14m0,aw14m1,aw14k0,aw14k1,aw14f0,aw14f1,aw14c0,aw14c1,rfl⟩ := how14.slices
 dsimp only at he_
 subst he_
 clear c0
 obtain ⟨w15,hw15⟩ : ∃ x,w14.alloc (.cells #[.int .i64 RES.now,.slice aw14e0 RES.ents.length aw14e1,.slice aw14w0 RES.pol.win.length aw14w1,.slice aw14m0 RES.pol.main.length aw14m1,.slice aw14k0 RES.pol.sk.rows.length aw14k1,.int .i64 RES.pol.sk.added,.slice aw14f0 RES.fes.length aw14f1,.slice aw14c0 RES.cls.length aw14c1,.int .i64 RES.hits] 34) = x := ⟨_,rfl⟩
 have hbw15 : Below w14.heap.size w14 w15 := by rw [← hw15]; exact (Below.refl _ _).alloc (Nat.le_refl _) _
 have hb135 : Below w13.heap.size w13 w15 := hbw14.trans (hbw15.mono hbw14.size)
 have evH : PXV w15 w13.heap.size w14.heap.size ⟨.slice aw14e0 RES.ents.length aw14e1,.slice aw14w0 RES.pol.win.length aw14w1,.slice aw14m0 RES.pol.main.length aw14m1,.slice aw14k0 RES.pol.sk.rows.length aw14k1,.slice aw14f0 RES.fes.length aw14f1,.slice aw14c0 RES.cls.length aw14c1⟩ RES := by rw [← hw15]; exact PXV.new how14 hbw14.size
 have HW15 : Hid (w14.alloc (.cells #[.int .i64 RES.now,.slice aw14e0 RES.ents.length aw14e1,.slice aw14w0 RES.pol.win.length aw14w1,.slice aw14m0 RES.pol.main.length aw14m1,.slice aw14k0 RES.pol.sk.rows.length aw14k1,.int .i64 RES.pol.sk.added,.slice aw14f0 RES.fes.length aw14f1,.slice aw14c0 RES.cls.length aw14c1,.int .i64 RES.hits] 34) = w15) := hw15
 have HP15 : Hid (PXV w15 wc.heap.size w1.heap.size ⟨.slice aw1e0 RES.ents.length aw1e1,.slice aw1w0 RES.pol.win.length aw1w1,.slice aw1m0 RES.pol.main.length aw1m1,.slice aw1k0 RES.pol.sk.rows.length aw1k1,.slice aw1f0 RES.fes.length aw1f1,.slice aw1c0 RES.cls.length aw1c1⟩ RES ∧ PXM w15 w3.heap.size w4.heap.size ⟨.slice aw4e0 RES.ents.length aw4e1,.slice aw4w0 RES.pol.win.length aw4w1,.slice aw4m0 RES.pol.main.length aw4m1,.slice aw4k0 RES.pol.sk.rows.length aw4k1,.slice aw4f0 RES.fes.length aw4f1,.slice aw4c0 RES.cls.length aw4c1⟩ RES ∧ Below w.heap.size w w15 ∧ PXV w15 w13.heap.size w14.heap.size ⟨.slice aw14e0 RES.ents.length aw14e1,.slice aw14w0 RES.pol.win.length aw14w1,.slice aw14m0 RES.pol.main.length aw14m1,.slice aw14k0 RES.pol.sk.rows.length aw14k1,.slice aw14f0 RES.fes.length aw14f1,.slice aw14c0 RES.cls.length aw14c1⟩ RES) := ⟨HP13.out.1.on hb135,HP13.out.2.1.on hb135,HP13.out.2.2.trans (hb135.mono HP13.out.2.2.size),evH⟩
 clear hw15 how14 hbw14 hbw15 hb135 evH HP13
 go_upto_region 25 with fail
 rw [HW15.out]
 clear HW15
 obtain ⟨p0,p1,p2,p3,p4,p5,p6,p7,p8⟩ := HP15.out.1.box.cells
 obtain ⟨h0,h1,h2,h3,h4,h5,h6,h7,h8⟩ := HP15.out.2.2.2.box.cells
 go_wp2_with fail
 refine (eqProxy_same w15 ⟨.slice aw14e0 RES.ents.length aw14e1,.slice aw14w0 RES.pol.win.length aw14w1,.slice aw14m0 RES.pol.main.length aw14m1,.slice aw14k0 RES.pol.sk.rows.length aw14k1,.slice aw14f0 RES.fes.length aw14f1,.slice aw14c0 RES.cls.length aw14c1⟩ ⟨.slice aw1e0 RES.ents.length aw1e1,.slice aw1w0 RES.pol.win.length aw1w1,.slice aw1m0 RES.pol.main.length aw1m1,.slice aw1k0 RES.pol.sk.rows.length aw1k1,.slice aw1f0 RES.fes.length aw1f1,.slice aw1c0 RES.cls.length aw1c1⟩ RES HP15.out.2.2.2.at HP15.out.1.at hRl).mono ?_
 rintro e w16 ⟨rfl,hb16⟩
 have HP16 : Hid (PXM w16 w3.heap.size w4.heap.size ⟨.slice aw4e0 RES.ents.length aw4e1,.slice aw4w0 RES.pol.win.length aw4w1,.slice aw4m0 RES.pol.main.length aw4m1,.slice aw4k0 RES.pol.sk.rows.length aw4k1,.slice aw4f0 RES.fes.length aw4f1,.slice aw4c0 RES.cls.length aw4c1⟩ RES ∧ Below w.heap.size w w16) := ⟨HP15.out.2.1.on hb16,HP15.out.2.2.1.trans (hb16.mono HP15.out.2.2.1.size)⟩
 clear p0 p1 p2 p3 p4 p5 p6 p7 p8 h0 h1 h2 h3 h4 h5 h6 h7 h8 hb16 HP15
 obtain ⟨q0,q1,q2,q3,q4,q5,q6,q7,q8⟩ := HP16.out.1.box.cells
 go_wp2_with fail
 refine (HCH.out w16 HP16.out.1).mono ?_
 rintro e w17 ⟨rfl,hb17⟩
 go_wp2_with fail
 go_ret
 exact ⟨rfl,HP16.out.2.trans (hb17.mono HP16.out.2.size)⟩
end Go.Proofs.YthfjfccdelbkhaaGreatDoor
namespace Go.Proofs.YthfjfccdelbkhaaGreatDoor
open Go.ChangeShapes Go.WideShapes Go.ChangeAt Go.RowKit Go.Deep
theorem list4E {l : List Value} (h : l.length = 4) : ∃ a b c d,l = [a,b,c,d] := by
 match l,h with
 | [a,b,c,d],_ => exact ⟨a,b,c,d,rfl⟩
set_option maxRecDepth 100000 in
theorem entryCells_of {H : Type} {enc : TypeId × Value → H} {W : World} {fuel : Nat} {cs : List Value} {x : DataW H × List MemPlace} (h : DataW.trod enc Tryz.prog W 0 (fun _ => true) true fuel 44 cs = some x) :
  ∃ E : En,cs = [.string E.key,.int .i64 E.st,.int .i64 E.lf,.string E.bd] ∧ E.Sized := by
 obtain ⟨y0,y1,y2,y3,n,_,hl,h0,h1,h2,h3⟩ := Joins.trod_struct4 Tryz.underlying44 h
 have hc : Tryz.prog.cellsOf 44 = 4 := by kernel_rfl
 have hc9 : Tryz.prog.cellsOf 9 = 1 := by kernel_rfl
 have hc3 : Tryz.prog.cellsOf 3 = 1 := by kernel_rfl
 rw [hc] at hl
 obtain ⟨c0,c1,c2,c3,rfl⟩ := list4E hl
 simp only [hc9,hc3,List.drop_zero,List.take_succ_cons,List.take_zero,List.drop_succ_cons] at h0 h1 h2 h3
 obtain ⟨s0,e0,_,z0⟩ := DataW.trod_string Tryz.underlying9 h0
 obtain ⟨k1,e1,_,z1⟩ := DataW.trod_int Tryz.underlying3 h1
 obtain ⟨k2,e2,_,z2⟩ := DataW.trod_int Tryz.underlying3 h2
 obtain ⟨s3,e3,_,z3⟩ := DataW.trod_string Tryz.underlying9 h3
 simp only [List.cons.injEq,and_true] at e0 e1 e2 e3
 subst e0 e1 e2 e3
 exact ⟨⟨s0,k1,k2,s3⟩,rfl,⟨z0,z3⟩,z1,z2⟩
theorem cells4E {w : World} {base : Nat} {a : Addr} {cs : List Value} (h : w.cells? base a 4 = some cs) : ∃ x y z u,cs = [x,y,z,u] ∧ w.cell? (a.add 0) = some x ∧ w.cell? (a.add 1) = some y ∧ w.cell? (a.add 2) = some z ∧ w.cell? (a.add 3) = some u := by
 unfold World.cells? at h
 split at h
 ·rw [show List.range 4 = [0, 1, 2, 3] from rfl] at h
  simp only [List.mapM_cons,List.mapM_nil] at h
  cases h0 : w.cell? (a.add 0) with
  | none => simp [h0] at h
  | some x =>
   cases h1 : w.cell? (a.add 1) with
   | none => simp [h0,h1] at h
   | some y =>
    cases h2 : w.cell? (a.add 2) with
    | none => simp [h0,h1,h2] at h
    | some z =>
     cases h3 : w.cell? (a.add 3) with
     | none => simp [h0,h1,h2,h3] at h
     | some u =>
      simp [h0,h1,h2,h3] at h
      exact ⟨x,y,z,u,h.symm,rfl,rfl,rfl,rfl⟩
 ·simp at h
set_option maxRecDepth 100000 in
theorem entries_of {H : Type} {enc : TypeId × Value → H} {W : World} {base : Nat} {v : Value} {d : DataW H} {ps : List MemPlace} (hv : Value.okWide Tryz.prog W .any base 22 v) (h : DataW.Trod enc Tryz.prog W 0 (fun _ => true) true 22 v d ps) :
  ∃ a cap L,v = .slice a (List.length L) cap ∧ NAt W a L W.heap.size ∧ SizedN L ∧ L.length ≤ maxLen := by
 obtain ⟨a0,len0,cap0,rfl⟩ := okWide_slice Tryz.underlying22 hv
 obtain ⟨fuel,hf⟩ := h
 have hcF : Tryz.prog.cellsOf 44 = 4 := by kernel_rfl
 simp only [Value.cells] at hf
 rcases open_slice Tryz.underlying22 hf with ⟨hcs,_⟩ | ⟨a,len,cap,m,k,D,Pl,hcs,_,hlc,hcm,hmm,_,hel⟩
 ·simp at hcs
  obtain ⟨rfl,rfl,rfl⟩ := hcs
  exact ⟨none, 0, [],rfl,fun j hj => by simp at hj,fun j hj => by simp at hj,by simp [maxLen]⟩
 ·simp at hcs
  obtain ⟨rfl,rfl,rfl⟩ := hcs
  simp at hmm
  subst hmm
  rw [hcF] at hel
  have hF : ∀ i,i < m → ∃ f : En,W.cell? ((a.add (i * 4)).add 0) = some (.string f.key) ∧ W.cell? ((a.add (i * 4)).add 1) = some (.int .i64 f.st) ∧ W.cell? ((a.add (i * 4)).add 2) = some (.int .i64 f.lf) ∧ W.cell? ((a.add (i * 4)).add 3) = some (.string f.bd) ∧ f.Sized := by
   intro i hi
   obtain ⟨cs',hcs',htr⟩ := hel i hi
   obtain ⟨f,rfl,hs1⟩ := entryCells_of htr
   obtain ⟨x,y,z,u,he,h0,h1,h2,h3⟩ := cells4E hcs'
   simp only [List.cons.injEq,and_true] at he
   obtain ⟨rfl,rfl,rfl,rfl⟩ := he
   exact ⟨f,h0,h1,h2,h3,hs1⟩
  haveI : Inhabited En := ⟨zen⟩
  obtain ⟨F,hF⟩ := choose_lt hF
  refine ⟨some a,m,(List.range len0).map F,by simp,fun j hj => ?_,fun j hj => ?_,by simp; omega⟩
  ·simp only [List.length_map,List.length_range] at hj
   obtain ⟨h0,h1,h2,h3,_⟩ := hF j (by omega)
   obtain ⟨b,off,spot⟩ := a
   have hspot : spot = none := by
    have h00 := (hF 0 (by omega)).1
    simpa [Addr.add] using World.cell?_spot h00
   subst hspot
   have hlt := World.block_lt_of_cell? W _ h0
   refine ⟨b,off,rfl, ?_, ?_, ?_, ?_, ?_⟩
   ·simpa [Addr.add_mid] using hlt
   ·simpa [Addr.add_mid] using h0
   ·simpa [Addr.add_mid] using h1
   ·simpa [Addr.add_mid] using h2
   ·simpa [Addr.add_mid] using h3
  ·simp only [List.length_map,List.length_range] at hj
   have := hF j (by omega)
   simpa using this.2.2.2.2
end Go.Proofs.YthfjfccdelbkhaaGreatDoor
