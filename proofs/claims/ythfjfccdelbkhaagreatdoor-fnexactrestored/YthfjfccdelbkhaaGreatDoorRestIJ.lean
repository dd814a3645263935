/- Texts that stand in one: RestI, PvMore, PvSet, SpecJoin, SpecEntry. -/
import Derived.Test.YthfjfccdelbkhaaGreatDoorSkNewImplJ
import Derived.Test.YthfjfccdelbkhaaGreatDoorRet9XJ
import Derived.Test.YthfjfccdelbkhaaGreatDoorRestPlainJ
import Derived.Test.YthfjfccdelbkhaaGreatDoorHallKeep
import Derived.Test.YthfjfccdelbkhaaGreatDoorHallKitJ
import Derived.Test.YthfjfccdelbkhaaGreatDoorPolSzTextJ
import Derived.Test.YthfjfccdelbkhaaGreatDoorPxPlainJ
import Derived.Test.YthfjfccdelbkhaaGreatDoorCliLawJ
import Derived.Test.YthfjfccdelbkhaaGreatDoorPolSpecJ
import Derived.Test.YthfjfccdelbkhaaGreatDoorFilesJ
namespace Go.Proofs.YthfjfccdelbkhaaGreatDoor
open Go.RowKit Go.Sort
set_option maxRecDepth 100000 in
set_option maxHeartbeats 8000000 in
theorem implRestored_any (w : World) (a : Option Addr) (c : Nat) (L : List En) (now : Int) (hL : NAt w a L w.heap.size) (hm : L.length ≤ 1048576) (hz : ∀ x ∈ L,x.key.size ≤ 1048576 ∧ x.bd.size ≤ 1048576) (htab : Tab w) :
  Calls Tryz.prog 7 #[.int .i64 now,.slice a L.length c] w fun e' w' => ∃ Y : Pc,e' = .returned (.agg #[.int .i64 (restR now L).now,Y.e,Y.w,Y.m,Y.k,.int .i64 (restR now L).pol.sk.added,Y.f,Y.c,.int .i64 (restR now L).hits]) ∧ PxOwn w' w.heap.size w'.heap.size Y (restR now L) ∧ Below w.heap.size w w' := by
 obtain ⟨A,hA⟩ : ∃ A,w.heap.size = A := ⟨_,rfl⟩
 obtain ⟨w1,hw1⟩ : ∃ x,w.alloc (.cells #[.int .i64 0,.slice none 0 0,.slice none 0 0,.slice none 0 0,.slice none 0 0,.int .i64 0,.slice none 0 0,.slice none 0 0,.int .i64 0] 34) = x := ⟨_,rfl⟩
 have hb1 : Below w.heap.size w w1 := by rw [← hw1]; exact (Below.refl _ _).alloc (Nat.le_refl _) _
 have hs1 : w1.heap.size = A + 1 := by rw [← hw1, ← hA]; simp
 have hRB0 : NB w1 A 34 (.int .i64 0) (.slice none 0 0) (.slice none 0 0) (.slice none 0 0) (.slice none 0 0) (.int .i64 0) (.slice none 0 0) (.slice none 0 0) (.int .i64 0) := by rw [← hw1, ← hA]; exact NB.new _ _ _ _ _ _ _ _ _ _ _
 have HRB : Hid (NB w1 A 34 (.int .i64 0) (.slice none 0 0) (.slice none 0 0) (.slice none 0 0) (.slice none 0 0) (.int .i64 0) (.slice none 0 0) (.slice none 0 0) (.int .i64 0)) := hRB0
 have HBA : Hid (Below A w w1) := by show Below _ _ _; rw [← hA]; exact hb1
 have HA1 : Hid (A ≤ w1.heap.size) := by show _ ≤ _; omega
 have HTA : Hid (Tab w1) := htab.below hb1 (Nat.le_refl _)
 have HLL : Hid (NAt w1 a L w1.heap.size ∧ L.length ≤ 1048576 ∧ (∀ x ∈ L,x.key.size ≤ 1048576 ∧ x.bd.size ≤ 1048576)) := ⟨hL.on hb1,hm,hz⟩
 have HW : Hid (w.alloc (.cells #[.int .i64 0,.slice none 0 0,.slice none 0 0,.slice none 0 0,.slice none 0 0,.int .i64 0,.slice none 0 0,.slice none 0 0,.int .i64 0] 34) = w1) := hw1
 have c1 := implProxyNewE_any w1
 rw [hA]
 clear hw1 hb1 hRB0 hL hm hz htab hs1
 go_enter Tryz.func7,Tryz.ntmps7
 go_wp2_with fail
 rw [HW.out]
 try rw [hA]
 refine c1.mono ?_
 rintro e' w2 ⟨X,he,ho2,hb2,hXe⟩
 obtain ⟨e0,e1,xw0,xw1,xm0,xm1,xk0,xk1,xf0,xf1,xc0,xc1,rfl⟩ := ho2.slices
 dsimp only at he hXe
 simp only [Value.slice.injEq] at hXe
 obtain ⟨rfl,_,rfl⟩ := hXe
 subst he
 obtain ⟨T,hT⟩ : ∃ T,w2.heap.size = T := ⟨_,rfl⟩
 obtain ⟨w4,hw4⟩ : ∃ x,w2.alloc (.cells #[.int .i64 now,.slice none 0 0,.slice xw0 newR.pol.win.length xw1,.slice xm0 newR.pol.main.length xm1,.slice xk0 newR.pol.sk.rows.length xk1,.int .i64 newR.pol.sk.added,.slice xf0 newR.fes.length xf1,.slice xc0 newR.cls.length xc1,.int .i64 newR.hits] 53) = x := ⟨_,rfl⟩
 have hb3 : Below w2.heap.size w2 w4 := by rw [← hw4]; exact (Below.refl _ _).alloc (Nat.le_refl _) _
 have HH4 : Hid (HallAt w4 w1.heap.size T ⟨.slice none 0 0,.slice xw0 newR.pol.win.length xw1,.slice xm0 newR.pol.main.length xm1,.slice xk0 newR.pol.sk.rows.length xk1,.slice xf0 newR.fes.length xf1,.slice xc0 newR.cls.length xc1⟩ (restZ now)) := by
  have h := (ho2.below hb3 (Nat.le_refl _)).up
  refine ⟨?_,⟨h.e,h.p,h.f,h.c,h.eh,h.fh,h.ch⟩,by rw [← hT]; exact hb2.size⟩
  rw [← hw4, ← hT]
  exact NB.new _ _ _ _ _ _ _ _ _ _ _
 have HB4 : Hid (Below w1.heap.size w1 w4) := hb2.trans (hb3.mono hb2.size)
 have HW4 : Hid (w2.alloc (.cells #[.int .i64 now,.slice none 0 0,.slice xw0 newR.pol.win.length xw1,.slice xm0 newR.pol.main.length xm1,.slice xk0 newR.pol.sk.rows.length xk1,.int .i64 newR.pol.sk.added,.slice xf0 newR.fes.length xf1,.slice xc0 newR.cls.length xc1,.int .i64 newR.hits] 53) = w4) := hw4
 clear c1 hw4 hb3 ho2 hb2
 go_upto_region 3 with fail
 rw [HW4.out]
 try rw [hT]
 clear HW4
 have cF := freshOnes_any w4 a c L now (HLL.out.1.on HB4.out) HLL.out.2.1 HLL.out.2.2
 obtain ⟨F,hF⟩ : ∃ F,freshL now L = F := ⟨_,rfl⟩
 rw [hF] at cF
 have HF : Hid (freshL now L = F) := hF
 have HOK : Hid (∀ x ∈ F,enOk x = true) := by show ∀ x ∈ F,_; rw [← hF]; exact freshL_ok
 have HFL : Hid (F.length ≤ 1048576) := by show _ ≤ _; rw [← hF]; exact Nat.le_trans (List.length_filter_le _ _) HLL.out.2.1
 clear hF
 go_wp2_with fail
 refine cF.mono ?_
 rintro e' w5 ⟨v,rfl,ho5,hb5⟩
 obtain ⟨f0,f1,rfl,hFA⟩ := ho5.at
 have HFO : Hid (∀ W,(∀ j,j < w5.heap.size → j ≠ T → W.heap[j]? = w5.heap[j]?) → w5.heap.size ≤ W.heap.size → NAt W f0 F W.heap.size) := by
  show ∀ W,_ → _ → _
  intro W h1 h2
  have ho := ho5.kept (w' := W) (fun k hk => h1 k (ho5.lt k hk).2 (fun e => by have := (ho5.lt k hk).1; have := HH4.out.box.lt; omega))
  obtain ⟨q5,q6,e5,e6⟩ := ho.at
  simp only [Value.slice.injEq] at e5
  obtain ⟨rfl,_,rfl⟩ := e5
  exact e6
 have HH5 : Hid (HallAt w5 w1.heap.size T ⟨.slice none 0 0,.slice xw0 newR.pol.win.length xw1,.slice xm0 newR.pol.main.length xm1,.slice xk0 newR.pol.sk.rows.length xk1,.slice xf0 newR.fes.length xf1,.slice xc0 newR.cls.length xc1⟩ (restZ now)) := HH4.out.on hb5
 have HB5 : Hid (Below w1.heap.size w1 w5) := HB4.out.trans (hb5.mono HB4.out.size)
 clear cF ho5 hb5 hFA HH4 HB4
 go_wp2_with fail
 go_loopw [17] (fun i wr => Box (∃ (k : Nat) (X : Pc),k ≤ F.length ∧ i = .int .i64 k ∧ HallAt wr w1.heap.size T X (restL now (F.take k)) ∧ Below w1.heap.size w1 wr ∧ (∀ j,X.e.ownBlock = some j → w5.heap.size ≤ j) ∧ TchB w5.heap.size T w5 wr ∧ w5.heap.size ≤ wr.heap.size))
  (fun i _ => F.length - (intOf i).toNat)
 case atStart => exact ⟨⟨0,_,by omega,rfl,HH5.out,HB5.out,fun j hj => by simp [Value.ownBlock] at hj,fun _ _ _ => rfl,Nat.le_refl _⟩⟩
 case round =>
  obtain ⟨k,X,hk,rfl,hH,hbA,hoe,htb,hsz⟩ := hrel.out
  by_cases hlt : k < F.length
  ·obtain ⟨g,off,hga,hg,hc0,hc1,hc2,hc3⟩ := HFO.out wr htb hsz k hlt
   have hxo := HOK.out F[k] (List.getElem_mem hlt)
   obtain ⟨x,hx⟩ : ∃ x,F[k] = x := ⟨_,rfl⟩
   have HSN : Hid (restL now (F.take (k + 1)) = keepR (restL now (F.take k)) x) := by show _ = _; rw [List.take_succ_eq_append_getElem hlt,hx,restL_snoc]
   rw [hx] at hc0 hc1 hc2 hc3 hxo
   have hi1 : (0 : Int) ≤ (k : Int) := by omega
   have hi2 : (k : Int) < (F.length : Int) := by omega
   have HK : Hid (k < F.length) := hlt
   have hfl := HFL.out
   subst hga
   obtain ⟨we,hwe⟩ : ∃ we,wr.alloc (.cells #[.string x.key,.int .i64 x.st,.int .i64 x.lf,.string x.bd] 47) = we := ⟨_,rfl⟩
   obtain ⟨V,hV⟩ : ∃ V,wr.heap.size = V := ⟨_,rfl⟩
   have hbe : Below wr.heap.size wr we := by rw [← hwe]; exact (Below.refl _ _).alloc (Nat.le_refl _) _
   have HXV : Hid (EnB we V 47 x) := by show EnB _ _ _ _; rw [← hwe, ← hV]; exact EnB.new wr _ x
   have HHe : Hid (HallAt we w1.heap.size T X (restL now (F.take k)) ∧ Below w1.heap.size w1 we ∧ (∀ j,X.e.ownBlock = some j → w5.heap.size ≤ j) ∧ TchB w5.heap.size T w5 we ∧ w5.heap.size ≤ we.heap.size) := ⟨hH.on hbe,hbA.trans (hbe.mono hbA.size),hoe,htb.trans (TchB.below hbe hsz),Nat.le_trans hsz hbe.size⟩
   have HWE : Hid (wr.alloc (.cells #[.string x.key,.int .i64 x.st,.int .i64 x.lf,.string x.bd] 47) = we) := hwe
   have HXO : Hid (enOk x = true) := hxo
   obtain ⟨x0,x1,x2,x3⟩ := HXV.out.cells
   rw [← hwe] at x0 x1 x2 x3
   have hxs : x.key.size ≤ 1048576 ∧ x.bd.size ≤ 1048576 := by
    obtain ⟨h1,_,_,h2⟩ := enOk_iff.1 hxo
    omega
   have cC := entryCopy_any we x hxs.1 hxs.2
   clear hrel hx hwe hbe hH hbA hoe htb hsz hxo hxs hg
   go_wp2_with fail
   rw [HWE.out] at x0 x1 x2 x3 ⊢
   try rw [hV]
   refine cC.mono ?_
   rintro e' w6 ⟨rfl,hb6⟩
   clear cC x0 x1 x2 x3 hc0 hc1 hc2 hc3
   obtain ⟨hKJ,hf5,hc5,_,_⟩ := restL_J now _ (F.take k) rfl (fun x hx => HOK.out x (List.mem_of_mem_take hx))
   have hKz := hKJ.sz hf5 hc5
   have cK := hallKeep_any w6 w1.heap.size T w5.heap.size X (restL now (F.take k)) x (HHe.out.1.on hb6) HB5.out.size (Nat.le_trans HHe.out.2.2.2.2 hb6.size) HHe.out.2.2.1 hKJ.up (by unfold PxSz; omega) (by have := (enOk_iff.1 HXO.out).1; omega) (HTA.out.below (HHe.out.2.1.trans (hb6.mono HHe.out.2.1.size)) (Nat.le_refl _))
   have HB6 : Hid (Below w1.heap.size w1 w6 ∧ TchB w5.heap.size T w5 w6 ∧ w5.heap.size ≤ w6.heap.size) := ⟨HHe.out.2.1.trans (hb6.mono HHe.out.2.1.size),HHe.out.2.2.2.1.trans (TchB.below hb6 HHe.out.2.2.2.2),Nat.le_trans HHe.out.2.2.2.2 hb6.size⟩
   clear hKJ hf5 hc5 hKz hb6 HHe HXV HWE
   go_wp2_with fail
   refine cK.mono ?_
   rintro e' w7 ⟨rfl,Y,hH7,hb7,ho7,ht7⟩
   rw [← HSN.out] at hH7
   have HG : Hid (HallAt w7 w1.heap.size T Y (restL now (F.take (k + 1))) ∧ Below w1.heap.size w1 w7 ∧ (∀ j,Y.e.ownBlock = some j → w5.heap.size ≤ j) ∧ TchB w5.heap.size T w5 w7 ∧ w5.heap.size ≤ w7.heap.size) := ⟨hH7,HB6.out.1.trans hb7,ho7,HB6.out.2.1.trans ht7,Nat.le_trans HB6.out.2.2 hb7.size⟩
   clear cK hH7 hb7 ho7 ht7 HB6 HSN
   go_wp2_with fail
   go_roundw
   case rel =>
    try ((repeat apply Exists.intro); refine ⟨?_,rfl⟩)
    exact ⟨⟨k + 1,Y,by have := HK.out; omega,by go_num,HG.out⟩⟩
   case measure => have := HK.out; simp [intOf]; omega
  ·have hke : k = F.length := by omega
   have hi2 : ¬ (k : Int) < (F.length : Int) := by omega
   rw [hke,List.take_length] at hH
   clear hrel hoe htb hsz hke hlt hk
   obtain ⟨RF,hRF⟩ : ∃ RF,restL now F = RF := ⟨_,rfl⟩
   have HRF : Hid (restR now L = RF) := by show _ = _; unfold restR; rw [HF.out]; exact hRF
   rw [hRF] at hH
   obtain ⟨g0,g1,g2,g3,g4,g5,g6,g7,g8⟩ := hH.box.cells
   obtain ⟨y0,y1,yp0,yp1,ym0,ym1,yk0,yk1,yf0,yf1,yc0,yc1,rfl⟩ := hH.own.slices
   dsimp only at g1 g2 g3 g4 g6 g7
   have hrr := HRB.out.on hbA
   obtain ⟨r0,r1,r2,r3,r4,r5,r6,r7,r8⟩ := hrr.cells
   have tt := hrr.thaw
   obtain ⟨t0,t1,t2,t3,t4,t5,t6,t7,t8⟩ := And.intro (tt 0) (And.intro (tt 1) (And.intro (tt 2) (And.intro (tt 3) (And.intro (tt 4) (And.intro (tt 5) (And.intro (tt 6) (And.intro (tt 7) (tt 8))))))))
   have hR9 := ret9x (A := A) (r := A) (w0 := w) hH.own hrr (HBA.out.trans (hbA.mono HA1.out)) (Nat.le_refl _)
   dsimp only at hR9
   have HR9 : Hid _ := (fun (_ : Unit) => hR9)
   clear hH hbA hR9 tt hrr hRF
   go_wp2_with fail
   obtain ⟨q0,q1,q2,q3,q4,q5,q6,q7,q8⟩ := (HR9.out ()).1.cells
   refine bodyPost_ret (v := .agg #[.int .i64 RF.now,.slice y0 RF.ents.length y1,.slice yp0 RF.pol.win.length yp1,.slice ym0 RF.pol.main.length ym1,.slice yk0 RF.pol.sk.rows.length yk1,.int .i64 RF.pol.sk.added,.slice yf0 RF.fes.length yf1,.slice yc0 RF.cls.length yc1,.int .i64 RF.hits]) (by simp [results,Tryz.results7,go_sem,q0,q1,q2,q3,q4,q5,q6,q7,q8]) rfl ?_
   rw [HRF.out]
   exact ⟨_,rfl,(HR9.out ()).2.1.mono HA1.out (Nat.le_refl _),(HR9.out ()).2.2⟩
structure PvAt (w : World) (lo T : Nat) (X : Pc) (R : Prx) : Prop where
 box : NB w T 34 (.int .i64 R.now) X.e X.w X.m X.k (.int .i64 R.pol.sk.added) X.f X.c (.int .i64 R.hits)
 own : PxOwn w lo w.heap.size X R
 le : lo ≤ T
theorem PvAt.on {w w' : World} {lo T : Nat} {X : Pc} {R : Prx} (H : PvAt w lo T X R) (hb : Below w.heap.size w w') : PvAt w' lo T X R :=
 ⟨H.box.on hb,(H.own.below hb (Nat.le_refl _)).up,H.le⟩
theorem PvAt.lt {w : World} {lo T : Nat} {X : Pc} {R : Prx} (H : PvAt w lo T X R) : lo ≤ w.heap.size := Nat.le_trans H.le (Nat.le_of_lt H.box.lt)
theorem PvAt.far {w : World} {lo T : Nat} {X : Pc} {R : Prx} (H : PvAt w lo T X R) {v : Value} {e : TypeId} (hty : ∀ k,v.ownBlock = some k → ∃ cs,w.heap[k]? = some (.cells cs e (0, 0))) (hne : 34 ≠ e) : v.ownBlock ≠ some T := fun h => by
 obtain ⟨c,hc⟩ := hty T h
 have h2 : w.heap[T]? = _ := H.box
 rw [h2] at hc
 simp only [Option.some.injEq,Obj.cells.injEq] at hc
 exact hne hc.2.1
theorem PvAt.setPol {w w' : World} {lo T : Nat} {X : Pc} {R : Prx} {Q : Pol} {y1 y2 y3 : Value} (H : PvAt w lo T X R) (hb : Below w.heap.size w w') (ho : POwn w' w.heap.size w'.heap.size (.agg #[y1,y2,y3,.int .i64 Q.sk.added]) Q) :
  PvAt ((((w'.setCell ⟨T, 2,none⟩ y1).setCell ⟨T, 3,none⟩ y2).setCell ⟨T, 4,none⟩ y3).setCell ⟨T, 5,none⟩ (.int .i64 Q.sk.added)) lo T ⟨X.e,y1,y2,y3,X.f,X.c⟩ ⟨R.now,R.ents,Q,R.fes,R.cls,R.hits⟩ ∧ Below lo w ((((w'.setCell ⟨T, 2,none⟩ y1).setCell ⟨T, 3,none⟩ y2).setCell ⟨T, 4,none⟩ y3).setCell ⟨T, 5,none⟩ (.int .i64 Q.sk.added)) := by
 have hbx := H.box.on hb
 have hO : PxOwn w' lo w'.heap.size ⟨X.e,y1,y2,y3,X.f,X.c⟩ ⟨R.now,R.ents,Q,R.fes,R.cls,R.hits⟩ := by
  have h := (H.own.below hb (Nat.le_refl _)).up
  exact ⟨h.e,ho.mono H.lt (Nat.le_refl _),h.f,h.c,h.eh,h.fh,h.ch⟩
 refine ⟨⟨(((hbx.set2 _).set3 _).set4 _).set5 _,(hO.box hbx (by unfold PxT; decide) (fun j hj => ?_)).up,H.le⟩, ?_⟩
 ·exact (Below.heap_setCell _ _ _ _ (by exact hj)).trans ((Below.heap_setCell _ _ _ _ (by exact hj)).trans ((Below.heap_setCell _ _ _ _ (by exact hj)).trans (Below.heap_setCell _ _ _ _ (by exact hj))))
 ·exact ((((hb.mono H.lt).setCell H.le _).setCell H.le _).setCell H.le _).setCell H.le _
theorem PvAt.setE {w w' : World} {lo T : Nat} {X : Pc} {R : Prx} {L : List En} {y : Value} (H : PvAt w lo T X R) (hb : Below w.heap.size w w') (ho : OwnN w' w.heap.size 47 y L) :
  PvAt (w'.setCell ⟨T, 1,none⟩ y) lo T ⟨y,X.w,X.m,X.k,X.f,X.c⟩ ⟨R.now,L,R.pol,R.fes,R.cls,R.hits⟩ ∧ Below lo w (w'.setCell ⟨T, 1,none⟩ y) := by
 have hbx := H.box.on hb
 have hO : PxOwn w' lo w'.heap.size ⟨y,X.w,X.m,X.k,X.f,X.c⟩ ⟨R.now,L,R.pol,R.fes,R.cls,R.hits⟩ := by
  have h := (H.own.below hb (Nat.le_refl _)).up
  exact ⟨ho.mono H.lt,h.p,h.f,h.c,fun k hk => (ho.lt k hk).2,h.fh,h.ch⟩
 exact ⟨⟨hbx.set1 _,(hO.box hbx (by unfold PxT; decide) (fun j hj => Below.heap_setCell _ _ _ _ (by exact hj))).up,H.le⟩,(hb.mono H.lt).setCell H.le _⟩
end Go.Proofs.YthfjfccdelbkhaaGreatDoor
