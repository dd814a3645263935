/- The other text's AskFor. Written by mkturned.py. -/
import Derived.Test.YtpgcfgbhkodmeaaGreatDoorPolSzTextJ
import Derived.Test.YtpgcfgbhkodmeaaGreatDoorPvMoreJ
import Derived.Test.YtpgcfgbhkodmeaaGreatDoorL16Copy
import Derived.Test.YtpgcfgbhkodmeaaGreatDoorPolTouchSpec
import Derived.Test.YtpgcfgbhkodmeaaGreatDoorPolDropSpecJ
import Derived.Test.YtpgcfgbhkodmeaaGreatDoorSkBumpSpecJ
import Derived.Test.YtpgcfgbhkodmeaaGreatDoorPxOkSpec
import Derived.Test.YtpgcfgbhkodmeaaGreatDoorPrxMarkJ
import Derived.Test.YtpgcfgbhkodmeaaGreatDoorPrxBaseJ
import Derived.Test.YtpgcfgbhkodmeaaGreatDoorToEndJ
namespace Go.Proofs.YtpgcfgbhkodmeaaGreatDoor
open Go.RowKit Go.Sort
set_option maxRecDepth 100000 in
set_option maxHeartbeats 16000000 in
theorem specAskFor_any (w : World) (X : Pc) (R : Prx) (id : Int) (key : ByteArray) (hA : PxAt w X R w.heap.size) (hsz : PxSz R) (hkey : key.size ≤ 1048576) :
  Calls Tryz.prog 11 #[.agg #[.int .i64 R.now,X.e,X.w,X.m,X.k,.int .i64 R.pol.sk.added,X.f,X.c,.int .i64 R.hits],.int .i64 id,.string key] w fun e w' => ∃ Y : Pc,e = .returned (.tuple #[.agg #[.int .i64 (askR R id key).1.now,Y.e,Y.w,Y.m,Y.k,.int .i64 (askR R id key).1.pol.sk.added,Y.f,Y.c,.int .i64 (askR R id key).1.hits],.int .i64 (askR R id key).2]) ∧ PxOwn w' w.heap.size w'.heap.size Y (askR R id key).1 ∧ Below w.heap.size w w' := by
 obtain ⟨e0,e1,p0,p1,m0,m1,k0,k1,f0,f1,c0,c1,rfl⟩ := hA.slices
 dsimp only
 obtain ⟨_,_,hl1,hl2⟩ := hsz.parts
 obtain ⟨A,hAA⟩ : ∃ A,w.heap.size = A := ⟨_,rfl⟩
 obtain ⟨w0,hw0⟩ : ∃ x,w.alloc (.cells #[.int .i64 R.now,.slice e0 R.ents.length e1,.slice p0 R.pol.win.length p1,.slice m0 R.pol.main.length m1,.slice k0 R.pol.sk.rows.length k1,.int .i64 R.pol.sk.added,.slice f0 R.fes.length f1,.slice c0 R.cls.length c1,.int .i64 R.hits] 48) = x := ⟨_,rfl⟩
 obtain ⟨w1,hw1⟩ : ∃ x,w0.alloc (.cells #[.int .i64 0,.slice none 0 0,.slice none 0 0,.slice none 0 0,.slice none 0 0,.int .i64 0,.slice none 0 0,.slice none 0 0,.int .i64 0] 48) = x := ⟨_,rfl⟩
 have hb0 : Below w.heap.size w w0 := by rw [← hw0]; exact (Below.refl _ _).alloc (Nat.le_refl _) _
 have hb01 : Below w0.heap.size w0 w1 := by rw [← hw1]; exact (Below.refl _ _).alloc (Nat.le_refl _) _
 have s0 : w0.heap.size = A + 1 := by rw [← hw0]; simp [hAA]
 have s1 : w1.heap.size = A + 2 := by rw [← hw1]; simp; omega
 have hb1 : Below w.heap.size w w1 := hb0.trans (hb01.mono hb0.size)
 have hB : NB w1 A 48 (.int .i64 R.now) (.slice e0 R.ents.length e1) (.slice p0 R.pol.win.length p1) (.slice m0 R.pol.main.length m1) (.slice k0 R.pol.sk.rows.length k1) (.int .i64 R.pol.sk.added) (.slice f0 R.fes.length f1) (.slice c0 R.cls.length c1) (.int .i64 R.hits) := by
  have h : NB w0 A 48 (.int .i64 R.now) (.slice e0 R.ents.length e1) (.slice p0 R.pol.win.length p1) (.slice m0 R.pol.main.length m1) (.slice k0 R.pol.sk.rows.length k1) (.int .i64 R.pol.sk.added) (.slice f0 R.fes.length f1) (.slice c0 R.cls.length c1) (.int .i64 R.hits) := by rw [← hw0, ← hAA]; exact NB.new _ _ _ _ _ _ _ _ _ _ _
  exact h.on hb01
 have hR : NB w1 (A + 1) 48 (.int .i64 0) (.slice none 0 0) (.slice none 0 0) (.slice none 0 0) (.slice none 0 0) (.int .i64 0) (.slice none 0 0) (.slice none 0 0) (.int .i64 0) := by rw [← hw1, ← s0]; exact NB.new _ _ _ _ _ _ _ _ _ _ _
 have HW : Hid ((w.alloc (.cells #[.int .i64 R.now,.slice e0 R.ents.length e1,.slice p0 R.pol.win.length p1,.slice m0 R.pol.main.length m1,.slice k0 R.pol.sk.rows.length k1,.int .i64 R.pol.sk.added,.slice f0 R.fes.length f1,.slice c0 R.cls.length c1,.int .i64 R.hits] 48)).alloc (.cells #[.int .i64 0,.slice none 0 0,.slice none 0 0,.slice none 0 0,.slice none 0 0,.int .i64 0,.slice none 0 0,.slice none 0 0,.int .i64 0] 48) = w1) := by show _ = _; rw [hw0]; exact hw1
 have HI : Hid (∀ W,Below w1.heap.size w1 W → NB W A 48 (.int .i64 R.now) (.slice e0 R.ents.length e1) (.slice p0 R.pol.win.length p1) (.slice m0 R.pol.main.length m1) (.slice k0 R.pol.sk.rows.length k1) (.int .i64 R.pol.sk.added) (.slice f0 R.fes.length f1) (.slice c0 R.cls.length c1) (.int .i64 R.hits) ∧ NB W (A + 1) 48 (.int .i64 0) (.slice none 0 0) (.slice none 0 0) (.slice none 0 0) (.slice none 0 0) (.int .i64 0) (.slice none 0 0) (.slice none 0 0) (.int .i64 0) ∧ PxAt W ⟨.slice e0 R.ents.length e1,.slice p0 R.pol.win.length p1,.slice m0 R.pol.main.length m1,.slice k0 R.pol.sk.rows.length k1,.slice f0 R.fes.length f1,.slice c0 R.cls.length c1⟩ R W.heap.size ∧ Below A w W ∧ A + 2 ≤ W.heap.size) := fun W h => ⟨hB.on h,hR.on h,(hA.on hb1).on h,by rw [← hAA]; exact hb1.trans (h.mono hb1.size),by have := h.size; omega⟩
 have HSZ : Hid (PxSz R) := hsz
 have HKY : Hid (key.size ≤ 1048576) := hkey
 have HL : Hid (R.fes.length ≤ 1048576 ∧ R.cls.length ≤ 1048576 ∧ w.heap.size = A ∧ w1.heap.size = A + 2) := ⟨hl1,hl2,hAA,s1⟩
 have cH := l16Copy_any w1 ⟨.slice e0 R.ents.length e1,.slice p0 R.pol.win.length p1,.slice m0 R.pol.main.length m1,.slice k0 R.pol.sk.rows.length k1,.slice f0 R.fes.length f1,.slice c0 R.cls.length c1⟩ R (hA.on hb1) hsz
 dsimp only at cH
 obtain ⟨b0,b1,b2,b3,b4,b5,b6,b7,b8⟩ := hB.cells
 rw [← hw1, ← hw0] at b0 b1 b2 b3 b4 b5 b6 b7 b8
 clear hw0 hw1 hb0 hb01 s0 hb1 hB hR hA hsz s1 hkey
 go_enter Tryz.func11,Tryz.ntmps11
 go_wp2_with fail
 rw [HW.out] at b0 b1 b2 b3 b4 b5 b6 b7 b8 ⊢
 refine cH.mono ?_
 rintro e w2 ⟨Y,he,ho2,hb2⟩
 clear cH b0 b1 b2 b3 b4 b5 b6 b7 b8
 obtain ⟨ye0,ye1,yw0,yw1,ym0,ym1,yk0,yk1,yf0,yf1,yc0,yc1,rfl⟩ := ho2.slices
 dsimp only at he
 subst he
 obtain ⟨T,hT⟩ : ∃ T,w2.heap.size = T := ⟨_,rfl⟩
 obtain ⟨w3,hw3⟩ : ∃ x,w2.alloc (.cells #[.int .i64 R.now,.slice ye0 R.ents.length ye1,.slice yw0 R.pol.win.length yw1,.slice ym0 R.pol.main.length ym1,.slice yk0 R.pol.sk.rows.length yk1,.int .i64 R.pol.sk.added,.slice yf0 R.fes.length yf1,.slice yc0 R.cls.length yc1,.int .i64 R.hits] 48) = x := ⟨_,rfl⟩
 have hb3 : Below w2.heap.size w2 w3 := by rw [← hw3]; exact (Below.refl _ _).alloc (Nat.le_refl _) _
 have HV3 : Hid (PvAt w3 w1.heap.size T ⟨.slice ye0 R.ents.length ye1,.slice yw0 R.pol.win.length yw1,.slice ym0 R.pol.main.length ym1,.slice yk0 R.pol.sk.rows.length yk1,.slice yf0 R.fes.length yf1,.slice yc0 R.cls.length yc1⟩ R) := ⟨by rw [← hw3, ← hT]; exact NB.new _ _ _ _ _ _ _ _ _ _ _,(ho2.below hb3 (Nat.le_refl _)).up,by rw [← hT]; exact hb2.size⟩
 have HB3 : Hid (Below w1.heap.size w1 w3) := hb2.trans (hb3.mono hb2.size)
 have HW3 : Hid (w2.alloc (.cells #[.int .i64 R.now,.slice ye0 R.ents.length ye1,.slice yw0 R.pol.win.length yw1,.slice ym0 R.pol.main.length ym1,.slice yk0 R.pol.sk.rows.length yk1,.int .i64 R.pol.sk.added,.slice yf0 R.fes.length yf1,.slice yc0 R.cls.length yc1,.int .i64 R.hits] 48) = w3) := hw3
 have cO := specProxyOk_any w3 ⟨.slice e0 R.ents.length e1,.slice p0 R.pol.win.length p1,.slice m0 R.pol.main.length m1,.slice k0 R.pol.sk.rows.length k1,.slice f0 R.fes.length f1,.slice c0 R.cls.length c1⟩ R (HI.out w3 HB3.out).2.2.1 HSZ.out
 dsimp only at cO
 obtain ⟨b0,b1,b2,b3,b4,b5,b6,b7,b8⟩ := (HI.out w3 HB3.out).1.cells
 obtain ⟨x1,hx1⟩ : ∃ b,okX R = b := ⟨_,rfl⟩
 rw [hx1] at cO
 have HX1 : Hid (okX R = x1) := hx1
 rw [← hw3] at b0 b1 b2 b3 b4 b5 b6 b7 b8
 clear hw3 hb3 ho2 hb2 hx1
 go_wp2_with fail
 rw [HW3.out] at b0 b1 b2 b3 b4 b5 b6 b7 b8 ⊢
 refine cO.mono ?_
 rintro e w4 ⟨rfl,hb4⟩
 clear cO b0 b1 b2 b3 b4 b5 b6 b7 b8
 have HV4 : Hid (PvAt w4 w1.heap.size T ⟨.slice ye0 R.ents.length ye1,.slice yw0 R.pol.win.length yw1,.slice ym0 R.pol.main.length ym1,.slice yk0 R.pol.sk.rows.length yk1,.slice yf0 R.fes.length yf1,.slice yc0 R.cls.length yc1⟩ R) := HV3.out.on hb4
 have HB4 : Hid (Below w1.heap.size w1 w4) := HB3.out.trans (hb4.mono HB3.out.size)
 clear hb4 HV3 HB3 HW3
 cases x1 with
 | false =>
  have HRQ : Hid (askR R id key = (R, 1)) := askR_no (by unfold mayB; rw [HX1.out]; rfl)
  obtain ⟨XF,HVf⟩ : ∃ XF,Hid (PvAt w4 w1.heap.size T XF R) := ⟨_,HV4.out⟩
  have HBf : Hid (Below w1.heap.size w1 w4) := HB4.out
  have HRR : Hid (askR R id key = (R, 1)) := by show _ = _; exact HRQ.out
  obtain ⟨g0,g1,g2,g3,g4,g5,g6,g7,g8⟩ := HVf.out.box.cells
  obtain ⟨y0,y1,yp0,yp1,ym0,ym1,yk0,yk1,yf0,yf1,yc0,yc1,rfl⟩ := HVf.out.own.slices
  dsimp only at g1 g2 g3 g4 g6 g7
  obtain ⟨r0,r1,r2,r3,r4,r5,r6,r7,r8⟩ := (HI.out w4 HBf.out).2.1.cells
  have tt := (HI.out w4 HBf.out).2.1.thaw
  obtain ⟨t0,t1,t2,t3,t4,t5,t6,t7,t8⟩ := And.intro (tt 0) (And.intro (tt 1) (And.intro (tt 2) (And.intro (tt 3) (And.intro (tt 4) (And.intro (tt 5) (And.intro (tt 6) (And.intro (tt 7) (tt 8))))))))
  have hR9 := ret9 HVf.out.own (HI.out w4 HBf.out).2.1 (HI.out w4 HBf.out).2.2.2.1
  dsimp only at hR9
  have HR9 := hidR hR9
  clear HVf HBf hR9 tt
  go_wp2_with fail
  obtain ⟨q0,q1,q2,q3,q4,q5,q6,q7,q8⟩ := HR9.out.1.cells
  refine bodyPost_ret (v := .tuple #[.agg #[.int .i64 R.now,.slice y0 R.ents.length y1,.slice yp0 R.pol.win.length yp1,.slice ym0 R.pol.main.length ym1,.slice yk0 R.pol.sk.rows.length yk1,.int .i64 R.pol.sk.added,.slice yf0 R.fes.length yf1,.slice yc0 R.cls.length yc1,.int .i64 R.hits],.int .i64 1]) (by simp [results,Tryz.results11,go_sem,q0,q1,q2,q3,q4,q5,q6,q7,q8]) rfl ?_
  rw [HRR.out]
  refine ⟨_,rfl,HR9.out.2.1.mono (by have := HL.out; omega) (Nat.le_refl _), ?_⟩
  try rw [HL.out.2.2.1]
  exact HR9.out.2.2
 | true =>
  have HOX : Hid (OkX R) := okX_iff.1 HX1.out
  have cI := l01In_any id 1 9 w4
  obtain ⟨x2,hx2⟩ : ∃ b,inB id 1 9 = b := ⟨_,rfl⟩
  rw [hx2] at cI
  have HX2 : Hid (inB id 1 9 = x2) := hx2
  clear hx2
  go_wp2_with fail
  refine cI.mono ?_
  rintro e w' ⟨rfl,rfl⟩
  clear cI
  cases x2 with
  | false =>
   have HRQ : Hid (askR R id key = (R, 1)) := askR_no (by unfold mayB; rw [HX1.out,HX2.out]; rfl)
   obtain ⟨XF,HVf⟩ : ∃ XF,Hid (PvAt w4 w1.heap.size T XF R) := ⟨_,HV4.out⟩
   have HBf : Hid (Below w1.heap.size w1 w4) := HB4.out
   have HRR : Hid (askR R id key = (R, 1)) := by show _ = _; exact HRQ.out
   obtain ⟨g0,g1,g2,g3,g4,g5,g6,g7,g8⟩ := HVf.out.box.cells
   obtain ⟨y0,y1,yp0,yp1,ym0,ym1,yk0,yk1,yf0,yf1,yc0,yc1,rfl⟩ := HVf.out.own.slices
   dsimp only at g1 g2 g3 g4 g6 g7
   obtain ⟨r0,r1,r2,r3,r4,r5,r6,r7,r8⟩ := (HI.out w4 HBf.out).2.1.cells
   have tt := (HI.out w4 HBf.out).2.1.thaw
   obtain ⟨t0,t1,t2,t3,t4,t5,t6,t7,t8⟩ := And.intro (tt 0) (And.intro (tt 1) (And.intro (tt 2) (And.intro (tt 3) (And.intro (tt 4) (And.intro (tt 5) (And.intro (tt 6) (And.intro (tt 7) (tt 8))))))))
   have hR9 := ret9 HVf.out.own (HI.out w4 HBf.out).2.1 (HI.out w4 HBf.out).2.2.2.1
   dsimp only at hR9
   have HR9 := hidR hR9
   clear HVf HBf hR9 tt
   go_wp2_with fail
   obtain ⟨q0,q1,q2,q3,q4,q5,q6,q7,q8⟩ := HR9.out.1.cells
   refine bodyPost_ret (v := .tuple #[.agg #[.int .i64 R.now,.slice y0 R.ents.length y1,.slice yp0 R.pol.win.length yp1,.slice ym0 R.pol.main.length ym1,.slice yk0 R.pol.sk.rows.length yk1,.int .i64 R.pol.sk.added,.slice yf0 R.fes.length yf1,.slice yc0 R.cls.length yc1,.int .i64 R.hits],.int .i64 1]) (by simp [results,Tryz.results11,go_sem,q0,q1,q2,q3,q4,q5,q6,q7,q8]) rfl ?_
   rw [HRR.out]
   refine ⟨_,rfl,HR9.out.2.1.mono (by have := HL.out; omega) (Nat.le_refl _), ?_⟩
   try rw [HL.out.2.2.1]
   exact HR9.out.2.2
  | true =>
   have cK := l13KeyE_any w4 key
   obtain ⟨x3,hx3⟩ : ∃ b,enKey key = b := ⟨_,rfl⟩
   rw [hx3] at cK
   have HX3 : Hid (enKey key = x3) := hx3
   clear hx3
   go_wp2_with fail
   refine cK.mono ?_
   rintro e w' ⟨rfl,rfl⟩
   clear cK
   cases x3 with
   | false =>
    have HRQ : Hid (askR R id key = (R, 1)) := askR_no (by unfold mayB; rw [HX1.out,HX2.out,HX3.out]; rfl)
    obtain ⟨XF,HVf⟩ : ∃ XF,Hid (PvAt w4 w1.heap.size T XF R) := ⟨_,HV4.out⟩
    have HBf : Hid (Below w1.heap.size w1 w4) := HB4.out
    have HRR : Hid (askR R id key = (R, 1)) := by show _ = _; exact HRQ.out
    obtain ⟨g0,g1,g2,g3,g4,g5,g6,g7,g8⟩ := HVf.out.box.cells
    obtain ⟨y0,y1,yp0,yp1,ym0,ym1,yk0,yk1,yf0,yf1,yc0,yc1,rfl⟩ := HVf.out.own.slices
    dsimp only at g1 g2 g3 g4 g6 g7
    obtain ⟨r0,r1,r2,r3,r4,r5,r6,r7,r8⟩ := (HI.out w4 HBf.out).2.1.cells
    have tt := (HI.out w4 HBf.out).2.1.thaw
    obtain ⟨t0,t1,t2,t3,t4,t5,t6,t7,t8⟩ := And.intro (tt 0) (And.intro (tt 1) (And.intro (tt 2) (And.intro (tt 3) (And.intro (tt 4) (And.intro (tt 5) (And.intro (tt 6) (And.intro (tt 7) (tt 8))))))))
    have hR9 := ret9 HVf.out.own (HI.out w4 HBf.out).2.1 (HI.out w4 HBf.out).2.2.2.1
    dsimp only at hR9
    have HR9 := hidR hR9
    clear HVf HBf hR9 tt
    go_wp2_with fail
    obtain ⟨q0,q1,q2,q3,q4,q5,q6,q7,q8⟩ := HR9.out.1.cells
    refine bodyPost_ret (v := .tuple #[.agg #[.int .i64 R.now,.slice y0 R.ents.length y1,.slice yp0 R.pol.win.length yp1,.slice ym0 R.pol.main.length ym1,.slice yk0 R.pol.sk.rows.length yk1,.int .i64 R.pol.sk.added,.slice yf0 R.fes.length yf1,.slice yc0 R.cls.length yc1,.int .i64 R.hits],.int .i64 1]) (by simp [results,Tryz.results11,go_sem,q0,q1,q2,q3,q4,q5,q6,q7,q8]) rfl ?_
    rw [HRR.out]
    refine ⟨_,rfl,HR9.out.2.1.mono (by have := HL.out; omega) (Nat.le_refl _), ?_⟩
    try rw [HL.out.2.2.1]
    exact HR9.out.2.2
   | true =>
    obtain ⟨_,_,_,_,_,_,_,b7,_⟩ := (HI.out w4 HB4.out).1.cells
    by_cases h6 : R.cls.length = 6
    ·have hq : (6 : Int) ≤ (R.cls.length : Int) := by omega
     have HRQ : Hid (askR R id key = (R, 1)) := askR_no (by unfold mayB; rw [HX1.out,HX2.out,HX3.out,decide_eq_true h6]; rfl)
     clear h6
     obtain ⟨XF,HVf⟩ : ∃ XF,Hid (PvAt w4 w1.heap.size T XF R) := ⟨_,HV4.out⟩
     have HBf : Hid (Below w1.heap.size w1 w4) := HB4.out
     have HRR : Hid (askR R id key = (R, 1)) := by show _ = _; exact HRQ.out
     obtain ⟨g0,g1,g2,g3,g4,g5,g6,g7,g8⟩ := HVf.out.box.cells
     obtain ⟨y0,y1,yp0,yp1,ym0,ym1,yk0,yk1,yf0,yf1,yc0,yc1,rfl⟩ := HVf.out.own.slices
     dsimp only at g1 g2 g3 g4 g6 g7
     obtain ⟨r0,r1,r2,r3,r4,r5,r6,r7,r8⟩ := (HI.out w4 HBf.out).2.1.cells
     have tt := (HI.out w4 HBf.out).2.1.thaw
     obtain ⟨t0,t1,t2,t3,t4,t5,t6,t7,t8⟩ := And.intro (tt 0) (And.intro (tt 1) (And.intro (tt 2) (And.intro (tt 3) (And.intro (tt 4) (And.intro (tt 5) (And.intro (tt 6) (And.intro (tt 7) (tt 8))))))))
     have hR9 := ret9 HVf.out.own (HI.out w4 HBf.out).2.1 (HI.out w4 HBf.out).2.2.2.1
     dsimp only at hR9
     have HR9 := hidR hR9
     clear HVf HBf hR9 tt
     go_wp2_with fail
     obtain ⟨q0,q1,q2,q3,q4,q5,q6,q7,q8⟩ := HR9.out.1.cells
     refine bodyPost_ret (v := .tuple #[.agg #[.int .i64 R.now,.slice y0 R.ents.length y1,.slice yp0 R.pol.win.length yp1,.slice ym0 R.pol.main.length ym1,.slice yk0 R.pol.sk.rows.length yk1,.int .i64 R.pol.sk.added,.slice yf0 R.fes.length yf1,.slice yc0 R.cls.length yc1,.int .i64 R.hits],.int .i64 1]) (by simp [results,Tryz.results11,go_sem,q0,q1,q2,q3,q4,q5,q6,q7,q8]) rfl ?_
     rw [HRR.out]
     refine ⟨_,rfl,HR9.out.2.1.mono (by have := HL.out; omega) (Nat.le_refl _), ?_⟩
     try rw [HL.out.2.2.1]
     exact HR9.out.2.2
    ·have HCL : Hid (R.cls.length < 6) := by have := HOX.out.clen; show _ < _; omega
     have HNL : Hid (decide (R.cls.length = 6) = false) := decide_eq_false h6
     have hq : ¬ (6 : Int) ≤ (R.cls.length : Int) := by have := HCL.out; omega
     clear h6
     go_wp2_with fail
     clear b7
     go_loopw [9] (fun i wr => Box (∃ n : Nat,n ≤ R.cls.length ∧ i = .int .i64 n ∧ ((R.cls.take n).any fun c => decide (c.id = id)) = false ∧ Below w4.heap.size w4 wr))
      (fun i _ => R.cls.length - (intOf i).toNat)
     case atStart => exact ⟨⟨0,by omega,rfl,rfl,Below.refl _ _⟩⟩
     case round =>
      obtain ⟨n,hn,rfl,hno,hbr⟩ := hrel.out
      obtain ⟨wo,hwo⟩ : ∃ wo,wo = wr := ⟨_,rfl⟩
      subst hwo
      have HN : Hid (((R.cls.take n).any fun c => decide (c.id = id)) = false) := hno
      have HVo : Hid (PvAt wo w1.heap.size T ⟨.slice ye0 R.ents.length ye1,.slice yw0 R.pol.win.length yw1,.slice ym0 R.pol.main.length ym1,.slice yk0 R.pol.sk.rows.length yk1,.slice yf0 R.fes.length yf1,.slice yc0 R.cls.length yc1⟩ R) := HV4.out.on hbr
      have HBo : Hid (Below w1.heap.size w1 wo) := HB4.out.trans (hbr.mono HB4.out.size)
      have HBR : Hid (Below w4.heap.size w4 wo) := hbr
      clear hrel hno hbr
      have x7 := (HI.out wo HBo.out).1.cells.2.2.2.2.2.2.2.1
      have hl6 := HCL.out
      by_cases hlt : n < R.cls.length
      ·obtain ⟨ca,cc,hce,hcA⟩ := (HI.out wo HBo.out).2.2.1.c
       dsimp only at hce
       simp only [Value.slice.injEq] at hce
       obtain ⟨rfl,_,rfl⟩ := hce
       obtain ⟨g,off,hga,u1,q0,u2,u3,u4,u5,u6,u7⟩ := hcA n hlt
       obtain ⟨cl,hcl⟩ : ∃ cl,R.cls[n] = cl := ⟨_,rfl⟩
       rw [hcl] at q0
       subst hga
       have hi1 : (0 : Int) ≤ (n : Int) := by omega
       have hi2 : (n : Int) < (R.cls.length : Int) := by omega
       have HK : Hid (n < R.cls.length) := hlt
       have HTK : Hid (((R.cls.take (n + 1)).any fun c => decide (c.id = id)) = decide (cl.id = id)) := by
        show _ = _
        rw [List.take_succ_eq_append_getElem hlt,List.any_append,HN.out,hcl]
        simp
       have HMM : Hid (cl.id = id → (R.cls.any fun c => decide (c.id = id)) = true) := fun h => by
        rw [List.any_eq_true]
        exact ⟨cl,by rw [← hcl]; exact List.getElem_mem hlt,by simpa using h⟩
       clear u1 u2 u3 u4 u5 u6 u7
       clear hcA hcl hlt
       cases hid : (cl.id == id) with
       | true =>
        have HRQ : Hid (askR R id key = (R, 1)) := askR_no (by unfold mayB; rw [HMM.out (by simpa using hid)]; simp)
        obtain ⟨XF,HVf⟩ : ∃ XF,Hid (PvAt wo w1.heap.size T XF R) := ⟨_,HVo.out⟩
        have HBf : Hid (Below w1.heap.size w1 wo) := HBo.out
        have HRR : Hid (askR R id key = (R, 1)) := by show _ = _; exact HRQ.out
        obtain ⟨g0,g1,g2,g3,g4,g5,g6,g7,g8⟩ := HVf.out.box.cells
        obtain ⟨y0,y1,yp0,yp1,ym0,ym1,yk0,yk1,yf0,yf1,yc0,yc1,rfl⟩ := HVf.out.own.slices
        dsimp only at g1 g2 g3 g4 g6 g7
        obtain ⟨r0,r1,r2,r3,r4,r5,r6,r7,r8⟩ := (HI.out wo HBf.out).2.1.cells
        have tt := (HI.out wo HBf.out).2.1.thaw
        obtain ⟨t0,t1,t2,t3,t4,t5,t6,t7,t8⟩ := And.intro (tt 0) (And.intro (tt 1) (And.intro (tt 2) (And.intro (tt 3) (And.intro (tt 4) (And.intro (tt 5) (And.intro (tt 6) (And.intro (tt 7) (tt 8))))))))
        have hR9 := ret9 HVf.out.own (HI.out wo HBf.out).2.1 (HI.out wo HBf.out).2.2.2.1
        dsimp only at hR9
        have HR9 := hidR hR9
        clear HVf HBf hR9 tt
        go_wp2_with fail
        obtain ⟨q0,q1,q2,q3,q4,q5,q6,q7,q8⟩ := HR9.out.1.cells
        refine bodyPost_ret (v := .tuple #[.agg #[.int .i64 R.now,.slice y0 R.ents.length y1,.slice yp0 R.pol.win.length yp1,.slice ym0 R.pol.main.length ym1,.slice yk0 R.pol.sk.rows.length yk1,.int .i64 R.pol.sk.added,.slice yf0 R.fes.length yf1,.slice yc0 R.cls.length yc1,.int .i64 R.hits],.int .i64 1]) (by simp [results,Tryz.results11,go_sem,q0,q1,q2,q3,q4,q5,q6,q7,q8]) rfl ?_
        rw [HRR.out]
        refine ⟨_,rfl,HR9.out.2.1.mono (by have := HL.out; omega) (Nat.le_refl _), ?_⟩
        try rw [HL.out.2.2.1]
        exact HR9.out.2.2
       | false =>
        have HTK2 : Hid (((R.cls.take (n + 1)).any fun c => decide (c.id = id)) = false) := by show _ = _; rw [HTK.out]; simpa using hid
        go_wp2_with fail
        go_roundw
        case rel =>
         try ((repeat apply Exists.intro); refine ⟨?_,rfl⟩)
         exact ⟨⟨n + 1,by have := HK.out; omega,by go_num,HTK2.out,HBR.out⟩⟩
        case measure => have := HK.out; simp [intOf]; omega
      ·have hi2 : ¬ (n : Int) < (R.cls.length : Int) := by omega
       have HMAY : Hid (mayB R id key = true) := by
        show _ = _
        have h := HN.out
        rw [show n = R.cls.length by omega,List.take_length] at h
        unfold mayB
        rw [HX1.out,HX2.out,HX3.out,HNL.out,h]
        rfl
       clear hlt hn HN HBR HV4 HB4 HX1 HX2 HX3 HNL
       obtain ⟨C,hC⟩ : ∃ C,wo.heap.size = C := ⟨_,rfl⟩
       obtain ⟨w5,hw5⟩ : ∃ x,wo.alloc (.cells #[.int .i64 id,.string key,.int .i64 0,.int .i64 0,.int .i64 1,.string ⟨#[]⟩,.int .i64 0] 87) = x := ⟨_,rfl⟩
       have hb5 : Below wo.heap.size wo w5 := by rw [← hw5]; exact (Below.refl _ _).alloc (Nat.le_refl _) _
       have HA5 : Hid (AskS w1 w5 T C ⟨.slice ye0 R.ents.length ye1,.slice yw0 R.pol.win.length yw1,.slice ym0 R.pol.main.length ym1,.slice yk0 R.pol.sk.rows.length yk1,.slice yf0 R.fes.length yf1,.slice yc0 R.cls.length yc1⟩ R ⟨id,key, 0, 0, 1,⟨#[]⟩, 0⟩) := ⟨(HVo.out.on hb5).box,(HVo.out.on hb5).own,HVo.out.le,by rw [← hC]; exact HVo.out.box.lt,by rw [← hw5, ← hC]; exact CliB.new wo 87 ⟨id,key, 0, 0, 1,⟨#[]⟩, 0⟩,fun e => by have := (HVo.out.own.c.lt C e).2; omega,HBo.out.trans (hb5.mono HBo.out.size)⟩
       have HW5 : Hid (wo.alloc (.cells #[.int .i64 id,.string key,.int .i64 0,.int .i64 0,.int .i64 1,.string ⟨#[]⟩,.int .i64 0] 87) = w5) := hw5
       have cE := l16Entry_any w5 ⟨.slice e0 R.ents.length e1,.slice p0 R.pol.win.length p1,.slice m0 R.pol.main.length m1,.slice k0 R.pol.sk.rows.length k1,.slice f0 R.fes.length f1,.slice c0 R.cls.length c1⟩ R key (HI.out w5 HA5.out.bl).2.2.1 HSZ.out.parts.1
       dsimp only at cE
       obtain ⟨b0,b1,b2,b3,b4,b5,b6,b7,b8⟩ := (HI.out w5 HA5.out.bl).1.cells
       rw [← hw5] at b0 b1 b2 b3 b4 b5 b6 b7 b8
       clear hw5 hb5 HVo HBo
       go_wp2_with fail
       rw [HW5.out] at b0 b1 b2 b3 b4 b5 b6 b7 b8 ⊢
       try rw [hC]
       refine cE.mono ?_
       rintro e w6 ⟨x,rfl,hx,hb6⟩
       clear cE b0 b1 b2 b3 b4 b5 b6 b7 b8
       obtain ⟨EB,hEB⟩ : ∃ E,w6.heap.size = E := ⟨_,rfl⟩
       obtain ⟨w7,hw7⟩ : ∃ y,w6.alloc (.cells #[.string x.key,.int .i64 x.st,.int .i64 x.lf,.string x.bd] 69) = y := ⟨_,rfl⟩
       have hb7 : Below w6.heap.size w6 w7 := by rw [← hw7]; exact (Below.refl _ _).alloc (Nat.le_refl _) _
       have HA7 : Hid (AskS w1 w7 T C ⟨.slice ye0 R.ents.length ye1,.slice yw0 R.pol.win.length yw1,.slice ym0 R.pol.main.length ym1,.slice yk0 R.pol.sk.rows.length yk1,.slice yf0 R.fes.length yf1,.slice yc0 R.cls.length yc1⟩ R ⟨id,key, 0, 0, 1,⟨#[]⟩, 0⟩) := (HA5.out.on hb6).on hb7
       have HE7 : Hid (EnB w7 EB 69 x ∧ C < EB) := ⟨by rw [← hw7, ← hEB]; exact EnB.new w6 69 x,by rw [← hEB]; exact Nat.lt_of_lt_of_le HA5.out.cb.lt hb6.size⟩
       have HW7 : Hid (w6.alloc (.cells #[.string x.key,.int .i64 x.st,.int .i64 x.lf,.string x.bd] 69) = w7) := hw7
       have HXE : Hid (x = (entAtX R.ents key).1) := hx
       obtain ⟨has,hhas⟩ : ∃ b,(entAtX R.ents key).2 = b := ⟨_,rfl⟩
       rw [hhas]
       have HHAS : Hid ((entAtX R.ents key).2 = has) := hhas
       clear hhas hx hb6 hb7 HA5 HW5
       cases has with
       | false =>
        have HNH : Hid (hitB R key = false) := hit_none HHAS.out
        clear hw7
        go_upto_region 21 with fail
        rw [HW7.out]
        try rw [hEB]
        clear HE7
        have HQX := idxX_cases (openP key) R.fes
        rcases HQX with ⟨j,hj,hjq,hjo,hx2⟩ | ⟨hjq,hjn⟩
        ·clear hx2
         have HZA : Hid (askAt R key = j) := askAt_open hjq
         have HUQ : Hid (∀ n (hn : n < R.fes.length),openP key R.fes[n] = true ↔ n = j) := open_one HOX.out hj hjo
         have HWC : Hid (waitC R.fes id key j = ⟨id,key,(j : Int) + 1, 0, 1,R.fes[j].tx, 0⟩ ∧ waitF R.fes key j = R.fes) := waitC_open hj
         obtain ⟨tj,htj⟩ : ∃ t,R.fes[j].tx = t := ⟨_,rfl⟩
         have HTJ : Hid (∀ (n : Nat) (hn : n < R.fes.length),n = j → R.fes[n].tx = tj) := fun n hn e => by subst e; exact htj
         rw [htj] at HWC
         have HJL : Hid (j < R.fes.length) := hj
         have HFL : Hid (R.fes.length ≤ 20) := HOX.out.flen
         clear hjq hjo htj hj
         go_wp2_with fail
         go_loopw [13] (fun i wr => Box (∃ n : Nat,n ≤ R.fes.length ∧ i = .int .i64 n ∧ Hid (AskS w1 wr T C ⟨.slice ye0 R.ents.length ye1,.slice yw0 R.pol.win.length yw1,.slice ym0 R.pol.main.length ym1,.slice yk0 R.pol.sk.rows.length yk1,.slice yf0 R.fes.length yf1,.slice yc0 R.cls.length yc1⟩ R (if j < n then ⟨id,key,(j : Int) + 1, 0, 1,tj, 0⟩ else ⟨id,key, 0, 0, 1,⟨#[]⟩, 0⟩))))
          (fun i _ => R.fes.length - (intOf i).toNat)
         case atStart => exact ⟨⟨0,by omega,rfl,by show AskS _ _ _ _ _ _ _; rw [if_neg (by omega)]; exact HA7.out⟩⟩
         case round =>
          obtain ⟨n,hn,rfl,HAl⟩ := hrel.out
          obtain ⟨wl,hwl⟩ : ∃ wl,wl = wr := ⟨_,rfl⟩
          subst hwl
          clear hrel
          have hl20 := HFL.out
          have x6 := (HI.out wl HAl.out.bl).1.cells.2.2.2.2.2.2.1
          by_cases hlt : n < R.fes.length
          ·obtain ⟨fa,fc,hfe,hfA⟩ := (HI.out wl HAl.out.bl).2.2.1.f
           dsimp only at hfe
           simp only [Value.slice.injEq] at hfe
           obtain ⟨rfl,_,rfl⟩ := hfe
           obtain ⟨g,off,hga,u1,q0,q1,q2,u3,u4⟩ := hfA n hlt
           obtain ⟨f,hf⟩ : ∃ f,R.fes[n] = f := ⟨_,rfl⟩
           rw [hf] at q0 q1 q2
           have hop := HUQ.out n hlt
           have htx := HTJ.out n hlt
           rw [hf] at hop htx
           have HK : Hid (n < R.fes.length) := hlt
           subst hga
           have hi1 : (0 : Int) ≤ (n : Int) := by omega
           have hi2 : (n : Int) < (R.fes.length : Int) := by omega
           clear hf u3 u4
           by_cases hnj : n = j
           ·have HNJ : Hid (n = j) := hnj
            have hfo := hop.2 hnj
            have hft := htx hnj
            unfold openP eqS at hfo
            rw [Bool.and_eq_true] at hfo
            obtain ⟨he,hs⟩ := hfo
            have HAm : Hid (AskS w1 wl T C ⟨.slice ye0 R.ents.length ye1,.slice yw0 R.pol.win.length yw1,.slice ym0 R.pol.main.length ym1,.slice yk0 R.pol.sk.rows.length yk1,.slice yf0 R.fes.length yf1,.slice yc0 R.cls.length yc1⟩ R ⟨id,key, 0, 0, 1,⟨#[]⟩, 0⟩) := by have h := HAl.out; rw [if_neg (by omega)] at h; exact h
            have hcell : ∀ W,AskS w1 W T C ⟨.slice ye0 R.ents.length ye1,.slice yw0 R.pol.win.length yw1,.slice ym0 R.pol.main.length ym1,.slice yk0 R.pol.sk.rows.length yk1,.slice yf0 R.fes.length yf1,.slice yc0 R.cls.length yc1⟩ R ⟨id,key,(j : Int) + 1, 0, 1,⟨#[]⟩, 0⟩ → Below w1.heap.size w1 W := fun _ h => h.bl
            obtain ⟨w2',hw2'⟩ : ∃ y,wl.setCell ⟨C, 2,none⟩ (.int .i64 ((j : Int) + 1)) = y := ⟨_,rfl⟩
            have hA2 := HAm.out.setc (HAm.out.cb.set2 ((j : Int) + 1))
            rw [hw2'] at hA2
            have HA2 : Hid (AskS w1 w2' T C ⟨.slice ye0 R.ents.length ye1,.slice yw0 R.pol.win.length yw1,.slice ym0 R.pol.main.length ym1,.slice yk0 R.pol.sk.rows.length yk1,.slice yf0 R.fes.length yf1,.slice yc0 R.cls.length yc1⟩ R ⟨id,key,(j : Int) + 1, 0, 1,⟨#[]⟩, 0⟩) := hA2
            have HW2 : Hid (wl.setCell ⟨C, 2,none⟩ (.int .i64 ((j : Int) + 1)) = w2') := hw2'
            have t2 := HAm.out.cb.cells.2.2.1
            have g2 := HAm.out.cb.thaw 2
            have HGR : Hid (∀ W,Below w1.heap.size w1 W → W.cell? ⟨A, 6,none⟩ = some (.slice (some ⟨g,off,none⟩) R.fes.length f1) ∧ W.cell? ⟨g,off + n * 5 + 1,none⟩ = some (.string tj)) := fun W hW => by
             obtain ⟨fb,fd,hfe',hfB⟩ := (HI.out W hW).2.2.1.f
             dsimp only at hfe'
             simp only [Value.slice.injEq] at hfe'
             obtain ⟨rfl,_,rfl⟩ := hfe'
             obtain ⟨g',off',hga',_,_,p1,_,_,_⟩ := hfB n HK.out
             simp only [Option.some.injEq,Addr.mk.injEq,and_true] at hga'
             obtain ⟨rfl,rfl⟩ := hga'
             rw [HTJ.out n HK.out HNJ.out] at p1
             exact ⟨(HI.out W hW).1.cells.2.2.2.2.2.2.1,p1⟩
            subst hnj
            clear hw2' hA2 hop htx hcell hft HAl u1
            go_upto_region 26 with fail
            rw [HW2.out]
            clear t2 g2 x6 q0 q1 q2 he hs
            obtain ⟨x6,q1⟩ := HGR.out w2' HA2.out.bl
            obtain ⟨w3',hw3'⟩ : ∃ y,w2'.setCell ⟨C, 5,none⟩ (.string tj) = y := ⟨_,rfl⟩
            have hA3 := HA2.out.setc (HA2.out.cb.set5 tj)
            rw [hw3'] at hA3
            have HA3 : Hid (AskS w1 w3' T C ⟨.slice ye0 R.ents.length ye1,.slice yw0 R.pol.win.length yw1,.slice ym0 R.pol.main.length ym1,.slice yk0 R.pol.sk.rows.length yk1,.slice yf0 R.fes.length yf1,.slice yc0 R.cls.length yc1⟩ R (if n < n + 1 then ⟨id,key,(n : Int) + 1, 0, 1,tj, 0⟩ else ⟨id,key, 0, 0, 1,⟨#[]⟩, 0⟩)) := by show AskS _ _ _ _ _ _ _; rw [if_pos (by omega)]; exact hA3
            have HW3 : Hid (w2'.setCell ⟨C, 5,none⟩ (.string tj) = w3') := hw3'
            have t5 := HA2.out.cb.cells.2.2.2.2.2.1
            have g5 := HA2.out.cb.thaw 5
            clear hw3' hA3 HA2 HW2 HAm HGR
            go_wp2_with fail
            rw [HW3.out]
            go_roundw
            case rel =>
             try ((repeat apply Exists.intro); refine ⟨?_,rfl⟩)
             exact ⟨⟨n + 1,by have := HK.out; omega,by go_num,HA3.out⟩⟩
            case measure => have := HK.out; simp [intOf]; omega
           ·have HOPN : Hid (openP key f = false) := by
             show _ = _
             cases hb : openP key f with
             | false => rfl
             | true => exact absurd (hop.1 hb) hnj
            have HAn : Hid (AskS w1 wl T C ⟨.slice ye0 R.ents.length ye1,.slice yw0 R.pol.win.length yw1,.slice ym0 R.pol.main.length ym1,.slice yk0 R.pol.sk.rows.length yk1,.slice yf0 R.fes.length yf1,.slice yc0 R.cls.length yc1⟩ R (if j < n + 1 then ⟨id,key,(j : Int) + 1, 0, 1,tj, 0⟩ else ⟨id,key, 0, 0, 1,⟨#[]⟩, 0⟩)) := by
             show AskS _ _ _ _ _ _ _
             by_cases hjn : j < n
             ·have h := HAl.out
              rw [if_pos hjn] at h
              rw [if_pos (by omega)]
              exact h
             ·have h := HAl.out
              rw [if_neg hjn] at h
              rw [if_neg (by omega)]
              exact h
            clear hop htx hnj u1 HAl
            cases he : (f.key.toList == key.toList) with
            | false =>
             go_wp2_with fail
             go_roundw
             case rel =>
              try ((repeat apply Exists.intro); refine ⟨?_,rfl⟩)
              exact ⟨⟨n + 1,by have := HK.out; omega,by go_num,HAn.out⟩⟩
             case measure => have := HK.out; simp [intOf]; omega
            | true =>
             cases hs : (f.st == 1) with
             | true => exact absurd (show openP key f = true by unfold openP eqS; rw [he,hs]; rfl) (by rw [HOPN.out]; decide)
             | false =>
              go_wp2_with fail
              go_roundw
              case rel =>
               try ((repeat apply Exists.intro); refine ⟨?_,rfl⟩)
               exact ⟨⟨n + 1,by have := HK.out; omega,by go_num,HAn.out⟩⟩
              case measure => have := HK.out; simp [intOf]; omega
          ·have HAm : Hid (AskS w1 wl T C ⟨.slice ye0 R.ents.length ye1,.slice yw0 R.pol.win.length yw1,.slice ym0 R.pol.main.length ym1,.slice yk0 R.pol.sk.rows.length yk1,.slice yf0 R.fes.length yf1,.slice yc0 R.cls.length yc1⟩ R ⟨id,key,(j : Int) + 1, 0, 1,tj, 0⟩) := by have h := HAl.out; rw [if_pos (by have := HJL.out; omega)] at h; exact h
           have hi2 : ¬ (n : Int) < (R.fes.length : Int) := by omega
           have t2 := HAm.out.cb.cells.2.2.1
           have hne : (((j : Int) + 1) == 0) = false := by simp; omega
           have hne' : ¬ ((j : Int) + 1) = 0 := by omega
           clear hlt hn HAl
           go_upto_region 32 with fail
           clear t2 hne hne' x6 hi2
           have HAe : Hid (AskS w1 wl T C ⟨.slice ye0 R.ents.length ye1,.slice yw0 R.pol.win.length yw1,.slice ym0 R.pol.main.length ym1,.slice yk0 R.pol.sk.rows.length yk1,.slice yf0 R.fes.length yf1,.slice yc0 R.cls.length yc1⟩ ⟨R.now,R.ents,R.pol,R.fes,R.cls,R.hits⟩ ⟨id,key,(j : Int) + 1, 0, 1,tj, 0⟩) := HAm.out
           clear HAm
           go_upto_region 35 with fail
           have hsk : SSAt wl yk0 R.pol.sk.rows wl.heap.size := by
            obtain ⟨q5,q6,e5,e6⟩ := HAe.out.own.at.pk
            dsimp only at e5 e6
            simp only [Value.slice.injEq] at e5
            obtain ⟨rfl,_,rfl⟩ := e5
            exact e6
           have cB := specSketchBump_any wl yk0 yk1 R.pol.sk key hsk HSZ.out.parts.2.1.parts.2.2 HKY.out
           obtain ⟨_,_,_,_,t4,t5,_,_,_⟩ := HAe.out.box.cells
           dsimp only at t4 t5
           clear hsk
           go_wp2_with fail
           refine cB.mono ?_
           rintro e wk ⟨v,rfl,⟨v4,rfl,hok⟩,hbk⟩
           obtain ⟨a4,c4,rfl,_⟩ := hok.at
           clear cB t4 t5
           have hAk := HAe.out.setSk hbk hok
           have hBk := (HAe.out.on hbk).box
           have t0 := hBk.cells.2.2.2.2.1
           have g0 := hBk.thaw 4
           have r0 := hBk.set4 (.slice a4 (bumpS R.pol.sk key).rows.length c4)
           have t1 := r0.cells.2.2.2.2.2.1
           have g1 := r0.thaw 5
           obtain ⟨ws,hws⟩ : ∃ y,((wk.setCell ⟨T, 4,none⟩ (.slice a4 (bumpS R.pol.sk key).rows.length c4)).setCell ⟨T, 5,none⟩ (.int .i64 (bumpS R.pol.sk key).added)) = y := ⟨_,rfl⟩
           rw [hws] at hAk
           have HAs : Hid (AskS w1 ws T C ⟨.slice ye0 R.ents.length ye1,.slice yw0 R.pol.win.length yw1,.slice ym0 R.pol.main.length ym1,.slice a4 (bumpS R.pol.sk key).rows.length c4,.slice yf0 R.fes.length yf1,.slice yc0 R.cls.length yc1⟩ ⟨R.now,R.ents,⟨R.pol.win,R.pol.main,(bumpS R.pol.sk key)⟩,R.fes,R.cls,R.hits⟩ ⟨id,key,(j : Int) + 1, 0, 1,tj, 0⟩) := hAk
           have HWs : Hid (((wk.setCell ⟨T, 4,none⟩ (.slice a4 (bumpS R.pol.sk key).rows.length c4)).setCell ⟨T, 5,none⟩ (.int .i64 (bumpS R.pol.sk key).added)) = ws) := hws
           clear hws hAk hBk hok hbk HAe
           go_upto_region 36 with fail
           rw [HWs.out]
           clear t0 t1 g0 g1 r0 HWs
           obtain ⟨_,_,_,_,_,_,_,t7,_⟩ := HAs.out.box.cells
           obtain ⟨k0_,k1_,k2_,k3_,k4_,k5_,k6_⟩ := HAs.out.cb.cells
           have hcA : CliAt ws yc0 R.cls ws.heap.size := by
            obtain ⟨q5,q6,e5,e6⟩ := HAs.out.own.at.c
            dsimp only at e5 e6
            simp only [Value.slice.injEq] at e5
            obtain ⟨rfl,_,rfl⟩ := e5
            exact e6
           have cJ := l16Join_any ws yc0 yc1 R.cls ⟨id,key,(j : Int) + 1, 0, 1,tj, 0⟩ hcA (by have := HOX.out.clen; omega)
           dsimp only at cJ k0_ k1_ k2_ k3_ k4_ k5_ k6_ t7
           clear hcA
           go_wp2_with fail
           refine cJ.mono ?_
           rintro e wj ⟨v,rfl,hoj,hbj⟩
           obtain ⟨j0,j1,rfl,_⟩ := hoj.at
           clear cJ k0_ k1_ k2_ k3_ k4_ k5_ k6_ t7
           obtain ⟨wz,hwz⟩ : ∃ y,wj.setCell ⟨T, 7,none⟩ (.slice j0 (insC R.cls ⟨id,key,(j : Int) + 1, 0, 1,tj, 0⟩).length j1) = y := ⟨_,rfl⟩
           have hPV := HAs.out.join hbj hoj
           rw [hwz] at hPV
           have t7 := (HAs.out.on hbj).box.cells.2.2.2.2.2.2.2.1
           have g7 := (HAs.out.on hbj).box.thaw 7
           dsimp only at t7
           have HPV : Hid _ := hPV
           have HWZ : Hid (wj.setCell ⟨T, 7,none⟩ (.slice j0 (insC R.cls ⟨id,key,(j : Int) + 1, 0, 1,tj, 0⟩).length j1) = wz) := hwz
           clear hPV hwz hoj hbj
           go_upto_region 37 with fail
           rw [HWZ.out]
           clear t7 g7 HAs
           obtain ⟨R',hR'⟩ : ∃ r,(Prx.mk R.now R.ents ⟨R.pol.win,R.pol.main,(bumpS R.pol.sk key)⟩ R.fes (insC R.cls ⟨id,key,(j : Int) + 1, 0, 1,tj, 0⟩) R.hits) = r := ⟨_,rfl⟩
           obtain ⟨XZ,HPV1⟩ : ∃ XZ,Hid (PvAt wz w1.heap.size T XZ R') := ⟨_,by rw [← hR']; exact HPV.out.1⟩
           have HPV2 : Hid (Below w1.heap.size w1 wz) := HPV.out.2
           have HRQ : Hid (askR R id key = (R', 0)) := by
            show _ = _
            rw [← hR']
            refine (askR_wait HMAY.out HNH.out (fun h => by have h1 := HZA.out; have h2 := HFL.out; have h3 := HJL.out; omega)).trans ?_
            rw [waitR_none id HOX.out HHAS.out HZA.out,HWC.out.1,HWC.out.2]
           clear hR' HPV
           obtain ⟨XF,HVf⟩ : ∃ XF,Hid (PvAt wz w1.heap.size T XF R') := ⟨_,HPV1.out⟩
           have HBf : Hid (Below w1.heap.size w1 wz) := HPV2.out
           have HRR : Hid (askR R id key = (R', 0)) := by show _ = _; exact HRQ.out
           obtain ⟨g0,g1,g2,g3,g4,g5,g6,g7,g8⟩ := HVf.out.box.cells
           obtain ⟨y0,y1,yp0,yp1,ym0,ym1,yk0,yk1,yf0,yf1,yc0,yc1,rfl⟩ := HVf.out.own.slices
           dsimp only at g1 g2 g3 g4 g6 g7
           obtain ⟨r0,r1,r2,r3,r4,r5,r6,r7,r8⟩ := (HI.out wz HBf.out).2.1.cells
           have tt := (HI.out wz HBf.out).2.1.thaw
           obtain ⟨t0,t1,t2,t3,t4,t5,t6,t7,t8⟩ := And.intro (tt 0) (And.intro (tt 1) (And.intro (tt 2) (And.intro (tt 3) (And.intro (tt 4) (And.intro (tt 5) (And.intro (tt 6) (And.intro (tt 7) (tt 8))))))))
           have hR9 := ret9 HVf.out.own (HI.out wz HBf.out).2.1 (HI.out wz HBf.out).2.2.2.1
           dsimp only at hR9
           have HR9 := hidR hR9
           clear HVf HBf hR9 tt
           go_wp2_with fail
           obtain ⟨q0,q1,q2,q3,q4,q5,q6,q7,q8⟩ := HR9.out.1.cells
           refine bodyPost_ret (v := .tuple #[.agg #[.int .i64 R'.now,.slice y0 R'.ents.length y1,.slice yp0 R'.pol.win.length yp1,.slice ym0 R'.pol.main.length ym1,.slice yk0 R'.pol.sk.rows.length yk1,.int .i64 R'.pol.sk.added,.slice yf0 R'.fes.length yf1,.slice yc0 R'.cls.length yc1,.int .i64 R'.hits],.int .i64 0]) (by simp [results,Tryz.results11,go_sem,q0,q1,q2,q3,q4,q5,q6,q7,q8]) rfl ?_
           rw [HRR.out]
           refine ⟨_,rfl,HR9.out.2.1.mono (by have := HL.out; omega) (Nat.le_refl _), ?_⟩
           try rw [HL.out.2.2.1]
           exact HR9.out.2.2
        ·have HZA : Hid (askAt R key = R.fes.length) := askAt_none hjq
         have HNO : Hid (∀ x ∈ R.fes,openP key x = false) := hjn
         have HFL : Hid (R.fes.length ≤ 20) := HOX.out.flen
         clear hjq hjn
         go_wp2_with fail
         go_loopw [13] (fun i wr => Box (∃ n : Nat,n ≤ R.fes.length ∧ i = .int .i64 n ∧ Hid (AskS w1 wr T C ⟨.slice ye0 R.ents.length ye1,.slice yw0 R.pol.win.length yw1,.slice ym0 R.pol.main.length ym1,.slice yk0 R.pol.sk.rows.length yk1,.slice yf0 R.fes.length yf1,.slice yc0 R.cls.length yc1⟩ R ⟨id,key, 0, 0, 1,⟨#[]⟩, 0⟩)))
          (fun i _ => R.fes.length - (intOf i).toNat)
         case atStart => exact ⟨⟨0,by omega,rfl,HA7.out⟩⟩
         case round =>
          obtain ⟨n,hn,rfl,HAl⟩ := hrel.out
          obtain ⟨wl,hwl⟩ : ∃ wl,wl = wr := ⟨_,rfl⟩
          subst hwl
          clear hrel
          have hl20 := HFL.out
          have x6 := (HI.out wl HAl.out.bl).1.cells.2.2.2.2.2.2.1
          by_cases hlt : n < R.fes.length
          ·obtain ⟨fa,fc,hfe,hfA⟩ := (HI.out wl HAl.out.bl).2.2.1.f
           dsimp only at hfe
           simp only [Value.slice.injEq] at hfe
           obtain ⟨rfl,_,rfl⟩ := hfe
           obtain ⟨g,off,hga,u1,q0,q1,q2,u3,u4⟩ := hfA n hlt
           obtain ⟨f,hf⟩ : ∃ f,R.fes[n] = f := ⟨_,rfl⟩
           rw [hf] at q0 q1 q2
           have HOPN : Hid (openP key f = false) := HNO.out f (by rw [← hf]; exact List.getElem_mem hlt)
           have HK : Hid (n < R.fes.length) := hlt
           subst hga
           have hi1 : (0 : Int) ≤ (n : Int) := by omega
           have hi2 : (n : Int) < (R.fes.length : Int) := by omega
           clear hf u3 u4 u1
           cases he : (f.key.toList == key.toList) with
           | false =>
            go_wp2_with fail
            go_roundw
            case rel =>
             try ((repeat apply Exists.intro); refine ⟨?_,rfl⟩)
             exact ⟨⟨n + 1,by have := HK.out; omega,by go_num,HAl.out⟩⟩
            case measure => have := HK.out; simp [intOf]; omega
           | true =>
            cases hs : (f.st == 1) with
            | true => exact absurd (show openP key f = true by unfold openP eqS; rw [he,hs]; rfl) (by rw [HOPN.out]; decide)
            | false =>
             go_wp2_with fail
             go_roundw
             case rel =>
              try ((repeat apply Exists.intro); refine ⟨?_,rfl⟩)
              exact ⟨⟨n + 1,by have := HK.out; omega,by go_num,HAl.out⟩⟩
             case measure => have := HK.out; simp [intOf]; omega
          ·have hi2 : ¬ (n : Int) < (R.fes.length : Int) := by omega
           have t2 := HAl.out.cb.cells.2.2.1
           by_cases h20 : R.fes.length = 20
           ·have hq : (20 : Int) ≤ (R.fes.length : Int) := by omega
            have HRQ : Hid (askR R id key = (R, 2)) := askR_full HMAY.out HNH.out (HZA.out.trans h20)
            clear h20 hlt hn
            go_upto_region 29 with fail
            clear t2 x6
            obtain ⟨XF,HVf⟩ : ∃ XF,Hid (PvAt wl w1.heap.size T XF R) := ⟨_,HAl.out.pv⟩
            have HBf : Hid (Below w1.heap.size w1 wl) := HAl.out.bl
            have HRR : Hid (askR R id key = (R, 2)) := by show _ = _; exact HRQ.out
            obtain ⟨g0,g1,g2,g3,g4,g5,g6,g7,g8⟩ := HVf.out.box.cells
            obtain ⟨y0,y1,yp0,yp1,ym0,ym1,yk0,yk1,yf0,yf1,yc0,yc1,rfl⟩ := HVf.out.own.slices
            dsimp only at g1 g2 g3 g4 g6 g7
            obtain ⟨r0,r1,r2,r3,r4,r5,r6,r7,r8⟩ := (HI.out wl HBf.out).2.1.cells
            have tt := (HI.out wl HBf.out).2.1.thaw
            obtain ⟨t0,t1,t2,t3,t4,t5,t6,t7,t8⟩ := And.intro (tt 0) (And.intro (tt 1) (And.intro (tt 2) (And.intro (tt 3) (And.intro (tt 4) (And.intro (tt 5) (And.intro (tt 6) (And.intro (tt 7) (tt 8))))))))
            have hR9 := ret9 HVf.out.own (HI.out wl HBf.out).2.1 (HI.out wl HBf.out).2.2.2.1
            dsimp only at hR9
            have HR9 := hidR hR9
            clear HVf HBf hR9 tt
            go_wp2_with fail
            obtain ⟨q0,q1,q2,q3,q4,q5,q6,q7,q8⟩ := HR9.out.1.cells
            refine bodyPost_ret (v := .tuple #[.agg #[.int .i64 R.now,.slice y0 R.ents.length y1,.slice yp0 R.pol.win.length yp1,.slice ym0 R.pol.main.length ym1,.slice yk0 R.pol.sk.rows.length yk1,.int .i64 R.pol.sk.added,.slice yf0 R.fes.length yf1,.slice yc0 R.cls.length yc1,.int .i64 R.hits],.int .i64 2]) (by simp [results,Tryz.results11,go_sem,q0,q1,q2,q3,q4,q5,q6,q7,q8]) rfl ?_
            rw [HRR.out]
            refine ⟨_,rfl,HR9.out.2.1.mono (by have := HL.out; omega) (Nat.le_refl _), ?_⟩
            try rw [HL.out.2.2.1]
            exact HR9.out.2.2
           ·have HQ20 : Hid (R.fes.length < 20) := by show _ < _; omega
            have hq : ¬ (20 : Int) ≤ (R.fes.length : Int) := by omega
            have HWC : Hid (waitC R.fes id key R.fes.length = ⟨id,key,(R.fes.length : Int) + 1, 0, 1,⟨#[]⟩, 0⟩ ∧ waitF R.fes key R.fes.length = R.fes ++ [newF key]) := waitC_new
            have HN20 : Hid (¬ askAt R key = 20) := fun h => by have h1 := HZA.out; have h2 := HQ20.out; omega
            obtain ⟨_,_,_,_,_,_,t6,_,_⟩ := HAl.out.box.cells
            clear h20 hlt hn
            go_upto_region 30 with fail
            clear t2 x6 hq hi2
            have hO6 : OwnFet wl w1.heap.size 94 (.slice yf0 R.fes.length yf1) R.fes := HAl.out.own.f
            have hlo6 : w1.heap.size ≤ wl.heap.size := HAl.out.bl.size
            have hl19 : R.fes.length + 1 ≤ 1800000 := by omega
            have HTC : Hid (∀ w',wl.grownBy w' (Value.slice yf0 R.fes.length yf1).ownBlock → NB w' T 48 (.int .i64 R.now) (.slice ye0 R.ents.length ye1) (.slice yw0 R.pol.win.length yw1) (.slice ym0 R.pol.main.length ym1) (.slice yk0 R.pol.sk.rows.length yk1) (.int .i64 R.pol.sk.added) (.slice yf0 R.fes.length yf1) (.slice yc0 R.cls.length yc1) (.int .i64 R.hits)) := fun w' hg => HAl.out.box.kept ((Tch.of_grown (S := fun j => (Value.slice yf0 R.fes.length yf1).ownBlock = some j) hg (fun k hk => hk)).2 T HAl.out.box.lt (HAl.out.pv.far HAl.out.own.f.type (by decide)))
            go_upto_region 31 with (at_builtin; refine wpList_plusFet rfl (.tmp 145) (.tmp 148) 45 rfl w1.heap.size 94 Tryz.underlying45 Tryz.infoFet (.slice yf0 R.fes.length yf1) R.fes rfl hO6 [newF key] #[.string key,.string ⟨#[]⟩,.int .i64 1,.int .i64 0,.int .i64 0] rfl rfl hl19 hlo6 ?_; intro v' w9 ho9 hg9; obtain ⟨a9,c9,rfl,_⟩ := ho9.at; have hb9 := HTC.out w9 hg9; have t6 := hb9.cells.2.2.2.2.2.2.1; have g6 := hb9.thaw 6; have hA9 := HAl.out.setF (Tch.of_grown hg9 (fun k hk => hk)) ho9; clear hb9 hg9 ho9)
            have hlen : (R.fes ++ [newF key]).length = R.fes.length + 1 := by simp
            rw [hlen] at hA9
            obtain ⟨w10,hw10⟩ : ∃ y,w9.setCell ⟨T, 6,none⟩ (.slice a9 (R.fes.length + 1) c9) = y := ⟨_,rfl⟩
            rw [hw10] at hA9
            have HA9 : Hid (AskS w1 w10 T C ⟨.slice ye0 R.ents.length ye1,.slice yw0 R.pol.win.length yw1,.slice ym0 R.pol.main.length ym1,.slice yk0 R.pol.sk.rows.length yk1,.slice a9 (R.fes.length + 1) c9,.slice yc0 R.cls.length yc1⟩ ⟨R.now,R.ents,R.pol,R.fes ++ [newF key],R.cls,R.hits⟩ ⟨id,key, 0, 0, 1,⟨#[]⟩, 0⟩) := hA9
            rw [hw10]
            clear t6 g6 hA9 hw10 hO6 hlo6 hl19 HTC HAl
            obtain ⟨_,_,_,_,_,_,t6,_,_⟩ := HA9.out.box.cells
            dsimp only at t6
            have t2 := HA9.out.cb.cells.2.2.1
            have g2 := HA9.out.cb.thaw 2
            obtain ⟨w11,hw11⟩ : ∃ y,w10.setCell ⟨C, 2,none⟩ (.int .i64 ((R.fes.length : Int) + 1)) = y := ⟨_,rfl⟩
            have hA11 := HA9.out.setc (HA9.out.cb.set2 ((R.fes.length : Int) + 1))
            rw [hw11] at hA11
            have HA11 : Hid (AskS w1 w11 T C ⟨.slice ye0 R.ents.length ye1,.slice yw0 R.pol.win.length yw1,.slice ym0 R.pol.main.length ym1,.slice yk0 R.pol.sk.rows.length yk1,.slice a9 (R.fes.length + 1) c9,.slice yc0 R.cls.length yc1⟩ ⟨R.now,R.ents,R.pol,R.fes ++ [newF key],R.cls,R.hits⟩ ⟨id,key,(R.fes.length : Int) + 1, 0, 1,⟨#[]⟩, 0⟩) := hA11
            have HW11 : Hid (w10.setCell ⟨C, 2,none⟩ (.int .i64 ((R.fes.length : Int) + 1)) = w11) := hw11
            clear hw11 hA11 HA9 hlen
            go_upto_region 32 with fail
            rw [HW11.out]
            clear t2 t6 g2
            have HAe : Hid (AskS w1 w11 T C ⟨.slice ye0 R.ents.length ye1,.slice yw0 R.pol.win.length yw1,.slice ym0 R.pol.main.length ym1,.slice yk0 R.pol.sk.rows.length yk1,.slice a9 (R.fes.length + 1) c9,.slice yc0 R.cls.length yc1⟩ ⟨R.now,R.ents,R.pol,(R.fes ++ [newF key]),R.cls,R.hits⟩ ⟨id,key,(R.fes.length : Int) + 1, 0, 1,⟨#[]⟩, 0⟩) := HA11.out
            clear HA11
            go_upto_region 35 with fail
            have hsk : SSAt w11 yk0 R.pol.sk.rows w11.heap.size := by
             obtain ⟨q5,q6,e5,e6⟩ := HAe.out.own.at.pk
             dsimp only at e5 e6
             simp only [Value.slice.injEq] at e5
             obtain ⟨rfl,_,rfl⟩ := e5
             exact e6
            have cB := specSketchBump_any w11 yk0 yk1 R.pol.sk key hsk HSZ.out.parts.2.1.parts.2.2 HKY.out
            obtain ⟨_,_,_,_,t4,t5,_,_,_⟩ := HAe.out.box.cells
            dsimp only at t4 t5
            clear hsk
            go_wp2_with fail
            refine cB.mono ?_
            rintro e wk ⟨v,rfl,⟨v4,rfl,hok⟩,hbk⟩
            obtain ⟨a4,c4,rfl,_⟩ := hok.at
            clear cB t4 t5
            have hAk := HAe.out.setSk hbk hok
            have hBk := (HAe.out.on hbk).box
            have t0 := hBk.cells.2.2.2.2.1
            have g0 := hBk.thaw 4
            have r0 := hBk.set4 (.slice a4 (bumpS R.pol.sk key).rows.length c4)
            have t1 := r0.cells.2.2.2.2.2.1
            have g1 := r0.thaw 5
            obtain ⟨ws,hws⟩ : ∃ y,((wk.setCell ⟨T, 4,none⟩ (.slice a4 (bumpS R.pol.sk key).rows.length c4)).setCell ⟨T, 5,none⟩ (.int .i64 (bumpS R.pol.sk key).added)) = y := ⟨_,rfl⟩
            rw [hws] at hAk
            have HAs : Hid (AskS w1 ws T C ⟨.slice ye0 R.ents.length ye1,.slice yw0 R.pol.win.length yw1,.slice ym0 R.pol.main.length ym1,.slice a4 (bumpS R.pol.sk key).rows.length c4,.slice a9 (R.fes.length + 1) c9,.slice yc0 R.cls.length yc1⟩ ⟨R.now,R.ents,⟨R.pol.win,R.pol.main,(bumpS R.pol.sk key)⟩,(R.fes ++ [newF key]),R.cls,R.hits⟩ ⟨id,key,(R.fes.length : Int) + 1, 0, 1,⟨#[]⟩, 0⟩) := hAk
            have HWs : Hid (((wk.setCell ⟨T, 4,none⟩ (.slice a4 (bumpS R.pol.sk key).rows.length c4)).setCell ⟨T, 5,none⟩ (.int .i64 (bumpS R.pol.sk key).added)) = ws) := hws
            clear hws hAk hBk hok hbk HAe
            go_upto_region 36 with fail
            rw [HWs.out]
            clear t0 t1 g0 g1 r0 HWs
            obtain ⟨_,_,_,_,_,_,_,t7,_⟩ := HAs.out.box.cells
            obtain ⟨k0_,k1_,k2_,k3_,k4_,k5_,k6_⟩ := HAs.out.cb.cells
            have hcA : CliAt ws yc0 R.cls ws.heap.size := by
             obtain ⟨q5,q6,e5,e6⟩ := HAs.out.own.at.c
             dsimp only at e5 e6
             simp only [Value.slice.injEq] at e5
             obtain ⟨rfl,_,rfl⟩ := e5
             exact e6
            have cJ := l16Join_any ws yc0 yc1 R.cls ⟨id,key,(R.fes.length : Int) + 1, 0, 1,⟨#[]⟩, 0⟩ hcA (by have := HOX.out.clen; omega)
            dsimp only at cJ k0_ k1_ k2_ k3_ k4_ k5_ k6_ t7
            clear hcA
            go_wp2_with fail
            refine cJ.mono ?_
            rintro e wj ⟨v,rfl,hoj,hbj⟩
            obtain ⟨j0,j1,rfl,_⟩ := hoj.at
            clear cJ k0_ k1_ k2_ k3_ k4_ k5_ k6_ t7
            obtain ⟨wz,hwz⟩ : ∃ y,wj.setCell ⟨T, 7,none⟩ (.slice j0 (insC R.cls ⟨id,key,(R.fes.length : Int) + 1, 0, 1,⟨#[]⟩, 0⟩).length j1) = y := ⟨_,rfl⟩
            have hPV := HAs.out.join hbj hoj
            rw [hwz] at hPV
            have t7 := (HAs.out.on hbj).box.cells.2.2.2.2.2.2.2.1
            have g7 := (HAs.out.on hbj).box.thaw 7
            dsimp only at t7
            have HPV : Hid _ := hPV
            have HWZ : Hid (wj.setCell ⟨T, 7,none⟩ (.slice j0 (insC R.cls ⟨id,key,(R.fes.length : Int) + 1, 0, 1,⟨#[]⟩, 0⟩).length j1) = wz) := hwz
            clear hPV hwz hoj hbj
            go_upto_region 37 with fail
            rw [HWZ.out]
            clear t7 g7 HAs
            obtain ⟨R',hR'⟩ : ∃ r,(Prx.mk R.now R.ents ⟨R.pol.win,R.pol.main,(bumpS R.pol.sk key)⟩ (R.fes ++ [newF key]) (insC R.cls ⟨id,key,(R.fes.length : Int) + 1, 0, 1,⟨#[]⟩, 0⟩) R.hits) = r := ⟨_,rfl⟩
            obtain ⟨XZ,HPV1⟩ : ∃ XZ,Hid (PvAt wz w1.heap.size T XZ R') := ⟨_,by rw [← hR']; exact HPV.out.1⟩
            have HPV2 : Hid (Below w1.heap.size w1 wz) := HPV.out.2
            have HRQ : Hid (askR R id key = (R', 0)) := by
             show _ = _
             rw [← hR']
             refine (askR_wait HMAY.out HNH.out (fun h => by have h1 := HZA.out; have h2 := HFL.out; exact HN20.out h)).trans ?_
             rw [waitR_none id HOX.out HHAS.out HZA.out,HWC.out.1,HWC.out.2]
            clear hR' HPV
            obtain ⟨XF,HVf⟩ : ∃ XF,Hid (PvAt wz w1.heap.size T XF R') := ⟨_,HPV1.out⟩
            have HBf : Hid (Below w1.heap.size w1 wz) := HPV2.out
            have HRR : Hid (askR R id key = (R', 0)) := by show _ = _; exact HRQ.out
            obtain ⟨g0,g1,g2,g3,g4,g5,g6,g7,g8⟩ := HVf.out.box.cells
            obtain ⟨y0,y1,yp0,yp1,ym0,ym1,yk0,yk1,yf0,yf1,yc0,yc1,rfl⟩ := HVf.out.own.slices
            dsimp only at g1 g2 g3 g4 g6 g7
            obtain ⟨r0,r1,r2,r3,r4,r5,r6,r7,r8⟩ := (HI.out wz HBf.out).2.1.cells
            have tt := (HI.out wz HBf.out).2.1.thaw
            obtain ⟨t0,t1,t2,t3,t4,t5,t6,t7,t8⟩ := And.intro (tt 0) (And.intro (tt 1) (And.intro (tt 2) (And.intro (tt 3) (And.intro (tt 4) (And.intro (tt 5) (And.intro (tt 6) (And.intro (tt 7) (tt 8))))))))
            have hR9 := ret9 HVf.out.own (HI.out wz HBf.out).2.1 (HI.out wz HBf.out).2.2.2.1
            dsimp only at hR9
            have HR9 := hidR hR9
            clear HVf HBf hR9 tt
            go_wp2_with fail
            obtain ⟨q0,q1,q2,q3,q4,q5,q6,q7,q8⟩ := HR9.out.1.cells
            refine bodyPost_ret (v := .tuple #[.agg #[.int .i64 R'.now,.slice y0 R'.ents.length y1,.slice yp0 R'.pol.win.length yp1,.slice ym0 R'.pol.main.length ym1,.slice yk0 R'.pol.sk.rows.length yk1,.int .i64 R'.pol.sk.added,.slice yf0 R'.fes.length yf1,.slice yc0 R'.cls.length yc1,.int .i64 R'.hits],.int .i64 0]) (by simp [results,Tryz.results11,go_sem,q0,q1,q2,q3,q4,q5,q6,q7,q8]) rfl ?_
            rw [HRR.out]
            refine ⟨_,rfl,HR9.out.2.1.mono (by have := HL.out; omega) (Nat.le_refl _), ?_⟩
            try rw [HL.out.2.2.1]
            exact HR9.out.2.2
       | true =>
        have cF := specFreshAt_any w7 x.key x.bd x.st x.lf R.now
        obtain ⟨z0,z1,z2,z3⟩ := HE7.out.1.cells
        obtain ⟨b0,_,_,_,_,_,_,_,_⟩ := (HI.out w7 HA7.out.bl).1.cells
        obtain ⟨x4,hx4⟩ : ∃ b,enFresh ⟨x.key,x.st,x.lf,x.bd⟩ R.now = b := ⟨_,rfl⟩
        rw [hx4] at cF
        have HHT : Hid (hitB R key = x4) := by
         show _ = _
         unfold hitB
         rw [HHAS.out, ← HXE.out,Bool.true_and]
         exact hx4
        rw [← hw7] at z0 z1 z2 z3 b0
        clear hw7 hx4
        go_wp2_with fail
        rw [HW7.out] at z0 z1 z2 z3 b0 ⊢
        try rw [hEB]
        refine cF.mono ?_
        rintro e w8 ⟨rfl,hb8⟩
        clear cF z0 z1 z2 z3 b0
        have HA8 : Hid (AskS w1 w8 T C ⟨.slice ye0 R.ents.length ye1,.slice yw0 R.pol.win.length yw1,.slice ym0 R.pol.main.length ym1,.slice yk0 R.pol.sk.rows.length yk1,.slice yf0 R.fes.length yf1,.slice yc0 R.cls.length yc1⟩ R ⟨id,key, 0, 0, 1,⟨#[]⟩, 0⟩) := HA7.out.on hb8
        have HE8 : Hid (EnB w8 EB 69 x) := HE7.out.1.on hb8
        have HCE : Hid (C < EB) := HE7.out.2
        clear HA7 HE7 HW7 hb8
        cases x4 with
        | false =>
         have HNH : Hid (hitB R key = false) := HHT.out
         go_upto_region 21 with fail
         clear HE8 HCE
         have HQX := idxX_cases (openP key) R.fes
         rcases HQX with ⟨j,hj,hjq,hjo,hx2⟩ | ⟨hjq,hjn⟩
         ·clear hx2
          have HZA : Hid (askAt R key = j) := askAt_open hjq
          have HUQ : Hid (∀ n (hn : n < R.fes.length),openP key R.fes[n] = true ↔ n = j) := open_one HOX.out hj hjo
          have HWC : Hid (waitC R.fes id key j = ⟨id,key,(j : Int) + 1, 0, 1,R.fes[j].tx, 0⟩ ∧ waitF R.fes key j = R.fes) := waitC_open hj
          obtain ⟨tj,htj⟩ : ∃ t,R.fes[j].tx = t := ⟨_,rfl⟩
          have HTJ : Hid (∀ (n : Nat) (hn : n < R.fes.length),n = j → R.fes[n].tx = tj) := fun n hn e => by subst e; exact htj
          rw [htj] at HWC
          have HJL : Hid (j < R.fes.length) := hj
          have HFL : Hid (R.fes.length ≤ 20) := HOX.out.flen
          clear hjq hjo htj hj
          go_wp2_with fail
          go_loopw [13] (fun i wr => Box (∃ n : Nat,n ≤ R.fes.length ∧ i = .int .i64 n ∧ Hid (AskS w1 wr T C ⟨.slice ye0 R.ents.length ye1,.slice yw0 R.pol.win.length yw1,.slice ym0 R.pol.main.length ym1,.slice yk0 R.pol.sk.rows.length yk1,.slice yf0 R.fes.length yf1,.slice yc0 R.cls.length yc1⟩ R (if j < n then ⟨id,key,(j : Int) + 1, 0, 1,tj, 0⟩ else ⟨id,key, 0, 0, 1,⟨#[]⟩, 0⟩))))
           (fun i _ => R.fes.length - (intOf i).toNat)
          case atStart => exact ⟨⟨0,by omega,rfl,by show AskS _ _ _ _ _ _ _; rw [if_neg (by omega)]; exact HA8.out⟩⟩
          case round =>
           obtain ⟨n,hn,rfl,HAl⟩ := hrel.out
           obtain ⟨wl,hwl⟩ : ∃ wl,wl = wr := ⟨_,rfl⟩
           subst hwl
           clear hrel
           have hl20 := HFL.out
           have x6 := (HI.out wl HAl.out.bl).1.cells.2.2.2.2.2.2.1
           by_cases hlt : n < R.fes.length
           ·obtain ⟨fa,fc,hfe,hfA⟩ := (HI.out wl HAl.out.bl).2.2.1.f
            dsimp only at hfe
            simp only [Value.slice.injEq] at hfe
            obtain ⟨rfl,_,rfl⟩ := hfe
            obtain ⟨g,off,hga,u1,q0,q1,q2,u3,u4⟩ := hfA n hlt
            obtain ⟨f,hf⟩ : ∃ f,R.fes[n] = f := ⟨_,rfl⟩
            rw [hf] at q0 q1 q2
            have hop := HUQ.out n hlt
            have htx := HTJ.out n hlt
            rw [hf] at hop htx
            have HK : Hid (n < R.fes.length) := hlt
            subst hga
            have hi1 : (0 : Int) ≤ (n : Int) := by omega
            have hi2 : (n : Int) < (R.fes.length : Int) := by omega
            clear hf u3 u4
            by_cases hnj : n = j
            ·have HNJ : Hid (n = j) := hnj
             have hfo := hop.2 hnj
             have hft := htx hnj
             unfold openP eqS at hfo
             rw [Bool.and_eq_true] at hfo
             obtain ⟨he,hs⟩ := hfo
             have HAm : Hid (AskS w1 wl T C ⟨.slice ye0 R.ents.length ye1,.slice yw0 R.pol.win.length yw1,.slice ym0 R.pol.main.length ym1,.slice yk0 R.pol.sk.rows.length yk1,.slice yf0 R.fes.length yf1,.slice yc0 R.cls.length yc1⟩ R ⟨id,key, 0, 0, 1,⟨#[]⟩, 0⟩) := by have h := HAl.out; rw [if_neg (by omega)] at h; exact h
             have hcell : ∀ W,AskS w1 W T C ⟨.slice ye0 R.ents.length ye1,.slice yw0 R.pol.win.length yw1,.slice ym0 R.pol.main.length ym1,.slice yk0 R.pol.sk.rows.length yk1,.slice yf0 R.fes.length yf1,.slice yc0 R.cls.length yc1⟩ R ⟨id,key,(j : Int) + 1, 0, 1,⟨#[]⟩, 0⟩ → Below w1.heap.size w1 W := fun _ h => h.bl
             obtain ⟨w2',hw2'⟩ : ∃ y,wl.setCell ⟨C, 2,none⟩ (.int .i64 ((j : Int) + 1)) = y := ⟨_,rfl⟩
             have hA2 := HAm.out.setc (HAm.out.cb.set2 ((j : Int) + 1))
             rw [hw2'] at hA2
             have HA2 : Hid (AskS w1 w2' T C ⟨.slice ye0 R.ents.length ye1,.slice yw0 R.pol.win.length yw1,.slice ym0 R.pol.main.length ym1,.slice yk0 R.pol.sk.rows.length yk1,.slice yf0 R.fes.length yf1,.slice yc0 R.cls.length yc1⟩ R ⟨id,key,(j : Int) + 1, 0, 1,⟨#[]⟩, 0⟩) := hA2
             have HW2 : Hid (wl.setCell ⟨C, 2,none⟩ (.int .i64 ((j : Int) + 1)) = w2') := hw2'
             have t2 := HAm.out.cb.cells.2.2.1
             have g2 := HAm.out.cb.thaw 2
             have HGR : Hid (∀ W,Below w1.heap.size w1 W → W.cell? ⟨A, 6,none⟩ = some (.slice (some ⟨g,off,none⟩) R.fes.length f1) ∧ W.cell? ⟨g,off + n * 5 + 1,none⟩ = some (.string tj)) := fun W hW => by
              obtain ⟨fb,fd,hfe',hfB⟩ := (HI.out W hW).2.2.1.f
              dsimp only at hfe'
              simp only [Value.slice.injEq] at hfe'
              obtain ⟨rfl,_,rfl⟩ := hfe'
              obtain ⟨g',off',hga',_,_,p1,_,_,_⟩ := hfB n HK.out
              simp only [Option.some.injEq,Addr.mk.injEq,and_true] at hga'
              obtain ⟨rfl,rfl⟩ := hga'
              rw [HTJ.out n HK.out HNJ.out] at p1
              exact ⟨(HI.out W hW).1.cells.2.2.2.2.2.2.1,p1⟩
             subst hnj
             clear hw2' hA2 hop htx hcell hft HAl u1
             go_upto_region 26 with fail
             rw [HW2.out]
             clear t2 g2 x6 q0 q1 q2 he hs
             obtain ⟨x6,q1⟩ := HGR.out w2' HA2.out.bl
             obtain ⟨w3',hw3'⟩ : ∃ y,w2'.setCell ⟨C, 5,none⟩ (.string tj) = y := ⟨_,rfl⟩
             have hA3 := HA2.out.setc (HA2.out.cb.set5 tj)
             rw [hw3'] at hA3
             have HA3 : Hid (AskS w1 w3' T C ⟨.slice ye0 R.ents.length ye1,.slice yw0 R.pol.win.length yw1,.slice ym0 R.pol.main.length ym1,.slice yk0 R.pol.sk.rows.length yk1,.slice yf0 R.fes.length yf1,.slice yc0 R.cls.length yc1⟩ R (if n < n + 1 then ⟨id,key,(n : Int) + 1, 0, 1,tj, 0⟩ else ⟨id,key, 0, 0, 1,⟨#[]⟩, 0⟩)) := by show AskS _ _ _ _ _ _ _; rw [if_pos (by omega)]; exact hA3
             have HW3 : Hid (w2'.setCell ⟨C, 5,none⟩ (.string tj) = w3') := hw3'
             have t5 := HA2.out.cb.cells.2.2.2.2.2.1
             have g5 := HA2.out.cb.thaw 5
             clear hw3' hA3 HA2 HW2 HAm HGR
             go_wp2_with fail
             rw [HW3.out]
             go_roundw
             case rel =>
              try ((repeat apply Exists.intro); refine ⟨?_,rfl⟩)
              exact ⟨⟨n + 1,by have := HK.out; omega,by go_num,HA3.out⟩⟩
             case measure => have := HK.out; simp [intOf]; omega
            ·have HOPN : Hid (openP key f = false) := by
              show _ = _
              cases hb : openP key f with
              | false => rfl
              | true => exact absurd (hop.1 hb) hnj
             have HAn : Hid (AskS w1 wl T C ⟨.slice ye0 R.ents.length ye1,.slice yw0 R.pol.win.length yw1,.slice ym0 R.pol.main.length ym1,.slice yk0 R.pol.sk.rows.length yk1,.slice yf0 R.fes.length yf1,.slice yc0 R.cls.length yc1⟩ R (if j < n + 1 then ⟨id,key,(j : Int) + 1, 0, 1,tj, 0⟩ else ⟨id,key, 0, 0, 1,⟨#[]⟩, 0⟩)) := by
              show AskS _ _ _ _ _ _ _
              by_cases hjn : j < n
              ·have h := HAl.out
               rw [if_pos hjn] at h
               rw [if_pos (by omega)]
               exact h
              ·have h := HAl.out
               rw [if_neg hjn] at h
               rw [if_neg (by omega)]
               exact h
             clear hop htx hnj u1 HAl
             cases he : (f.key.toList == key.toList) with
             | false =>
              go_wp2_with fail
              go_roundw
              case rel =>
               try ((repeat apply Exists.intro); refine ⟨?_,rfl⟩)
               exact ⟨⟨n + 1,by have := HK.out; omega,by go_num,HAn.out⟩⟩
              case measure => have := HK.out; simp [intOf]; omega
             | true =>
              cases hs : (f.st == 1) with
              | true => exact absurd (show openP key f = true by unfold openP eqS; rw [he,hs]; rfl) (by rw [HOPN.out]; decide)
              | false =>
               go_wp2_with fail
               go_roundw
               case rel =>
                try ((repeat apply Exists.intro); refine ⟨?_,rfl⟩)
                exact ⟨⟨n + 1,by have := HK.out; omega,by go_num,HAn.out⟩⟩
               case measure => have := HK.out; simp [intOf]; omega
           ·have HAm : Hid (AskS w1 wl T C ⟨.slice ye0 R.ents.length ye1,.slice yw0 R.pol.win.length yw1,.slice ym0 R.pol.main.length ym1,.slice yk0 R.pol.sk.rows.length yk1,.slice yf0 R.fes.length yf1,.slice yc0 R.cls.length yc1⟩ R ⟨id,key,(j : Int) + 1, 0, 1,tj, 0⟩) := by have h := HAl.out; rw [if_pos (by have := HJL.out; omega)] at h; exact h
            have hi2 : ¬ (n : Int) < (R.fes.length : Int) := by omega
            have t2 := HAm.out.cb.cells.2.2.1
            have hne : (((j : Int) + 1) == 0) = false := by simp; omega
            have hne' : ¬ ((j : Int) + 1) = 0 := by omega
            clear hlt hn HAl
            go_upto_region 32 with fail
            clear t2 hne hne' x6 hi2
            obtain ⟨_,t1,_,_,_,_,_,_,_⟩ := HAm.out.box.cells
            have hea : NAt wl ye0 R.ents wl.heap.size := by
             obtain ⟨q5,q6,e5,e6⟩ := HAm.out.own.at.e
             dsimp only at e5 e6
             simp only [Value.slice.injEq] at e5
             obtain ⟨rfl,_,rfl⟩ := e5
             exact e6
            have cW := l16Without_any wl ye0 ye1 R.ents key hea (by have := ents_six HOX.out; omega)
            clear hea
            go_wp2_with fail
            refine cW.mono ?_
            rintro e wa ⟨v,rfl,hoa,hba⟩
            obtain ⟨v0,v1,rfl,_⟩ := hoa.at
            clear cW t1
            obtain ⟨wb,hwb⟩ : ∃ y,wa.setCell ⟨T, 1,none⟩ (.slice v0 (R.ents.filter fun x => !decide (x.key = key)).length v1) = y := ⟨_,rfl⟩
            have hAb := HAm.out.setE hba hoa
            rw [hwb] at hAb
            have t1 := (HAm.out.on hba).box.cells.2.1
            have g1 := (HAm.out.on hba).box.thaw 1
            dsimp only at t1
            have HAb : Hid (AskS w1 wb T C ⟨.slice v0 (R.ents.filter fun x => !decide (x.key = key)).length v1,.slice yw0 R.pol.win.length yw1,.slice ym0 R.pol.main.length ym1,.slice yk0 R.pol.sk.rows.length yk1,.slice yf0 R.fes.length yf1,.slice yc0 R.cls.length yc1⟩ ⟨R.now,(R.ents.filter fun x => !decide (x.key = key)),R.pol,R.fes,R.cls,R.hits⟩ ⟨id,key,(j : Int) + 1, 0, 1,tj, 0⟩) := hAb
            have HWb : Hid (wa.setCell ⟨T, 1,none⟩ (.slice v0 (R.ents.filter fun x => !decide (x.key = key)).length v1) = wb) := hwb
            clear hAb hwb hoa hba HAm
            go_upto_region 34 with fail
            rw [HWb.out]
            clear t1 g1 HWb
            have hpl : PolAt wb yw0 ym0 yk0 R.pol wb.heap.size := by
             have h := HAb.out.own.at
             obtain ⟨q1,q2,e1,e2⟩ := h.pw
             obtain ⟨q3,q4,e3,e4⟩ := h.pm
             obtain ⟨q5,q6,e5,e6⟩ := h.pk
             dsimp only at e1 e2 e3 e4 e5 e6
             simp only [Value.slice.injEq] at e1 e3 e5
             obtain ⟨rfl,_,rfl⟩ := e1
             obtain ⟨rfl,_,rfl⟩ := e3
             obtain ⟨rfl,_,rfl⟩ := e5
             exact ⟨e2,e4,e6⟩
            have cD := specPolicyDrop_any wb yw0 ym0 yk0 yw1 ym1 yk1 R.pol key hpl HSZ.out.parts.2.1
            obtain ⟨_,_,t2,t3,t4,t5,_,_,_⟩ := HAb.out.box.cells
            dsimp only at t2 t3 t4 t5
            clear hpl
            go_wp2_with fail
            refine cD.mono ?_
            rintro e wd ⟨v,rfl,hod,hbd⟩
            obtain ⟨a1,c1,a2,c2,a3,c3,rfl,_⟩ := hod.at
            clear cD t2 t3 t4 t5
            have hAd := HAb.out.setPol hbd hod
            have hBd := (HAb.out.on hbd).box
            have t0 := hBd.cells.2.2.1
            have g0 := hBd.thaw 2
            have s0 := hBd.set2 (.slice a1 (dropP R.pol key).win.length c1)
            have t1 := s0.cells.2.2.2.1
            have g1 := s0.thaw 3
            have s1 := s0.set3 (.slice a2 (dropP R.pol key).main.length c2)
            have t2 := s1.cells.2.2.2.2.1
            have g2 := s1.thaw 4
            have s2 := s1.set4 (.slice a3 (dropP R.pol key).sk.rows.length c3)
            have t3 := s2.cells.2.2.2.2.2.1
            have g3 := s2.thaw 5
            obtain ⟨we,hwe⟩ : ∃ y,((((wd.setCell ⟨T, 2,none⟩ (.slice a1 (dropP R.pol key).win.length c1)).setCell ⟨T, 3,none⟩ (.slice a2 (dropP R.pol key).main.length c2)).setCell ⟨T, 4,none⟩ (.slice a3 (dropP R.pol key).sk.rows.length c3)).setCell ⟨T, 5,none⟩ (.int .i64 (dropP R.pol key).sk.added)) = y := ⟨_,rfl⟩
            rw [hwe] at hAd
            have HAe : Hid (AskS w1 we T C ⟨.slice v0 (R.ents.filter fun x => !decide (x.key = key)).length v1,.slice a1 (dropP R.pol key).win.length c1,.slice a2 (dropP R.pol key).main.length c2,.slice a3 (dropP R.pol key).sk.rows.length c3,.slice yf0 R.fes.length yf1,.slice yc0 R.cls.length yc1⟩ ⟨R.now,(R.ents.filter fun x => !decide (x.key = key)),(dropP R.pol key),R.fes,R.cls,R.hits⟩ ⟨id,key,(j : Int) + 1, 0, 1,tj, 0⟩) := hAd
            have HWe : Hid (((((wd.setCell ⟨T, 2,none⟩ (.slice a1 (dropP R.pol key).win.length c1)).setCell ⟨T, 3,none⟩ (.slice a2 (dropP R.pol key).main.length c2)).setCell ⟨T, 4,none⟩ (.slice a3 (dropP R.pol key).sk.rows.length c3)).setCell ⟨T, 5,none⟩ (.int .i64 (dropP R.pol key).sk.added)) = we) := hwe
            clear hwe hAd hBd hod hbd HAb
            go_upto_region 35 with fail
            rw [HWe.out]
            clear t0 t1 t2 t3 g0 g1 g2 g3 s0 s1 s2 HWe
            have hsk : SSAt we a3 (dropP R.pol key).sk.rows we.heap.size := by
             obtain ⟨q5,q6,e5,e6⟩ := HAe.out.own.at.pk
             dsimp only at e5 e6
             simp only [Value.slice.injEq] at e5
             obtain ⟨rfl,_,rfl⟩ := e5
             exact e6
            have cB := specSketchBump_any we a3 c3 (dropP R.pol key).sk key hsk HSZ.out.parts.2.1.parts.2.2 HKY.out
            obtain ⟨_,_,_,_,t4,t5,_,_,_⟩ := HAe.out.box.cells
            dsimp only at t4 t5
            clear hsk
            go_wp2_with fail
            refine cB.mono ?_
            rintro e wk ⟨v,rfl,⟨v4,rfl,hok⟩,hbk⟩
            obtain ⟨a4,c4,rfl,_⟩ := hok.at
            clear cB t4 t5
            have hAk := HAe.out.setSk hbk hok
            have hBk := (HAe.out.on hbk).box
            have t0 := hBk.cells.2.2.2.2.1
            have g0 := hBk.thaw 4
            have r0 := hBk.set4 (.slice a4 (bumpS (dropP R.pol key).sk key).rows.length c4)
            have t1 := r0.cells.2.2.2.2.2.1
            have g1 := r0.thaw 5
            obtain ⟨ws,hws⟩ : ∃ y,((wk.setCell ⟨T, 4,none⟩ (.slice a4 (bumpS (dropP R.pol key).sk key).rows.length c4)).setCell ⟨T, 5,none⟩ (.int .i64 (bumpS (dropP R.pol key).sk key).added)) = y := ⟨_,rfl⟩
            rw [hws] at hAk
            have HAs : Hid (AskS w1 ws T C ⟨.slice v0 (R.ents.filter fun x => !decide (x.key = key)).length v1,.slice a1 (dropP R.pol key).win.length c1,.slice a2 (dropP R.pol key).main.length c2,.slice a4 (bumpS (dropP R.pol key).sk key).rows.length c4,.slice yf0 R.fes.length yf1,.slice yc0 R.cls.length yc1⟩ ⟨R.now,(R.ents.filter fun x => !decide (x.key = key)),⟨(dropP R.pol key).win,(dropP R.pol key).main,(bumpS (dropP R.pol key).sk key)⟩,R.fes,R.cls,R.hits⟩ ⟨id,key,(j : Int) + 1, 0, 1,tj, 0⟩) := hAk
            have HWs : Hid (((wk.setCell ⟨T, 4,none⟩ (.slice a4 (bumpS (dropP R.pol key).sk key).rows.length c4)).setCell ⟨T, 5,none⟩ (.int .i64 (bumpS (dropP R.pol key).sk key).added)) = ws) := hws
            clear hws hAk hBk hok hbk HAe
            go_upto_region 36 with fail
            rw [HWs.out]
            clear t0 t1 g0 g1 r0 HWs
            obtain ⟨_,_,_,_,_,_,_,t7,_⟩ := HAs.out.box.cells
            obtain ⟨k0_,k1_,k2_,k3_,k4_,k5_,k6_⟩ := HAs.out.cb.cells
            have hcA : CliAt ws yc0 R.cls ws.heap.size := by
             obtain ⟨q5,q6,e5,e6⟩ := HAs.out.own.at.c
             dsimp only at e5 e6
             simp only [Value.slice.injEq] at e5
             obtain ⟨rfl,_,rfl⟩ := e5
             exact e6
            have cJ := l16Join_any ws yc0 yc1 R.cls ⟨id,key,(j : Int) + 1, 0, 1,tj, 0⟩ hcA (by have := HOX.out.clen; omega)
            dsimp only at cJ k0_ k1_ k2_ k3_ k4_ k5_ k6_ t7
            clear hcA
            go_wp2_with fail
            refine cJ.mono ?_
            rintro e wj ⟨v,rfl,hoj,hbj⟩
            obtain ⟨j0,j1,rfl,_⟩ := hoj.at
            clear cJ k0_ k1_ k2_ k3_ k4_ k5_ k6_ t7
            obtain ⟨wz,hwz⟩ : ∃ y,wj.setCell ⟨T, 7,none⟩ (.slice j0 (insC R.cls ⟨id,key,(j : Int) + 1, 0, 1,tj, 0⟩).length j1) = y := ⟨_,rfl⟩
            have hPV := HAs.out.join hbj hoj
            rw [hwz] at hPV
            have t7 := (HAs.out.on hbj).box.cells.2.2.2.2.2.2.2.1
            have g7 := (HAs.out.on hbj).box.thaw 7
            dsimp only at t7
            have HPV : Hid _ := hPV
            have HWZ : Hid (wj.setCell ⟨T, 7,none⟩ (.slice j0 (insC R.cls ⟨id,key,(j : Int) + 1, 0, 1,tj, 0⟩).length j1) = wz) := hwz
            clear hPV hwz hoj hbj
            go_upto_region 37 with fail
            rw [HWZ.out]
            clear t7 g7 HAs
            obtain ⟨R',hR'⟩ : ∃ r,(Prx.mk R.now (R.ents.filter fun x => !decide (x.key = key)) ⟨(dropP R.pol key).win,(dropP R.pol key).main,(bumpS (dropP R.pol key).sk key)⟩ R.fes (insC R.cls ⟨id,key,(j : Int) + 1, 0, 1,tj, 0⟩) R.hits) = r := ⟨_,rfl⟩
            obtain ⟨XZ,HPV1⟩ : ∃ XZ,Hid (PvAt wz w1.heap.size T XZ R') := ⟨_,by rw [← hR']; exact HPV.out.1⟩
            have HPV2 : Hid (Below w1.heap.size w1 wz) := HPV.out.2
            have HRQ : Hid (askR R id key = (R', 0)) := by
             show _ = _
             rw [← hR']
             refine (askR_wait HMAY.out HNH.out (fun h => by have h1 := HZA.out; have h2 := HFL.out; have h3 := HJL.out; omega)).trans ?_
             rw [waitR_has R id key HZA.out,HWC.out.1,HWC.out.2]
            clear hR' HPV
            obtain ⟨XF,HVf⟩ : ∃ XF,Hid (PvAt wz w1.heap.size T XF R') := ⟨_,HPV1.out⟩
            have HBf : Hid (Below w1.heap.size w1 wz) := HPV2.out
            have HRR : Hid (askR R id key = (R', 0)) := by show _ = _; exact HRQ.out
            obtain ⟨g0,g1,g2,g3,g4,g5,g6,g7,g8⟩ := HVf.out.box.cells
            obtain ⟨y0,y1,yp0,yp1,ym0,ym1,yk0,yk1,yf0,yf1,yc0,yc1,rfl⟩ := HVf.out.own.slices
            dsimp only at g1 g2 g3 g4 g6 g7
            obtain ⟨r0,r1,r2,r3,r4,r5,r6,r7,r8⟩ := (HI.out wz HBf.out).2.1.cells
            have tt := (HI.out wz HBf.out).2.1.thaw
            obtain ⟨t0,t1,t2,t3,t4,t5,t6,t7,t8⟩ := And.intro (tt 0) (And.intro (tt 1) (And.intro (tt 2) (And.intro (tt 3) (And.intro (tt 4) (And.intro (tt 5) (And.intro (tt 6) (And.intro (tt 7) (tt 8))))))))
            have hR9 := ret9 HVf.out.own (HI.out wz HBf.out).2.1 (HI.out wz HBf.out).2.2.2.1
            dsimp only at hR9
            have HR9 := hidR hR9
            clear HVf HBf hR9 tt
            go_wp2_with fail
            obtain ⟨q0,q1,q2,q3,q4,q5,q6,q7,q8⟩ := HR9.out.1.cells
            refine bodyPost_ret (v := .tuple #[.agg #[.int .i64 R'.now,.slice y0 R'.ents.length y1,.slice yp0 R'.pol.win.length yp1,.slice ym0 R'.pol.main.length ym1,.slice yk0 R'.pol.sk.rows.length yk1,.int .i64 R'.pol.sk.added,.slice yf0 R'.fes.length yf1,.slice yc0 R'.cls.length yc1,.int .i64 R'.hits],.int .i64 0]) (by simp [results,Tryz.results11,go_sem,q0,q1,q2,q3,q4,q5,q6,q7,q8]) rfl ?_
            rw [HRR.out]
            refine ⟨_,rfl,HR9.out.2.1.mono (by have := HL.out; omega) (Nat.le_refl _), ?_⟩
            try rw [HL.out.2.2.1]
            exact HR9.out.2.2
         ·have HZA : Hid (askAt R key = R.fes.length) := askAt_none hjq
          have HNO : Hid (∀ x ∈ R.fes,openP key x = false) := hjn
          have HFL : Hid (R.fes.length ≤ 20) := HOX.out.flen
          clear hjq hjn
          go_wp2_with fail
          go_loopw [13] (fun i wr => Box (∃ n : Nat,n ≤ R.fes.length ∧ i = .int .i64 n ∧ Hid (AskS w1 wr T C ⟨.slice ye0 R.ents.length ye1,.slice yw0 R.pol.win.length yw1,.slice ym0 R.pol.main.length ym1,.slice yk0 R.pol.sk.rows.length yk1,.slice yf0 R.fes.length yf1,.slice yc0 R.cls.length yc1⟩ R ⟨id,key, 0, 0, 1,⟨#[]⟩, 0⟩)))
           (fun i _ => R.fes.length - (intOf i).toNat)
          case atStart => exact ⟨⟨0,by omega,rfl,HA8.out⟩⟩
          case round =>
           obtain ⟨n,hn,rfl,HAl⟩ := hrel.out
           obtain ⟨wl,hwl⟩ : ∃ wl,wl = wr := ⟨_,rfl⟩
           subst hwl
           clear hrel
           have hl20 := HFL.out
           have x6 := (HI.out wl HAl.out.bl).1.cells.2.2.2.2.2.2.1
           by_cases hlt : n < R.fes.length
           ·obtain ⟨fa,fc,hfe,hfA⟩ := (HI.out wl HAl.out.bl).2.2.1.f
            dsimp only at hfe
            simp only [Value.slice.injEq] at hfe
            obtain ⟨rfl,_,rfl⟩ := hfe
            obtain ⟨g,off,hga,u1,q0,q1,q2,u3,u4⟩ := hfA n hlt
            obtain ⟨f,hf⟩ : ∃ f,R.fes[n] = f := ⟨_,rfl⟩
            rw [hf] at q0 q1 q2
            have HOPN : Hid (openP key f = false) := HNO.out f (by rw [← hf]; exact List.getElem_mem hlt)
            have HK : Hid (n < R.fes.length) := hlt
            subst hga
            have hi1 : (0 : Int) ≤ (n : Int) := by omega
            have hi2 : (n : Int) < (R.fes.length : Int) := by omega
            clear hf u3 u4 u1
            cases he : (f.key.toList == key.toList) with
            | false =>
             go_wp2_with fail
             go_roundw
             case rel =>
              try ((repeat apply Exists.intro); refine ⟨?_,rfl⟩)
              exact ⟨⟨n + 1,by have := HK.out; omega,by go_num,HAl.out⟩⟩
             case measure => have := HK.out; simp [intOf]; omega
            | true =>
             cases hs : (f.st == 1) with
             | true => exact absurd (show openP key f = true by unfold openP eqS; rw [he,hs]; rfl) (by rw [HOPN.out]; decide)
             | false =>
              go_wp2_with fail
              go_roundw
              case rel =>
               try ((repeat apply Exists.intro); refine ⟨?_,rfl⟩)
               exact ⟨⟨n + 1,by have := HK.out; omega,by go_num,HAl.out⟩⟩
              case measure => have := HK.out; simp [intOf]; omega
           ·have hi2 : ¬ (n : Int) < (R.fes.length : Int) := by omega
            have t2 := HAl.out.cb.cells.2.2.1
            by_cases h20 : R.fes.length = 20
            ·have hq : (20 : Int) ≤ (R.fes.length : Int) := by omega
             have HRQ : Hid (askR R id key = (R, 2)) := askR_full HMAY.out HNH.out (HZA.out.trans h20)
             clear h20 hlt hn
             go_upto_region 29 with fail
             clear t2 x6
             obtain ⟨XF,HVf⟩ : ∃ XF,Hid (PvAt wl w1.heap.size T XF R) := ⟨_,HAl.out.pv⟩
             have HBf : Hid (Below w1.heap.size w1 wl) := HAl.out.bl
             have HRR : Hid (askR R id key = (R, 2)) := by show _ = _; exact HRQ.out
             obtain ⟨g0,g1,g2,g3,g4,g5,g6,g7,g8⟩ := HVf.out.box.cells
             obtain ⟨y0,y1,yp0,yp1,ym0,ym1,yk0,yk1,yf0,yf1,yc0,yc1,rfl⟩ := HVf.out.own.slices
             dsimp only at g1 g2 g3 g4 g6 g7
             obtain ⟨r0,r1,r2,r3,r4,r5,r6,r7,r8⟩ := (HI.out wl HBf.out).2.1.cells
             have tt := (HI.out wl HBf.out).2.1.thaw
             obtain ⟨t0,t1,t2,t3,t4,t5,t6,t7,t8⟩ := And.intro (tt 0) (And.intro (tt 1) (And.intro (tt 2) (And.intro (tt 3) (And.intro (tt 4) (And.intro (tt 5) (And.intro (tt 6) (And.intro (tt 7) (tt 8))))))))
             have hR9 := ret9 HVf.out.own (HI.out wl HBf.out).2.1 (HI.out wl HBf.out).2.2.2.1
             dsimp only at hR9
             have HR9 := hidR hR9
             clear HVf HBf hR9 tt
             go_wp2_with fail
             obtain ⟨q0,q1,q2,q3,q4,q5,q6,q7,q8⟩ := HR9.out.1.cells
             refine bodyPost_ret (v := .tuple #[.agg #[.int .i64 R.now,.slice y0 R.ents.length y1,.slice yp0 R.pol.win.length yp1,.slice ym0 R.pol.main.length ym1,.slice yk0 R.pol.sk.rows.length yk1,.int .i64 R.pol.sk.added,.slice yf0 R.fes.length yf1,.slice yc0 R.cls.length yc1,.int .i64 R.hits],.int .i64 2]) (by simp [results,Tryz.results11,go_sem,q0,q1,q2,q3,q4,q5,q6,q7,q8]) rfl ?_
             rw [HRR.out]
             refine ⟨_,rfl,HR9.out.2.1.mono (by have := HL.out; omega) (Nat.le_refl _), ?_⟩
             try rw [HL.out.2.2.1]
             exact HR9.out.2.2
            ·have HQ20 : Hid (R.fes.length < 20) := by show _ < _; omega
             have hq : ¬ (20 : Int) ≤ (R.fes.length : Int) := by omega
             have HWC : Hid (waitC R.fes id key R.fes.length = ⟨id,key,(R.fes.length : Int) + 1, 0, 1,⟨#[]⟩, 0⟩ ∧ waitF R.fes key R.fes.length = R.fes ++ [newF key]) := waitC_new
             have HN20 : Hid (¬ askAt R key = 20) := fun h => by have h1 := HZA.out; have h2 := HQ20.out; omega
             obtain ⟨_,_,_,_,_,_,t6,_,_⟩ := HAl.out.box.cells
             clear h20 hlt hn
             go_upto_region 30 with fail
             clear t2 x6 hq hi2
             have hO6 : OwnFet wl w1.heap.size 94 (.slice yf0 R.fes.length yf1) R.fes := HAl.out.own.f
             have hlo6 : w1.heap.size ≤ wl.heap.size := HAl.out.bl.size
             have hl19 : R.fes.length + 1 ≤ 1800000 := by omega
             have HTC : Hid (∀ w',wl.grownBy w' (Value.slice yf0 R.fes.length yf1).ownBlock → NB w' T 48 (.int .i64 R.now) (.slice ye0 R.ents.length ye1) (.slice yw0 R.pol.win.length yw1) (.slice ym0 R.pol.main.length ym1) (.slice yk0 R.pol.sk.rows.length yk1) (.int .i64 R.pol.sk.added) (.slice yf0 R.fes.length yf1) (.slice yc0 R.cls.length yc1) (.int .i64 R.hits)) := fun w' hg => HAl.out.box.kept ((Tch.of_grown (S := fun j => (Value.slice yf0 R.fes.length yf1).ownBlock = some j) hg (fun k hk => hk)).2 T HAl.out.box.lt (HAl.out.pv.far HAl.out.own.f.type (by decide)))
             go_upto_region 31 with (at_builtin; refine wpList_plusFet rfl (.tmp 145) (.tmp 148) 45 rfl w1.heap.size 94 Tryz.underlying45 Tryz.infoFet (.slice yf0 R.fes.length yf1) R.fes rfl hO6 [newF key] #[.string key,.string ⟨#[]⟩,.int .i64 1,.int .i64 0,.int .i64 0] rfl rfl hl19 hlo6 ?_; intro v' w9 ho9 hg9; obtain ⟨a9,c9,rfl,_⟩ := ho9.at; have hb9 := HTC.out w9 hg9; have t6 := hb9.cells.2.2.2.2.2.2.1; have g6 := hb9.thaw 6; have hA9 := HAl.out.setF (Tch.of_grown hg9 (fun k hk => hk)) ho9; clear hb9 hg9 ho9)
             have hlen : (R.fes ++ [newF key]).length = R.fes.length + 1 := by simp
             rw [hlen] at hA9
             obtain ⟨w10,hw10⟩ : ∃ y,w9.setCell ⟨T, 6,none⟩ (.slice a9 (R.fes.length + 1) c9) = y := ⟨_,rfl⟩
             rw [hw10] at hA9
             have HA9 : Hid (AskS w1 w10 T C ⟨.slice ye0 R.ents.length ye1,.slice yw0 R.pol.win.length yw1,.slice ym0 R.pol.main.length ym1,.slice yk0 R.pol.sk.rows.length yk1,.slice a9 (R.fes.length + 1) c9,.slice yc0 R.cls.length yc1⟩ ⟨R.now,R.ents,R.pol,R.fes ++ [newF key],R.cls,R.hits⟩ ⟨id,key, 0, 0, 1,⟨#[]⟩, 0⟩) := hA9
             rw [hw10]
             clear t6 g6 hA9 hw10 hO6 hlo6 hl19 HTC HAl
             obtain ⟨_,_,_,_,_,_,t6,_,_⟩ := HA9.out.box.cells
             dsimp only at t6
             have t2 := HA9.out.cb.cells.2.2.1
             have g2 := HA9.out.cb.thaw 2
             obtain ⟨w11,hw11⟩ : ∃ y,w10.setCell ⟨C, 2,none⟩ (.int .i64 ((R.fes.length : Int) + 1)) = y := ⟨_,rfl⟩
             have hA11 := HA9.out.setc (HA9.out.cb.set2 ((R.fes.length : Int) + 1))
             rw [hw11] at hA11
             have HA11 : Hid (AskS w1 w11 T C ⟨.slice ye0 R.ents.length ye1,.slice yw0 R.pol.win.length yw1,.slice ym0 R.pol.main.length ym1,.slice yk0 R.pol.sk.rows.length yk1,.slice a9 (R.fes.length + 1) c9,.slice yc0 R.cls.length yc1⟩ ⟨R.now,R.ents,R.pol,R.fes ++ [newF key],R.cls,R.hits⟩ ⟨id,key,(R.fes.length : Int) + 1, 0, 1,⟨#[]⟩, 0⟩) := hA11
             have HW11 : Hid (w10.setCell ⟨C, 2,none⟩ (.int .i64 ((R.fes.length : Int) + 1)) = w11) := hw11
             clear hw11 hA11 HA9 hlen
             go_upto_region 32 with fail
             rw [HW11.out]
             clear t2 t6 g2
             obtain ⟨_,t1,_,_,_,_,_,_,_⟩ := HA11.out.box.cells
             have hea : NAt w11 ye0 R.ents w11.heap.size := by
              obtain ⟨q5,q6,e5,e6⟩ := HA11.out.own.at.e
              dsimp only at e5 e6
              simp only [Value.slice.injEq] at e5
              obtain ⟨rfl,_,rfl⟩ := e5
              exact e6
             have cW := l16Without_any w11 ye0 ye1 R.ents key hea (by have := ents_six HOX.out; omega)
             clear hea
             go_wp2_with fail
             refine cW.mono ?_
             rintro e wa ⟨v,rfl,hoa,hba⟩
             obtain ⟨v0,v1,rfl,_⟩ := hoa.at
             clear cW t1
             obtain ⟨wb,hwb⟩ : ∃ y,wa.setCell ⟨T, 1,none⟩ (.slice v0 (R.ents.filter fun x => !decide (x.key = key)).length v1) = y := ⟨_,rfl⟩
             have hAb := HA11.out.setE hba hoa
             rw [hwb] at hAb
             have t1 := (HA11.out.on hba).box.cells.2.1
             have g1 := (HA11.out.on hba).box.thaw 1
             dsimp only at t1
             have HAb : Hid (AskS w1 wb T C ⟨.slice v0 (R.ents.filter fun x => !decide (x.key = key)).length v1,.slice yw0 R.pol.win.length yw1,.slice ym0 R.pol.main.length ym1,.slice yk0 R.pol.sk.rows.length yk1,.slice a9 (R.fes.length + 1) c9,.slice yc0 R.cls.length yc1⟩ ⟨R.now,(R.ents.filter fun x => !decide (x.key = key)),R.pol,(R.fes ++ [newF key]),R.cls,R.hits⟩ ⟨id,key,(R.fes.length : Int) + 1, 0, 1,⟨#[]⟩, 0⟩) := hAb
             have HWb : Hid (wa.setCell ⟨T, 1,none⟩ (.slice v0 (R.ents.filter fun x => !decide (x.key = key)).length v1) = wb) := hwb
             clear hAb hwb hoa hba HA11
             go_upto_region 34 with fail
             rw [HWb.out]
             clear t1 g1 HWb
             have hpl : PolAt wb yw0 ym0 yk0 R.pol wb.heap.size := by
              have h := HAb.out.own.at
              obtain ⟨q1,q2,e1,e2⟩ := h.pw
              obtain ⟨q3,q4,e3,e4⟩ := h.pm
              obtain ⟨q5,q6,e5,e6⟩ := h.pk
              dsimp only at e1 e2 e3 e4 e5 e6
              simp only [Value.slice.injEq] at e1 e3 e5
              obtain ⟨rfl,_,rfl⟩ := e1
              obtain ⟨rfl,_,rfl⟩ := e3
              obtain ⟨rfl,_,rfl⟩ := e5
              exact ⟨e2,e4,e6⟩
             have cD := specPolicyDrop_any wb yw0 ym0 yk0 yw1 ym1 yk1 R.pol key hpl HSZ.out.parts.2.1
             obtain ⟨_,_,t2,t3,t4,t5,_,_,_⟩ := HAb.out.box.cells
             dsimp only at t2 t3 t4 t5
             clear hpl
             go_wp2_with fail
             refine cD.mono ?_
             rintro e wd ⟨v,rfl,hod,hbd⟩
             obtain ⟨a1,c1,a2,c2,a3,c3,rfl,_⟩ := hod.at
             clear cD t2 t3 t4 t5
             have hAd := HAb.out.setPol hbd hod
             have hBd := (HAb.out.on hbd).box
             have t0 := hBd.cells.2.2.1
             have g0 := hBd.thaw 2
             have s0 := hBd.set2 (.slice a1 (dropP R.pol key).win.length c1)
             have t1 := s0.cells.2.2.2.1
             have g1 := s0.thaw 3
             have s1 := s0.set3 (.slice a2 (dropP R.pol key).main.length c2)
             have t2 := s1.cells.2.2.2.2.1
             have g2 := s1.thaw 4
             have s2 := s1.set4 (.slice a3 (dropP R.pol key).sk.rows.length c3)
             have t3 := s2.cells.2.2.2.2.2.1
             have g3 := s2.thaw 5
             obtain ⟨we,hwe⟩ : ∃ y,((((wd.setCell ⟨T, 2,none⟩ (.slice a1 (dropP R.pol key).win.length c1)).setCell ⟨T, 3,none⟩ (.slice a2 (dropP R.pol key).main.length c2)).setCell ⟨T, 4,none⟩ (.slice a3 (dropP R.pol key).sk.rows.length c3)).setCell ⟨T, 5,none⟩ (.int .i64 (dropP R.pol key).sk.added)) = y := ⟨_,rfl⟩
             rw [hwe] at hAd
             have HAe : Hid (AskS w1 we T C ⟨.slice v0 (R.ents.filter fun x => !decide (x.key = key)).length v1,.slice a1 (dropP R.pol key).win.length c1,.slice a2 (dropP R.pol key).main.length c2,.slice a3 (dropP R.pol key).sk.rows.length c3,.slice a9 (R.fes.length + 1) c9,.slice yc0 R.cls.length yc1⟩ ⟨R.now,(R.ents.filter fun x => !decide (x.key = key)),(dropP R.pol key),(R.fes ++ [newF key]),R.cls,R.hits⟩ ⟨id,key,(R.fes.length : Int) + 1, 0, 1,⟨#[]⟩, 0⟩) := hAd
             have HWe : Hid (((((wd.setCell ⟨T, 2,none⟩ (.slice a1 (dropP R.pol key).win.length c1)).setCell ⟨T, 3,none⟩ (.slice a2 (dropP R.pol key).main.length c2)).setCell ⟨T, 4,none⟩ (.slice a3 (dropP R.pol key).sk.rows.length c3)).setCell ⟨T, 5,none⟩ (.int .i64 (dropP R.pol key).sk.added)) = we) := hwe
             clear hwe hAd hBd hod hbd HAb
             go_upto_region 35 with fail
             rw [HWe.out]
             clear t0 t1 t2 t3 g0 g1 g2 g3 s0 s1 s2 HWe
             have hsk : SSAt we a3 (dropP R.pol key).sk.rows we.heap.size := by
              obtain ⟨q5,q6,e5,e6⟩ := HAe.out.own.at.pk
              dsimp only at e5 e6
              simp only [Value.slice.injEq] at e5
              obtain ⟨rfl,_,rfl⟩ := e5
              exact e6
             have cB := specSketchBump_any we a3 c3 (dropP R.pol key).sk key hsk HSZ.out.parts.2.1.parts.2.2 HKY.out
             obtain ⟨_,_,_,_,t4,t5,_,_,_⟩ := HAe.out.box.cells
             dsimp only at t4 t5
             clear hsk
             go_wp2_with fail
             refine cB.mono ?_
             rintro e wk ⟨v,rfl,⟨v4,rfl,hok⟩,hbk⟩
             obtain ⟨a4,c4,rfl,_⟩ := hok.at
             clear cB t4 t5
             have hAk := HAe.out.setSk hbk hok
             have hBk := (HAe.out.on hbk).box
             have t0 := hBk.cells.2.2.2.2.1
             have g0 := hBk.thaw 4
             have r0 := hBk.set4 (.slice a4 (bumpS (dropP R.pol key).sk key).rows.length c4)
             have t1 := r0.cells.2.2.2.2.2.1
             have g1 := r0.thaw 5
             obtain ⟨ws,hws⟩ : ∃ y,((wk.setCell ⟨T, 4,none⟩ (.slice a4 (bumpS (dropP R.pol key).sk key).rows.length c4)).setCell ⟨T, 5,none⟩ (.int .i64 (bumpS (dropP R.pol key).sk key).added)) = y := ⟨_,rfl⟩
             rw [hws] at hAk
             have HAs : Hid (AskS w1 ws T C ⟨.slice v0 (R.ents.filter fun x => !decide (x.key = key)).length v1,.slice a1 (dropP R.pol key).win.length c1,.slice a2 (dropP R.pol key).main.length c2,.slice a4 (bumpS (dropP R.pol key).sk key).rows.length c4,.slice a9 (R.fes.length + 1) c9,.slice yc0 R.cls.length yc1⟩ ⟨R.now,(R.ents.filter fun x => !decide (x.key = key)),⟨(dropP R.pol key).win,(dropP R.pol key).main,(bumpS (dropP R.pol key).sk key)⟩,(R.fes ++ [newF key]),R.cls,R.hits⟩ ⟨id,key,(R.fes.length : Int) + 1, 0, 1,⟨#[]⟩, 0⟩) := hAk
             have HWs : Hid (((wk.setCell ⟨T, 4,none⟩ (.slice a4 (bumpS (dropP R.pol key).sk key).rows.length c4)).setCell ⟨T, 5,none⟩ (.int .i64 (bumpS (dropP R.pol key).sk key).added)) = ws) := hws
             clear hws hAk hBk hok hbk HAe
             go_upto_region 36 with fail
             rw [HWs.out]
             clear t0 t1 g0 g1 r0 HWs
             obtain ⟨_,_,_,_,_,_,_,t7,_⟩ := HAs.out.box.cells
             obtain ⟨k0_,k1_,k2_,k3_,k4_,k5_,k6_⟩ := HAs.out.cb.cells
             have hcA : CliAt ws yc0 R.cls ws.heap.size := by
              obtain ⟨q5,q6,e5,e6⟩ := HAs.out.own.at.c
              dsimp only at e5 e6
              simp only [Value.slice.injEq] at e5
              obtain ⟨rfl,_,rfl⟩ := e5
              exact e6
             have cJ := l16Join_any ws yc0 yc1 R.cls ⟨id,key,(R.fes.length : Int) + 1, 0, 1,⟨#[]⟩, 0⟩ hcA (by have := HOX.out.clen; omega)
             dsimp only at cJ k0_ k1_ k2_ k3_ k4_ k5_ k6_ t7
             clear hcA
             go_wp2_with fail
             refine cJ.mono ?_
             rintro e wj ⟨v,rfl,hoj,hbj⟩
             obtain ⟨j0,j1,rfl,_⟩ := hoj.at
             clear cJ k0_ k1_ k2_ k3_ k4_ k5_ k6_ t7
             obtain ⟨wz,hwz⟩ : ∃ y,wj.setCell ⟨T, 7,none⟩ (.slice j0 (insC R.cls ⟨id,key,(R.fes.length : Int) + 1, 0, 1,⟨#[]⟩, 0⟩).length j1) = y := ⟨_,rfl⟩
             have hPV := HAs.out.join hbj hoj
             rw [hwz] at hPV
             have t7 := (HAs.out.on hbj).box.cells.2.2.2.2.2.2.2.1
             have g7 := (HAs.out.on hbj).box.thaw 7
             dsimp only at t7
             have HPV : Hid _ := hPV
             have HWZ : Hid (wj.setCell ⟨T, 7,none⟩ (.slice j0 (insC R.cls ⟨id,key,(R.fes.length : Int) + 1, 0, 1,⟨#[]⟩, 0⟩).length j1) = wz) := hwz
             clear hPV hwz hoj hbj
             go_upto_region 37 with fail
             rw [HWZ.out]
             clear t7 g7 HAs
             obtain ⟨R',hR'⟩ : ∃ r,(Prx.mk R.now (R.ents.filter fun x => !decide (x.key = key)) ⟨(dropP R.pol key).win,(dropP R.pol key).main,(bumpS (dropP R.pol key).sk key)⟩ (R.fes ++ [newF key]) (insC R.cls ⟨id,key,(R.fes.length : Int) + 1, 0, 1,⟨#[]⟩, 0⟩) R.hits) = r := ⟨_,rfl⟩
             obtain ⟨XZ,HPV1⟩ : ∃ XZ,Hid (PvAt wz w1.heap.size T XZ R') := ⟨_,by rw [← hR']; exact HPV.out.1⟩
             have HPV2 : Hid (Below w1.heap.size w1 wz) := HPV.out.2
             have HRQ : Hid (askR R id key = (R', 0)) := by
              show _ = _
              rw [← hR']
              refine (askR_wait HMAY.out HNH.out (fun h => by have h1 := HZA.out; have h2 := HFL.out; exact HN20.out h)).trans ?_
              rw [waitR_has R id key HZA.out,HWC.out.1,HWC.out.2]
             clear hR' HPV
             obtain ⟨XF,HVf⟩ : ∃ XF,Hid (PvAt wz w1.heap.size T XF R') := ⟨_,HPV1.out⟩
             have HBf : Hid (Below w1.heap.size w1 wz) := HPV2.out
             have HRR : Hid (askR R id key = (R', 0)) := by show _ = _; exact HRQ.out
             obtain ⟨g0,g1,g2,g3,g4,g5,g6,g7,g8⟩ := HVf.out.box.cells
             obtain ⟨y0,y1,yp0,yp1,ym0,ym1,yk0,yk1,yf0,yf1,yc0,yc1,rfl⟩ := HVf.out.own.slices
             dsimp only at g1 g2 g3 g4 g6 g7
             obtain ⟨r0,r1,r2,r3,r4,r5,r6,r7,r8⟩ := (HI.out wz HBf.out).2.1.cells
             have tt := (HI.out wz HBf.out).2.1.thaw
             obtain ⟨t0,t1,t2,t3,t4,t5,t6,t7,t8⟩ := And.intro (tt 0) (And.intro (tt 1) (And.intro (tt 2) (And.intro (tt 3) (And.intro (tt 4) (And.intro (tt 5) (And.intro (tt 6) (And.intro (tt 7) (tt 8))))))))
             have hR9 := ret9 HVf.out.own (HI.out wz HBf.out).2.1 (HI.out wz HBf.out).2.2.2.1
             dsimp only at hR9
             have HR9 := hidR hR9
             clear HVf HBf hR9 tt
             go_wp2_with fail
             obtain ⟨q0,q1,q2,q3,q4,q5,q6,q7,q8⟩ := HR9.out.1.cells
             refine bodyPost_ret (v := .tuple #[.agg #[.int .i64 R'.now,.slice y0 R'.ents.length y1,.slice yp0 R'.pol.win.length yp1,.slice ym0 R'.pol.main.length ym1,.slice yk0 R'.pol.sk.rows.length yk1,.int .i64 R'.pol.sk.added,.slice yf0 R'.fes.length yf1,.slice yc0 R'.cls.length yc1,.int .i64 R'.hits],.int .i64 0]) (by simp [results,Tryz.results11,go_sem,q0,q1,q2,q3,q4,q5,q6,q7,q8]) rfl ?_
             rw [HRR.out]
             refine ⟨_,rfl,HR9.out.2.1.mono (by have := HL.out; omega) (Nat.le_refl _), ?_⟩
             try rw [HL.out.2.2.1]
             exact HR9.out.2.2
        | true =>
         have hp := (HI.out w8 HA8.out.bl).2.2.1.polAt
         have cT := specPolicyTouch_any w8 p0 m0 k0 p1 m1 k1 R.pol key hp HSZ.out.parts.2.1 HKY.out
         obtain ⟨_,_,b2,b3,b4,b5,_,_,_⟩ := (HI.out w8 HA8.out.bl).1.cells
         clear hp
         go_wp2_with fail
         refine cT.mono ?_
         rintro e w9 ⟨v,rfl,ho9,hb9⟩
         obtain ⟨a1,c1,a2,c2,a3,c3,rfl,_⟩ := ho9.at
         have hA10 := HA8.out.setPol hb9 ho9
         have hB9 := (HA8.out.on hb9).box
         have t0 := hB9.cells.2.2.1
         have g0 := hB9.thaw 2
         have s0 := hB9.set2 (.slice a1 (touchP R.pol key).1.win.length c1)
         have t1 := s0.cells.2.2.2.1
         have g1 := s0.thaw 3
         have s1 := s0.set3 (.slice a2 (touchP R.pol key).1.main.length c2)
         have t2 := s1.cells.2.2.2.2.1
         have g2 := s1.thaw 4
         have s2 := s1.set4 (.slice a3 (touchP R.pol key).1.sk.rows.length c3)
         have t3 := s2.cells.2.2.2.2.2.1
         have g3 := s2.thaw 5
         obtain ⟨w10,hw10⟩ : ∃ y,((((w9.setCell ⟨T, 2,none⟩ (.slice a1 (touchP R.pol key).1.win.length c1)).setCell ⟨T, 3,none⟩ (.slice a2 (touchP R.pol key).1.main.length c2)).setCell ⟨T, 4,none⟩ (.slice a3 (touchP R.pol key).1.sk.rows.length c3)).setCell ⟨T, 5,none⟩ (.int .i64 (touchP R.pol key).1.sk.added)) = y := ⟨_,rfl⟩
         have HEw10 : Hid (EnB w10 EB 69 x) := by
          rw [← hw10]
          have hne : EB ≠ T := by have := HCE.out; have := HA8.out.tc; omega
          exact ((((HE8.out.on hb9).far hne _ _).far hne _ _).far hne _ _).far hne _ _
         rw [hw10] at hA10
         have HA10 : Hid _ := hA10
         have HW10 : Hid (((((w9.setCell ⟨T, 2,none⟩ (.slice a1 (touchP R.pol key).1.win.length c1)).setCell ⟨T, 3,none⟩ (.slice a2 (touchP R.pol key).1.main.length c2)).setCell ⟨T, 4,none⟩ (.slice a3 (touchP R.pol key).1.sk.rows.length c3)).setCell ⟨T, 5,none⟩ (.int .i64 (touchP R.pol key).1.sk.added)) = w10) := hw10
         clear hw10 hA10 cT b2 b3 b4 b5 ho9 hb9 hB9 HA8 HE8
         go_upto_region 13 with fail
         rw [HW10.out]
         clear t0 t1 t2 t3 g0 g1 g2 g3 s0 s1 s2 HW10
         obtain ⟨_,_,_,_,t4,_,_⟩ := HA10.out.cb.cells
         have g4 := HA10.out.cb.thaw 4
         obtain ⟨w11,hw11⟩ : ∃ y,w10.setCell ⟨C, 4,none⟩ (.int .i64 2) = y := ⟨_,rfl⟩
         have HA110 := HA10.out.setc (HA10.out.cb.set4 2)
         have HEw11 : Hid (EnB w11 EB 69 x) := by rw [← hw11]; exact HEw10.out.far (by have := HCE.out; omega) 4 _
         rw [hw11] at HA110
         have HA11 : Hid _ := HA110
         have HWw11 : Hid (w10.setCell ⟨C, 4,none⟩ (.int .i64 2) = w11) := hw11
         clear hw11 HA110
         go_upto_region 14 with fail
         rw [HWw11.out]
         clear t4 g4  HA10 HEw10
         obtain ⟨_,_,_,_,_,t5,_⟩ := HA11.out.cb.cells
         have g5 := HA11.out.cb.thaw 5
         obtain ⟨_,_,_,z3⟩ := HEw11.out.cells
         obtain ⟨w12,hw12⟩ : ∃ y,w11.setCell ⟨C, 5,none⟩ (.string x.bd) = y := ⟨_,rfl⟩
         have HA120 := HA11.out.setc (HA11.out.cb.set5 x.bd)
         have HEw12 : Hid (EnB w12 EB 69 x) := by rw [← hw12]; exact HEw11.out.far (by have := HCE.out; omega) 5 _
         rw [hw12] at HA120
         have HA12 : Hid _ := HA120
         have HWw12 : Hid (w11.setCell ⟨C, 5,none⟩ (.string x.bd) = w12) := hw12
         clear hw12 HA120
         go_upto_region 15 with fail
         rw [HWw12.out]
         clear t5 g5 z3 HA11 HEw11
         obtain ⟨_,_,_,t3,_,_,_⟩ := HA12.out.cb.cells
         have g3 := HA12.out.cb.thaw 3
         obtain ⟨_,z1,_,_⟩ := HEw12.out.cells
         obtain ⟨w13,hw13⟩ : ∃ y,w12.setCell ⟨C, 3,none⟩ (.int .i64 x.st) = y := ⟨_,rfl⟩
         have HA130 := HA12.out.setc (HA12.out.cb.set3 x.st)
         have HEw13 : Hid (EnB w13 EB 69 x) := by rw [← hw13]; exact HEw12.out.far (by have := HCE.out; omega) 3 _
         rw [hw13] at HA130
         have HA13 : Hid _ := HA130
         have HWw13 : Hid (w12.setCell ⟨C, 3,none⟩ (.int .i64 x.st) = w13) := hw13
         clear hw13 HA130
         go_upto_region 16 with fail
         rw [HWw13.out]
         clear t3 g3 z1 HA12 HEw12
         obtain ⟨_,_,_,_,_,_,t6⟩ := HA13.out.cb.cells
         have g6 := HA13.out.cb.thaw 6
         obtain ⟨_,z1,_,_⟩ := HEw13.out.cells
         obtain ⟨b0,_,_,_,_,_,_,_,_⟩ := (HI.out w13 HA13.out.bl).1.cells
         have hst := fresh_st (show enFresh x R.now = true from by have h := HHT.out; unfold hitB at h; rw [HHAS.out, ← HXE.out,Bool.true_and] at h; exact h)
         have hest := (enOk_iff.1 hst.1).2.1
         have hst2 := hst.2
         clear hst
         obtain ⟨w14,hw14⟩ : ∃ y,w13.setCell ⟨C, 6,none⟩ (.int .i64 (R.now - x.st)) = y := ⟨_,rfl⟩
         have HA140 := HA13.out.setc (HA13.out.cb.set6 (R.now - x.st))
         have HEw14 : Hid (EnB w14 EB 69 x) := by rw [← hw14]; exact HEw13.out.far (by have := HCE.out; omega) 6 _
         rw [hw14] at HA140
         have HA14 : Hid _ := HA140
         have HWw14 : Hid (w13.setCell ⟨C, 6,none⟩ (.int .i64 (R.now - x.st)) = w14) := hw14
         clear hw14 HA140
         go_upto_region 17 with fail
         rw [HWw14.out]
         clear t6 g6 z1 b0 hest hst2 HA13 HEw13
         have HHI : Hid (0 ≤ R.hits ∧ R.hits ≤ 1000000000) := HOX.out.hits
         have hh0 := HHI.out.1
         obtain ⟨_,_,_,_,_,_,_,_,t8⟩ := HA14.out.box.cells
         have g8 := HA14.out.box.thaw 8
         by_cases hh : R.hits < 1000000000
         ·obtain ⟨w15,hw15⟩ : ∃ y,w14.setCell ⟨T, 8,none⟩ (.int .i64 (R.hits + 1)) = y := ⟨_,rfl⟩
          have hA15 := HA14.out.seth (R.hits + 1)
          rw [hw15] at hA15
          have HA15 : Hid _ := hA15
          have HW15 : Hid (w14.setCell ⟨T, 8,none⟩ (.int .i64 (R.hits + 1)) = w15) := hw15
          have HMI : Hid (min (R.hits + 1) 1000000000 = R.hits + 1) := by show _ = _; omega
          clear hw15 hA15
          go_upto_region 19 with fail
          rw [HW15.out]
          clear t8 g8 HA14 hh0 hh
          have H19 : Hid (AskS w1 w15 T C ⟨.slice ye0 R.ents.length ye1,.slice a1 (touchP R.pol key).1.win.length c1,.slice a2 (touchP R.pol key).1.main.length c2,.slice a3 (touchP R.pol key).1.sk.rows.length c3,.slice yf0 R.fes.length yf1,.slice yc0 R.cls.length yc1⟩ ⟨R.now,R.ents,(touchP R.pol key).1,R.fes,R.cls,(R.hits + 1)⟩ ⟨id,key, 0,x.st, 2,x.bd,R.now - x.st⟩) := HA15.out
          clear HA15
          obtain ⟨_,_,_,_,_,_,_,t7,_⟩ := H19.out.box.cells
          obtain ⟨k0_,k1_,k2_,k3_,k4_,k5_,k6_⟩ := H19.out.cb.cells
          have hcA : CliAt w15 yc0 R.cls w15.heap.size := by
           obtain ⟨q5,q6,e5,e6⟩ := H19.out.own.at.c
           dsimp only at e5 e6
           simp only [Value.slice.injEq] at e5
           obtain ⟨rfl,_,rfl⟩ := e5
           exact e6
          have cJ := l16Join_any w15 yc0 yc1 R.cls ⟨id,key, 0,x.st, 2,x.bd,R.now - x.st⟩ hcA (by have := HOX.out.clen; omega)
          dsimp only at cJ k0_ k1_ k2_ k3_ k4_ k5_ k6_ t7
          clear hcA
          go_wp2_with fail
          refine cJ.mono ?_
          rintro e wj ⟨v,rfl,hoj,hbj⟩
          obtain ⟨j0,j1,rfl,_⟩ := hoj.at
          clear cJ k0_ k1_ k2_ k3_ k4_ k5_ k6_ t7
          obtain ⟨wz,hwz⟩ : ∃ y,wj.setCell ⟨T, 7,none⟩ (.slice j0 (insC R.cls ⟨id,key, 0,x.st, 2,x.bd,R.now - x.st⟩).length j1) = y := ⟨_,rfl⟩
          have hPV := H19.out.join hbj hoj
          rw [hwz] at hPV
          have t7 := (H19.out.on hbj).box.cells.2.2.2.2.2.2.2.1
          have g7 := (H19.out.on hbj).box.thaw 7
          dsimp only at t7
          have HPV : Hid _ := hPV
          have HWZ : Hid (wj.setCell ⟨T, 7,none⟩ (.slice j0 (insC R.cls ⟨id,key, 0,x.st, 2,x.bd,R.now - x.st⟩).length j1) = wz) := hwz
          clear hPV hwz hoj hbj
          go_upto_region 20 with fail
          rw [HWZ.out]
          clear t7 g7 H19
          obtain ⟨R',hR'⟩ : ∃ r,(Prx.mk R.now R.ents (touchP R.pol key).1 R.fes (insC R.cls ⟨id,key, 0,x.st, 2,x.bd,R.now - x.st⟩) (R.hits + 1)) = r := ⟨_,rfl⟩
          obtain ⟨XZ,HPV1⟩ : ∃ XZ,Hid (PvAt wz w1.heap.size T XZ R') := ⟨_,by rw [← hR']; exact HPV.out.1⟩
          have HPV2 : Hid (Below w1.heap.size w1 wz) := HPV.out.2
          have HRQ : Hid (askR R id key = (R', 0)) := by
           show _ = _
           rw [← hR']
           refine (askR_hit HMAY.out HHT.out).trans ?_
           unfold hitR hitC
           rw [← HXE.out,HMI.out]
          clear hR' HPV
          obtain ⟨XF,HVf⟩ : ∃ XF,Hid (PvAt wz w1.heap.size T XF R') := ⟨_,HPV1.out⟩
          have HBf : Hid (Below w1.heap.size w1 wz) := HPV2.out
          have HRR : Hid (askR R id key = (R', 0)) := by show _ = _; exact HRQ.out
          obtain ⟨g0,g1,g2,g3,g4,g5,g6,g7,g8⟩ := HVf.out.box.cells
          obtain ⟨y0,y1,yp0,yp1,ym0,ym1,yk0,yk1,yf0,yf1,yc0,yc1,rfl⟩ := HVf.out.own.slices
          dsimp only at g1 g2 g3 g4 g6 g7
          obtain ⟨r0,r1,r2,r3,r4,r5,r6,r7,r8⟩ := (HI.out wz HBf.out).2.1.cells
          have tt := (HI.out wz HBf.out).2.1.thaw
          obtain ⟨t0,t1,t2,t3,t4,t5,t6,t7,t8⟩ := And.intro (tt 0) (And.intro (tt 1) (And.intro (tt 2) (And.intro (tt 3) (And.intro (tt 4) (And.intro (tt 5) (And.intro (tt 6) (And.intro (tt 7) (tt 8))))))))
          have hR9 := ret9 HVf.out.own (HI.out wz HBf.out).2.1 (HI.out wz HBf.out).2.2.2.1
          dsimp only at hR9
          have HR9 := hidR hR9
          clear HVf HBf hR9 tt
          go_wp2_with fail
          obtain ⟨q0,q1,q2,q3,q4,q5,q6,q7,q8⟩ := HR9.out.1.cells
          refine bodyPost_ret (v := .tuple #[.agg #[.int .i64 R'.now,.slice y0 R'.ents.length y1,.slice yp0 R'.pol.win.length yp1,.slice ym0 R'.pol.main.length ym1,.slice yk0 R'.pol.sk.rows.length yk1,.int .i64 R'.pol.sk.added,.slice yf0 R'.fes.length yf1,.slice yc0 R'.cls.length yc1,.int .i64 R'.hits],.int .i64 0]) (by simp [results,Tryz.results11,go_sem,q0,q1,q2,q3,q4,q5,q6,q7,q8]) rfl ?_
          rw [HRR.out]
          refine ⟨_,rfl,HR9.out.2.1.mono (by have := HL.out; omega) (Nat.le_refl _), ?_⟩
          try rw [HL.out.2.2.1]
          exact HR9.out.2.2
         ·have HMI : Hid (min (R.hits + 1) 1000000000 = R.hits) := by have := HHI.out.2; show _ = _; omega
          go_upto_region 19 with fail
          clear t8 g8 hh0 hh
          have H19 : Hid (AskS w1 w14 T C ⟨.slice ye0 R.ents.length ye1,.slice a1 (touchP R.pol key).1.win.length c1,.slice a2 (touchP R.pol key).1.main.length c2,.slice a3 (touchP R.pol key).1.sk.rows.length c3,.slice yf0 R.fes.length yf1,.slice yc0 R.cls.length yc1⟩ ⟨R.now,R.ents,(touchP R.pol key).1,R.fes,R.cls,R.hits⟩ ⟨id,key, 0,x.st, 2,x.bd,R.now - x.st⟩) := HA14.out
          clear HA14
          obtain ⟨_,_,_,_,_,_,_,t7,_⟩ := H19.out.box.cells
          obtain ⟨k0_,k1_,k2_,k3_,k4_,k5_,k6_⟩ := H19.out.cb.cells
          have hcA : CliAt w14 yc0 R.cls w14.heap.size := by
           obtain ⟨q5,q6,e5,e6⟩ := H19.out.own.at.c
           dsimp only at e5 e6
           simp only [Value.slice.injEq] at e5
           obtain ⟨rfl,_,rfl⟩ := e5
           exact e6
          have cJ := l16Join_any w14 yc0 yc1 R.cls ⟨id,key, 0,x.st, 2,x.bd,R.now - x.st⟩ hcA (by have := HOX.out.clen; omega)
          dsimp only at cJ k0_ k1_ k2_ k3_ k4_ k5_ k6_ t7
          clear hcA
          go_wp2_with fail
          refine cJ.mono ?_
          rintro e wj ⟨v,rfl,hoj,hbj⟩
          obtain ⟨j0,j1,rfl,_⟩ := hoj.at
          clear cJ k0_ k1_ k2_ k3_ k4_ k5_ k6_ t7
          obtain ⟨wz,hwz⟩ : ∃ y,wj.setCell ⟨T, 7,none⟩ (.slice j0 (insC R.cls ⟨id,key, 0,x.st, 2,x.bd,R.now - x.st⟩).length j1) = y := ⟨_,rfl⟩
          have hPV := H19.out.join hbj hoj
          rw [hwz] at hPV
          have t7 := (H19.out.on hbj).box.cells.2.2.2.2.2.2.2.1
          have g7 := (H19.out.on hbj).box.thaw 7
          dsimp only at t7
          have HPV : Hid _ := hPV
          have HWZ : Hid (wj.setCell ⟨T, 7,none⟩ (.slice j0 (insC R.cls ⟨id,key, 0,x.st, 2,x.bd,R.now - x.st⟩).length j1) = wz) := hwz
          clear hPV hwz hoj hbj
          go_upto_region 20 with fail
          rw [HWZ.out]
          clear t7 g7 H19
          obtain ⟨R',hR'⟩ : ∃ r,(Prx.mk R.now R.ents (touchP R.pol key).1 R.fes (insC R.cls ⟨id,key, 0,x.st, 2,x.bd,R.now - x.st⟩) R.hits) = r := ⟨_,rfl⟩
          obtain ⟨XZ,HPV1⟩ : ∃ XZ,Hid (PvAt wz w1.heap.size T XZ R') := ⟨_,by rw [← hR']; exact HPV.out.1⟩
          have HPV2 : Hid (Below w1.heap.size w1 wz) := HPV.out.2
          have HRQ : Hid (askR R id key = (R', 0)) := by
           show _ = _
           rw [← hR']
           refine (askR_hit HMAY.out HHT.out).trans ?_
           unfold hitR hitC
           rw [← HXE.out,HMI.out]
          clear hR' HPV
          obtain ⟨XF,HVf⟩ : ∃ XF,Hid (PvAt wz w1.heap.size T XF R') := ⟨_,HPV1.out⟩
          have HBf : Hid (Below w1.heap.size w1 wz) := HPV2.out
          have HRR : Hid (askR R id key = (R', 0)) := by show _ = _; exact HRQ.out
          obtain ⟨g0,g1,g2,g3,g4,g5,g6,g7,g8⟩ := HVf.out.box.cells
          obtain ⟨y0,y1,yp0,yp1,ym0,ym1,yk0,yk1,yf0,yf1,yc0,yc1,rfl⟩ := HVf.out.own.slices
          dsimp only at g1 g2 g3 g4 g6 g7
          obtain ⟨r0,r1,r2,r3,r4,r5,r6,r7,r8⟩ := (HI.out wz HBf.out).2.1.cells
          have tt := (HI.out wz HBf.out).2.1.thaw
          obtain ⟨t0,t1,t2,t3,t4,t5,t6,t7,t8⟩ := And.intro (tt 0) (And.intro (tt 1) (And.intro (tt 2) (And.intro (tt 3) (And.intro (tt 4) (And.intro (tt 5) (And.intro (tt 6) (And.intro (tt 7) (tt 8))))))))
          have hR9 := ret9 HVf.out.own (HI.out wz HBf.out).2.1 (HI.out wz HBf.out).2.2.2.1
          dsimp only at hR9
          have HR9 := hidR hR9
          clear HVf HBf hR9 tt
          go_wp2_with fail
          obtain ⟨q0,q1,q2,q3,q4,q5,q6,q7,q8⟩ := HR9.out.1.cells
          refine bodyPost_ret (v := .tuple #[.agg #[.int .i64 R'.now,.slice y0 R'.ents.length y1,.slice yp0 R'.pol.win.length yp1,.slice ym0 R'.pol.main.length ym1,.slice yk0 R'.pol.sk.rows.length yk1,.int .i64 R'.pol.sk.added,.slice yf0 R'.fes.length yf1,.slice yc0 R'.cls.length yc1,.int .i64 R'.hits],.int .i64 0]) (by simp [results,Tryz.results11,go_sem,q0,q1,q2,q3,q4,q5,q6,q7,q8]) rfl ?_
          rw [HRR.out]
          refine ⟨_,rfl,HR9.out.2.1.mono (by have := HL.out; omega) (Nat.le_refl _), ?_⟩
          try rw [HL.out.2.2.1]
          exact HR9.out.2.2
end Go.Proofs.YtpgcfgbhkodmeaaGreatDoor
