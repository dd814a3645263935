/- The program's AskFor. Written by mkturned.py. -/
import Derived.Test.YtaahjcljanckaaaGreatDoorHitsPlainJ
import Derived.Test.YtaahjcljanckaaaGreatDoorHallAnswer
import Derived.Test.YtaahjcljanckaaaGreatDoorHallWait
import Derived.Test.YtaahjcljanckaaaGreatDoorEntPlaceJ
import Derived.Test.YtaahjcljanckaaaGreatDoorPxSlicesJ
import Derived.Test.YtaahjcljanckaaaGreatDoorPolOkSzJ
import Derived.Lib.QuietBelow
import Derived.BigQuiet
import Derived.Deep.RegionHeld3
namespace Go.Proofs.YtaahjcljanckaaaGreatDoor
open Go.RowKit Go.Sort
set_option maxRecDepth 100000 in
set_option maxHeartbeats 16000000 in
theorem implAskFor_any (w : World) (X : Pc) (R : Prx) (id : Int) (key : ByteArray) (hA : PxAt w X R w.heap.size) (hsz : PxSz R) (hcap : RoomF X.f R.fes.length) (hkey : key.size ≤ 1048576) (htab : Tab w) :
  Calls Tryz.prog 8 #[.agg #[.int .i64 R.now,X.e,X.w,X.m,X.k,.int .i64 R.pol.sk.added,X.f,X.c,.int .i64 R.hits],.int .i64 id,.string key] w fun e w' => ∃ Y : Pc,e = .returned (.tuple #[.agg #[.int .i64 (askR R id key).1.now,Y.e,Y.w,Y.m,Y.k,.int .i64 (askR R id key).1.pol.sk.added,Y.f,Y.c,.int .i64 (askR R id key).1.hits],.int .i64 (askR R id key).2]) ∧ PxOwn w' w.heap.size w'.heap.size Y (askR R id key).1 ∧ Below w.heap.size w w' := by
 obtain ⟨e0,e1,p0,p1,m0,m1,k0,k1,f0,f1,c0,c1,rfl⟩ := hA.slices
 dsimp only at hcap ⊢
 obtain ⟨_,_,hl1,hl2⟩ := hsz.parts
 obtain ⟨A,hAA⟩ : ∃ A,w.heap.size = A := ⟨_,rfl⟩
 obtain ⟨w0,hw0⟩ : ∃ x,w.alloc (.cells #[.int .i64 R.now,.slice e0 R.ents.length e1,.slice p0 R.pol.win.length p1,.slice m0 R.pol.main.length m1,.slice k0 R.pol.sk.rows.length k1,.int .i64 R.pol.sk.added,.slice f0 R.fes.length f1,.slice c0 R.cls.length c1,.int .i64 R.hits] 36) = x := ⟨_,rfl⟩
 obtain ⟨w1,hw1⟩ : ∃ x,w0.alloc (.cells #[.int .i64 0,.slice none 0 0,.slice none 0 0,.slice none 0 0,.slice none 0 0,.int .i64 0,.slice none 0 0,.slice none 0 0,.int .i64 0] 36) = x := ⟨_,rfl⟩
 have hb0 : Below w.heap.size w w0 := by rw [← hw0]; exact (Below.refl _ _).alloc (Nat.le_refl _) _
 have hb01 : Below w0.heap.size w0 w1 := by rw [← hw1]; exact (Below.refl _ _).alloc (Nat.le_refl _) _
 have s0 : w0.heap.size = A + 1 := by rw [← hw0]; simp [hAA]
 have s1 : w1.heap.size = A + 2 := by rw [← hw1]; simp; omega
 have hb1 : Below w.heap.size w w1 := hb0.trans (hb01.mono hb0.size)
 have hB : NB w1 A 36 (.int .i64 R.now) (.slice e0 R.ents.length e1) (.slice p0 R.pol.win.length p1) (.slice m0 R.pol.main.length m1) (.slice k0 R.pol.sk.rows.length k1) (.int .i64 R.pol.sk.added) (.slice f0 R.fes.length f1) (.slice c0 R.cls.length c1) (.int .i64 R.hits) := by
  have h : NB w0 A 36 (.int .i64 R.now) (.slice e0 R.ents.length e1) (.slice p0 R.pol.win.length p1) (.slice m0 R.pol.main.length m1) (.slice k0 R.pol.sk.rows.length k1) (.int .i64 R.pol.sk.added) (.slice f0 R.fes.length f1) (.slice c0 R.cls.length c1) (.int .i64 R.hits) := by rw [← hw0, ← hAA]; exact NB.new _ _ _ _ _ _ _ _ _ _ _
  exact h.on hb01
 have hR : NB w1 (A + 1) 36 (.int .i64 0) (.slice none 0 0) (.slice none 0 0) (.slice none 0 0) (.slice none 0 0) (.int .i64 0) (.slice none 0 0) (.slice none 0 0) (.int .i64 0) := by rw [← hw1, ← s0]; exact NB.new _ _ _ _ _ _ _ _ _ _ _
 have HW : Hid ((w.alloc (.cells #[.int .i64 R.now,.slice e0 R.ents.length e1,.slice p0 R.pol.win.length p1,.slice m0 R.pol.main.length m1,.slice k0 R.pol.sk.rows.length k1,.int .i64 R.pol.sk.added,.slice f0 R.fes.length f1,.slice c0 R.cls.length c1,.int .i64 R.hits] 36)).alloc (.cells #[.int .i64 0,.slice none 0 0,.slice none 0 0,.slice none 0 0,.slice none 0 0,.int .i64 0,.slice none 0 0,.slice none 0 0,.int .i64 0] 36) = w1) := by show _ = _; rw [hw0]; exact hw1
 have HI : Hid (∀ W,Below w1.heap.size w1 W → NB W A 36 (.int .i64 R.now) (.slice e0 R.ents.length e1) (.slice p0 R.pol.win.length p1) (.slice m0 R.pol.main.length m1) (.slice k0 R.pol.sk.rows.length k1) (.int .i64 R.pol.sk.added) (.slice f0 R.fes.length f1) (.slice c0 R.cls.length c1) (.int .i64 R.hits) ∧ NB W (A + 1) 36 (.int .i64 0) (.slice none 0 0) (.slice none 0 0) (.slice none 0 0) (.slice none 0 0) (.int .i64 0) (.slice none 0 0) (.slice none 0 0) (.int .i64 0) ∧ PxAt W ⟨.slice e0 R.ents.length e1,.slice p0 R.pol.win.length p1,.slice m0 R.pol.main.length m1,.slice k0 R.pol.sk.rows.length k1,.slice f0 R.fes.length f1,.slice c0 R.cls.length c1⟩ R W.heap.size ∧ Below A w W ∧ A + 2 ≤ W.heap.size) := fun W h => ⟨hB.on h,hR.on h,(hA.on hb1).on h,by rw [← hAA]; exact hb1.trans (h.mono hb1.size),by have := h.size; omega⟩
 have HSZ : Hid (PxSz R) := hsz
 have HKY : Hid (key.size ≤ 1048576) := hkey
 have HTB : Hid ((∀ W,Below w1.heap.size w1 W → Tab W) ∧ 1 < w1.heap.size) := ⟨fun W h => htab.below (hb1.trans (h.mono hb1.size)) (Nat.le_refl _),Nat.lt_of_lt_of_le (World.block_lt_of_cell? w _ (htab.cell 0 (by omega))) hb1.size⟩
 have HC : Hid (RoomF (.slice f0 R.fes.length f1) R.fes.length) := hcap
 have HL : Hid (R.fes.length ≤ 1048576 ∧ R.cls.length ≤ 1048576 ∧ w.heap.size = A ∧ w1.heap.size = A + 2) := ⟨hl1,hl2,hAA,s1⟩
 have cH := holdProxy_any w1 ⟨.slice e0 R.ents.length e1,.slice p0 R.pol.win.length p1,.slice m0 R.pol.main.length m1,.slice k0 R.pol.sk.rows.length k1,.slice f0 R.fes.length f1,.slice c0 R.cls.length c1⟩ R (hA.on hb1) hsz
 dsimp only at cH
 obtain ⟨b0,b1,b2,b3,b4,b5,b6,b7,b8⟩ := hB.cells
 rw [← hw1, ← hw0] at b0 b1 b2 b3 b4 b5 b6 b7 b8
 clear hw0 hw1 hb0 hb01 s0 hb1 hB hR hA hsz hcap s1 hkey htab
 go_enter Tryz.func8,Tryz.ntmps8
 go_wp2_with fail
 rw [HW.out] at b0 b1 b2 b3 b4 b5 b6 b7 b8 ⊢
 refine cH.mono ?_
 rintro e w2 ⟨T,Y,rfl,hH2,hb2⟩
 clear cH b0 b1 b2 b3 b4 b5 b6 b7 b8
 have HH2 : Hid (HallAt w2 w1.heap.size T Y R) := hH2
 have HB2 : Hid (Below w1.heap.size w1 w2) := hb2
 obtain ⟨b0,b1,b2,b3,b4,b5,b6,b7,b8⟩ := (HI.out w2 hb2).1.cells
 have cO := mayAsk_any w2 ⟨.slice e0 R.ents.length e1,.slice p0 R.pol.win.length p1,.slice m0 R.pol.main.length m1,.slice k0 R.pol.sk.rows.length k1,.slice f0 R.fes.length f1,.slice c0 R.cls.length c1⟩ R id key (HI.out w2 hb2).2.2.1 HSZ.out HC.out HKY.out
 dsimp only at cO
 obtain ⟨x1,hx1⟩ : ∃ b,mayB R id key = b := ⟨_,rfl⟩
 rw [hx1] at cO
 have HX1 : Hid (mayB R id key = x1) := hx1
 clear hH2 hb2 hx1
 go_wp2_with fail
 refine cO.mono ?_
 rintro e w3 ⟨rfl,hb3⟩
 clear cO b0 b1 b2 b3 b4 b5 b6 b7 b8
 have HH3 : Hid (HallAt w3 w1.heap.size T Y R) := HH2.out.on hb3
 have HB3 : Hid (Below w1.heap.size w1 w3) := HB2.out.trans (hb3.mono HB2.out.size)
 clear hb3 HH2 HB2
 cases x1 with
 | false =>
  have HRQ : Hid (askR R id key = (R, 1)) := askR_no HX1.out
  have HRR : Hid (askR R id key = (R, 1)) := by show _ = _; exact HRQ.out
  obtain ⟨g0,g1,g2,g3,g4,g5,g6,g7,g8⟩ := HH3.out.box.cells
  obtain ⟨y0,y1,yp0,yp1,ym0,ym1,yk0,yk1,yf0,yf1,yc0,yc1,rfl⟩ := HH3.out.own.slices
  dsimp only at g1 g2 g3 g4 g6 g7
  obtain ⟨r0,r1,r2,r3,r4,r5,r6,r7,r8⟩ := (HI.out w3 HB3.out).2.1.cells
  have tt := (HI.out w3 HB3.out).2.1.thaw
  obtain ⟨t0,t1,t2,t3,t4,t5,t6,t7,t8⟩ := And.intro (tt 0) (And.intro (tt 1) (And.intro (tt 2) (And.intro (tt 3) (And.intro (tt 4) (And.intro (tt 5) (And.intro (tt 6) (And.intro (tt 7) (tt 8))))))))
  have hR9 := ret9 HH3.out.own (HI.out w3 HB3.out).2.1 (HI.out w3 HB3.out).2.2.2.1
  dsimp only at hR9
  have HR9 := hidR hR9
  clear HH3 HB3 hR9 tt
  go_wp2_with fail
  obtain ⟨q0,q1,q2,q3,q4,q5,q6,q7,q8⟩ := HR9.out.1.cells
  refine bodyPost_ret (v := .tuple #[.agg #[.int .i64 R.now,.slice y0 R.ents.length y1,.slice yp0 R.pol.win.length yp1,.slice ym0 R.pol.main.length ym1,.slice yk0 R.pol.sk.rows.length yk1,.int .i64 R.pol.sk.added,.slice yf0 R.fes.length yf1,.slice yc0 R.cls.length yc1,.int .i64 R.hits],.int .i64 1]) (by simp [results,Tryz.results8,go_sem,q0,q1,q2,q3,q4,q5,q6,q7,q8]) rfl ?_
  rw [HRR.out]
  refine ⟨_,rfl,HR9.out.2.1.mono (by have := HL.out; omega) (Nat.le_refl _), ?_⟩
  try rw [HL.out.2.2.1]
  exact HR9.out.2.2
 | true =>
  obtain ⟨y0,y1,yp0,yp1,ym0,ym1,yk0,yk1,yf0,yf1,yc0,yc1,hYs⟩ := HH3.out.own.slices
  obtain ⟨_,g1,_,_,_,_,_,_,_⟩ := HH3.out.box.cells
  rw [hYs] at g1
  dsimp only at g1
  have hea : NAt w3 y0 R.ents w3.heap.size := by
   obtain ⟨q5,q6,e5,e6⟩ := HH3.out.own.at.e
   rw [hYs] at e5
   dsimp only at e5
   simp only [Value.slice.injEq] at e5
   obtain ⟨rfl,_,rfl⟩ := e5
   exact e6
  have cE := entryPlace_any w3 y0 y1 R.ents key hea (by have := HSZ.out.parts.1; omega) (ascE_of (may_ok HX1.out))
  have HYS : Hid (Y = ⟨.slice y0 R.ents.length y1,.slice yp0 R.pol.win.length yp1,.slice ym0 R.pol.main.length ym1,.slice yk0 R.pol.sk.rows.length yk1,.slice yf0 R.fes.length yf1,.slice yc0 R.cls.length yc1⟩) := hYs
  have HEA : Hid (NAt w3 y0 R.ents w3.heap.size) := hea
  clear hYs hea
  go_wp2_with fail
  refine cE.mono ?_
  rintro e w4 ⟨k,b,rfl,hPE,hb4⟩
  clear cE g1
  have HH4 : Hid (HallAt w4 w1.heap.size T Y R) := HH3.out.on hb4
  have HB4 : Hid (Below w1.heap.size w1 w4) := HB3.out.trans (hb4.mono HB3.out.size)
  have HEA4 : Hid (NAt w4 y0 R.ents w4.heap.size) := HEA.out.on hb4
  clear hb4 HH3 HB3 HEA
  cases b with
  | false =>
   have HNH : Hid (hitB R key = false) := hit_none (ent_none hPE (ascE_of (may_ok HX1.out)))
   clear hPE HEA4 HYS
   go_wp2_with fail
   refine wp_region_quiet_below (by kernel_rfl) (by kernel_rfl) ?_
   repeat (first | go_big_quiet_step (fail) | quiet_step (fail))
   refine wpQuiet_nil ?_
   intro _ hw'
   obtain ⟨⟨dq,osq⟩,hw''⟩ := hw'
   obtain ⟨w5,hw5⟩ : ∃ x,_ = x := ⟨_,hw''.symm⟩
   have hb5 : Below w4.heap.size w4 w5 := by rw [← hw5]; exact below_regrown w4 dq osq
   rw [hw'']
   have HH5 : Hid (HallAt w5 w1.heap.size T Y R) := HH4.out.on hb5
   have HB5 : Hid (Below w1.heap.size w1 w5) := HB4.out.trans (hb5.mono HB4.out.size)
   clear hb5 HH4 HB4
   have HOX := may_ok HX1.out
   have HHT : Hid (hitB R key = false) := HNH.out
   obtain ⟨y0,y1,yp0,yp1,ym0,ym1,yk0,yk1,yf0,yf1,yc0,yc1,hYs⟩ := HH5.out.own.slices
   obtain ⟨_,_,_,_,_,_,g6,_,_⟩ := HH5.out.box.cells
   rw [hYs] at g6
   dsimp only at g6
   have hfa : FetAt w5 yf0 R.fes w5.heap.size := by
    obtain ⟨q5,q6,e5,e6⟩ := HH5.out.own.at.f
    rw [hYs] at e5
    dsimp only at e5
    simp only [Value.slice.injEq] at e5
    obtain ⟨rfl,_,rfl⟩ := e5
    exact e6
   have cQ := openPlace_any w5 yf0 yf1 R.fes key hfa (by have := HL.out.1; omega)
   have HQX : Hid _ := idxX_cases (openP key) R.fes
   obtain ⟨q,hq⟩ : ∃ q,idxX (openP key) R.fes = q := ⟨_,rfl⟩
   rw [hq] at cQ HQX
   have HQ0 : Hid (idxX (openP key) R.fes = q) := hq
   have HFL : Hid (R.fes.length ≤ 20) := HOX.flen
   have HYS : Hid (Y = ⟨.slice y0 R.ents.length y1,.slice yp0 R.pol.win.length yp1,.slice ym0 R.pol.main.length ym1,.slice yk0 R.pol.sk.rows.length yk1,.slice yf0 R.fes.length yf1,.slice yc0 R.cls.length yc1⟩) := hYs
   clear HOX hYs hfa hq
   go_wp2_with fail
   refine cQ.mono ?_
   rintro e w7 ⟨rfl,hb7⟩
   clear cQ g6
   have HH7 : Hid (HallAt w7 w1.heap.size T Y R) := HH5.out.on hb7
   have HB7 : Hid (Below w1.heap.size w1 w7) := HB5.out.trans (hb7.mono HB5.out.size)
   have g6 : w7.cell? ⟨T, 6,none⟩ = some (.slice yf0 R.fes.length yf1) := by
    have h := HH7.out.box.cells.2.2.2.2.2.2.1
    rw [HYS.out] at h
    exact h
   clear hb7 HYS
   rcases HQX.out with ⟨j,hj,hjq,hx1,hx2⟩ | ⟨hjq,hx2⟩
   ·have HZA : Hid (askAt R key = j) := askAt_open (HQ0.out.trans hjq)
    have HJ : Hid (j < R.fes.length) := hj
    subst hjq
    have hq1 : ¬ ((j : Int) < 0) := by omega
    have hq2 : ((j : Int) == 20) = false := by have := HFL.out; simp; omega
    have hq3 : ¬ ((j : Int) = 20) := by have := HFL.out; omega
    have cW := hallWait_any w7 w1.heap.size T Y R id key j HH7.out (ascC_of (may_ok HX1.out)) HSZ.out HKY.out (HTB.out.1 w7 HB7.out) HTB.out.2 (by omega) (fun f hf => (HSZ.out.fes f hf).2)
    have HNE : Hid (¬ askAt R key = 20) := fun h => by have h1 := HZA.out; have h2 := HFL.out; have h3 := HJ.out; omega
    clear HQX hx1 hx2
    clear hj
    go_wp2_with fail
    refine cW.mono ?_
    rintro e w8 ⟨rfl,Y8,k8,b8,hp8,hH8,hb8⟩
    clear cW
    have hb8f := may_new HX1.out hp8
    subst hb8f
    obtain ⟨R',hR'⟩ : ∃ r,waitR R id key = r := ⟨_,rfl⟩
    have HH8 : Hid (HallAt w8 w1.heap.size T Y8 R') := by
     rw [← hR']
     unfold waitR
     rw [HZA.out, ← place_insC (L := R.cls) (c := waitC R.fes id key j) hp8 (ascC_of (may_ok HX1.out))]
     exact hH8
    have HB8 : Hid (Below w1.heap.size w1 w8) := HB7.out.trans hb8
    have HRQ : Hid (askR R id key = (R', 0)) := by show _ = _; rw [← hR']; exact askR_wait HX1.out HHT.out HNE.out
    clear hp8 hH8 hb8 hR' g6 HH7 HB7
    have HRR : Hid (askR R id key = (R', 0)) := by show _ = _; exact HRQ.out
    obtain ⟨g0,g1,g2,g3,g4,g5,g6,g7,g8⟩ := HH8.out.box.cells
    obtain ⟨y0,y1,yp0,yp1,ym0,ym1,yk0,yk1,yf0,yf1,yc0,yc1,rfl⟩ := HH8.out.own.slices
    dsimp only at g1 g2 g3 g4 g6 g7
    obtain ⟨r0,r1,r2,r3,r4,r5,r6,r7,r8⟩ := (HI.out w8 HB8.out).2.1.cells
    have tt := (HI.out w8 HB8.out).2.1.thaw
    obtain ⟨t0,t1,t2,t3,t4,t5,t6,t7,t8⟩ := And.intro (tt 0) (And.intro (tt 1) (And.intro (tt 2) (And.intro (tt 3) (And.intro (tt 4) (And.intro (tt 5) (And.intro (tt 6) (And.intro (tt 7) (tt 8))))))))
    have hR9 := ret9 HH8.out.own (HI.out w8 HB8.out).2.1 (HI.out w8 HB8.out).2.2.2.1
    dsimp only at hR9
    have HR9 := hidR hR9
    clear HH8 HB8 hR9 tt
    go_wp2_with fail
    obtain ⟨q0,q1,q2,q3,q4,q5,q6,q7,q8⟩ := HR9.out.1.cells
    refine bodyPost_ret (v := .tuple #[.agg #[.int .i64 R'.now,.slice y0 R'.ents.length y1,.slice yp0 R'.pol.win.length yp1,.slice ym0 R'.pol.main.length ym1,.slice yk0 R'.pol.sk.rows.length yk1,.int .i64 R'.pol.sk.added,.slice yf0 R'.fes.length yf1,.slice yc0 R'.cls.length yc1,.int .i64 R'.hits],.int .i64 0]) (by simp [results,Tryz.results8,go_sem,q0,q1,q2,q3,q4,q5,q6,q7,q8]) rfl ?_
    rw [HRR.out]
    refine ⟨_,rfl,HR9.out.2.1.mono (by have := HL.out; omega) (Nat.le_refl _), ?_⟩
    try rw [HL.out.2.2.1]
    exact HR9.out.2.2
   ·have HZA : Hid (askAt R key = R.fes.length) := askAt_none (HQ0.out.trans hjq)
    subst hjq
    by_cases hfl : R.fes.length = 20
    ·have hq2 : ((R.fes.length : Int) == 20) = true := by simp; omega
     have HRQ : Hid (askR R id key = (R, 2)) := askR_full HX1.out HHT.out (HZA.out.trans hfl)
     clear HQX hx2 hfl g6
     have HRR : Hid (askR R id key = (R, 2)) := by show _ = _; exact HRQ.out
     obtain ⟨g0,g1,g2,g3,g4,g5,g6,g7,g8⟩ := HH7.out.box.cells
     obtain ⟨y0,y1,yp0,yp1,ym0,ym1,yk0,yk1,yf0,yf1,yc0,yc1,rfl⟩ := HH7.out.own.slices
     dsimp only at g1 g2 g3 g4 g6 g7
     obtain ⟨r0,r1,r2,r3,r4,r5,r6,r7,r8⟩ := (HI.out w7 HB7.out).2.1.cells
     have tt := (HI.out w7 HB7.out).2.1.thaw
     obtain ⟨t0,t1,t2,t3,t4,t5,t6,t7,t8⟩ := And.intro (tt 0) (And.intro (tt 1) (And.intro (tt 2) (And.intro (tt 3) (And.intro (tt 4) (And.intro (tt 5) (And.intro (tt 6) (And.intro (tt 7) (tt 8))))))))
     have hR9 := ret9 HH7.out.own (HI.out w7 HB7.out).2.1 (HI.out w7 HB7.out).2.2.2.1
     dsimp only at hR9
     have HR9 := hidR hR9
     clear HH7 HB7 hR9 tt
     go_wp2_with fail
     obtain ⟨q0,q1,q2,q3,q4,q5,q6,q7,q8⟩ := HR9.out.1.cells
     refine bodyPost_ret (v := .tuple #[.agg #[.int .i64 R.now,.slice y0 R.ents.length y1,.slice yp0 R.pol.win.length yp1,.slice ym0 R.pol.main.length ym1,.slice yk0 R.pol.sk.rows.length yk1,.int .i64 R.pol.sk.added,.slice yf0 R.fes.length yf1,.slice yc0 R.cls.length yc1,.int .i64 R.hits],.int .i64 2]) (by simp [results,Tryz.results8,go_sem,q0,q1,q2,q3,q4,q5,q6,q7,q8]) rfl ?_
     rw [HRR.out]
     refine ⟨_,rfl,HR9.out.2.1.mono (by have := HL.out; omega) (Nat.le_refl _), ?_⟩
     try rw [HL.out.2.2.1]
     exact HR9.out.2.2
    ·have hq2 : ((R.fes.length : Int) == 20) = false := by simp; omega
     have hq3 : ¬ ((R.fes.length : Int) = 20) := by omega
     have cW := hallWait_any w7 w1.heap.size T Y R id key R.fes.length HH7.out (ascC_of (may_ok HX1.out)) HSZ.out HKY.out (HTB.out.1 w7 HB7.out) HTB.out.2 (Nat.le_refl _) (fun f hf => (HSZ.out.fes f hf).2)
     have HNE : Hid (¬ askAt R key = 20) := fun h => hfl (HZA.out.symm.trans h)
     clear HQX hx2 hfl
     go_wp2_with fail
     refine cW.mono ?_
     rintro e w8 ⟨rfl,Y8,k8,b8,hp8,hH8,hb8⟩
     clear cW
     have hb8f := may_new HX1.out hp8
     subst hb8f
     obtain ⟨R',hR'⟩ : ∃ r,waitR R id key = r := ⟨_,rfl⟩
     have HH8 : Hid (HallAt w8 w1.heap.size T Y8 R') := by
      rw [← hR']
      unfold waitR
      rw [HZA.out, ← place_insC (L := R.cls) (c := waitC R.fes id key R.fes.length) hp8 (ascC_of (may_ok HX1.out))]
      exact hH8
     have HB8 : Hid (Below w1.heap.size w1 w8) := HB7.out.trans hb8
     have HRQ : Hid (askR R id key = (R', 0)) := by show _ = _; rw [← hR']; exact askR_wait HX1.out HHT.out HNE.out
     clear hp8 hH8 hb8 hR' g6 HH7 HB7
     have HRR : Hid (askR R id key = (R', 0)) := by show _ = _; exact HRQ.out
     obtain ⟨g0,g1,g2,g3,g4,g5,g6,g7,g8⟩ := HH8.out.box.cells
     obtain ⟨y0,y1,yp0,yp1,ym0,ym1,yk0,yk1,yf0,yf1,yc0,yc1,rfl⟩ := HH8.out.own.slices
     dsimp only at g1 g2 g3 g4 g6 g7
     obtain ⟨r0,r1,r2,r3,r4,r5,r6,r7,r8⟩ := (HI.out w8 HB8.out).2.1.cells
     have tt := (HI.out w8 HB8.out).2.1.thaw
     obtain ⟨t0,t1,t2,t3,t4,t5,t6,t7,t8⟩ := And.intro (tt 0) (And.intro (tt 1) (And.intro (tt 2) (And.intro (tt 3) (And.intro (tt 4) (And.intro (tt 5) (And.intro (tt 6) (And.intro (tt 7) (tt 8))))))))
     have hR9 := ret9 HH8.out.own (HI.out w8 HB8.out).2.1 (HI.out w8 HB8.out).2.2.2.1
     dsimp only at hR9
     have HR9 := hidR hR9
     clear HH8 HB8 hR9 tt
     go_wp2_with fail
     obtain ⟨q0,q1,q2,q3,q4,q5,q6,q7,q8⟩ := HR9.out.1.cells
     refine bodyPost_ret (v := .tuple #[.agg #[.int .i64 R'.now,.slice y0 R'.ents.length y1,.slice yp0 R'.pol.win.length yp1,.slice ym0 R'.pol.main.length ym1,.slice yk0 R'.pol.sk.rows.length yk1,.int .i64 R'.pol.sk.added,.slice yf0 R'.fes.length yf1,.slice yc0 R'.cls.length yc1,.int .i64 R'.hits],.int .i64 0]) (by simp [results,Tryz.results8,go_sem,q0,q1,q2,q3,q4,q5,q6,q7,q8]) rfl ?_
     rw [HRR.out]
     refine ⟨_,rfl,HR9.out.2.1.mono (by have := HL.out; omega) (Nat.le_refl _), ?_⟩
     try rw [HL.out.2.2.1]
     exact HR9.out.2.2
  | true =>
   obtain ⟨hk,hkk,hent⟩ := ent_there hPE
   obtain ⟨gg,offg,hga,hgl,q0,q1,q2,q3⟩ := HEA4.out k hk
   obtain ⟨f,hf⟩ : ∃ f,R.ents[k] = f := ⟨_,rfl⟩
   rw [hf] at q0 q1 q2 q3 hkk
   have hit := hit_there hk hf hent id
   have hfs : f.key.size ≤ 1048576 ∧ f.bd.size ≤ 1048576 := by rw [← hf]; exact HSZ.out.ents _ (List.getElem_mem hk)
   have HFS : Hid (f.key.size ≤ 1048576 ∧ f.bd.size ≤ 1048576) := hfs
   have HKF : Hid (f.key = key) := hkk
   have HIT : Hid (hitB R key = enFresh f R.now ∧ hitC R id key = ⟨id,key, 0,f.st, 2,f.bd,R.now - f.st⟩) := hit
   subst hga
   have HQS : Hid (∀ W,Below w4.heap.size w4 W → W.cell? ⟨T, 0,none⟩ = some (.int .i64 R.now) ∧ W.cell? ⟨T, 1,none⟩ = some (.slice (some ⟨gg,offg,none⟩) R.ents.length y1) ∧ W.cell? ⟨gg,offg + k * 4,none⟩ = some (.string f.key) ∧ W.cell? ⟨gg,offg + k * 4 + 1,none⟩ = some (.int .i64 f.st) ∧ W.cell? ⟨gg,offg + k * 4 + 2,none⟩ = some (.int .i64 f.lf) ∧ W.cell? ⟨gg,offg + k * 4 + 3,none⟩ = some (.string f.bd)) := fun W h => by
    have hc := (HH4.out.on h).box.cells
    have h1 := hc.2.1
    rw [HYS.out] at h1
    exact ⟨hc.1,h1,(h.cell hgl).trans q0,(h.cell hgl).trans q1,(h.cell hgl).trans q2,(h.cell hgl).trans q3⟩
   obtain ⟨p0,p1,p2,p3,p4,p5⟩ := HQS.out w4 (Below.refl _ _)
   have z0 := cell_regrown p0
   have z1 := cell_regrown p1
   have z2 := cell_regrown p2
   have z3 := cell_regrown p3
   have z4 := cell_regrown p4
   have z5 := cell_regrown p5
   have hi1 : (0 : Int) ≤ (k : Int) := by omega
   have hi2 : (k : Int) < (R.ents.length : Int) := by omega
   have HKL : Hid (k < R.ents.length) := hk
   have cF := quietV (W := w4) (fun w' hb => (implFreshAt_any w' f.key f.bd f.st f.lf R.now (by have := HFS.out.1; omega) (by have := HFS.out.2; omega)).mono (fun e w'' h => h))
   have hfe : enFresh ⟨f.key,f.st,f.lf,f.bd⟩ R.now = enFresh f R.now := rfl
   rw [hfe] at cF
   obtain ⟨x2,hx2⟩ : ∃ b,enFresh f R.now = b := ⟨_,rfl⟩
   rw [hx2] at cF HIT
   have HX2 : Hid (enFresh f R.now = x2) := hx2
   clear hit hfs hkk hent hPE hf hk q0 q1 q2 q3 hgl hx2 hfe p0 p1 p2 p3 p4 p5 HEA4
   cases x2 with
   | false =>
    have HNH : Hid (hitB R key = false) := HIT.out.1
    go_wp2_with fail
    refine wp_region_quiet_below (by kernel_rfl) (by kernel_rfl) ?_
    repeat (first | go_big_quiet_step (with_reducible exact cF _ _) | quiet_step (with_reducible exact cF _ _))
    refine wpQuiet_nil ?_
    intro _ hw'
    obtain ⟨⟨dq,osq⟩,hw''⟩ := hw'
    obtain ⟨w5,hw5⟩ : ∃ x,_ = x := ⟨_,hw''.symm⟩
    have hb5 : Below w4.heap.size w4 w5 := by rw [← hw5]; exact below_regrown w4 dq osq
    rw [hw'']
    have HH5 : Hid (HallAt w5 w1.heap.size T Y R) := HH4.out.on hb5
    have HB5 : Hid (Below w1.heap.size w1 w5) := HB4.out.trans (hb5.mono HB4.out.size)
    clear hb5 HH4 HB4 z0 z1 z2 z3 z4 z5 cF HQS HYS
    have HOX := may_ok HX1.out
    have HHT : Hid (hitB R key = false) := HNH.out
    obtain ⟨y0,y1,yp0,yp1,ym0,ym1,yk0,yk1,yf0,yf1,yc0,yc1,hYs⟩ := HH5.out.own.slices
    obtain ⟨_,_,_,_,_,_,g6,_,_⟩ := HH5.out.box.cells
    rw [hYs] at g6
    dsimp only at g6
    have hfa : FetAt w5 yf0 R.fes w5.heap.size := by
     obtain ⟨q5,q6,e5,e6⟩ := HH5.out.own.at.f
     rw [hYs] at e5
     dsimp only at e5
     simp only [Value.slice.injEq] at e5
     obtain ⟨rfl,_,rfl⟩ := e5
     exact e6
    have cQ := openPlace_any w5 yf0 yf1 R.fes key hfa (by have := HL.out.1; omega)
    have HQX : Hid _ := idxX_cases (openP key) R.fes
    obtain ⟨q,hq⟩ : ∃ q,idxX (openP key) R.fes = q := ⟨_,rfl⟩
    rw [hq] at cQ HQX
    have HQ0 : Hid (idxX (openP key) R.fes = q) := hq
    have HFL : Hid (R.fes.length ≤ 20) := HOX.flen
    have HYS : Hid (Y = ⟨.slice y0 R.ents.length y1,.slice yp0 R.pol.win.length yp1,.slice ym0 R.pol.main.length ym1,.slice yk0 R.pol.sk.rows.length yk1,.slice yf0 R.fes.length yf1,.slice yc0 R.cls.length yc1⟩) := hYs
    clear HOX hYs hfa hq
    go_wp2_with fail
    refine cQ.mono ?_
    rintro e w7 ⟨rfl,hb7⟩
    clear cQ g6
    have HH7 : Hid (HallAt w7 w1.heap.size T Y R) := HH5.out.on hb7
    have HB7 : Hid (Below w1.heap.size w1 w7) := HB5.out.trans (hb7.mono HB5.out.size)
    have g6 : w7.cell? ⟨T, 6,none⟩ = some (.slice yf0 R.fes.length yf1) := by
     have h := HH7.out.box.cells.2.2.2.2.2.2.1
     rw [HYS.out] at h
     exact h
    clear hb7 HYS
    rcases HQX.out with ⟨j,hj,hjq,hx1,hx2⟩ | ⟨hjq,hx2⟩
    ·have HZA : Hid (askAt R key = j) := askAt_open (HQ0.out.trans hjq)
     have HJ : Hid (j < R.fes.length) := hj
     subst hjq
     have hq1 : ¬ ((j : Int) < 0) := by omega
     have hq2 : ((j : Int) == 20) = false := by have := HFL.out; simp; omega
     have hq3 : ¬ ((j : Int) = 20) := by have := HFL.out; omega
     have cW := hallWait_any w7 w1.heap.size T Y R id key j HH7.out (ascC_of (may_ok HX1.out)) HSZ.out HKY.out (HTB.out.1 w7 HB7.out) HTB.out.2 (by omega) (fun f hf => (HSZ.out.fes f hf).2)
     have HNE : Hid (¬ askAt R key = 20) := fun h => by have h1 := HZA.out; have h2 := HFL.out; have h3 := HJ.out; omega
     clear HQX hx1 hx2
     clear hj
     go_wp2_with fail
     refine cW.mono ?_
     rintro e w8 ⟨rfl,Y8,k8,b8,hp8,hH8,hb8⟩
     clear cW
     have hb8f := may_new HX1.out hp8
     subst hb8f
     obtain ⟨R',hR'⟩ : ∃ r,waitR R id key = r := ⟨_,rfl⟩
     have HH8 : Hid (HallAt w8 w1.heap.size T Y8 R') := by
      rw [← hR']
      unfold waitR
      rw [HZA.out, ← place_insC (L := R.cls) (c := waitC R.fes id key j) hp8 (ascC_of (may_ok HX1.out))]
      exact hH8
     have HB8 : Hid (Below w1.heap.size w1 w8) := HB7.out.trans hb8
     have HRQ : Hid (askR R id key = (R', 0)) := by show _ = _; rw [← hR']; exact askR_wait HX1.out HHT.out HNE.out
     clear hp8 hH8 hb8 hR' g6 HH7 HB7
     have HRR : Hid (askR R id key = (R', 0)) := by show _ = _; exact HRQ.out
     obtain ⟨g0,g1,g2,g3,g4,g5,g6,g7,g8⟩ := HH8.out.box.cells
     obtain ⟨y0,y1,yp0,yp1,ym0,ym1,yk0,yk1,yf0,yf1,yc0,yc1,rfl⟩ := HH8.out.own.slices
     dsimp only at g1 g2 g3 g4 g6 g7
     obtain ⟨r0,r1,r2,r3,r4,r5,r6,r7,r8⟩ := (HI.out w8 HB8.out).2.1.cells
     have tt := (HI.out w8 HB8.out).2.1.thaw
     obtain ⟨t0,t1,t2,t3,t4,t5,t6,t7,t8⟩ := And.intro (tt 0) (And.intro (tt 1) (And.intro (tt 2) (And.intro (tt 3) (And.intro (tt 4) (And.intro (tt 5) (And.intro (tt 6) (And.intro (tt 7) (tt 8))))))))
     have hR9 := ret9 HH8.out.own (HI.out w8 HB8.out).2.1 (HI.out w8 HB8.out).2.2.2.1
     dsimp only at hR9
     have HR9 := hidR hR9
     clear HH8 HB8 hR9 tt
     go_wp2_with fail
     obtain ⟨q0,q1,q2,q3,q4,q5,q6,q7,q8⟩ := HR9.out.1.cells
     refine bodyPost_ret (v := .tuple #[.agg #[.int .i64 R'.now,.slice y0 R'.ents.length y1,.slice yp0 R'.pol.win.length yp1,.slice ym0 R'.pol.main.length ym1,.slice yk0 R'.pol.sk.rows.length yk1,.int .i64 R'.pol.sk.added,.slice yf0 R'.fes.length yf1,.slice yc0 R'.cls.length yc1,.int .i64 R'.hits],.int .i64 0]) (by simp [results,Tryz.results8,go_sem,q0,q1,q2,q3,q4,q5,q6,q7,q8]) rfl ?_
     rw [HRR.out]
     refine ⟨_,rfl,HR9.out.2.1.mono (by have := HL.out; omega) (Nat.le_refl _), ?_⟩
     try rw [HL.out.2.2.1]
     exact HR9.out.2.2
    ·have HZA : Hid (askAt R key = R.fes.length) := askAt_none (HQ0.out.trans hjq)
     subst hjq
     by_cases hfl : R.fes.length = 20
     ·have hq2 : ((R.fes.length : Int) == 20) = true := by simp; omega
      have HRQ : Hid (askR R id key = (R, 2)) := askR_full HX1.out HHT.out (HZA.out.trans hfl)
      clear HQX hx2 hfl g6
      have HRR : Hid (askR R id key = (R, 2)) := by show _ = _; exact HRQ.out
      obtain ⟨g0,g1,g2,g3,g4,g5,g6,g7,g8⟩ := HH7.out.box.cells
      obtain ⟨y0,y1,yp0,yp1,ym0,ym1,yk0,yk1,yf0,yf1,yc0,yc1,rfl⟩ := HH7.out.own.slices
      dsimp only at g1 g2 g3 g4 g6 g7
      obtain ⟨r0,r1,r2,r3,r4,r5,r6,r7,r8⟩ := (HI.out w7 HB7.out).2.1.cells
      have tt := (HI.out w7 HB7.out).2.1.thaw
      obtain ⟨t0,t1,t2,t3,t4,t5,t6,t7,t8⟩ := And.intro (tt 0) (And.intro (tt 1) (And.intro (tt 2) (And.intro (tt 3) (And.intro (tt 4) (And.intro (tt 5) (And.intro (tt 6) (And.intro (tt 7) (tt 8))))))))
      have hR9 := ret9 HH7.out.own (HI.out w7 HB7.out).2.1 (HI.out w7 HB7.out).2.2.2.1
      dsimp only at hR9
      have HR9 := hidR hR9
      clear HH7 HB7 hR9 tt
      go_wp2_with fail
      obtain ⟨q0,q1,q2,q3,q4,q5,q6,q7,q8⟩ := HR9.out.1.cells
      refine bodyPost_ret (v := .tuple #[.agg #[.int .i64 R.now,.slice y0 R.ents.length y1,.slice yp0 R.pol.win.length yp1,.slice ym0 R.pol.main.length ym1,.slice yk0 R.pol.sk.rows.length yk1,.int .i64 R.pol.sk.added,.slice yf0 R.fes.length yf1,.slice yc0 R.cls.length yc1,.int .i64 R.hits],.int .i64 2]) (by simp [results,Tryz.results8,go_sem,q0,q1,q2,q3,q4,q5,q6,q7,q8]) rfl ?_
      rw [HRR.out]
      refine ⟨_,rfl,HR9.out.2.1.mono (by have := HL.out; omega) (Nat.le_refl _), ?_⟩
      try rw [HL.out.2.2.1]
      exact HR9.out.2.2
     ·have hq2 : ((R.fes.length : Int) == 20) = false := by simp; omega
      have hq3 : ¬ ((R.fes.length : Int) = 20) := by omega
      have cW := hallWait_any w7 w1.heap.size T Y R id key R.fes.length HH7.out (ascC_of (may_ok HX1.out)) HSZ.out HKY.out (HTB.out.1 w7 HB7.out) HTB.out.2 (Nat.le_refl _) (fun f hf => (HSZ.out.fes f hf).2)
      have HNE : Hid (¬ askAt R key = 20) := fun h => hfl (HZA.out.symm.trans h)
      clear HQX hx2 hfl
      go_wp2_with fail
      refine cW.mono ?_
      rintro e w8 ⟨rfl,Y8,k8,b8,hp8,hH8,hb8⟩
      clear cW
      have hb8f := may_new HX1.out hp8
      subst hb8f
      obtain ⟨R',hR'⟩ : ∃ r,waitR R id key = r := ⟨_,rfl⟩
      have HH8 : Hid (HallAt w8 w1.heap.size T Y8 R') := by
       rw [← hR']
       unfold waitR
       rw [HZA.out, ← place_insC (L := R.cls) (c := waitC R.fes id key R.fes.length) hp8 (ascC_of (may_ok HX1.out))]
       exact hH8
      have HB8 : Hid (Below w1.heap.size w1 w8) := HB7.out.trans hb8
      have HRQ : Hid (askR R id key = (R', 0)) := by show _ = _; rw [← hR']; exact askR_wait HX1.out HHT.out HNE.out
      clear hp8 hH8 hb8 hR' g6 HH7 HB7
      have HRR : Hid (askR R id key = (R', 0)) := by show _ = _; exact HRQ.out
      obtain ⟨g0,g1,g2,g3,g4,g5,g6,g7,g8⟩ := HH8.out.box.cells
      obtain ⟨y0,y1,yp0,yp1,ym0,ym1,yk0,yk1,yf0,yf1,yc0,yc1,rfl⟩ := HH8.out.own.slices
      dsimp only at g1 g2 g3 g4 g6 g7
      obtain ⟨r0,r1,r2,r3,r4,r5,r6,r7,r8⟩ := (HI.out w8 HB8.out).2.1.cells
      have tt := (HI.out w8 HB8.out).2.1.thaw
      obtain ⟨t0,t1,t2,t3,t4,t5,t6,t7,t8⟩ := And.intro (tt 0) (And.intro (tt 1) (And.intro (tt 2) (And.intro (tt 3) (And.intro (tt 4) (And.intro (tt 5) (And.intro (tt 6) (And.intro (tt 7) (tt 8))))))))
      have hR9 := ret9 HH8.out.own (HI.out w8 HB8.out).2.1 (HI.out w8 HB8.out).2.2.2.1
      dsimp only at hR9
      have HR9 := hidR hR9
      clear HH8 HB8 hR9 tt
      go_wp2_with fail
      obtain ⟨q0,q1,q2,q3,q4,q5,q6,q7,q8⟩ := HR9.out.1.cells
      refine bodyPost_ret (v := .tuple #[.agg #[.int .i64 R'.now,.slice y0 R'.ents.length y1,.slice yp0 R'.pol.win.length yp1,.slice ym0 R'.pol.main.length ym1,.slice yk0 R'.pol.sk.rows.length yk1,.int .i64 R'.pol.sk.added,.slice yf0 R'.fes.length yf1,.slice yc0 R'.cls.length yc1,.int .i64 R'.hits],.int .i64 0]) (by simp [results,Tryz.results8,go_sem,q0,q1,q2,q3,q4,q5,q6,q7,q8]) rfl ?_
      rw [HRR.out]
      refine ⟨_,rfl,HR9.out.2.1.mono (by have := HL.out; omega) (Nat.le_refl _), ?_⟩
      try rw [HL.out.2.2.1]
      exact HR9.out.2.2
   | true =>
    go_wp2_with fail
    refine wp_region_quiet_below (by kernel_rfl) (by kernel_rfl) ?_
    repeat (first | go_big_quiet_step (with_reducible exact cF _ _) | quiet_step (with_reducible exact cF _ _))
    refine wpQuiet_nil ?_
    intro _ hw'
    obtain ⟨⟨dq,osq⟩,hw''⟩ := hw'
    obtain ⟨w5,hw5⟩ : ∃ x,_ = x := ⟨_,hw''.symm⟩
    have hb5 : Below w4.heap.size w4 w5 := by rw [← hw5]; exact below_regrown w4 dq osq
    rw [hw'']
    have HH5 : Hid (HallAt w5 w1.heap.size T Y R) := HH4.out.on hb5
    have HB5 : Hid (Below w1.heap.size w1 w5) := HB4.out.trans (hb5.mono HB4.out.size)
    obtain ⟨p0,p1,p2,p3,p4,p5⟩ := HQS.out w5 hb5
    have hst := fresh_st HX2.out
    have hest := (enOk_iff.1 hst.1).2.1
    have cA := hallAnswer_any w5 w1.heap.size T Y R id f HH5.out (ascC_of (may_ok HX1.out)) HSZ.out HFS.out.1 HFS.out.2 (HTB.out.1 w5 HB5.out) (may_ok HX1.out).hits ⟨hest.1,hst.2⟩
    clear hb5 HH4 HB4 z0 z1 z2 z3 z4 z5 cF HQS HYS hst hest p0
    go_wp2_with fail
    refine cA.mono ?_
    rintro e w8 ⟨rfl,Y8,k8,b8,hp8,hH8,hb8⟩
    clear cA p1 p2 p3 p4 p5
    have hb8f := may_new HX1.out hp8
    subst hb8f
    obtain ⟨R',hR'⟩ : ∃ r,hitR R id key = r := ⟨_,rfl⟩
    have HH8 : Hid (HallAt w8 w1.heap.size T Y8 R') := by
     rw [← hR']
     unfold hitR
     rw [HIT.out.2, ← place_insC (L := R.cls) (c := ⟨id,key, 0,f.st, 2,f.bd,R.now - f.st⟩) hp8 (ascC_of (may_ok HX1.out)), ← HKF.out]
     exact hH8
    have HB8 : Hid (Below w1.heap.size w1 w8) := HB5.out.trans hb8
    have HRQ : Hid (askR R id key = (R', 0)) := by show _ = _; rw [← hR']; exact askR_hit HX1.out HIT.out.1
    clear hp8 hH8 hb8 hR' HH5 HB5
    have HRR : Hid (askR R id key = (R', 0)) := by show _ = _; exact HRQ.out
    obtain ⟨g0,g1,g2,g3,g4,g5,g6,g7,g8⟩ := HH8.out.box.cells
    obtain ⟨y0,y1,yp0,yp1,ym0,ym1,yk0,yk1,yf0,yf1,yc0,yc1,rfl⟩ := HH8.out.own.slices
    dsimp only at g1 g2 g3 g4 g6 g7
    obtain ⟨r0,r1,r2,r3,r4,r5,r6,r7,r8⟩ := (HI.out w8 HB8.out).2.1.cells
    have tt := (HI.out w8 HB8.out).2.1.thaw
    obtain ⟨t0,t1,t2,t3,t4,t5,t6,t7,t8⟩ := And.intro (tt 0) (And.intro (tt 1) (And.intro (tt 2) (And.intro (tt 3) (And.intro (tt 4) (And.intro (tt 5) (And.intro (tt 6) (And.intro (tt 7) (tt 8))))))))
    have hR9 := ret9 HH8.out.own (HI.out w8 HB8.out).2.1 (HI.out w8 HB8.out).2.2.2.1
    dsimp only at hR9
    have HR9 := hidR hR9
    clear HH8 HB8 hR9 tt
    go_wp2_with fail
    obtain ⟨q0,q1,q2,q3,q4,q5,q6,q7,q8⟩ := HR9.out.1.cells
    refine bodyPost_ret (v := .tuple #[.agg #[.int .i64 R'.now,.slice y0 R'.ents.length y1,.slice yp0 R'.pol.win.length yp1,.slice ym0 R'.pol.main.length ym1,.slice yk0 R'.pol.sk.rows.length yk1,.int .i64 R'.pol.sk.added,.slice yf0 R'.fes.length yf1,.slice yc0 R'.cls.length yc1,.int .i64 R'.hits],.int .i64 0]) (by simp [results,Tryz.results8,go_sem,q0,q1,q2,q3,q4,q5,q6,q7,q8]) rfl ?_
    rw [HRR.out]
    refine ⟨_,rfl,HR9.out.2.1.mono (by have := HL.out; omega) (Nat.le_refl _), ?_⟩
    try rw [HL.out.2.2.1]
    exact HR9.out.2.2
end Go.Proofs.YtaahjcljanckaaaGreatDoor
