/- A part comes to a fetch of a proxy. Written by mkturned.py. -/
import Derived.Test.YtaahjcljanckaaaGreatDoorStmPut1J
import Derived.Test.YtaahjcljanckaaaGreatDoorPolOkSzJ
import Derived.Deep.DeepCutAuto
import Derived.Deep.RegionHeld3
namespace Go.Proofs.YtaahjcljanckaaaGreatDoor
open Go.RowKit Go.Sort
set_option maxRecDepth 100000 in
set_option maxHeartbeats 16000000 in
theorem turnedP_any (w : World) (X : Pc) (R : Prx) (z : Int) (part : ByteArray) (hA : PxAt w X R w.heap.size) (hsz : PxSz R) (hcap : RoomF X.f R.fes.length) (hp : part.size ≤ 1048576) :
  Calls Tryz.prog 26 #[.agg #[.int .i64 R.now,X.e,X.w,X.m,X.k,.int .i64 R.pol.sk.added,X.f,X.c,.int .i64 R.hits],.int .i64 z,.iface 71 (.agg #[.string part])] w fun e w' => ∃ Y : Pc,e = .returned (.tuple #[.agg #[.int .i64 (partR R z part).1.now,Y.e,Y.w,Y.m,Y.k,.int .i64 (partR R z part).1.pol.sk.added,Y.f,Y.c,.int .i64 (partR R z part).1.hits],.bool (partR R z part).2]) ∧ PxOwn w' w.heap.size w'.heap.size Y (partR R z part).1 ∧ Below w.heap.size w w' := by
 obtain ⟨e0,e1,p0,p1,m0,m1,k0,k1,f0,f1,c0,c1,rfl⟩ := hA.slices
 dsimp only at hcap ⊢
 obtain ⟨_,_,hl1,hl2⟩ := hsz.parts
 obtain ⟨A,hAA⟩ : ∃ A,w.heap.size = A := ⟨_,rfl⟩
 obtain ⟨w0,hw0⟩ : ∃ x,w.alloc (.cells #[.int .i64 R.now,.slice e0 R.ents.length e1,.slice p0 R.pol.win.length p1,.slice m0 R.pol.main.length m1,.slice k0 R.pol.sk.rows.length k1,.int .i64 R.pol.sk.added,.slice f0 R.fes.length f1,.slice c0 R.cls.length c1,.int .i64 R.hits] 36) = x := ⟨_,rfl⟩
 obtain ⟨w1,hw1⟩ : ∃ x,w0.alloc (.cells #[.int .i64 0,.slice none 0 0,.slice none 0 0,.slice none 0 0,.slice none 0 0,.int .i64 0,.slice none 0 0,.slice none 0 0,.int .i64 0] 36) = x := ⟨_,rfl⟩
 have hb0 : Below w.heap.size w w0 := by rw [← hw0]; exact (Below.refl _ _).alloc (Nat.le_refl _) _
 have hb01 : Below w0.heap.size w0 w1 := by rw [← hw1]; exact (Below.refl _ _).alloc (Nat.le_refl _) _
 have s0 : w0.heap.size = A + 1 := by rw [← hw0]; simp [hAA]
 have s1 : w1.heap.size = A + 2 := by rw [← hw1]; simp; omega
 have hb1 : Below w.heap.size w w1 := hb0.trans (hb01.mono hb0.size)
 have hB : NB w1 A 36 (.int .i64 R.now) (.slice e0 R.ents.length e1) (.slice p0 R.pol.win.length p1) (.slice m0 R.pol.main.length m1) (.slice k0 R.pol.sk.rows.length k1) (.int .i64 R.pol.sk.added) (.slice f0 R.fes.length f1) (.slice c0 R.cls.length c1) (.int .i64 R.hits) := by
  have h : NB w0 A 36 (.int .i64 R.now) (.slice e0 R.ents.length e1) (.slice p0 R.pol.win.length p1) (.slice m0 R.pol.main.length m1) (.slice k0 R.pol.sk.rows.length k1) (.int .i64 R.pol.sk.added) (.slice f0 R.fes.length f1) (.slice c0 R.cls.length c1) (.int .i64 R.hits) := by rw [← hw0, ← hAA]; exact NB.new _ _ _ _ _ _ _ _ _ _ _
  exact h.on hb01
 have hR : NB w1 (A + 1) 36 (.int .i64 0) (.slice none 0 0) (.slice none 0 0) (.slice none 0 0) (.slice none 0 0) (.int .i64 0) (.slice none 0 0) (.slice none 0 0) (.int .i64 0) := by rw [← hw1, ← s0]; exact NB.new _ _ _ _ _ _ _ _ _ _ _
 have HW : Hid ((w.alloc (.cells #[.int .i64 R.now,.slice e0 R.ents.length e1,.slice p0 R.pol.win.length p1,.slice m0 R.pol.main.length m1,.slice k0 R.pol.sk.rows.length k1,.int .i64 R.pol.sk.added,.slice f0 R.fes.length f1,.slice c0 R.cls.length c1,.int .i64 R.hits] 36)).alloc (.cells #[.int .i64 0,.slice none 0 0,.slice none 0 0,.slice none 0 0,.slice none 0 0,.int .i64 0,.slice none 0 0,.slice none 0 0,.int .i64 0] 36) = w1) := by show _ = _; rw [hw0]; exact hw1
 have HI : Hid (∀ W,Below w1.heap.size w1 W → NB W A 36 (.int .i64 R.now) (.slice e0 R.ents.length e1) (.slice p0 R.pol.win.length p1) (.slice m0 R.pol.main.length m1) (.slice k0 R.pol.sk.rows.length k1) (.int .i64 R.pol.sk.added) (.slice f0 R.fes.length f1) (.slice c0 R.cls.length c1) (.int .i64 R.hits) ∧ NB W (A + 1) 36 (.int .i64 0) (.slice none 0 0) (.slice none 0 0) (.slice none 0 0) (.slice none 0 0) (.int .i64 0) (.slice none 0 0) (.slice none 0 0) (.int .i64 0) ∧ PxAt W ⟨.slice e0 R.ents.length e1,.slice p0 R.pol.win.length p1,.slice m0 R.pol.main.length m1,.slice k0 R.pol.sk.rows.length k1,.slice f0 R.fes.length f1,.slice c0 R.cls.length c1⟩ R W.heap.size ∧ Below A w W ∧ A + 2 ≤ W.heap.size) := fun W h => ⟨hB.on h,hR.on h,(hA.on hb1).on h,by rw [← hAA]; exact hb1.trans (h.mono hb1.size),by have := h.size; omega⟩
 have HSZ : Hid (PxSz R) := hsz
 have HC : Hid (RoomF (.slice f0 R.fes.length f1) R.fes.length) := hcap
 have HL : Hid (R.fes.length ≤ 1048576 ∧ R.cls.length ≤ 1048576 ∧ w.heap.size = A ∧ w1.heap.size = A + 2) := ⟨hl1,hl2,hAA,s1⟩
 have cH := holdProxy_any w1 ⟨.slice e0 R.ents.length e1,.slice p0 R.pol.win.length p1,.slice m0 R.pol.main.length m1,.slice k0 R.pol.sk.rows.length k1,.slice f0 R.fes.length f1,.slice c0 R.cls.length c1⟩ R (hA.on hb1) hsz
 dsimp only at cH
 obtain ⟨b0,b1,b2,b3,b4,b5,b6,b7,b8⟩ := hB.cells
 rw [← hw1, ← hw0] at b0 b1 b2 b3 b4 b5 b6 b7 b8
 clear hw0 hw1 hb0 hb01 s0 hb1 hB hR hA hsz hcap s1
 go_enter Tryz.func26,Tryz.ntmps26
 go_wp2_with fail
 rw [HW.out] at b0 b1 b2 b3 b4 b5 b6 b7 b8 ⊢
 refine cH.mono ?_
 rintro e w2 ⟨T,Y,rfl,hH2,hb2⟩
 clear cH b0 b1 b2 b3 b4 b5 b6 b7 b8
 have HH2 : Hid (HallAt w2 w1.heap.size T Y R) := hH2
 have HB2 : Hid (Below w1.heap.size w1 w2) := hb2
 obtain ⟨b0,b1,b2,b3,b4,b5,b6,b7,b8⟩ := (HI.out w2 hb2).1.cells
 have cO := implProxyOk_any w2 ⟨.slice e0 R.ents.length e1,.slice p0 R.pol.win.length p1,.slice m0 R.pol.main.length m1,.slice k0 R.pol.sk.rows.length k1,.slice f0 R.fes.length f1,.slice c0 R.cls.length c1⟩ R (HI.out w2 hb2).2.2.1 HSZ.out HC.out
 dsimp only at cO
 obtain ⟨x1,hx1⟩ : ∃ b,okX R = b := ⟨_,rfl⟩
 rw [hx1] at cO
 have HX1 : Hid (okX R = x1) := hx1
 clear hH2 hb2 hx1
 go_wp2_with fail
 refine cO.mono ?_
 rintro e w3 ⟨rfl,hb3⟩
 clear cO b0 b1 b2 b3 b4 b5 b6 b7 b8
 have HH3 : Hid (HallAt w3 w1.heap.size T Y R) := HH2.out.on hb3
 have HB3 : Hid (Below w1.heap.size w1 w3) := HB2.out.trans (hb3.mono HB2.out.size)
 obtain ⟨b0,b1,b2,b3,b4,b5,b6,b7,b8⟩ := (HI.out w3 HB3.out).1.cells
 clear hb3 HH2 HB2
 cases x1 with
 | false =>
  have HRR : Hid (partR R z part = (R,false)) := by show _ = _; unfold partR; unfold turnB; rw [HX1.out]; rfl
  obtain ⟨g0,g1,g2,g3,g4,g5,g6,g7,g8⟩ := HH3.out.box.cells
  obtain ⟨y0,y1,yp0,yp1,ym0,ym1,yk0,yk1,yf0,yf1,yc0,yc1,rfl⟩ := HH3.out.own.slices
  dsimp only at g1 g2 g3 g4 g6 g7
  obtain ⟨r0,r1,r2,r3,r4,r5,r6,r7,r8⟩ := (HI.out w3 HB3.out).2.1.cells
  have t0 := (HI.out w3 HB3.out).2.1.thaw 0
  have t1 := (HI.out w3 HB3.out).2.1.thaw 1
  have t2 := (HI.out w3 HB3.out).2.1.thaw 2
  have t3 := (HI.out w3 HB3.out).2.1.thaw 3
  have t4 := (HI.out w3 HB3.out).2.1.thaw 4
  have t5 := (HI.out w3 HB3.out).2.1.thaw 5
  have t6 := (HI.out w3 HB3.out).2.1.thaw 6
  have t7 := (HI.out w3 HB3.out).2.1.thaw 7
  have t8 := (HI.out w3 HB3.out).2.1.thaw 8
  have HQ : Hid (NB (((((((((w3.setCell ⟨A + 1, 0,none⟩ (.int .i64 R.now)).setCell ⟨A + 1, 1,none⟩ (.slice y0 R.ents.length y1)).setCell ⟨A + 1, 2,none⟩ (.slice yp0 R.pol.win.length yp1)).setCell ⟨A + 1, 3,none⟩ (.slice ym0 R.pol.main.length ym1)).setCell ⟨A + 1, 4,none⟩ (.slice yk0 R.pol.sk.rows.length yk1)).setCell ⟨A + 1, 5,none⟩ (.int .i64 R.pol.sk.added)).setCell ⟨A + 1, 6,none⟩ (.slice yf0 R.fes.length yf1)).setCell ⟨A + 1, 7,none⟩ (.slice yc0 R.cls.length yc1)).setCell ⟨A + 1, 8,none⟩ (.int .i64 R.hits)) (A + 1) 36 (.int .i64 R.now) (.slice y0 R.ents.length y1) (.slice yp0 R.pol.win.length yp1) (.slice ym0 R.pol.main.length ym1) (.slice yk0 R.pol.sk.rows.length yk1) (.int .i64 R.pol.sk.added) (.slice yf0 R.fes.length yf1) (.slice yc0 R.cls.length yc1) (.int .i64 R.hits)) := (HI.out w3 HB3.out).2.1.put _ _ _ _ _ _ _ _ _
  have HOQ : Hid (PxOwn (((((((((w3.setCell ⟨A + 1, 0,none⟩ (.int .i64 R.now)).setCell ⟨A + 1, 1,none⟩ (.slice y0 R.ents.length y1)).setCell ⟨A + 1, 2,none⟩ (.slice yp0 R.pol.win.length yp1)).setCell ⟨A + 1, 3,none⟩ (.slice ym0 R.pol.main.length ym1)).setCell ⟨A + 1, 4,none⟩ (.slice yk0 R.pol.sk.rows.length yk1)).setCell ⟨A + 1, 5,none⟩ (.int .i64 R.pol.sk.added)).setCell ⟨A + 1, 6,none⟩ (.slice yf0 R.fes.length yf1)).setCell ⟨A + 1, 7,none⟩ (.slice yc0 R.cls.length yc1)).setCell ⟨A + 1, 8,none⟩ (.int .i64 R.hits)) w1.heap.size (((((((((w3.setCell ⟨A + 1, 0,none⟩ (.int .i64 R.now)).setCell ⟨A + 1, 1,none⟩ (.slice y0 R.ents.length y1)).setCell ⟨A + 1, 2,none⟩ (.slice yp0 R.pol.win.length yp1)).setCell ⟨A + 1, 3,none⟩ (.slice ym0 R.pol.main.length ym1)).setCell ⟨A + 1, 4,none⟩ (.slice yk0 R.pol.sk.rows.length yk1)).setCell ⟨A + 1, 5,none⟩ (.int .i64 R.pol.sk.added)).setCell ⟨A + 1, 6,none⟩ (.slice yf0 R.fes.length yf1)).setCell ⟨A + 1, 7,none⟩ (.slice yc0 R.cls.length yc1)).setCell ⟨A + 1, 8,none⟩ (.int .i64 R.hits)).heap.size ⟨.slice y0 R.ents.length y1,.slice yp0 R.pol.win.length yp1,.slice ym0 R.pol.main.length ym1,.slice yk0 R.pol.sk.rows.length yk1,.slice yf0 R.fes.length yf1,.slice yc0 R.cls.length yc1⟩ R) := ((HH3.out.own).box (HI.out w3 HB3.out).2.1 (by unfold PxT; decide) (fun j hj => put9_other w3 (A + 1) _ _ _ _ _ _ _ _ _ j hj)).up
  have HBQ : Hid (Below A w (((((((((w3.setCell ⟨A + 1, 0,none⟩ (.int .i64 R.now)).setCell ⟨A + 1, 1,none⟩ (.slice y0 R.ents.length y1)).setCell ⟨A + 1, 2,none⟩ (.slice yp0 R.pol.win.length yp1)).setCell ⟨A + 1, 3,none⟩ (.slice ym0 R.pol.main.length ym1)).setCell ⟨A + 1, 4,none⟩ (.slice yk0 R.pol.sk.rows.length yk1)).setCell ⟨A + 1, 5,none⟩ (.int .i64 R.pol.sk.added)).setCell ⟨A + 1, 6,none⟩ (.slice yf0 R.fes.length yf1)).setCell ⟨A + 1, 7,none⟩ (.slice yc0 R.cls.length yc1)).setCell ⟨A + 1, 8,none⟩ (.int .i64 R.hits))) := Below.put9 (HI.out w3 HB3.out).2.2.2.1 (T := A + 1) (by omega) _ _ _ _ _ _ _ _ _
  clear HH3 HB3
  go_wp2_with fail
  obtain ⟨q0,q1,q2,q3,q4,q5,q6,q7,q8⟩ := HQ.out.cells
  refine bodyPost_ret (v := .tuple #[.agg #[.int .i64 R.now,.slice y0 R.ents.length y1,.slice yp0 R.pol.win.length yp1,.slice ym0 R.pol.main.length ym1,.slice yk0 R.pol.sk.rows.length yk1,.int .i64 R.pol.sk.added,.slice yf0 R.fes.length yf1,.slice yc0 R.cls.length yc1,.int .i64 R.hits],.bool false]) (by simp [results,Tryz.results26,go_sem,q0,q1,q2,q3,q4,q5,q6,q7,q8]) rfl ?_
  rw [HRR.out]
  refine ⟨⟨.slice y0 R.ents.length y1,.slice yp0 R.pol.win.length yp1,.slice ym0 R.pol.main.length ym1,.slice yk0 R.pol.sk.rows.length yk1,.slice yf0 R.fes.length yf1,.slice yc0 R.cls.length yc1⟩,rfl,HOQ.out.mono (by have := HL.out; omega) (Nat.le_refl _), ?_⟩
  rw [HL.out.2.2.1]
  exact HBQ.out
 | true =>
  obtain ⟨z1,hz1⟩ : ∃ b,decide (z < 0) = b := ⟨_,rfl⟩
  cases z1 with
  | true =>
   have HRR : Hid (partR R z part = (R,false)) := by show _ = _; unfold partR; unfold turnB; rw [HX1.out,show decide (0 ≤ z) = false from decide_eq_false (by simpa using hz1)]; rfl
   obtain ⟨g0,g1,g2,g3,g4,g5,g6,g7,g8⟩ := HH3.out.box.cells
   obtain ⟨y0,y1,yp0,yp1,ym0,ym1,yk0,yk1,yf0,yf1,yc0,yc1,rfl⟩ := HH3.out.own.slices
   dsimp only at g1 g2 g3 g4 g6 g7
   obtain ⟨r0,r1,r2,r3,r4,r5,r6,r7,r8⟩ := (HI.out w3 HB3.out).2.1.cells
   have t0 := (HI.out w3 HB3.out).2.1.thaw 0
   have t1 := (HI.out w3 HB3.out).2.1.thaw 1
   have t2 := (HI.out w3 HB3.out).2.1.thaw 2
   have t3 := (HI.out w3 HB3.out).2.1.thaw 3
   have t4 := (HI.out w3 HB3.out).2.1.thaw 4
   have t5 := (HI.out w3 HB3.out).2.1.thaw 5
   have t6 := (HI.out w3 HB3.out).2.1.thaw 6
   have t7 := (HI.out w3 HB3.out).2.1.thaw 7
   have t8 := (HI.out w3 HB3.out).2.1.thaw 8
   have HQ : Hid (NB (((((((((w3.setCell ⟨A + 1, 0,none⟩ (.int .i64 R.now)).setCell ⟨A + 1, 1,none⟩ (.slice y0 R.ents.length y1)).setCell ⟨A + 1, 2,none⟩ (.slice yp0 R.pol.win.length yp1)).setCell ⟨A + 1, 3,none⟩ (.slice ym0 R.pol.main.length ym1)).setCell ⟨A + 1, 4,none⟩ (.slice yk0 R.pol.sk.rows.length yk1)).setCell ⟨A + 1, 5,none⟩ (.int .i64 R.pol.sk.added)).setCell ⟨A + 1, 6,none⟩ (.slice yf0 R.fes.length yf1)).setCell ⟨A + 1, 7,none⟩ (.slice yc0 R.cls.length yc1)).setCell ⟨A + 1, 8,none⟩ (.int .i64 R.hits)) (A + 1) 36 (.int .i64 R.now) (.slice y0 R.ents.length y1) (.slice yp0 R.pol.win.length yp1) (.slice ym0 R.pol.main.length ym1) (.slice yk0 R.pol.sk.rows.length yk1) (.int .i64 R.pol.sk.added) (.slice yf0 R.fes.length yf1) (.slice yc0 R.cls.length yc1) (.int .i64 R.hits)) := (HI.out w3 HB3.out).2.1.put _ _ _ _ _ _ _ _ _
   have HOQ : Hid (PxOwn (((((((((w3.setCell ⟨A + 1, 0,none⟩ (.int .i64 R.now)).setCell ⟨A + 1, 1,none⟩ (.slice y0 R.ents.length y1)).setCell ⟨A + 1, 2,none⟩ (.slice yp0 R.pol.win.length yp1)).setCell ⟨A + 1, 3,none⟩ (.slice ym0 R.pol.main.length ym1)).setCell ⟨A + 1, 4,none⟩ (.slice yk0 R.pol.sk.rows.length yk1)).setCell ⟨A + 1, 5,none⟩ (.int .i64 R.pol.sk.added)).setCell ⟨A + 1, 6,none⟩ (.slice yf0 R.fes.length yf1)).setCell ⟨A + 1, 7,none⟩ (.slice yc0 R.cls.length yc1)).setCell ⟨A + 1, 8,none⟩ (.int .i64 R.hits)) w1.heap.size (((((((((w3.setCell ⟨A + 1, 0,none⟩ (.int .i64 R.now)).setCell ⟨A + 1, 1,none⟩ (.slice y0 R.ents.length y1)).setCell ⟨A + 1, 2,none⟩ (.slice yp0 R.pol.win.length yp1)).setCell ⟨A + 1, 3,none⟩ (.slice ym0 R.pol.main.length ym1)).setCell ⟨A + 1, 4,none⟩ (.slice yk0 R.pol.sk.rows.length yk1)).setCell ⟨A + 1, 5,none⟩ (.int .i64 R.pol.sk.added)).setCell ⟨A + 1, 6,none⟩ (.slice yf0 R.fes.length yf1)).setCell ⟨A + 1, 7,none⟩ (.slice yc0 R.cls.length yc1)).setCell ⟨A + 1, 8,none⟩ (.int .i64 R.hits)).heap.size ⟨.slice y0 R.ents.length y1,.slice yp0 R.pol.win.length yp1,.slice ym0 R.pol.main.length ym1,.slice yk0 R.pol.sk.rows.length yk1,.slice yf0 R.fes.length yf1,.slice yc0 R.cls.length yc1⟩ R) := ((HH3.out.own).box (HI.out w3 HB3.out).2.1 (by unfold PxT; decide) (fun j hj => put9_other w3 (A + 1) _ _ _ _ _ _ _ _ _ j hj)).up
   have HBQ : Hid (Below A w (((((((((w3.setCell ⟨A + 1, 0,none⟩ (.int .i64 R.now)).setCell ⟨A + 1, 1,none⟩ (.slice y0 R.ents.length y1)).setCell ⟨A + 1, 2,none⟩ (.slice yp0 R.pol.win.length yp1)).setCell ⟨A + 1, 3,none⟩ (.slice ym0 R.pol.main.length ym1)).setCell ⟨A + 1, 4,none⟩ (.slice yk0 R.pol.sk.rows.length yk1)).setCell ⟨A + 1, 5,none⟩ (.int .i64 R.pol.sk.added)).setCell ⟨A + 1, 6,none⟩ (.slice yf0 R.fes.length yf1)).setCell ⟨A + 1, 7,none⟩ (.slice yc0 R.cls.length yc1)).setCell ⟨A + 1, 8,none⟩ (.int .i64 R.hits))) := Below.put9 (HI.out w3 HB3.out).2.2.2.1 (T := A + 1) (by omega) _ _ _ _ _ _ _ _ _
   clear HH3 HB3
   go_wp2_with fail
   obtain ⟨q0,q1,q2,q3,q4,q5,q6,q7,q8⟩ := HQ.out.cells
   refine bodyPost_ret (v := .tuple #[.agg #[.int .i64 R.now,.slice y0 R.ents.length y1,.slice yp0 R.pol.win.length yp1,.slice ym0 R.pol.main.length ym1,.slice yk0 R.pol.sk.rows.length yk1,.int .i64 R.pol.sk.added,.slice yf0 R.fes.length yf1,.slice yc0 R.cls.length yc1,.int .i64 R.hits],.bool false]) (by simp [results,Tryz.results26,go_sem,q0,q1,q2,q3,q4,q5,q6,q7,q8]) rfl ?_
   rw [HRR.out]
   refine ⟨⟨.slice y0 R.ents.length y1,.slice yp0 R.pol.win.length yp1,.slice ym0 R.pol.main.length ym1,.slice yk0 R.pol.sk.rows.length yk1,.slice yf0 R.fes.length yf1,.slice yc0 R.cls.length yc1⟩,rfl,HOQ.out.mono (by have := HL.out; omega) (Nat.le_refl _), ?_⟩
   rw [HL.out.2.2.1]
   exact HBQ.out
  | false =>
   have hz0 : 0 ≤ z := by simpa using hz1
   obtain ⟨z2,hz2⟩ : ∃ b,decide ((R.fes.length : Int) ≤ z) = b := ⟨_,rfl⟩
   cases z2 with
   | true =>
    have HRR : Hid (partR R z part = (R,false)) := by show _ = _; unfold partR; unfold turnB; rw [HX1.out,show decide (z < (R.fes.length : Int)) = false from decide_eq_false (by simpa using hz2)]; simp
    obtain ⟨g0,g1,g2,g3,g4,g5,g6,g7,g8⟩ := HH3.out.box.cells
    obtain ⟨y0,y1,yp0,yp1,ym0,ym1,yk0,yk1,yf0,yf1,yc0,yc1,rfl⟩ := HH3.out.own.slices
    dsimp only at g1 g2 g3 g4 g6 g7
    obtain ⟨r0,r1,r2,r3,r4,r5,r6,r7,r8⟩ := (HI.out w3 HB3.out).2.1.cells
    have t0 := (HI.out w3 HB3.out).2.1.thaw 0
    have t1 := (HI.out w3 HB3.out).2.1.thaw 1
    have t2 := (HI.out w3 HB3.out).2.1.thaw 2
    have t3 := (HI.out w3 HB3.out).2.1.thaw 3
    have t4 := (HI.out w3 HB3.out).2.1.thaw 4
    have t5 := (HI.out w3 HB3.out).2.1.thaw 5
    have t6 := (HI.out w3 HB3.out).2.1.thaw 6
    have t7 := (HI.out w3 HB3.out).2.1.thaw 7
    have t8 := (HI.out w3 HB3.out).2.1.thaw 8
    have HQ : Hid (NB (((((((((w3.setCell ⟨A + 1, 0,none⟩ (.int .i64 R.now)).setCell ⟨A + 1, 1,none⟩ (.slice y0 R.ents.length y1)).setCell ⟨A + 1, 2,none⟩ (.slice yp0 R.pol.win.length yp1)).setCell ⟨A + 1, 3,none⟩ (.slice ym0 R.pol.main.length ym1)).setCell ⟨A + 1, 4,none⟩ (.slice yk0 R.pol.sk.rows.length yk1)).setCell ⟨A + 1, 5,none⟩ (.int .i64 R.pol.sk.added)).setCell ⟨A + 1, 6,none⟩ (.slice yf0 R.fes.length yf1)).setCell ⟨A + 1, 7,none⟩ (.slice yc0 R.cls.length yc1)).setCell ⟨A + 1, 8,none⟩ (.int .i64 R.hits)) (A + 1) 36 (.int .i64 R.now) (.slice y0 R.ents.length y1) (.slice yp0 R.pol.win.length yp1) (.slice ym0 R.pol.main.length ym1) (.slice yk0 R.pol.sk.rows.length yk1) (.int .i64 R.pol.sk.added) (.slice yf0 R.fes.length yf1) (.slice yc0 R.cls.length yc1) (.int .i64 R.hits)) := (HI.out w3 HB3.out).2.1.put _ _ _ _ _ _ _ _ _
    have HOQ : Hid (PxOwn (((((((((w3.setCell ⟨A + 1, 0,none⟩ (.int .i64 R.now)).setCell ⟨A + 1, 1,none⟩ (.slice y0 R.ents.length y1)).setCell ⟨A + 1, 2,none⟩ (.slice yp0 R.pol.win.length yp1)).setCell ⟨A + 1, 3,none⟩ (.slice ym0 R.pol.main.length ym1)).setCell ⟨A + 1, 4,none⟩ (.slice yk0 R.pol.sk.rows.length yk1)).setCell ⟨A + 1, 5,none⟩ (.int .i64 R.pol.sk.added)).setCell ⟨A + 1, 6,none⟩ (.slice yf0 R.fes.length yf1)).setCell ⟨A + 1, 7,none⟩ (.slice yc0 R.cls.length yc1)).setCell ⟨A + 1, 8,none⟩ (.int .i64 R.hits)) w1.heap.size (((((((((w3.setCell ⟨A + 1, 0,none⟩ (.int .i64 R.now)).setCell ⟨A + 1, 1,none⟩ (.slice y0 R.ents.length y1)).setCell ⟨A + 1, 2,none⟩ (.slice yp0 R.pol.win.length yp1)).setCell ⟨A + 1, 3,none⟩ (.slice ym0 R.pol.main.length ym1)).setCell ⟨A + 1, 4,none⟩ (.slice yk0 R.pol.sk.rows.length yk1)).setCell ⟨A + 1, 5,none⟩ (.int .i64 R.pol.sk.added)).setCell ⟨A + 1, 6,none⟩ (.slice yf0 R.fes.length yf1)).setCell ⟨A + 1, 7,none⟩ (.slice yc0 R.cls.length yc1)).setCell ⟨A + 1, 8,none⟩ (.int .i64 R.hits)).heap.size ⟨.slice y0 R.ents.length y1,.slice yp0 R.pol.win.length yp1,.slice ym0 R.pol.main.length ym1,.slice yk0 R.pol.sk.rows.length yk1,.slice yf0 R.fes.length yf1,.slice yc0 R.cls.length yc1⟩ R) := ((HH3.out.own).box (HI.out w3 HB3.out).2.1 (by unfold PxT; decide) (fun j hj => put9_other w3 (A + 1) _ _ _ _ _ _ _ _ _ j hj)).up
    have HBQ : Hid (Below A w (((((((((w3.setCell ⟨A + 1, 0,none⟩ (.int .i64 R.now)).setCell ⟨A + 1, 1,none⟩ (.slice y0 R.ents.length y1)).setCell ⟨A + 1, 2,none⟩ (.slice yp0 R.pol.win.length yp1)).setCell ⟨A + 1, 3,none⟩ (.slice ym0 R.pol.main.length ym1)).setCell ⟨A + 1, 4,none⟩ (.slice yk0 R.pol.sk.rows.length yk1)).setCell ⟨A + 1, 5,none⟩ (.int .i64 R.pol.sk.added)).setCell ⟨A + 1, 6,none⟩ (.slice yf0 R.fes.length yf1)).setCell ⟨A + 1, 7,none⟩ (.slice yc0 R.cls.length yc1)).setCell ⟨A + 1, 8,none⟩ (.int .i64 R.hits))) := Below.put9 (HI.out w3 HB3.out).2.2.2.1 (T := A + 1) (by omega) _ _ _ _ _ _ _ _ _
    clear HH3 HB3
    go_wp2_with fail
    obtain ⟨q0,q1,q2,q3,q4,q5,q6,q7,q8⟩ := HQ.out.cells
    refine bodyPost_ret (v := .tuple #[.agg #[.int .i64 R.now,.slice y0 R.ents.length y1,.slice yp0 R.pol.win.length yp1,.slice ym0 R.pol.main.length ym1,.slice yk0 R.pol.sk.rows.length yk1,.int .i64 R.pol.sk.added,.slice yf0 R.fes.length yf1,.slice yc0 R.cls.length yc1,.int .i64 R.hits],.bool false]) (by simp [results,Tryz.results26,go_sem,q0,q1,q2,q3,q4,q5,q6,q7,q8]) rfl ?_
    rw [HRR.out]
    refine ⟨⟨.slice y0 R.ents.length y1,.slice yp0 R.pol.win.length yp1,.slice ym0 R.pol.main.length ym1,.slice yk0 R.pol.sk.rows.length yk1,.slice yf0 R.fes.length yf1,.slice yc0 R.cls.length yc1⟩,rfl,HOQ.out.mono (by have := HL.out; omega) (Nat.le_refl _), ?_⟩
    rw [HL.out.2.2.1]
    exact HBQ.out
   | false =>
    obtain ⟨k,rfl⟩ : ∃ k : Nat,z = (k : Int) := ⟨z.toNat,by omega⟩
    have hk : k < R.fes.length := by have : (k : Int) < (R.fes.length : Int) := by simpa using hz2
                                     omega
    have HKL0 : Hid (turnB R (k : Int) = true) := by show _ = _; unfold turnB; rw [HX1.out,decide_eq_true hz0,decide_eq_true (show (k : Int) < (R.fes.length : Int) by omega)]; rfl
    obtain ⟨f,hf⟩ : ∃ f,fetAt R k = f := ⟨_,rfl⟩
    have hfk : R.fes[k] = f := by rw [← hf]; unfold fetAt; rw [getD_of hk]
    have hfs : f.tx.size ≤ 1048576 := by rw [← hf]; exact fet_sz HSZ.out k
    obtain ⟨gg,off,hga,hgl0,hgr0⟩ := FetV.at' (HI.out w3 HB3.out).2.2.1.f k hk
    clear hgl0 hgr0
    have HKS : Hid (∀ W,Below w3.heap.size w3 W → W.cell? ⟨A, 6,none⟩ = some (.slice f0 R.fes.length f1) ∧ W.cell? ⟨gg,off + k * 5 + 1,none⟩ = some (.string f.tx) ∧ W.cell? ⟨gg,off + k * 5 + 2,none⟩ = some (.int .i64 f.st)) := fun W hW => by
     have h := HI.out W (HB3.out.trans (hW.mono HB3.out.size))
     obtain ⟨g',o',he,_,_,h1,h2,_⟩ := FetV.at' h.2.2.1.f k hk
     rw [hga] at he
     cases he
     rw [hfk] at h1 h2
     exact ⟨h.1.cells.2.2.2.2.2.2.1,h1,h2⟩
    obtain ⟨S',hS'⟩ : ∃ S,(putM ⟨f.st,f.tx, []⟩ part) = S := ⟨_,rfl⟩
    have HS' : Hid ((putM ⟨f.st,f.tx, []⟩ part) = S') := hS'
    have CR : Hid (∀ W,Below w3.heap.size w3 W → Calls Tryz.prog 126 #[.agg #[.string part],.agg #[.int .i64 f.st,.string f.tx,.slice none 0 0]] W fun e w' => ∃ a2 n2 c2,e = .returned (.tuple #[.agg #[.int .i64 S'.1.st,.string S'.1.text,.slice a2 n2 c2],.bool S'.2]) ∧ Below W.heap.size W w') := fun W _ => by
     have h := reachedP_any W part f.st f.tx hfs hp
     rw [hS'] at h
     exact h
    have HPS : Hid (S'.1.text.size ≤ 1048576) := by show _ ≤ _; rw [← hS']; exact putM_size _ _ hfs
    have hdr : Below w3.heap.size w3 w3.drew := ⟨rfl,rfl,rfl,Nat.le_refl _,fun _ _ => rfl⟩
    have hdz : Below w3.heap.size w3 (w3.alloc (.cells #[.int .i64 0,.string ⟨#[]⟩,.slice none 0 0] 105)).drew := ((Below.refl _ _).alloc (Nat.le_refl _) _).trans ⟨rfl,rfl,rfl,Nat.le_refl _,fun _ _ => rfl⟩
    have HN0 : Hid ((w3.alloc (.cells #[.int .i64 0,.string ⟨#[]⟩,.slice none 0 0] 105)).drew.heap[w3.heap.size]? = some (.cells #[.int .i64 0,.string ⟨#[]⟩,.slice none 0 0] 105 (0, 0))) := heap_alloc_new w3 _
    have KS := HKS.out
    have HF : Hid (fetAt R k = f) := hf
    have HKL : Hid (k < R.fes.length) := hk
    have hi1 : (0 : Int) ≤ (k : Int) := by omega
    have hi3 : (k : Int) < (R.fes.length : Int) := by omega
    have hna : ∀ (w : World),(nilAhead 310 71 (.agg #[.string part]) "loop.example/g00245/impl.reached").run Tryz.prog w = .ok (some false) w := fun _ => by kernel_rfl
    have hme : ∀ (w : World),(method 310 71 (.agg #[.string part]) "loop.example/g00245/impl.reached").run Tryz.prog w = .ok (126,(.agg #[.string part])) w := fun _ => by kernel_rfl
    have hmf : ∀ (fn : Fn) (first cap : Array Value) (w : World),(Instr.makeFunc fn first cap).run Tryz.prog w = .ok (.func fn first cap) w := fun _ _ _ _ => rfl
    subst hga
    clear hf hfk hfs hk hS' hz0
    go_wp2_with fail
    clear b0 b1 b2 b3 b4 b5 b6 b7 b8
    go_cut [9, 10] (fun pv bv wc => ∃ N a2 n2 c2,pv = .pointer (some ⟨N, 0,none⟩) ∧ bv = .bool S'.2 ∧ wc.heap[N]? = some (.cells #[.int .i64 S'.1.st,.string S'.1.text,.slice a2 n2 c2] 105 (0, 0)) ∧ Below w3.heap.size w3 wc)
    case first =>
     go_region_held3 (fun W => W.cell? ⟨A, 6,none⟩ = some (.slice (some ⟨gg,off,none⟩) R.fes.length f1) ∧ W.cell? ⟨gg,off + k * 5 + 1,none⟩ = some (.string f.tx) ∧ W.cell? ⟨gg,off + k * 5 + 2,none⟩ = some (.int .i64 f.st)) (first | with_reducible exact KS _ hdr | with_reducible exact KS _ hdz | with_reducible exact KS _ fP | with_reducible exact hK1 | with_reducible exact hK2 | with_reducible exact hK3)
      (first | (go_at_call 126; first
       | (with_reducible refine (CR.out _ hdr).mono ?_; rintro e wP ⟨a2,n2,c2,rfl,bP⟩; have fP : Below w3.heap.size w3 wP := hdr.trans (bP.mono hdr.size); have hK2 := KS (wP.alloc (.cells #[.int .i64 0,.string ⟨#[]⟩,.slice none 0 0] 105)) (fP.alloc fP.size _); have hK3 := KS (wP.alloc (.cells #[.int .i64 S'.1.st,.string S'.1.text,.slice a2 n2 c2] 105)) (fP.alloc fP.size _); have FB := And.intro (heap_alloc_new wP (.cells #[.int .i64 S'.1.st,.string S'.1.text,.slice a2 n2 c2] 105 (0, 0))) (fP.alloc fP.size (.cells #[.int .i64 S'.1.st,.string S'.1.text,.slice a2 n2 c2] 105)))
       | (with_reducible refine (CR.out _ hdz).mono ?_; rintro e wP ⟨a2,n2,c2,rfl,bP⟩; have fP : Below w3.heap.size w3 wP := hdz.trans (bP.mono hdz.size); have hN := (bP.block _ (Array.getElem?_eq_some_iff.1 HN0.out).1).trans HN0.out; have r0 := stmCell0 hN; have r1 := stmCell1 hN; have r2 := stmCell2 hN; have t0 := stmThaw hN 0; have t1 := stmThaw hN 1; have t2 := stmThaw hN 2; have hK1 := KS (((wP.setCell ⟨w3.heap.size, 0,none⟩ (.int .i64 S'.1.st)).setCell ⟨w3.heap.size, 1,none⟩ (.string S'.1.text)).setCell ⟨w3.heap.size, 2,none⟩ (.slice a2 n2 c2)) (stmBelow fP (Nat.le_refl w3.heap.size) _ _ _); have FA := And.intro (stmPut hN (.int .i64 S'.1.st) (.string S'.1.text) (.slice a2 n2 c2)) (stmBelow fP (Nat.le_refl w3.heap.size) (.int .i64 S'.1.st) (.string S'.1.text) (.slice a2 n2 c2)))))
     all_goals go_wp2_with fail
     all_goals go_meet
     all_goals first
      | exact ⟨_,_,_,_,rfl,rfl,FB.1,FB.2⟩
      | exact ⟨_,_,_,_,rfl,rfl,FA.1,FA.2⟩
    case rest =>
     obtain ⟨N,a2,n2,c2,rfl,rfl,hN,hbw⟩ := hcut
     have HHc : Hid (HallAt wc w1.heap.size T Y R) := HH3.out.on hbw
     have HBc : Hid (Below w1.heap.size w1 wc) := HB3.out.trans (hbw.mono HB3.out.size)
     have n0 := stmCell0 hN
     have n1 := stmCell1 hN
     have n2' := stmCell2 hN
     clear KS HKS CR hdr hdz HN0 hN hbw HH3 HB3 hmf
     obtain ⟨bo,hbo⟩ : ∃ b,S'.2 = b := ⟨_,rfl⟩
     rw [hbo]
     have HBO : Hid (S'.2 = bo) := hbo
     clear hbo
     cases bo with
     | false =>
      have HRR : Hid (partR R (k : Int) part = (R,false)) := by show _ = _; unfold partR; rw [HKL0.out,Int.toNat_natCast,HF.out,show putM (stmOf f) part = S' from HS'.out,HBO.out]; rfl
      obtain ⟨g0,g1,g2,g3,g4,g5,g6,g7,g8⟩ := HHc.out.box.cells
      obtain ⟨y0,y1,yp0,yp1,ym0,ym1,yk0,yk1,yf0,yf1,yc0,yc1,rfl⟩ := HHc.out.own.slices
      dsimp only at g1 g2 g3 g4 g6 g7
      obtain ⟨r0,r1,r2,r3,r4,r5,r6,r7,r8⟩ := (HI.out wc HBc.out).2.1.cells
      have t0 := (HI.out wc HBc.out).2.1.thaw 0
      have t1 := (HI.out wc HBc.out).2.1.thaw 1
      have t2 := (HI.out wc HBc.out).2.1.thaw 2
      have t3 := (HI.out wc HBc.out).2.1.thaw 3
      have t4 := (HI.out wc HBc.out).2.1.thaw 4
      have t5 := (HI.out wc HBc.out).2.1.thaw 5
      have t6 := (HI.out wc HBc.out).2.1.thaw 6
      have t7 := (HI.out wc HBc.out).2.1.thaw 7
      have t8 := (HI.out wc HBc.out).2.1.thaw 8
      have HQ : Hid (NB (((((((((wc.setCell ⟨A + 1, 0,none⟩ (.int .i64 R.now)).setCell ⟨A + 1, 1,none⟩ (.slice y0 R.ents.length y1)).setCell ⟨A + 1, 2,none⟩ (.slice yp0 R.pol.win.length yp1)).setCell ⟨A + 1, 3,none⟩ (.slice ym0 R.pol.main.length ym1)).setCell ⟨A + 1, 4,none⟩ (.slice yk0 R.pol.sk.rows.length yk1)).setCell ⟨A + 1, 5,none⟩ (.int .i64 R.pol.sk.added)).setCell ⟨A + 1, 6,none⟩ (.slice yf0 R.fes.length yf1)).setCell ⟨A + 1, 7,none⟩ (.slice yc0 R.cls.length yc1)).setCell ⟨A + 1, 8,none⟩ (.int .i64 R.hits)) (A + 1) 36 (.int .i64 R.now) (.slice y0 R.ents.length y1) (.slice yp0 R.pol.win.length yp1) (.slice ym0 R.pol.main.length ym1) (.slice yk0 R.pol.sk.rows.length yk1) (.int .i64 R.pol.sk.added) (.slice yf0 R.fes.length yf1) (.slice yc0 R.cls.length yc1) (.int .i64 R.hits)) := (HI.out wc HBc.out).2.1.put _ _ _ _ _ _ _ _ _
      have HOQ : Hid (PxOwn (((((((((wc.setCell ⟨A + 1, 0,none⟩ (.int .i64 R.now)).setCell ⟨A + 1, 1,none⟩ (.slice y0 R.ents.length y1)).setCell ⟨A + 1, 2,none⟩ (.slice yp0 R.pol.win.length yp1)).setCell ⟨A + 1, 3,none⟩ (.slice ym0 R.pol.main.length ym1)).setCell ⟨A + 1, 4,none⟩ (.slice yk0 R.pol.sk.rows.length yk1)).setCell ⟨A + 1, 5,none⟩ (.int .i64 R.pol.sk.added)).setCell ⟨A + 1, 6,none⟩ (.slice yf0 R.fes.length yf1)).setCell ⟨A + 1, 7,none⟩ (.slice yc0 R.cls.length yc1)).setCell ⟨A + 1, 8,none⟩ (.int .i64 R.hits)) w1.heap.size (((((((((wc.setCell ⟨A + 1, 0,none⟩ (.int .i64 R.now)).setCell ⟨A + 1, 1,none⟩ (.slice y0 R.ents.length y1)).setCell ⟨A + 1, 2,none⟩ (.slice yp0 R.pol.win.length yp1)).setCell ⟨A + 1, 3,none⟩ (.slice ym0 R.pol.main.length ym1)).setCell ⟨A + 1, 4,none⟩ (.slice yk0 R.pol.sk.rows.length yk1)).setCell ⟨A + 1, 5,none⟩ (.int .i64 R.pol.sk.added)).setCell ⟨A + 1, 6,none⟩ (.slice yf0 R.fes.length yf1)).setCell ⟨A + 1, 7,none⟩ (.slice yc0 R.cls.length yc1)).setCell ⟨A + 1, 8,none⟩ (.int .i64 R.hits)).heap.size ⟨.slice y0 R.ents.length y1,.slice yp0 R.pol.win.length yp1,.slice ym0 R.pol.main.length ym1,.slice yk0 R.pol.sk.rows.length yk1,.slice yf0 R.fes.length yf1,.slice yc0 R.cls.length yc1⟩ R) := ((HHc.out.own).box (HI.out wc HBc.out).2.1 (by unfold PxT; decide) (fun j hj => put9_other wc (A + 1) _ _ _ _ _ _ _ _ _ j hj)).up
      have HBQ : Hid (Below A w (((((((((wc.setCell ⟨A + 1, 0,none⟩ (.int .i64 R.now)).setCell ⟨A + 1, 1,none⟩ (.slice y0 R.ents.length y1)).setCell ⟨A + 1, 2,none⟩ (.slice yp0 R.pol.win.length yp1)).setCell ⟨A + 1, 3,none⟩ (.slice ym0 R.pol.main.length ym1)).setCell ⟨A + 1, 4,none⟩ (.slice yk0 R.pol.sk.rows.length yk1)).setCell ⟨A + 1, 5,none⟩ (.int .i64 R.pol.sk.added)).setCell ⟨A + 1, 6,none⟩ (.slice yf0 R.fes.length yf1)).setCell ⟨A + 1, 7,none⟩ (.slice yc0 R.cls.length yc1)).setCell ⟨A + 1, 8,none⟩ (.int .i64 R.hits))) := Below.put9 (HI.out wc HBc.out).2.2.2.1 (T := A + 1) (by omega) _ _ _ _ _ _ _ _ _
      clear HHc HBc
      go_wp2_with fail
      obtain ⟨q0,q1,q2,q3,q4,q5,q6,q7,q8⟩ := HQ.out.cells
      refine bodyPost_ret (v := .tuple #[.agg #[.int .i64 R.now,.slice y0 R.ents.length y1,.slice yp0 R.pol.win.length yp1,.slice ym0 R.pol.main.length ym1,.slice yk0 R.pol.sk.rows.length yk1,.int .i64 R.pol.sk.added,.slice yf0 R.fes.length yf1,.slice yc0 R.cls.length yc1,.int .i64 R.hits],.bool false]) (by simp [results,Tryz.results26,go_sem,q0,q1,q2,q3,q4,q5,q6,q7,q8]) rfl ?_
      rw [HRR.out]
      refine ⟨⟨.slice y0 R.ents.length y1,.slice yp0 R.pol.win.length yp1,.slice ym0 R.pol.main.length ym1,.slice yk0 R.pol.sk.rows.length yk1,.slice yf0 R.fes.length yf1,.slice yc0 R.cls.length yc1⟩,rfl,HOQ.out.mono (by have := HL.out; omega) (Nat.le_refl _), ?_⟩
      rw [HL.out.2.2.1]
      exact HBQ.out
     | true =>
      have cT := turnP_any wc w1.heap.size T Y R k HKL.out S'.1.text part S'.1.st (.slice a2 n2 c2) HHc.out HL.out.1 HL.out.2.1 HPS.out
      go_wp2_with fail
      refine cT.mono ?_
      rintro e w5 ⟨rfl,hH5,hb5⟩
      have HH5 : Hid (HallAt w5 w1.heap.size T Y (Prx.mk R.now R.ents R.pol (R.fes.set k ((R.fes[k]'HKL.out).turn S'.1.text S'.1.st)) (tellX R.cls k (fun c => c.w_got S'.1.text)) R.hits)) := hH5
      have HB5 : Hid (Below w1.heap.size w1 w5) := HBc.out.trans (hb5.mono (Nat.le_refl _))
      obtain ⟨R',hR'⟩ : ∃ r,(Prx.mk R.now R.ents R.pol (R.fes.set k ((R.fes[k]'HKL.out).turn S'.1.text S'.1.st)) (tellX R.cls k (fun c => c.w_got S'.1.text)) R.hits) = r := ⟨_,rfl⟩
      have HR' : Hid ((Prx.mk R.now R.ents R.pol (R.fes.set k ((R.fes[k]'HKL.out).turn S'.1.text S'.1.st)) (tellX R.cls k (fun c => c.w_got S'.1.text)) R.hits) = R') := hR'
      rw [hR'] at HH5
      have HRE : Hid (partR R (k : Int) part = (R',true)) := by
       show _ = _
       have h2 : putM (stmOf (fetAt R k)) part = S' := by rw [HF.out]; exact HS'.out
       have h3 : fetAt R k = R.fes[k]'HKL.out := by unfold fetAt; exact getD_of HKL.out
       have h1 : partR R (k : Int) part = if (turnB R (k : Int) && (putM (stmOf (fetAt R k)) part).2) = true then (partP R k part,true) else (R,false) := by unfold partR; rw [Int.toNat_natCast]
       rw [h1,HKL0.out,h2,HBO.out,if_pos (by decide), ← HR'.out]
       unfold partP
       rw [h2,h3]
      clear cT hH5 hb5 hR' n0 n1 n2'
      have HRR : Hid (partR R (k : Int) part = (R',true)) := by show _ = _; exact HRE.out
      obtain ⟨g0,g1,g2,g3,g4,g5,g6,g7,g8⟩ := HH5.out.box.cells
      obtain ⟨y0,y1,yp0,yp1,ym0,ym1,yk0,yk1,yf0,yf1,yc0,yc1,rfl⟩ := HH5.out.own.slices
      dsimp only at g1 g2 g3 g4 g6 g7
      obtain ⟨r0,r1,r2,r3,r4,r5,r6,r7,r8⟩ := (HI.out w5 HB5.out).2.1.cells
      have t0 := (HI.out w5 HB5.out).2.1.thaw 0
      have t1 := (HI.out w5 HB5.out).2.1.thaw 1
      have t2 := (HI.out w5 HB5.out).2.1.thaw 2
      have t3 := (HI.out w5 HB5.out).2.1.thaw 3
      have t4 := (HI.out w5 HB5.out).2.1.thaw 4
      have t5 := (HI.out w5 HB5.out).2.1.thaw 5
      have t6 := (HI.out w5 HB5.out).2.1.thaw 6
      have t7 := (HI.out w5 HB5.out).2.1.thaw 7
      have t8 := (HI.out w5 HB5.out).2.1.thaw 8
      have HQ : Hid (NB (((((((((w5.setCell ⟨A + 1, 0,none⟩ (.int .i64 R'.now)).setCell ⟨A + 1, 1,none⟩ (.slice y0 R'.ents.length y1)).setCell ⟨A + 1, 2,none⟩ (.slice yp0 R'.pol.win.length yp1)).setCell ⟨A + 1, 3,none⟩ (.slice ym0 R'.pol.main.length ym1)).setCell ⟨A + 1, 4,none⟩ (.slice yk0 R'.pol.sk.rows.length yk1)).setCell ⟨A + 1, 5,none⟩ (.int .i64 R'.pol.sk.added)).setCell ⟨A + 1, 6,none⟩ (.slice yf0 R'.fes.length yf1)).setCell ⟨A + 1, 7,none⟩ (.slice yc0 R'.cls.length yc1)).setCell ⟨A + 1, 8,none⟩ (.int .i64 R'.hits)) (A + 1) 36 (.int .i64 R'.now) (.slice y0 R'.ents.length y1) (.slice yp0 R'.pol.win.length yp1) (.slice ym0 R'.pol.main.length ym1) (.slice yk0 R'.pol.sk.rows.length yk1) (.int .i64 R'.pol.sk.added) (.slice yf0 R'.fes.length yf1) (.slice yc0 R'.cls.length yc1) (.int .i64 R'.hits)) := (HI.out w5 HB5.out).2.1.put _ _ _ _ _ _ _ _ _
      have HOQ : Hid (PxOwn (((((((((w5.setCell ⟨A + 1, 0,none⟩ (.int .i64 R'.now)).setCell ⟨A + 1, 1,none⟩ (.slice y0 R'.ents.length y1)).setCell ⟨A + 1, 2,none⟩ (.slice yp0 R'.pol.win.length yp1)).setCell ⟨A + 1, 3,none⟩ (.slice ym0 R'.pol.main.length ym1)).setCell ⟨A + 1, 4,none⟩ (.slice yk0 R'.pol.sk.rows.length yk1)).setCell ⟨A + 1, 5,none⟩ (.int .i64 R'.pol.sk.added)).setCell ⟨A + 1, 6,none⟩ (.slice yf0 R'.fes.length yf1)).setCell ⟨A + 1, 7,none⟩ (.slice yc0 R'.cls.length yc1)).setCell ⟨A + 1, 8,none⟩ (.int .i64 R'.hits)) w1.heap.size (((((((((w5.setCell ⟨A + 1, 0,none⟩ (.int .i64 R'.now)).setCell ⟨A + 1, 1,none⟩ (.slice y0 R'.ents.length y1)).setCell ⟨A + 1, 2,none⟩ (.slice yp0 R'.pol.win.length yp1)).setCell ⟨A + 1, 3,none⟩ (.slice ym0 R'.pol.main.length ym1)).setCell ⟨A + 1, 4,none⟩ (.slice yk0 R'.pol.sk.rows.length yk1)).setCell ⟨A + 1, 5,none⟩ (.int .i64 R'.pol.sk.added)).setCell ⟨A + 1, 6,none⟩ (.slice yf0 R'.fes.length yf1)).setCell ⟨A + 1, 7,none⟩ (.slice yc0 R'.cls.length yc1)).setCell ⟨A + 1, 8,none⟩ (.int .i64 R'.hits)).heap.size ⟨.slice y0 R'.ents.length y1,.slice yp0 R'.pol.win.length yp1,.slice ym0 R'.pol.main.length ym1,.slice yk0 R'.pol.sk.rows.length yk1,.slice yf0 R'.fes.length yf1,.slice yc0 R'.cls.length yc1⟩ R') := ((HH5.out.own).box (HI.out w5 HB5.out).2.1 (by unfold PxT; decide) (fun j hj => put9_other w5 (A + 1) _ _ _ _ _ _ _ _ _ j hj)).up
      have HBQ : Hid (Below A w (((((((((w5.setCell ⟨A + 1, 0,none⟩ (.int .i64 R'.now)).setCell ⟨A + 1, 1,none⟩ (.slice y0 R'.ents.length y1)).setCell ⟨A + 1, 2,none⟩ (.slice yp0 R'.pol.win.length yp1)).setCell ⟨A + 1, 3,none⟩ (.slice ym0 R'.pol.main.length ym1)).setCell ⟨A + 1, 4,none⟩ (.slice yk0 R'.pol.sk.rows.length yk1)).setCell ⟨A + 1, 5,none⟩ (.int .i64 R'.pol.sk.added)).setCell ⟨A + 1, 6,none⟩ (.slice yf0 R'.fes.length yf1)).setCell ⟨A + 1, 7,none⟩ (.slice yc0 R'.cls.length yc1)).setCell ⟨A + 1, 8,none⟩ (.int .i64 R'.hits))) := Below.put9 (HI.out w5 HB5.out).2.2.2.1 (T := A + 1) (by omega) _ _ _ _ _ _ _ _ _
      clear HH5 HB5
      go_wp2_with fail
      obtain ⟨q0,q1,q2,q3,q4,q5,q6,q7,q8⟩ := HQ.out.cells
      refine bodyPost_ret (v := .tuple #[.agg #[.int .i64 R'.now,.slice y0 R'.ents.length y1,.slice yp0 R'.pol.win.length yp1,.slice ym0 R'.pol.main.length ym1,.slice yk0 R'.pol.sk.rows.length yk1,.int .i64 R'.pol.sk.added,.slice yf0 R'.fes.length yf1,.slice yc0 R'.cls.length yc1,.int .i64 R'.hits],.bool true]) (by simp [results,Tryz.results26,go_sem,q0,q1,q2,q3,q4,q5,q6,q7,q8]) rfl ?_
      rw [HRR.out]
      refine ⟨⟨.slice y0 R'.ents.length y1,.slice yp0 R'.pol.win.length yp1,.slice ym0 R'.pol.main.length ym1,.slice yk0 R'.pol.sk.rows.length yk1,.slice yf0 R'.fes.length yf1,.slice yc0 R'.cls.length yc1⟩,rfl,HOQ.out.mono (by have := HL.out; omega) (Nat.le_refl _), ?_⟩
      rw [HL.out.2.2.1]
      exact HBQ.out
end Go.Proofs.YtaahjcljanckaaaGreatDoor
