/- Texts that stand in one: CloseI, HitsKit, Cursor, Draws, DrawTurn, Big. -/
import Derived.Test.YtaahjcljanckaaaGreatDoorTurnedC
import Derived.Test.YtaahjcljanckaaaGreatDoorHitsPlainJ
import Derived.Test.YtaahjcljanckaaaGreatDoorAskForI
import Derived.Test.YtaahjcljanckaaaGreatDoorPartOfIJ
import Derived.Test.YtaahjcljanckaaaGreatDoorPolOkSzJ
import Derived.Test.YtaahjcljanckaaaGreatDoorSkBaseJ
import Derived.BigQuiet
import Derived.Laws.Bits128
import Derived.Deep.RegionHeld3
namespace Go.Proofs.YtaahjcljanckaaaGreatDoor
open Go.RowKit Go.Sort
set_option maxRecDepth 100000 in
set_option maxHeartbeats 8000000 in
theorem implCloseFetch_any (w : World) (X : Pc) (R : Prx) (z life : Int) (hA : PxAt w X R w.heap.size) (hsz : PxSz R) (hcap : RoomF X.f R.fes.length) (htab : Tab w) :
  Calls Tryz.prog 10 #[.agg #[.int .i64 R.now,X.e,X.w,X.m,X.k,.int .i64 R.pol.sk.added,X.f,X.c,.int .i64 R.hits],.int .i64 z,.int .i64 life] w fun e w' => ∃ Y : Pc,e = .returned (.tuple #[.agg #[.int .i64 (closeR R z life).1.now,Y.e,Y.w,Y.m,Y.k,.int .i64 (closeR R z life).1.pol.sk.added,Y.f,Y.c,.int .i64 (closeR R z life).1.hits],.bool (closeR R z life).2]) ∧ PxOwn w' w.heap.size w'.heap.size Y (closeR R z life).1 ∧ Below w.heap.size w w' := by
 obtain ⟨e0,e1,p0,p1,m0,m1,k0,k1,f0,f1,c0,c1,rfl⟩ := hA.slices
 dsimp only at hcap ⊢
 obtain ⟨A,hAA⟩ : ∃ A,w.heap.size = A := ⟨_,rfl⟩
 obtain ⟨w0,hw0⟩ : ∃ x,w.alloc (.cells #[.int .i64 R.now,.slice e0 R.ents.length e1,.slice p0 R.pol.win.length p1,.slice m0 R.pol.main.length m1,.slice k0 R.pol.sk.rows.length k1,.int .i64 R.pol.sk.added,.slice f0 R.fes.length f1,.slice c0 R.cls.length c1,.int .i64 R.hits] 36) = x := ⟨_,rfl⟩
 obtain ⟨w1,hw1⟩ : ∃ x,w0.alloc (.cells #[.int .i64 0,.slice none 0 0,.slice none 0 0,.slice none 0 0,.slice none 0 0,.int .i64 0,.slice none 0 0,.slice none 0 0,.int .i64 0] 36) = x := ⟨_,rfl⟩
 have hb0 : Below w.heap.size w w0 := by rw [← hw0]; exact (Below.refl _ _).alloc (Nat.le_refl _) _
 have hb01 : Below w0.heap.size w0 w1 := by rw [← hw1]; exact (Below.refl _ _).alloc (Nat.le_refl _) _
 have s0 : w0.heap.size = A + 1 := by rw [← hw0]; simp [hAA]
 have s1 : w1.heap.size = A + 2 := by rw [← hw1]; simp; omega
 have hb1 : Below w.heap.size w w1 := hb0.trans (hb01.mono hb0.size)
 have hB : NB w1 A 36 (.int .i64 R.now) (.slice e0 R.ents.length e1) (.slice p0 R.pol.win.length p1) (.slice m0 R.pol.main.length m1) (.slice k0 R.pol.sk.rows.length k1) (.int .i64 R.pol.sk.added) (.slice f0 R.fes.length f1) (.slice c0 R.cls.length c1) (.int .i64 R.hits) := by
  have h : NB w0 A 36 (.int .i64 R.now) (.slice e0 R.ents.length e1) (.slice p0 R.pol.win.length p1) (.slice m0 R.pol.main.length m1) (.slice k0 R.pol.sk.rows.length k1) (.int .i64 R.pol.sk.added) (.slice f0 R.fes.length f1) (.slice c0 R.cls.length c1) (.int .i64 R.hits) := by rw [← hw0, ← hAA]; exact NB.new _ _ _ _ _ _ _ _ _ _ _
  exact h.on hb01
 have hR : NB w1 (A + 1) 36 (.int .i64 0) (.slice none 0 0) (.slice none 0 0) (.slice none 0 0) (.slice none 0 0) (.int .i64 0) (.slice none 0 0) (.slice none 0 0) (.int .i64 0) := by rw [← hw1, ← s0]; exact NB.new _ _ _ _ _ _ _ _ _ _ _
 have HW : Hid ((w.alloc (.cells #[.int .i64 R.now,.slice e0 R.ents.length e1,.slice p0 R.pol.win.length p1,.slice m0 R.pol.main.length m1,.slice k0 R.pol.sk.rows.length k1,.int .i64 R.pol.sk.added,.slice f0 R.fes.length f1,.slice c0 R.cls.length c1,.int .i64 R.hits] 36)).alloc (.cells #[.int .i64 0,.slice none 0 0,.slice none 0 0,.slice none 0 0,.slice none 0 0,.int .i64 0,.slice none 0 0,.slice none 0 0,.int .i64 0] 36) = w1) := by show _ = _; rw [hw0]; exact hw1
 have HR1 : Hid (NB w1 (A + 1) 36 (.int .i64 0) (.slice none 0 0) (.slice none 0 0) (.slice none 0 0) (.slice none 0 0) (.int .i64 0) (.slice none 0 0) (.slice none 0 0) (.int .i64 0)) := hR
 have HB1 : Hid (Below A w w1 ∧ w.heap.size = A ∧ w1.heap.size = A + 2) := ⟨by rw [← hAA]; exact hb1,hAA,s1⟩
 have cT := turnedC_any w1 ⟨.slice e0 R.ents.length e1,.slice p0 R.pol.win.length p1,.slice m0 R.pol.main.length m1,.slice k0 R.pol.sk.rows.length k1,.slice f0 R.fes.length f1,.slice c0 R.cls.length c1⟩ R z life (hA.on hb1) hsz hcap (htab.below hb1 (Nat.le_refl _))
 dsimp only at cT
 obtain ⟨r,hr⟩ : ∃ r,(closeR R z life) = r := ⟨_,rfl⟩
 obtain ⟨R',b⟩ := r
 rw [hr] at cT ⊢
 dsimp only at cT ⊢
 obtain ⟨b0,b1,b2,b3,b4,b5,b6,b7,b8⟩ := hB.cells
 rw [← hw1, ← hw0] at b0 b1 b2 b3 b4 b5 b6 b7 b8
 clear hw0 hw1 hb0 hb01 s0 hb1 hB hR hA hsz hcap s1 hr htab
 go_enter Tryz.func10,Tryz.ntmps10
 go_wp2_with fail
 rw [HW.out] at b0 b1 b2 b3 b4 b5 b6 b7 b8 ⊢
 refine cT.mono ?_
 rintro e w5 ⟨Y,he,ho,hb5⟩
 clear cT b0 b1 b2 b3 b4 b5 b6 b7 b8
 obtain ⟨y0,y1,yp0,yp1,ym0,ym1,yk0,yk1,yf0,yf1,yc0,yc1,rfl⟩ := ho.slices
 dsimp only at he
 subst he
 have hR5 := HR1.out.on hb5
 obtain ⟨r0,r1,r2,r3,r4,r5,r6,r7,r8⟩ := hR5.cells
 have t0 := hR5.thaw 0
 have t1 := hR5.thaw 1
 have t2 := hR5.thaw 2
 have t3 := hR5.thaw 3
 have t4 := hR5.thaw 4
 have t5 := hR5.thaw 5
 have t6 := hR5.thaw 6
 have t7 := hR5.thaw 7
 have t8 := hR5.thaw 8
 have HQ : Hid (NB (((((((((w5.setCell ⟨A + 1, 0,none⟩ (.int .i64 R'.now)).setCell ⟨A + 1, 1,none⟩ (.slice y0 R'.ents.length y1)).setCell ⟨A + 1, 2,none⟩ (.slice yp0 R'.pol.win.length yp1)).setCell ⟨A + 1, 3,none⟩ (.slice ym0 R'.pol.main.length ym1)).setCell ⟨A + 1, 4,none⟩ (.slice yk0 R'.pol.sk.rows.length yk1)).setCell ⟨A + 1, 5,none⟩ (.int .i64 R'.pol.sk.added)).setCell ⟨A + 1, 6,none⟩ (.slice yf0 R'.fes.length yf1)).setCell ⟨A + 1, 7,none⟩ (.slice yc0 R'.cls.length yc1)).setCell ⟨A + 1, 8,none⟩ (.int .i64 R'.hits)) (A + 1) 36 (.int .i64 R'.now) (.slice y0 R'.ents.length y1) (.slice yp0 R'.pol.win.length yp1) (.slice ym0 R'.pol.main.length ym1) (.slice yk0 R'.pol.sk.rows.length yk1) (.int .i64 R'.pol.sk.added) (.slice yf0 R'.fes.length yf1) (.slice yc0 R'.cls.length yc1) (.int .i64 R'.hits)) := hR5.put _ _ _ _ _ _ _ _ _
 have HOQ : Hid (PxOwn (((((((((w5.setCell ⟨A + 1, 0,none⟩ (.int .i64 R'.now)).setCell ⟨A + 1, 1,none⟩ (.slice y0 R'.ents.length y1)).setCell ⟨A + 1, 2,none⟩ (.slice yp0 R'.pol.win.length yp1)).setCell ⟨A + 1, 3,none⟩ (.slice ym0 R'.pol.main.length ym1)).setCell ⟨A + 1, 4,none⟩ (.slice yk0 R'.pol.sk.rows.length yk1)).setCell ⟨A + 1, 5,none⟩ (.int .i64 R'.pol.sk.added)).setCell ⟨A + 1, 6,none⟩ (.slice yf0 R'.fes.length yf1)).setCell ⟨A + 1, 7,none⟩ (.slice yc0 R'.cls.length yc1)).setCell ⟨A + 1, 8,none⟩ (.int .i64 R'.hits)) w1.heap.size (((((((((w5.setCell ⟨A + 1, 0,none⟩ (.int .i64 R'.now)).setCell ⟨A + 1, 1,none⟩ (.slice y0 R'.ents.length y1)).setCell ⟨A + 1, 2,none⟩ (.slice yp0 R'.pol.win.length yp1)).setCell ⟨A + 1, 3,none⟩ (.slice ym0 R'.pol.main.length ym1)).setCell ⟨A + 1, 4,none⟩ (.slice yk0 R'.pol.sk.rows.length yk1)).setCell ⟨A + 1, 5,none⟩ (.int .i64 R'.pol.sk.added)).setCell ⟨A + 1, 6,none⟩ (.slice yf0 R'.fes.length yf1)).setCell ⟨A + 1, 7,none⟩ (.slice yc0 R'.cls.length yc1)).setCell ⟨A + 1, 8,none⟩ (.int .i64 R'.hits)).heap.size ⟨.slice y0 R'.ents.length y1,.slice yp0 R'.pol.win.length yp1,.slice ym0 R'.pol.main.length ym1,.slice yk0 R'.pol.sk.rows.length yk1,.slice yf0 R'.fes.length yf1,.slice yc0 R'.cls.length yc1⟩ R') := ((ho.up).box hR5 (by unfold PxT; decide) (fun j hj => put9_other w5 (A + 1) _ _ _ _ _ _ _ _ _ j hj)).up
 have HBQ : Hid (Below A w (((((((((w5.setCell ⟨A + 1, 0,none⟩ (.int .i64 R'.now)).setCell ⟨A + 1, 1,none⟩ (.slice y0 R'.ents.length y1)).setCell ⟨A + 1, 2,none⟩ (.slice yp0 R'.pol.win.length yp1)).setCell ⟨A + 1, 3,none⟩ (.slice ym0 R'.pol.main.length ym1)).setCell ⟨A + 1, 4,none⟩ (.slice yk0 R'.pol.sk.rows.length yk1)).setCell ⟨A + 1, 5,none⟩ (.int .i64 R'.pol.sk.added)).setCell ⟨A + 1, 6,none⟩ (.slice yf0 R'.fes.length yf1)).setCell ⟨A + 1, 7,none⟩ (.slice yc0 R'.cls.length yc1)).setCell ⟨A + 1, 8,none⟩ (.int .i64 R'.hits))) := Below.put9 (HB1.out.1.trans (hb5.mono (by have := HB1.out.2.2; omega))) (T := A + 1) (by omega) _ _ _ _ _ _ _ _ _
 clear hR5 ho hb5
 go_wp2_with fail
 obtain ⟨q0,q1,q2,q3,q4,q5,q6,q7,q8⟩ := HQ.out.cells
 refine bodyPost_ret (v := .tuple #[.agg #[.int .i64 R'.now,.slice y0 R'.ents.length y1,.slice yp0 R'.pol.win.length yp1,.slice ym0 R'.pol.main.length ym1,.slice yk0 R'.pol.sk.rows.length yk1,.int .i64 R'.pol.sk.added,.slice yf0 R'.fes.length yf1,.slice yc0 R'.cls.length yc1,.int .i64 R'.hits],.bool b]) (by simp [results,Tryz.results10,go_sem,q0,q1,q2,q3,q4,q5,q6,q7,q8]) rfl ?_
 refine ⟨⟨.slice y0 R'.ents.length y1,.slice yp0 R'.pol.win.length yp1,.slice ym0 R'.pol.main.length ym1,.slice yk0 R'.pol.sk.rows.length yk1,.slice yf0 R'.fes.length yf1,.slice yc0 R'.cls.length yc1⟩,rfl,HOQ.out.mono (by have := HB1.out; omega) (Nat.le_refl _), ?_⟩
 rw [HB1.out.2.1]
 exact HBQ.out
structure PVar (w : World) (lo T : Nat) (X : Pc) (R : Prx) : Prop where
 le : lo ≤ T
 box : NB w T 36 (.int .i64 R.now) X.e X.w X.m X.k (.int .i64 R.pol.sk.added) X.f X.c (.int .i64 R.hits)
 own : PxOwn w lo w.heap.size X R
theorem PVar.lt {w : World} {lo T : Nat} {X : Pc} {R : Prx} (h : PVar w lo T X R) : T < w.heap.size := h.box.lt
theorem PVar.on {w w' : World} {lo T : Nat} {X : Pc} {R : Prx} (h : PVar w lo T X R) (hb : Below w.heap.size w w') : PVar w' lo T X R := ⟨h.le,h.box.on hb,(h.own.below hb (Nat.le_refl _)).up⟩
theorem PVar.new {w : World} {lo : Nat} {X : Pc} {R : Prx} (h : PxOwn w lo w.heap.size X R) (hlo : lo ≤ w.heap.size) :
  PVar (w.alloc (.cells #[.int .i64 R.now,X.e,X.w,X.m,X.k,.int .i64 R.pol.sk.added,X.f,X.c,.int .i64 R.hits] 36)) lo w.heap.size X R :=
 ⟨hlo,NB.new _ _ _ _ _ _ _ _ _ _ _,(h.below ((Below.refl _ _).alloc (Nat.le_refl _) _) (Nat.le_refl _)).up⟩
def putPx (w : World) (T : Nat) (X : Pc) (R : Prx) : World := (((((((((w.setCell ⟨T, 0,none⟩ (.int .i64 R.now)).setCell ⟨T, 1,none⟩ X.e).setCell ⟨T, 2,none⟩ X.w).setCell ⟨T, 3,none⟩ X.m).setCell ⟨T, 4,none⟩ X.k).setCell ⟨T, 5,none⟩ (.int .i64 R.pol.sk.added)).setCell ⟨T, 6,none⟩ X.f).setCell ⟨T, 7,none⟩ X.c).setCell ⟨T, 8,none⟩ (.int .i64 R.hits))
theorem putPx_size (w : World) (T : Nat) (X : Pc) (R : Prx) : (putPx w T X R).heap.size = w.heap.size := put9_size _ _ _ _ _ _ _ _ _ _ _
theorem below_putPx {B : Nat} {a w : World} (h : Below B a w) {T : Nat} (hT : B ≤ T) (X : Pc) (R : Prx) : Below B a (putPx w T X R) := Below.put9 h hT _ _ _ _ _ _ _ _ _
theorem PVar.fill {w : World} {lo lo' T : Nat} {a0 a1 a2 a3 a4 a5 a6 a7 a8 : Value} {X : Pc} {R : Prx} (hB : NB w T 36 a0 a1 a2 a3 a4 a5 a6 a7 a8) (ho : PxOwn w lo' w.heap.size X R) (hl : lo ≤ lo') (hT : lo ≤ T) : PVar (putPx w T X R) lo T X R := by
 refine ⟨hT,hB.put _ _ _ _ _ _ _ _ _, ?_⟩
 have h1 : PxOwn (putPx w T X R) lo' w.heap.size X R := ho.box hB (by unfold PxT; decide) fun k hk => put9_other _ _ _ _ _ _ _ _ _ _ _ k hk
 rw [putPx_size]
 exact h1.mono hl (Nat.le_refl _)
theorem PVar.step {w w2 : World} {lo T : Nat} {X Y : Pc} {R S : Prx} (h : PVar w lo T X R) (hb : Below w.heap.size w w2) (ho : PxOwn w2 w.heap.size w2.heap.size Y S) : PVar (putPx w2 T Y S) lo T Y S :=
 PVar.fill (h.box.on hb) ho (by have := h.le; have := h.lt; omega) h.le
theorem newP1_any (w : World) (S : Prx) (hS : newR = S) :
  Calls Tryz.prog 7 #[] w fun e w' => ∃ Y : Pc,e = .returned (.agg #[.int .i64 S.now,Y.e,Y.w,Y.m,Y.k,.int .i64 S.pol.sk.added,Y.f,Y.c,.int .i64 S.hits]) ∧ PxOwn w' w.heap.size w'.heap.size Y S ∧ Below w.heap.size w w' := by
 subst hS
 exact implProxyNew_any w
theorem passP0_any {w : World} {lo : Nat} {e0 : Option Addr} {e1 : Nat} {p0 : Option Addr} {p1 : Nat} {m0 : Option Addr} {m1 : Nat} {k0 : Option Addr} {k1 : Nat} {f0 : Option Addr} {f1 : Nat} {c0 : Option Addr} {c1 : Nat} {R S : Prx} (hO : PxOwn w lo w.heap.size ⟨.slice e0 R.ents.length e1,.slice p0 R.pol.win.length p1,.slice m0 R.pol.main.length m1,.slice k0 R.pol.sk.rows.length k1,.slice f0 R.fes.length f1,.slice c0 R.cls.length c1⟩ R) (hs : PxSz R) (hm : PxM R) (n : Int) (hS : passR R n = S) :
  Calls Tryz.prog 6 #[.agg #[.int .i64 R.now,.slice e0 R.ents.length e1,.slice p0 R.pol.win.length p1,.slice m0 R.pol.main.length m1,.slice k0 R.pol.sk.rows.length k1,.int .i64 R.pol.sk.added,.slice f0 R.fes.length f1,.slice c0 R.cls.length c1,.int .i64 R.hits],.int .i64 n] w fun e w' => ∃ Y : Pc,e = .returned (.agg #[.int .i64 S.now,Y.e,Y.w,Y.m,Y.k,.int .i64 S.pol.sk.added,Y.f,Y.c,.int .i64 S.hits]) ∧ PxOwn w' w.heap.size w'.heap.size Y S ∧ Below w.heap.size w w' := by
 subst hS
 exact implPassTime_any w ⟨.slice e0 R.ents.length e1,.slice p0 R.pol.win.length p1,.slice m0 R.pol.main.length m1,.slice k0 R.pol.sk.rows.length k1,.slice f0 R.fes.length f1,.slice c0 R.cls.length c1⟩ R n hO.at hs hm
theorem passP1_any {w : World} {lo T : Nat} {e0 : Option Addr} {e1 : Nat} {p0 : Option Addr} {p1 : Nat} {m0 : Option Addr} {m1 : Nat} {k0 : Option Addr} {k1 : Nat} {f0 : Option Addr} {f1 : Nat} {c0 : Option Addr} {c1 : Nat} {R S : Prx} (hV : PVar w lo T ⟨.slice e0 R.ents.length e1,.slice p0 R.pol.win.length p1,.slice m0 R.pol.main.length m1,.slice k0 R.pol.sk.rows.length k1,.slice f0 R.fes.length f1,.slice c0 R.cls.length c1⟩ R) (hs : PxSz R) (hm : PxM R) (n : Int) (hS : passR R n = S) :
  Calls Tryz.prog 6 #[.agg #[.int .i64 R.now,.slice e0 R.ents.length e1,.slice p0 R.pol.win.length p1,.slice m0 R.pol.main.length m1,.slice k0 R.pol.sk.rows.length k1,.int .i64 R.pol.sk.added,.slice f0 R.fes.length f1,.slice c0 R.cls.length c1,.int .i64 R.hits],.int .i64 n] w fun e w' => ∃ Y : Pc,e = .returned (.agg #[.int .i64 S.now,Y.e,Y.w,Y.m,Y.k,.int .i64 S.pol.sk.added,Y.f,Y.c,.int .i64 S.hits]) ∧ PxOwn w' w.heap.size w'.heap.size Y S ∧ Below w.heap.size w w' := passP0_any hV.own hs hm n hS
theorem askP1_any {w : World} {lo T : Nat} {e0 : Option Addr} {e1 : Nat} {p0 : Option Addr} {p1 : Nat} {m0 : Option Addr} {m1 : Nat} {k0 : Option Addr} {k1 : Nat} {f0 : Option Addr} {f1 : Nat} {c0 : Option Addr} {c1 : Nat} {R S : Prx} (hV : PVar w lo T ⟨.slice e0 R.ents.length e1,.slice p0 R.pol.win.length p1,.slice m0 R.pol.main.length m1,.slice k0 R.pol.sk.rows.length k1,.slice f0 R.fes.length f1,.slice c0 R.cls.length c1⟩ R) (hs : PxSz R) (id : Int) (key : ByteArray) (hk : key.size ≤ 1048576) (ht : Tab w) (o : Int) (hS : askR R id key = (S,o)) :
  Calls Tryz.prog 8 #[.agg #[.int .i64 R.now,.slice e0 R.ents.length e1,.slice p0 R.pol.win.length p1,.slice m0 R.pol.main.length m1,.slice k0 R.pol.sk.rows.length k1,.int .i64 R.pol.sk.added,.slice f0 R.fes.length f1,.slice c0 R.cls.length c1,.int .i64 R.hits],.int .i64 id,.string key] w fun e w' => ∃ Y : Pc,e = .returned (.tuple #[.agg #[.int .i64 S.now,Y.e,Y.w,Y.m,Y.k,.int .i64 S.pol.sk.added,Y.f,Y.c,.int .i64 S.hits],.int .i64 o]) ∧ PxOwn w' w.heap.size w'.heap.size Y S ∧ Below w.heap.size w w' := by
 have h := implAskFor_any w ⟨.slice e0 R.ents.length e1,.slice p0 R.pol.win.length p1,.slice m0 R.pol.main.length m1,.slice k0 R.pol.sk.rows.length k1,.slice f0 R.fes.length f1,.slice c0 R.cls.length c1⟩ R id key hV.own.at hs hV.own.roomF hk ht
 rw [hS] at h
 exact h
theorem partP1_any {w : World} {lo T : Nat} {e0 : Option Addr} {e1 : Nat} {p0 : Option Addr} {p1 : Nat} {m0 : Option Addr} {m1 : Nat} {k0 : Option Addr} {k1 : Nat} {f0 : Option Addr} {f1 : Nat} {c0 : Option Addr} {c1 : Nat} {R S : Prx} (hV : PVar w lo T ⟨.slice e0 R.ents.length e1,.slice p0 R.pol.win.length p1,.slice m0 R.pol.main.length m1,.slice k0 R.pol.sk.rows.length k1,.slice f0 R.fes.length f1,.slice c0 R.cls.length c1⟩ R) (hs : PxSz R) (z : Int) (part : ByteArray) (hk : part.size ≤ 1048576) (o : Bool) (hS : partR R z part = (S,o)) :
  Calls Tryz.prog 9 #[.agg #[.int .i64 R.now,.slice e0 R.ents.length e1,.slice p0 R.pol.win.length p1,.slice m0 R.pol.main.length m1,.slice k0 R.pol.sk.rows.length k1,.int .i64 R.pol.sk.added,.slice f0 R.fes.length f1,.slice c0 R.cls.length c1,.int .i64 R.hits],.int .i64 z,.string part] w fun e w' => ∃ Y : Pc,e = .returned (.tuple #[.agg #[.int .i64 S.now,Y.e,Y.w,Y.m,Y.k,.int .i64 S.pol.sk.added,Y.f,Y.c,.int .i64 S.hits],.bool o]) ∧ PxOwn w' w.heap.size w'.heap.size Y S ∧ Below w.heap.size w w' := by
 have h := implPartOf_any w ⟨.slice e0 R.ents.length e1,.slice p0 R.pol.win.length p1,.slice m0 R.pol.main.length m1,.slice k0 R.pol.sk.rows.length k1,.slice f0 R.fes.length f1,.slice c0 R.cls.length c1⟩ R z part hV.own.at hs hV.own.roomF hk
 rw [hS] at h
 exact h
theorem closeP1_any {w : World} {lo T : Nat} {e0 : Option Addr} {e1 : Nat} {p0 : Option Addr} {p1 : Nat} {m0 : Option Addr} {m1 : Nat} {k0 : Option Addr} {k1 : Nat} {f0 : Option Addr} {f1 : Nat} {c0 : Option Addr} {c1 : Nat} {R S : Prx} (hV : PVar w lo T ⟨.slice e0 R.ents.length e1,.slice p0 R.pol.win.length p1,.slice m0 R.pol.main.length m1,.slice k0 R.pol.sk.rows.length k1,.slice f0 R.fes.length f1,.slice c0 R.cls.length c1⟩ R) (hs : PxSz R) (z life : Int) (ht : Tab w) (o : Bool) (hS : closeR R z life = (S,o)) :
  Calls Tryz.prog 10 #[.agg #[.int .i64 R.now,.slice e0 R.ents.length e1,.slice p0 R.pol.win.length p1,.slice m0 R.pol.main.length m1,.slice k0 R.pol.sk.rows.length k1,.int .i64 R.pol.sk.added,.slice f0 R.fes.length f1,.slice c0 R.cls.length c1,.int .i64 R.hits],.int .i64 z,.int .i64 life] w fun e w' => ∃ Y : Pc,e = .returned (.tuple #[.agg #[.int .i64 S.now,Y.e,Y.w,Y.m,Y.k,.int .i64 S.pol.sk.added,Y.f,Y.c,.int .i64 S.hits],.bool o]) ∧ PxOwn w' w.heap.size w'.heap.size Y S ∧ Below w.heap.size w w' := by
 have h := implCloseFetch_any w ⟨.slice e0 R.ents.length e1,.slice p0 R.pol.win.length p1,.slice m0 R.pol.main.length m1,.slice k0 R.pol.sk.rows.length k1,.slice f0 R.fes.length f1,.slice c0 R.cls.length c1⟩ R z life hV.own.at hs hV.own.roomF ht
 rw [hS] at h
 exact h
theorem okP1_any {w : World} {lo T : Nat} {e0 : Option Addr} {e1 : Nat} {p0 : Option Addr} {p1 : Nat} {m0 : Option Addr} {m1 : Nat} {k0 : Option Addr} {k1 : Nat} {f0 : Option Addr} {f1 : Nat} {c0 : Option Addr} {c1 : Nat} {R : Prx} (hV : PVar w lo T ⟨.slice e0 R.ents.length e1,.slice p0 R.pol.win.length p1,.slice m0 R.pol.main.length m1,.slice k0 R.pol.sk.rows.length k1,.slice f0 R.fes.length f1,.slice c0 R.cls.length c1⟩ R) (hs : PxSz R) (o : Bool) (hS : okX R = o) :
  Calls Tryz.prog 12 #[.agg #[.int .i64 R.now,.slice e0 R.ents.length e1,.slice p0 R.pol.win.length p1,.slice m0 R.pol.main.length m1,.slice k0 R.pol.sk.rows.length k1,.int .i64 R.pol.sk.added,.slice f0 R.fes.length f1,.slice c0 R.cls.length c1,.int .i64 R.hits]] w fun e w' => e = .returned (.bool o) ∧ Below w.heap.size w w' := by
 have h := implProxyOk_any w ⟨.slice e0 R.ents.length e1,.slice p0 R.pol.win.length p1,.slice m0 R.pol.main.length m1,.slice k0 R.pol.sk.rows.length k1,.slice f0 R.fes.length f1,.slice c0 R.cls.length c1⟩ R hV.own.at hs hV.own.roomF
 rw [hS] at h
 exact h
end Go.Proofs.YtaahjcljanckaaaGreatDoor
namespace Go.Proofs.YtaahjcljanckaaaGreatDoor
open Go.RowKit
def CodeAt (w : World) (ca : Option Addr) (n : Nat) (B : Nat) : Prop :=
 ∀ j,j < n → ∃ b off, ∃ z : Int,ca = some ⟨b,off,none⟩ ∧ b < B ∧ w.cell? ⟨b,off + j,none⟩ = some (.int .u8 z) ∧ 0 ≤ z ∧ z ≤ 255
def CurIs (w : World) (p : Nat) (ca : Option Addr) (n cap : Nat) (i h : Int) : Prop :=
 w.heap[p]? = some (.cells #[.slice ca n cap,.int .i64 i,.int .i64 h] 79 (0, 0))
def Cur (w : World) (p : Nat) (ca : Option Addr) (n cap : Nat) : Prop := ∃ i h : Int,CurIs w p ca n cap i h ∧ 0 ≤ i ∧ i ≤ n ∧ -9223372036854775808 ≤ h ∧ h ≤ 9223372036854775807
theorem CurIs.c0 {w : World} {p : Nat} {ca : Option Addr} {n cap : Nat} {i h : Int} (c : CurIs w p ca n cap i h) : w.cell? ⟨p, 0,none⟩ = some (.slice ca n cap) := by unfold CurIs at c; simp [World.cell?,c]
theorem CurIs.c1 {w : World} {p : Nat} {ca : Option Addr} {n cap : Nat} {i h : Int} (c : CurIs w p ca n cap i h) : w.cell? ⟨p, 1,none⟩ = some (.int .i64 i) := by unfold CurIs at c; simp [World.cell?,c]
theorem CurIs.c2 {w : World} {p : Nat} {ca : Option Addr} {n cap : Nat} {i h : Int} (c : CurIs w p ca n cap i h) : w.cell? ⟨p, 2,none⟩ = some (.int .i64 h) := by unfold CurIs at c; simp [World.cell?,c]
theorem CurIs.fr {w : World} {p : Nat} {ca : Option Addr} {n cap : Nat} {i h : Int} (c : CurIs w p ca n cap i h) (j : Nat) : w.frozen? ⟨p,j,none⟩ = false := by unfold CurIs at c; simp [World.frozen?,c]
theorem CurIs.set2 {w : World} {p : Nat} {ca : Option Addr} {n cap : Nat} {i h : Int} (c : CurIs w p ca n cap i h) (h' : Int) : CurIs (w.setCell ⟨p, 2,none⟩ (.int .i64 h')) p ca n cap i h' := by
 unfold CurIs at *
 rw [heap_setCell_same w p 2 _ _ _ c]
 rfl
theorem CurIs.set1 {w : World} {p : Nat} {ca : Option Addr} {n cap : Nat} {i h : Int} (c : CurIs w p ca n cap i h) (i' : Int) : CurIs (w.setCell ⟨p, 1,none⟩ (.int .i64 i')) p ca n cap i' h := by
 unfold CurIs at *
 rw [heap_setCell_same w p 1 _ _ _ c]
 rfl
theorem i64_and255 (n : Int) : bits .and .i64 n 255 = n % 256 := by
 have hm : (BitVec.ofInt 64 255).toNat = 2 ^ 8 - 1 := by decide
 have key : (BitVec.ofInt 64 n &&& BitVec.ofInt 64 255).toNat = (n % ((2 ^ 64 : Nat) : Int)).toNat % 2 ^ 8 := by
  rw [BitVec.toNat_and,BitVec.toNat_ofInt,hm,Nat.and_two_pow_sub_one_eq_mod]
 show IntKind.i64.wrap ((BitVec.ofInt 64 n &&& BitVec.ofInt 64 255).toNat : Nat) = n % 256
 rw [key,IntKind.wrap_i64]
 omega
theorem i64_and30 (n : Int) : bits .and .i64 n 1073741823 = n % 1073741824 := by
 have hm : (BitVec.ofInt 64 1073741823).toNat = 2 ^ 30 - 1 := by decide
 have key : (BitVec.ofInt 64 n &&& BitVec.ofInt 64 1073741823).toNat = (n % ((2 ^ 64 : Nat) : Int)).toNat % 2 ^ 30 := by
  rw [BitVec.toNat_and,BitVec.toNat_ofInt,hm,Nat.and_two_pow_sub_one_eq_mod]
 show IntKind.i64.wrap ((BitVec.ofInt 64 n &&& BitVec.ofInt 64 1073741823).toNat : Nat) = n % 1073741824
 rw [key,IntKind.wrap_i64]
 omega
theorem wrap64_bd (x : Int) : -9223372036854775808 ≤ wrap64 x ∧ wrap64 x ≤ 9223372036854775807 := by unfold wrap64; omega
theorem grownBy_same {a b b' : World} {row : Option Nat} (h : a.grownBy b row) (h1 : b'.os = b.os) (h2 : b'.tape = b.tape) (h3 : b'.output = b.output) (h4 : b'.heap = b.heap) : a.grownBy b' row :=
 ⟨h1.trans h.os,h2.trans h.tape,h3.trans h.output,by rw [h4]; exact h.size,fun k hk hr => by rw [h4]; exact h.block k hk hr⟩
theorem CurIs.same {w w' : World} {p : Nat} {ca : Option Addr} {n cap : Nat} {i h : Int} (c : CurIs w p ca n cap i h) (h4 : w'.heap = w.heap) : CurIs w' p ca n cap i h := by unfold CurIs at *; rw [h4]; exact c
theorem CodeAt.grown {w w' : World} {ca : Option Addr} {n p : Nat} (h : CodeAt w ca n p) (hg : w.grownBy w' (some p)) : CodeAt w' ca n p := fun j hj => by
 obtain ⟨b,off,z,h1,h2,h3,h4⟩ := h j hj
 exact ⟨b,off,z,h1,h2,hg.cell h3 (by simp; omega),h4⟩
set_option maxHeartbeats 1000000 in
theorem l01Byte_any (w : World) (p : Nat) (ca : Option Addr) (n cap : Nat) (hc : Cur w p ca n cap) (hcode : CodeAt w ca n p) (hn : n ≤ 1048576) :
  Calls Tryz.prog 14 #[.pointer (some ⟨p, 0,none⟩)] w fun e w' => ∃ x : Nat,x < 256 ∧ e = .returned (.int .i64 x) ∧ Cur w' p ca n cap ∧ w.grownBy w' (some p) := by
 obtain ⟨i,h,hcur,h1,h2,h3,h4⟩ := hc
 have c0 := hcur.c0
 have c1 := hcur.c1
 have c2 := hcur.c2
 have f1 := hcur.fr 1
 have f2 := hcur.fr 2
 have hand := i64_and255
 obtain ⟨H,hH,HB⟩ : ∃ H,wrap64 (wrap64 (h * 6364136223846793005) + 1442695040888963407) = H ∧ Hid (-9223372036854775808 ≤ H ∧ H ≤ 9223372036854775807) := ⟨_,rfl,wrap64_bd _⟩
 obtain ⟨X,hX⟩ : ∃ X,bits .xor .i64 (H / 8589934592) (H / 35184372088832) = X := ⟨_,rfl⟩
 have hs2 := hcur.set2 H
 have hg2 : w.grownBy (w.setCell ⟨p, 2,none⟩ (.int .i64 H)) (some p) := ⟨rfl,rfl,rfl,by simp,fun k _ hk => heap_setCell_other w ⟨p, 2,none⟩ k _ (fun e => hk (by simp [e]))⟩
 have hs21 := hs2.set1 (i + 1)
 have hg21 : w.grownBy ((w.setCell ⟨p, 2,none⟩ (.int .i64 H)).setCell ⟨p, 1,none⟩ (.int .i64 (i + 1))) (some p) := grownBy_trans hg2 ⟨rfl,rfl,rfl,by simp,fun k _ hk => heap_setCell_other _ ⟨p, 1,none⟩ k _ (fun e => hk (by simp [e]))⟩
 have HS : Hid (CurIs (w.setCell ⟨p, 2,none⟩ (.int .i64 H)) p ca n cap i H ∧ w.grownBy (w.setCell ⟨p, 2,none⟩ (.int .i64 H)) (some p) ∧ CurIs ((w.setCell ⟨p, 2,none⟩ (.int .i64 H)).setCell ⟨p, 1,none⟩ (.int .i64 (i + 1))) p ca n cap (i + 1) H ∧ w.grownBy ((w.setCell ⟨p, 2,none⟩ (.int .i64 H)).setCell ⟨p, 1,none⟩ (.int .i64 (i + 1))) (some p)) := ⟨hs2,hg2,hs21,hg21⟩
 clear hs2 hg2 hs21 hg21 hcur
 by_cases hin : i < n
 ·obtain ⟨j,rfl⟩ : ∃ j : Nat,i = j := ⟨i.toNat,by omega⟩
  obtain ⟨b,off,z,rfl,hbp,hcell,hz1,hz2⟩ := hcode j (by omega)
  have hcell2 : (w.setCell ⟨p, 2,none⟩ (.int .i64 H)).cell? ⟨b,off + j,none⟩ = some (.int .u8 z) := by
   rw [World.cell?_of_block (w := w) (heap_setCell_other w ⟨p, 2,none⟩ b _ (by simp; omega))]
   exact hcell
  clear hcode
  go_enter Tryz.func14,Tryz.ntmps14
  go_wp2
  go_quiet (fail)
  go_wp2
  go_quiet (fail)
  go_wp2
  go_quiet (fail)
  go_wp2
  go_ret
  exact ⟨((X % 256 + z) % 256).toNat,by omega,ret_int (by omega),⟨_,_,HS.out.2.2.1.same rfl,by omega,by omega,HB.out⟩,grownBy_same HS.out.2.2.2 rfl rfl rfl rfl⟩
 ·go_enter Tryz.func14,Tryz.ntmps14
  go_wp2
  go_quiet (fail)
  go_wp2
  go_quiet (fail)
  go_wp2
  go_ret
  exact ⟨(X % 256).toNat,by omega,ret_int (by omega),⟨_,_,HS.out.1.same rfl,by omega,by omega,HB.out⟩,grownBy_same HS.out.2.1 rfl rfl rfl rfl⟩
theorem CurIs.alloc {w : World} {p : Nat} {ca : Option Addr} {n cap : Nat} {i h : Int} (c : CurIs w p ca n cap i h) (o : Obj) : CurIs (w.alloc o) p ca n cap i h := by
 unfold CurIs at *
 rw [Below.heap_alloc w o p (Array.getElem?_eq_some_iff.1 c).1]
 exact c
theorem Cur.alloc {w : World} {p : Nat} {ca : Option Addr} {n cap : Nat} (c : Cur w p ca n cap) (_hp : p < w.heap.size) (o : Obj) : Cur (w.alloc o) p ca n cap := by
 obtain ⟨i,h,hc,r⟩ := c
 exact ⟨i,h,hc.alloc o,r⟩
theorem Cur.kept {w w' : World} {p : Nat} {ca : Option Addr} {n cap : Nat} (c : Cur w p ca n cap) (hk : w'.heap[p]? = w.heap[p]?) : Cur w' p ca n cap := by
 obtain ⟨i,h,hc,r⟩ := c
 refine ⟨i,h, ?_,r⟩
 unfold CurIs at *
 rw [hk]; exact hc
theorem CodeAt.kept {w w' : World} {ca : Option Addr} {n p : Nat} (h : CodeAt w ca n p) (hk : ∀ b,b < p → w'.heap[b]? = w.heap[b]?) : CodeAt w' ca n p := fun j hj => by
 obtain ⟨b,off,z,h1,h2,h3,h4⟩ := h j hj
 exact ⟨b,off,z,h1,h2,by rw [World.cell?_of_block (w := w) (hk b h2)]; exact h3,h4⟩
theorem CodeAt.alloc {w : World} {ca : Option Addr} {n p : Nat} (h : CodeAt w ca n p) (o : Obj) : CodeAt (w.alloc o) ca n p := fun j hj => by
 obtain ⟨b,off,z,h1,h2,h3,h4⟩ := h j hj
 exact ⟨b,off,z,h1,h2,(World.grownBy_alloc w o none).cell h3 (by simp),h4⟩
def Left (w w' : World) (p : Nat) (ca : Option Addr) (n cap : Nat) : Prop := Cur w' p ca n cap ∧ CodeAt w' ca n p ∧ w.grownBy w' (some p)
theorem Left.trans {a b c : World} {p : Nat} {ca : Option Addr} {n cap : Nat} (h : Left a b p ca n cap) (k : Left b c p ca n cap) : Left a c p ca n cap := ⟨k.1,k.2.1,grownBy_trans h.2.2 k.2.2⟩
theorem Left.refl {a : World} {p : Nat} {ca : Option Addr} {n cap : Nat} (h : Cur a p ca n cap) (k : CodeAt a ca n p) : Left a a p ca n cap := ⟨h,k,grownBy_refl _ _⟩
theorem Left.below {w w1 w2 : World} {p : Nat} {ca : Option Addr} {n cap : Nat} (h : Left w w1 p ca n cap) (hb : Below w.heap.size w1 w2) (hp : p < w.heap.size) : Left w w2 p ca n cap :=
 ⟨h.1.kept (hb.block p hp),h.2.1.kept (fun b hbp => hb.block b (by omega)),⟨hb.os.trans h.2.2.os,hb.tape.trans h.2.2.tape,hb.output.trans h.2.2.output,Nat.le_trans h.2.2.size hb.size,fun k hk hr => (hb.block k hk).trans (h.2.2.block k hk hr)⟩⟩
theorem below_of_left {w w1 w2 : World} {p : Nat} {ca : Option Addr} {n cap : Nat} (h : Below w.heap.size w w1) (hp : w.heap.size ≤ p) (hl : Left w1 w2 p ca n cap) : Below w.heap.size w w2 :=
 Below.grown h hl.2.2 h.size (fun k hk => by simp at hk; omega)
theorem byte_left (w : World) (p : Nat) (ca : Option Addr) (n cap : Nat) (hc : Cur w p ca n cap) (hcode : CodeAt w ca n p) (hn : n ≤ 1048576) :
  Calls Tryz.prog 14 #[.pointer (some ⟨p, 0,none⟩)] w fun e w' => ∃ x : Nat,x < 256 ∧ e = .returned (.int .i64 x) ∧ Left w w' p ca n cap :=
 (l01Byte_any w p ca n cap hc hcode hn).mono fun _ _ ⟨x,h1,h2,h3,h4⟩ => ⟨x,h1,h2,h3,hcode.grown h4,h4⟩
set_option maxHeartbeats 1000000 in
theorem below_any (w : World) (p : Nat) (ca : Option Addr) (n cap : Nat) (m : Int) (hc : Cur w p ca n cap) (hcode : CodeAt w ca n p) (hn : n ≤ 1048576) (hm1 : -9223372036854775808 ≤ m) (hm2 : m ≤ 9223372036854775807) :
  Calls Tryz.prog 15 #[.pointer (some ⟨p, 0,none⟩),.int .i64 m] w fun e w' => ∃ x : Nat,(0 < m → (x : Int) < m) ∧ (m ≤ 0 → x = 0) ∧ e = .returned (.int .i64 x) ∧ Left w w' p ca n cap := by
 by_cases h0 : m ≤ 0
 ·go_enter Tryz.func15,Tryz.ntmps15
  go_wp2
  go_ret
  exact ⟨0,by omega,fun _ => rfl,rfl,Left.refl hc hcode⟩
 ·by_cases h1 : m ≤ 256
  ·have c1 := byte_left w p ca n cap hc hcode hn
   clear hc hcode
   go_enter Tryz.func15,Tryz.ntmps15
   go_wp2_with fail
   refine c1.mono ?_
   rintro e w' ⟨x,hx,rfl,hl⟩
   go_wp2
   go_ret
   have e1 : (0 : Int) ≤ (x : Int) % m ∧ (x : Int) % m < m := ⟨Int.emod_nonneg _ (by omega),Int.emod_lt_of_pos _ (by omega)⟩
   exact ⟨((x : Int) % m).toNat,by omega,by omega,ret_int (by omega),hl⟩
  ·have c1 := byte_left w p ca n cap hc hcode hn
   have c2 := fun w' (h : Left w w' p ca n cap) => byte_left w' p ca n cap h.1 h.2.1 hn
   have C2 : Hid (∀ w',Left w w' p ca n cap → Calls Tryz.prog 14 #[.pointer (some ⟨p, 0,none⟩)] w' fun e w'' => ∃ x : Nat,x < 256 ∧ e = .returned (.int .i64 x) ∧ Left w' w'' p ca n cap) := c2
   clear hc hcode c2
   go_enter Tryz.func15,Tryz.ntmps15
   go_wp2_with fail
   refine c1.mono ?_
   rintro e w1 ⟨x,hx,rfl,hl1⟩
   go_wp2_with fail
   refine (C2.out w1 hl1).mono ?_
   rintro e w2 ⟨y,hy,rfl,hl2⟩
   go_wp2_with fail
   refine (C2.out w2 (hl1.trans hl2)).mono ?_
   rintro e w3 ⟨z,hz,rfl,hl3⟩
   go_wp2_with fail
   refine (C2.out w3 ((hl1.trans hl2).trans hl3)).mono ?_
   rintro e w4 ⟨u,hu,rfl,hl4⟩
   go_wp2
   go_ret
   have e1 : (0 : Int) ≤ ((x : Int) * 16777216 + (y : Int) * 65536 + (z : Int) * 256 + (u : Int)) % m ∧ ((x : Int) * 16777216 + (y : Int) * 65536 + (z : Int) * 256 + (u : Int)) % m < m := ⟨Int.emod_nonneg _ (by omega),Int.emod_lt_of_pos _ (by omega)⟩
   exact ⟨(((x : Int) * 16777216 + (y : Int) * 65536 + (z : Int) * 256 + (u : Int)) % m).toNat,by omega,by omega,ret_int (by omega),((hl1.trans hl2).trans hl3).trans hl4⟩
set_option maxRecDepth 100000 in
set_option maxHeartbeats 1000000 in
theorem new_any (w : World) (ca : Option Addr) (n cap : Nat) (hcode : CodeAt w ca n w.heap.size) (hn : n ≤ 1048576) :
  Calls Tryz.prog 13 #[.slice ca n cap] w fun e w' => ∃ p,e = .returned (.pointer (some ⟨p, 0,none⟩)) ∧ p < w'.heap.size ∧ w.heap.size ≤ p ∧ Cur w' p ca n cap ∧ CodeAt w' ca n p ∧ Below w.heap.size w w' := by
 have hand := i64_and30
 go_enter Tryz.func13,Tryz.ntmps13
 go_wp2
 go_loopw [3, 4] (fun v i wr => Box (∃ (k : Nat) (h : Int),k ≤ n ∧ i = .int .i64 k ∧ v = .int .i64 h ∧ 0 ≤ h ∧ h ≤ 1100000000 ∧ wr = w))
  (fun _ i _ => n - (intOf i).toNat)
 case atStart => exact ⟨⟨0,_,by omega,rfl,rfl,by omega,by omega,rfl⟩⟩
 case round =>
  obtain ⟨k,h,hk,rfl,rfl,h1,h2,rfl⟩ := hrel.out
  by_cases hlt : k < n
  ·by_cases h4 : k < 4000
   ·obtain ⟨b,off,z,rfl,hb,hcl,hz1,hz2⟩ := hcode k hlt
    have hi1 : (0 : Int) ≤ (k : Int) := by omega
    have hi2 : (k : Int) < (n : Int) := by omega
    go_wp2
    go_roundw
    case rel =>
     try ((repeat apply Exists.intro); refine ⟨?_,rfl⟩)
     exact ⟨⟨k + 1,_,by omega,by go_num,rfl,by omega,by omega,by first | rfl | trivial⟩⟩
    case measure => simp [intOf]; omega
   ·go_wp2
    go_ret
    exact ⟨_,rfl,by simp,Nat.le_refl _,⟨0,h,heap_alloc_new _ _,by omega,by omega,by omega,by omega⟩,hcode.alloc _,(Below.refl _ _).alloc (Nat.le_refl _) _⟩
  ·go_wp2
   go_ret
   exact ⟨_,rfl,by simp,Nat.le_refl _,⟨0,h,heap_alloc_new _ _,by omega,by omega,by omega,by omega⟩,hcode.alloc _,(Below.refl _ _).alloc (Nat.le_refl _) _⟩
theorem Cur.lt {w : World} {p : Nat} {ca : Option Addr} {n cap : Nat} (c : Cur w p ca n cap) : p < w.heap.size := by obtain ⟨i,h,hcur,_⟩ := c; exact (Array.getElem?_eq_some_iff.1 hcur).1
theorem Left.set {w w1 : World} {p : Nat} {ca : Option Addr} {n cap : Nat} (h : Left w w1 p ca n cap) (hp : p < w.heap.size) {A : Addr} (hA : w.heap.size ≤ A.block) (v : Value) : Left w (w1.setCell A v) p ca n cap :=
 h.below ((Below.refl _ _).setCell hA v) hp
theorem Tryz.info3 : (Tryz.prog.info? 3).map (fun i => (i.zero,i.size,i.bytes)) = some (some (.int .i64 0), 1, 8) := by kernel_rfl
set_option maxHeartbeats 2000000 in
theorem drawPlaces_any (w : World) (ca : Option Addr) (n cap : Nat) (hcode : CodeAt w ca n w.heap.size) (hn : n ≤ 1048576) :
  Calls Tryz.prog 5 #[.slice ca n cap] w fun e w' => ∃ (v : Value) (l : List Int),e = .returned v ∧ l.length = 12 ∧ (∀ z ∈ l, 0 ≤ z ∧ z < 10000) ∧ OwnV w' w.heap.size 3 v (ints l) ∧ Below w.heap.size w w' := by
 have c1 := new_any w ca n cap hcode hn
 clear hcode
 go_enter Tryz.func5,Tryz.ntmps5
 go_wp2_with fail
 refine c1.mono ?_
 rintro e w1 ⟨p,rfl,hp1,hp2,hcur,hcd,hb1⟩
 have c2 := byte_left w1 p ca n cap hcur hcd hn
 clear hcur hcd
 go_wp2_with fail
 refine c2.mono ?_
 rintro e w2 ⟨x0,_,rfl,hl2⟩
 have hb2 := below_of_left hb1 hp2 hl2
 have hpz : p < w2.heap.size := Nat.lt_of_lt_of_le hp1 hl2.2.2.size
 have hcur2 := hl2.1
 have hcd2 := hl2.2.1
 clear hb1 hl2 c1 c2
 go_wp2
 go_loopw [4, 5] (fun v i wr => Box (∃ (k : Nat) (l : List Int),k ≤ 12 ∧ i = .int .i64 k ∧ l.length ≤ k ∧ k ≤ l.length ∧ Hid (∀ z ∈ l, 0 ≤ z ∧ z < 10000) ∧ OwnV wr w2.heap.size 3 v (ints l) ∧ Left w2 wr p ca n cap))
  (fun _ i _ => 12 - (intOf i).toNat)
 case atStart => exact ⟨⟨0, [],by omega,rfl,by simp,by simp,by simp [Hid],World.ownsRow_made w2 #[] 0 (Nat.le_refl _) (by simp [maxLen]) (by simp),Cur.alloc hcur2 hpz _,CodeAt.alloc hcd2 _,World.grownBy_alloc _ _ _⟩⟩
 case round =>
  obtain ⟨k,l,hk,rfl,hl1,hl2,HL,hown,hleft⟩ := hrel.out
  by_cases hlt : k < 12
  ·have c1 := below_any wr p ca n cap 10000 hleft.1 hleft.2.1 hn (by omega) (by omega)
   have hgs := hleft.2.2.size
   go_wp2_with fail
   refine c1.mono ?_
   rintro e w3 ⟨x,hx,_,rfl,hl3⟩
   have hx2 := hx (by omega)
   have hown1 : OwnV w3 w2.heap.size 3 u4 (ints l) := hown.grown hl3.2.2 fun q hq e => by
    have := (hown.lt q hq).1
    simp at e
    omega
   have hgs1 := hl3.2.2.size
   have hl4 := hleft.trans hl3
   have hil := ints_length l
   have HL2 : Hid (∀ z ∈ l ++ [(x : Int)], 0 ≤ z ∧ z < 10000) := by
    intro z hz
    rcases List.mem_append.1 hz with h | h
    ·exact HL.out z h
    ·simp at h
     omega
   clear hown hleft hl3 c1 hx
   go_wp2_with (at_builtin; refine wpList_snocV rfl (.tmp 15) (.tmp 18) 24 rfl w2.heap.size 3 Tryz.underlying24 (.int .i64 0) 8 Tryz.info3 rfl _ (ints l) rfl hown1 (.int .i64 (x : Int)) rfl rfl (by omega) (by omega) (by omega) ?_; intro v' w4 hown' hne' hbel' hsz')
   go_roundw
   case rel =>
    try ((repeat apply Exists.intro); refine ⟨?_,rfl⟩)
    exact ⟨⟨k + 1,l ++ [(x : Int)],by omega,by go_num,by simp; omega,by simp; omega,HL2,by simpa [ints] using hown',hl4.below (hbel' _ (Below.refl _ _)) hpz⟩⟩
   case measure => simp [intOf]; omega
  ·go_wp2
   go_ret
   exact ⟨_,l,rfl,by omega,HL.out,hown.mono hb2.size,below_of_left hb2 hp2 hleft⟩
theorem big_any (ca : Option Addr) (n cap : Nat) (w : World) (hn : n ≤ 9223372036854775807) :
  Calls Tryz.prog 4 #[.slice ca n cap] w fun e w' => e = .returned (.bool (decide (1048576 < n))) ∧ w = w' := by
 go_enter Tryz.func4,Tryz.ntmps4
 go_wp2
 go_ret
 exact ⟨by rw [show decide ((1048576 : Int) < (n : Int)) = decide (1048576 < n) by simp; omega]; rfl,rfl⟩
end Go.Proofs.YtaahjcljanckaaaGreatDoor
