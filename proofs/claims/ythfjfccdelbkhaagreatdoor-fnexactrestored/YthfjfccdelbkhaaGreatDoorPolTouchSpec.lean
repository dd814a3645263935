/- PolicyTouch: the other text. Written by mkstouch.py. -/
import Derived.Test.YthfjfccdelbkhaaGreatDoorSkCopySpecJ
import Derived.Test.YthfjfccdelbkhaaGreatDoorPolHoldJ
import Derived.Test.YthfjfccdelbkhaaGreatDoorTouchImplJ
import Derived.Test.YthfjfccdelbkhaaGreatDoorSkNewImplJ
import Derived.Test.YthfjfccdelbkhaaGreatDoorPxPlainJ
import Derived.Test.YthfjfccdelbkhaaGreatDoorSkBumpSpecJ
import Derived.Lib.QuietBelow
import Derived.BigQuiet
namespace Go.Proofs.YthfjfccdelbkhaaGreatDoor
open Go.RowKit Go.Sort
def OutS (w0 w : World) (V lo : Nat) (v1 v2 v3 : Value) (Q : Pol) : Prop := PHold w V 30 [] lo v1 v2 v3 Q ∧ Below lo w0 w ∧ lo ≤ V
theorem pol_ty : tyOk 30 := by unfold tyOk; decide
theorem OutS.lo {w0 w : World} {V lo : Nat} {v1 v2 v3 : Value} {Q : Pol} (h : OutS w0 w V lo v1 v2 v3 Q) : lo ≤ w.heap.size := by
 have := h.1.lt
 have := h.2.2
 omega
theorem OutS.on {w0 w w' : World} {V lo : Nat} {v1 v2 v3 : Value} {Q : Pol} (h : OutS w0 w V lo v1 v2 v3 Q) (hb : Below w.heap.size w w') : OutS w0 w' V lo v1 v2 v3 Q := ⟨h.1.on hb,h.2.1.trans (hb.mono h.lo),h.2.2⟩
theorem OutS.win {w0 w w' : World} {V lo : Nat} {v1 v2 v3 v1' : Value} {Q : Pol} {W' : List ByteArray} (h : OutS w0 w V lo v1 v2 v3 Q) (hg : w.grownBy w' v1.ownBlock) (ho : OwnV w' lo 9 v1' (strs W')) (hn : ∀ k,v1'.ownBlock = some k → v1.ownBlock = some k ∨ w.heap.size ≤ k) : OutS w0 (w'.setCell ⟨V, 0,none⟩ v1') V lo v1' v2 v3 ⟨W',Q.main,Q.sk⟩ :=
 ⟨h.1.setWin pol_ty hg ho hn,(h.2.1.grown hg h.lo (fun k e => (h.1.2.1.lt k e).1)).setCell h.2.2 _,h.2.2⟩
theorem OutS.main {w0 w w' : World} {V lo : Nat} {v1 v2 v3 v2' : Value} {Q : Pol} {W' : List ByteArray} (h : OutS w0 w V lo v1 v2 v3 Q) (hg : w.grownBy w' v2.ownBlock) (ho : OwnV w' lo 9 v2' (strs W')) (hn : ∀ k,v2'.ownBlock = some k → v2.ownBlock = some k ∨ w.heap.size ≤ k) : OutS w0 (w'.setCell ⟨V, 1,none⟩ v2') V lo v1 v2' v3 ⟨Q.win,W',Q.sk⟩ :=
 ⟨h.1.setMain pol_ty hg ho hn,(h.2.1.grown hg h.lo (fun k e => (h.1.2.2.1.lt k e).1)).setCell h.2.2 _,h.2.2⟩
theorem OutS.sk {w0 w w' : World} {V lo : Nat} {v1 v2 v3 v3' : Value} {Q : Pol} {S : Sk} (h : OutS w0 w V lo v1 v2 v3 Q) (hb : Below w.heap.size w w') (ho : OwnSS w' w.heap.size w'.heap.size v3' S.rows) : OutS w0 ((w'.setCell ⟨V, 2,none⟩ v3').setCell ⟨V, 3,none⟩ (.int .i64 S.added)) V lo v1 v2 v3' ⟨Q.win,Q.main,S⟩ :=
 ⟨h.1.setSk pol_ty hb h.lo ho,(((h.2.1.trans (hb.mono h.lo))).setCell h.2.2 _).setCell h.2.2 _,h.2.2⟩
def OutE (w X : World) (R : Nat) (v1 v2 v3 : Value) (Q : Pol) : Prop := POwn X w.heap.size X.heap.size (.agg #[v1,v2,v3,.int .i64 Q.sk.added]) Q ∧ Below w.heap.size w X ∧ (X.cell? ⟨R, 0,none⟩ = some v1 ∧ X.cell? ⟨R, 1,none⟩ = some v2 ∧ X.cell? ⟨R, 2,none⟩ = some v3 ∧ X.cell? ⟨R, 3,none⟩ = some (.int .i64 Q.sk.added))
theorem outS_end {w w1 W : World} {V : Nat} {v1 v2 v3 : Value} {Q : Pol} (h : OutS w1 W V w1.heap.size v1 v2 v3 Q) (hR : PBox w1 (w.heap.size + 1) (.slice none 0 0) (.slice none 0 0) (.slice none 0 0) (.int .i64 0) ∧ Below w.heap.size w w1 ∧ w1.heap.size = w.heap.size + 2) :
  PBox W (w.heap.size + 1) (.slice none 0 0) (.slice none 0 0) (.slice none 0 0) (.int .i64 0) ∧ Hid (∀ X,((((W.setCell ⟨w.heap.size + 1, 0,none⟩ v1).setCell ⟨w.heap.size + 1, 1,none⟩ v2).setCell ⟨w.heap.size + 1, 2,none⟩ v3).setCell ⟨w.heap.size + 1, 3,none⟩ (.int .i64 Q.sk.added)) = X → OutE w X (w.heap.size + 1) v1 v2 v3 Q) := by
 obtain ⟨hR,hb,hs⟩ := hR
 have hRW := hR.on h.2.1
 refine ⟨hRW,fun X hX => ?_⟩
 have p1 := POwn.mono (POwn.put4 (w := W) h.1.own hRW v1 v2 v3 (.int .i64 Q.sk.added)) (show w.heap.size ≤ w1.heap.size by omega) (Nat.le_refl _)
 have p2 := Below.put4 (T := w.heap.size + 1) (hb.trans (h.2.1.mono (by omega))) (by omega) v1 v2 v3 (.int .i64 Q.sk.added)
 have p3 := (hRW.put v1 v2 v3 (.int .i64 Q.sk.added)).cells
 rw [hX] at p1 p2 p3
 exact ⟨p1.up,p2,p3⟩
theorem without_own {w w7 w8 : World} {v : Value} {xs : List Value} (hb : Below w.heap.size w w7) (ho : OwnV w7 w.heap.size 9 v xs) (hg : w7.grownBy w8 v.ownBlock) : Below w.heap.size w w8 := hb.grown hg hb.size (fun k e => (ho.lt k e).1)
theorem LAt.rest {w : World} {base g n cap : Nat} {x : ByteArray} {L : List ByteArray} (h : OwnV w base 9 (.slice (some ⟨g, 0,none⟩) n cap) (strs (x :: L))) : LAt w (some ⟨g, 1,none⟩) L w.heap.size := fun j hj => by
 have hc := h.cell (j := j + 1) (by rw [strs_length,List.length_cons]; omega)
 refine ⟨g, 1,rfl,hc.2.2.2, ?_⟩
 rw [show 1 + j = j + 1 by omega,hc.1,strs_at (by rw [List.length_cons]; omega)]
 simp
set_option maxRecDepth 100000 in
set_option maxHeartbeats 16000000 in
theorem specPolicyTouch_any (w : World) (aw am ak : Option Addr) (cw cm ck : Nat) (P : Pol) (key : ByteArray) (hA : PolAt w aw am ak P w.heap.size) (hsz : PolSz P) (hk : key.size ≤ 1048576) :
  Calls Tryz.prog 38 #[.agg #[.slice aw P.win.length cw,.slice am P.main.length cm,.slice ak P.sk.rows.length ck,.int .i64 P.sk.added],.string key] w fun e w' => ∃ v,e = .returned (.tuple #[v,.string (touchP P key).2]) ∧ POwn w' w.heap.size w'.heap.size v (touchP P key).1 ∧ Below w.heap.size w w' := by
 obtain ⟨l1,l2,l3⟩ := hsz.parts
 obtain ⟨w1,hw1⟩ : ∃ x,(w.alloc (.cells #[.slice aw P.win.length cw,.slice am P.main.length cm,.slice ak P.sk.rows.length ck,.int .i64 P.sk.added] 30)).alloc (.cells #[.slice none 0 0,.slice none 0 0,.slice none 0 0,.int .i64 0] 30) = x := ⟨_,rfl⟩
 have hb1 : Below w.heap.size w w1 := by rw [← hw1]; exact ((Below.refl _ _).alloc (Nat.le_refl _) _).alloc (by simp) _
 have s1 : w1.heap.size = w.heap.size + 2 := by rw [← hw1]; simp
 have hR : PBox w1 (w.heap.size + 1) (.slice none 0 0) (.slice none 0 0) (.slice none 0 0) (.int .i64 0) := by
  have h := PBox.new (w.alloc (.cells #[.slice aw P.win.length cw,.slice am P.main.length cm,.slice ak P.sk.rows.length ck,.int .i64 P.sk.added] 30)) (.slice none 0 0) (.slice none 0 0) (.slice none 0 0) (.int .i64 0)
  rw [hw1] at h
  simpa using h
 have hB : PBox w1 w.heap.size (.slice aw P.win.length cw) (.slice am P.main.length cm) (.slice ak P.sk.rows.length ck) (.int .i64 P.sk.added) := by
  have h := PBox.new w (.slice aw P.win.length cw) (.slice am P.main.length cm) (.slice ak P.sk.rows.length ck) (.int .i64 P.sk.added)
  have h2 := h.on ((Below.refl _ _).alloc (Nat.le_refl _) (.cells #[.slice none 0 0,.slice none 0 0,.slice none 0 0,.int .i64 0] 30))
  rw [hw1] at h2
  exact h2
 have c1 := l13Copy_any w1 aw am ak cw cm ck P (hA.on hb1) hsz
 have HW : Hid ((w.alloc (.cells #[.slice aw P.win.length cw,.slice am P.main.length cm,.slice ak P.sk.rows.length ck,.int .i64 P.sk.added] 30)).alloc (.cells #[.slice none 0 0,.slice none 0 0,.slice none 0 0,.int .i64 0] 30) = w1) := hw1
 have HB1 : Hid (PBox w1 (w.heap.size + 1) (.slice none 0 0) (.slice none 0 0) (.slice none 0 0) (.int .i64 0) ∧ Below w.heap.size w w1 ∧ w1.heap.size = w.heap.size + 2) := ⟨hR,hb1,s1⟩
 have HA1 : Hid (∀ W,Below w1.heap.size w1 W → PolAt W aw am ak P W.heap.size ∧ PBox W w.heap.size (.slice aw P.win.length cw) (.slice am P.main.length cm) (.slice ak P.sk.rows.length ck) (.int .i64 P.sk.added)) := fun W h => ⟨(hA.on hb1).on h,hB.on h⟩
 have HSZ : Hid (PolSz P ∧ P.win.length ≤ 1048576 ∧ P.main.length ≤ 1048576 ∧ SkSz P.sk ∧ key.size ≤ 1048576) := ⟨hsz,l1,l2,l3,hk⟩
 obtain ⟨b0,b1,b2,b3⟩ := hB.cells
 rw [← hw1] at b0 b1 b2 b3
 clear hw1 hb1 s1 hA hsz hR hB l1 l2 l3
 go_enter Tryz.func38,Tryz.ntmps38
 go_wp2_with fail
 rw [HW.out] at b0 b1 b2 b3 ⊢
 refine c1.mono ?_
 rintro e w2 ⟨v,rfl,hO,hb2⟩
 have hO0 := hO
 obtain ⟨v1,v2,v3,rfl,o1,o2,d1,d2,o3⟩ := hO
 obtain ⟨a2,k2,rfl,_⟩ := o1.strsAt
 obtain ⟨a3,k3,rfl,_⟩ := o2.strsAt
 obtain ⟨a4,k4,rfl,_⟩ := o3.at
 obtain ⟨w3,hw3⟩ : ∃ x,w2.alloc (.cells #[.slice a2 P.win.length k2,.slice a3 P.main.length k3,.slice a4 P.sk.rows.length k4,.int .i64 P.sk.added] 30) = x := ⟨_,rfl⟩
 have hb3 : Below w1.heap.size w1 w3 := by
  rw [← hw3]
  exact hb2.alloc hb2.size _
 obtain ⟨V,hV⟩ : ∃ V,w2.heap.size = V := ⟨_,rfl⟩
 have S3 : OutS w1 w3 V w1.heap.size (.slice a2 P.win.length k2) (.slice a3 P.main.length k3) (.slice a4 P.sk.rows.length k4) P := by
  have H3 := hO0.hold 30 []
  rw [hw3,hV] at H3
  exact ⟨H3,hb3,by rw [← hV]; exact hb2.size⟩
 have HW3 : Hid (w2.alloc (.cells #[.slice a2 P.win.length k2,.slice a3 P.main.length k3,.slice a4 P.sk.rows.length k4,.int .i64 P.sk.added] 30) = w3) := hw3
 have cO := specPolicyOk_sz w3 aw am ak cw cm ck P (HA1.out w3 hb3).1 HSZ.out.1
 obtain ⟨x0,x1,x2,x3⟩ := (HA1.out w3 hb3).2.cells
 rw [← hw3] at x0 x1 x2 x3
 have HV : Hid (w2.heap.size = V) := hV
 have HS3 : Hid (OutS w1 w3 V w1.heap.size (.slice a2 P.win.length k2) (.slice a3 P.main.length k3) (.slice a4 P.sk.rows.length k4) P) := S3
 clear c1 hO0 o1 o2 d1 d2 o3 hw3 hV hb2 hb3 S3 b0 b1 b2 b3
 go_wp2_with fail
 rw [HW3.out]
 refine cO.mono ?_
 rintro e w4 ⟨rfl,hb4⟩
 have S3 : OutS w1 w3 V w1.heap.size (.slice a2 P.win.length k2) (.slice a3 P.main.length k3) (.slice a4 P.sk.rows.length k4) P := HS3.out
 have S4 := S3.on hb4
 have cK := l13Key_any w4 key (by omega)
 rw [HV.out]
 clear cO S3 x0 x1 x2 x3 hb4 HS3 HW HW3 HV
 obtain ⟨kk,hkk⟩ : ∃ kk,keyOk key = kk := ⟨_,rfl⟩
 rw [hkk] at cK
 cases hok : okP P with
 | false =>
  have HQ : Hid (touchP P key = (P,noKey)) := by show _ = _; unfold touchP; rw [hok]; rfl
  clear hok hkk cK
  obtain ⟨hRW,HE⟩ := outS_end (w := w) S4 HB1.out
  obtain ⟨y0,y1,y2,y3,_⟩ := S4.1.cells
  obtain ⟨r0,r1,r2,r3⟩ := hRW.cells
  have f0 := hRW.thaw 0
  have f1 := hRW.thaw 1
  have f2 := hRW.thaw 2
  have f3 := hRW.thaw 3
  clear hRW
  clear S4
  go_wp2_with fail
  obtain ⟨X,hX⟩ : ∃ X,((((w4.setCell ⟨w.heap.size + 1, 0,none⟩ (.slice a2 P.win.length k2)).setCell ⟨w.heap.size + 1, 1,none⟩ (.slice a3 P.main.length k3)).setCell ⟨w.heap.size + 1, 2,none⟩ (.slice a4 P.sk.rows.length k4)).setCell ⟨w.heap.size + 1, 3,none⟩ (.int .i64 P.sk.added)) = X := ⟨_,rfl⟩
  obtain ⟨hPO,hBF,q0,q1,q2,q3⟩ := HE.out X hX
  rw [hX]
  clear hX
  try dsimp only at q3 hPO
  refine bodyPost_ret (v := .tuple #[.agg #[(.slice a2 P.win.length k2),(.slice a3 P.main.length k3),(.slice a4 P.sk.rows.length k4),.int .i64 P.sk.added],.string noKey]) (by simp [results,Tryz.results38,go_sem,q0,q1,q2,q3,noKey]) rfl ⟨.agg #[(.slice a2 P.win.length k2),(.slice a3 P.main.length k3),(.slice a4 P.sk.rows.length k4),.int .i64 P.sk.added], ?_, ?_,hBF⟩
  ·rw [HQ.out]
  ·rw [HQ.out]
   exact hPO
 | true =>
  cases kk with
  | false =>
   have HQ : Hid (touchP P key = (P,noKey)) := by show _ = _; unfold touchP; rw [hok,hkk]; rfl
   clear hok hkk
   go_wp2_with fail
   refine cK.mono ?_
   rintro e w5 ⟨rfl,hw5⟩
   rw [hw5]
   clear hw5 cK
   obtain ⟨hRW,HE⟩ := outS_end (w := w) S4 HB1.out
   obtain ⟨y0,y1,y2,y3,_⟩ := S4.1.cells
   obtain ⟨r0,r1,r2,r3⟩ := hRW.cells
   have f0 := hRW.thaw 0
   have f1 := hRW.thaw 1
   have f2 := hRW.thaw 2
   have f3 := hRW.thaw 3
   clear hRW
   clear S4
   go_wp2_with fail
   obtain ⟨X,hX⟩ : ∃ X,((((w4.setCell ⟨w.heap.size + 1, 0,none⟩ (.slice a2 P.win.length k2)).setCell ⟨w.heap.size + 1, 1,none⟩ (.slice a3 P.main.length k3)).setCell ⟨w.heap.size + 1, 2,none⟩ (.slice a4 P.sk.rows.length k4)).setCell ⟨w.heap.size + 1, 3,none⟩ (.int .i64 P.sk.added)) = X := ⟨_,rfl⟩
   obtain ⟨hPO,hBF,q0,q1,q2,q3⟩ := HE.out X hX
   rw [hX]
   clear hX
   try dsimp only at q3 hPO
   refine bodyPost_ret (v := .tuple #[.agg #[(.slice a2 P.win.length k2),(.slice a3 P.main.length k3),(.slice a4 P.sk.rows.length k4),.int .i64 P.sk.added],.string noKey]) (by simp [results,Tryz.results38,go_sem,q0,q1,q2,q3,noKey]) rfl ⟨.agg #[(.slice a2 P.win.length k2),(.slice a3 P.main.length k3),(.slice a4 P.sk.rows.length k4),.int .i64 P.sk.added], ?_, ?_,hBF⟩
   ·rw [HQ.out]
   ·rw [HQ.out]
    exact hPO
  | true =>
   obtain ⟨p1,p2,p3,p4,p5,p6,p7,p8⟩ := okP_iff.1 hok
   obtain ⟨BB,hBB⟩ : ∃ S,bumpS P.sk key = S := ⟨_,rfl⟩
   have hbl : BB.rows.length ≤ 1048576 := by
    obtain ⟨a,b,c,e,_⟩ := okK_parts (bumpS_ok key p8)
    rw [← hBB,e]; simp
   have HTP : Hid (touchP P key = if inL P.win key = true then (⟨without P.win key ++ [key],P.main,BB⟩,noKey) else if inL P.main key = true then (⟨P.win,without P.main key ++ [key],BB⟩,noKey) else if P.win.length + 1 ≤ 2 then (⟨P.win ++ [key],P.main,BB⟩,noKey) else pushP (P.win ++ [key]).tail P.main BB (P.win.getD 0 noKey)) := by
    show _ = _
    rw [← hBB]
    unfold touchP
    rw [hok,hkk]
    rfl
   have HZZ : Hid (P.win.length ≤ 2 ∧ P.main.length ≤ 4 ∧ BB.rows.length ≤ 1048576 ∧ (∀ z ∈ P.win,z.size ≤ 1048576) ∧ (∀ z ∈ P.main,z.size ≤ 1048576)) := ⟨p6,p7,hbl,fun z hz => by have := p1 z hz; simp only [keyOk,decide_eq_true_eq] at this; omega,fun z hz => by have := p2 z hz; simp only [keyOk,decide_eq_true_eq] at this; omega⟩
   obtain ⟨hP4,hB4⟩ := HA1.out w4 S4.2.1
   obtain ⟨x0,x1,x2,x3⟩ := hB4.cells
   have cB := specSketchBump_any w4 ak ck P.sk key hP4.2.2 HSZ.out.2.2.2.1 hk
   rw [hBB] at cB
   have HS4 : Hid (OutS w1 w4 V w1.heap.size (.slice a2 P.win.length k2) (.slice a3 P.main.length k3) (.slice a4 P.sk.rows.length k4) P) := S4
   clear hok hkk p1 p2 p3 p4 p5 p6 p7 p8 hBB hP4 hB4 S4
   go_wp2_with fail
   refine cK.mono ?_
   rintro e w5 ⟨rfl,hw5⟩
   rw [hw5]
   clear hw5 cK w5
   go_wp2_with fail
   refine cB.mono ?_
   rintro e w5 ⟨v,rfl,⟨u,rfl,ho5⟩,hb5⟩
   obtain ⟨a5,k5,rfl,_⟩ := ho5.at
   have S4 : OutS w1 w4 V w1.heap.size (.slice a2 P.win.length k2) (.slice a3 P.main.length k3) (.slice a4 P.sk.rows.length k4) P := HS4.out
   have S5 := S4.on hb5
   obtain ⟨_,_,c2,c3,_⟩ := S5.1.cells
   have f2 := S5.1.thaw 2
   have f3 := S5.1.thaw 3
   have S6 := S4.sk (S := BB) hb5 ho5
   obtain ⟨w6,hw6⟩ : ∃ x,(w5.setCell ⟨V, 2,none⟩ (.slice a5 BB.rows.length k5)).setCell ⟨V, 3,none⟩ (.int .i64 BB.added) = x := ⟨_,rfl⟩
   have HW6 : Hid ((w5.setCell ⟨V, 2,none⟩ (.slice a5 BB.rows.length k5)).setCell ⟨V, 3,none⟩ (.int .i64 BB.added) = w6) := hw6
   rw [hw6] at S6
   obtain ⟨hP6,hB6⟩ := HA1.out w6 S6.2.1
   obtain ⟨z0,z1,z2,z3⟩ := hB6.cells
   have cW := l13In_any w6 aw cw P.win key hP6.1 (by have := HSZ.out.2.1; omega)
   have cM := l13In_any w6 am cm P.main key hP6.2.1 (by have := HSZ.out.2.2.1; omega)
   have cWo := l13Without_any w6 aw cw P.win key hP6.1 (by have := HSZ.out.2.1; omega)
   have cMo := l13Without_any w6 am cm P.main key hP6.2.1 (by have := HSZ.out.2.2.1; omega)
   rw [← HW6.out] at z0 z1
   have HS6 : Hid (OutS w1 w6 V w1.heap.size (.slice a2 P.win.length k2) (.slice a3 P.main.length k3) (.slice a5 BB.rows.length k5) ⟨P.win,P.main,BB⟩) := S6
   clear S4 S5 S6 hw6 ho5 hb5 cB x0 x1 x2 x3 HS4 hP6 hB6 z2 z3 HA1
   cases hiw : inL P.win key with
   | true =>
    rw [hiw] at cW
    rw [hiw,if_pos rfl] at HTP
    clear hiw cM cMo z1
    go_wp2_with fail
    rw [HW6.out] at z0 ⊢
    refine cW.mono ?_
    rintro e w' ⟨rfl,hw'⟩
    rw [hw']
    clear hw' cW
    go_wp2_with fail
    refine cWo.mono ?_
    rintro e w7 ⟨v7,rfl,_,ho7,hb7⟩
    obtain ⟨a7,k7,rfl,_⟩ := ho7.strsAt
    have hln : (without P.win key).length ≤ 2000000 := by have h1 := List.length_filter_le (fun z => !decide (z = key)) P.win; have h2 := HSZ.out.2.1; unfold without; omega
    have hs7 := hb7.size
    have S6 : OutS w1 w6 V w1.heap.size (.slice a2 P.win.length k2) (.slice a3 P.main.length k3) (.slice a5 BB.rows.length k5) ⟨P.win,P.main,BB⟩ := HS6.out
    have HV8 : Hid (∀ w8,Below w6.heap.size w6 w8 → w8.cell? ⟨V, 0,none⟩ = some (.slice a2 P.win.length k2) ∧ w8.frozen? ⟨V, 0,none⟩ = false) := fun w8 h => ⟨(S6.on h).1.cells.1,(S6.on h).1.thaw 0⟩
    obtain ⟨LL,hLL⟩ : ∃ L,without P.win key = L := ⟨_,rfl⟩
    rw [hLL] at ho7 hln HTP ⊢
    clear S6 cWo hLL
    have HQ : Hid (touchP P key = (⟨LL ++ [key],P.main,BB⟩,noKey)) := HTP
    go_wp2_with (at_builtin; refine wpList_snocS rfl (.tmp 32) (.tmp 34) 25 rfl w6.heap.size Tryz.underlying25 Tryz.infoSK _ LL rfl ho7 key rfl hln hs7 ?_; intro g8 c8 w8 ho8 hg8 hn8; have hb8 := without_own hb7 ho7 hg8; obtain ⟨q0,q1⟩ := HV8.out w8 hb8; have S9 := OutS.win HS6.out (grownBy_below hb8) (ho8.mono (OutS.lo HS6.out)) (fun k e => .inr (by have := (ho8.lt k e).1; omega)); obtain ⟨hRW,HE⟩ := outS_end (w := w) S9 HB1.out; obtain ⟨y0,y1,y2,y3,_⟩ := S9.1.cells; obtain ⟨r0,r1,r2,r3⟩ := hRW.cells; have f0 := hRW.thaw 0; have f1 := hRW.thaw 1; have f2 := hRW.thaw 2; have f3 := hRW.thaw 3; clear hRW; clear S9 ho8 hg8 hn8 hb8)
    obtain ⟨X,hX⟩ : ∃ X,(((((w8.setCell ⟨V, 0,none⟩ (.slice (some ⟨g8, 0,none⟩) (LL.length + 1) c8)).setCell ⟨w.heap.size + 1, 0,none⟩ (.slice (some ⟨g8, 0,none⟩) (LL.length + 1) c8)).setCell ⟨w.heap.size + 1, 1,none⟩ (.slice a3 P.main.length k3)).setCell ⟨w.heap.size + 1, 2,none⟩ (.slice a5 BB.rows.length k5)).setCell ⟨w.heap.size + 1, 3,none⟩ (.int .i64 BB.added)) = X := ⟨_,rfl⟩
    obtain ⟨hPO,hBF,q0,q1,q2,q3⟩ := HE.out X hX
    rw [hX]
    clear hX
    try dsimp only at q3 hPO
    refine bodyPost_ret (v := .tuple #[.agg #[(.slice (some ⟨g8, 0,none⟩) (LL.length + 1) c8),(.slice a3 P.main.length k3),(.slice a5 BB.rows.length k5),.int .i64 BB.added],.string noKey]) (by simp [results,Tryz.results38,go_sem,q0,q1,q2,q3,noKey]) rfl ⟨.agg #[(.slice (some ⟨g8, 0,none⟩) (LL.length + 1) c8),(.slice a3 P.main.length k3),(.slice a5 BB.rows.length k5),.int .i64 BB.added], ?_, ?_,hBF⟩
    ·rw [HQ.out]
    ·rw [HQ.out]
     exact hPO
   | false =>
    rw [hiw] at cW
    rw [hiw,if_neg (by decide)] at HTP
    clear hiw cWo
    go_wp2_with fail
    rw [HW6.out] at z0 z1 ⊢
    refine cW.mono ?_
    rintro e w' ⟨rfl,hw'⟩
    rw [hw']
    clear hw' cW w' z0
    cases him : inL P.main key with
    | true =>
     rw [him] at cM
     rw [him,if_pos rfl] at HTP
     clear him
     go_wp2_with fail
     refine cM.mono ?_
     rintro e w' ⟨rfl,hw'⟩
     rw [hw']
     clear hw' cM w'
     go_wp2_with fail
     refine cMo.mono ?_
     rintro e w7 ⟨v7,rfl,_,ho7,hb7⟩
     obtain ⟨a7,k7,rfl,_⟩ := ho7.strsAt
     have hln : (without P.main key).length ≤ 2000000 := by have h1 := List.length_filter_le (fun z => !decide (z = key)) P.main; have h2 := HSZ.out.2.2.1; unfold without; omega
     have hs7 := hb7.size
     have S6 : OutS w1 w6 V w1.heap.size (.slice a2 P.win.length k2) (.slice a3 P.main.length k3) (.slice a5 BB.rows.length k5) ⟨P.win,P.main,BB⟩ := HS6.out
     have HV8 : Hid (∀ w8,Below w6.heap.size w6 w8 → w8.cell? ⟨V, 1,none⟩ = some (.slice a3 P.main.length k3) ∧ w8.frozen? ⟨V, 1,none⟩ = false) := fun w8 h => ⟨(S6.on h).1.cells.2.1,(S6.on h).1.thaw 1⟩
     obtain ⟨LL,hLL⟩ : ∃ L,without P.main key = L := ⟨_,rfl⟩
     rw [hLL] at ho7 hln HTP ⊢
     clear S6 cMo hLL
     have HQ : Hid (touchP P key = (⟨P.win,LL ++ [key],BB⟩,noKey)) := HTP
     go_wp2_with (at_builtin; refine wpList_snocS rfl (.tmp 45) (.tmp 47) 25 rfl w6.heap.size Tryz.underlying25 Tryz.infoSK _ LL rfl ho7 key rfl hln hs7 ?_; intro g8 c8 w8 ho8 hg8 hn8; have hb8 := without_own hb7 ho7 hg8; obtain ⟨q0,q1⟩ := HV8.out w8 hb8; have S9 := OutS.main HS6.out (grownBy_below hb8) (ho8.mono (OutS.lo HS6.out)) (fun k e => .inr (by have := (ho8.lt k e).1; omega)); obtain ⟨hRW,HE⟩ := outS_end (w := w) S9 HB1.out; obtain ⟨y0,y1,y2,y3,_⟩ := S9.1.cells; obtain ⟨r0,r1,r2,r3⟩ := hRW.cells; have f0 := hRW.thaw 0; have f1 := hRW.thaw 1; have f2 := hRW.thaw 2; have f3 := hRW.thaw 3; clear hRW; clear S9 ho8 hg8 hn8 hb8)
     obtain ⟨X,hX⟩ : ∃ X,(((((w8.setCell ⟨V, 1,none⟩ (.slice (some ⟨g8, 0,none⟩) (LL.length + 1) c8)).setCell ⟨w.heap.size + 1, 0,none⟩ (.slice a2 P.win.length k2)).setCell ⟨w.heap.size + 1, 1,none⟩ (.slice (some ⟨g8, 0,none⟩) (LL.length + 1) c8)).setCell ⟨w.heap.size + 1, 2,none⟩ (.slice a5 BB.rows.length k5)).setCell ⟨w.heap.size + 1, 3,none⟩ (.int .i64 BB.added)) = X := ⟨_,rfl⟩
     obtain ⟨hPO,hBF,q0,q1,q2,q3⟩ := HE.out X hX
     rw [hX]
     clear hX
     try dsimp only at q3 hPO
     refine bodyPost_ret (v := .tuple #[.agg #[(.slice a2 P.win.length k2),(.slice (some ⟨g8, 0,none⟩) (LL.length + 1) c8),(.slice a5 BB.rows.length k5),.int .i64 BB.added],.string noKey]) (by simp [results,Tryz.results38,go_sem,q0,q1,q2,q3,noKey]) rfl ⟨.agg #[(.slice a2 P.win.length k2),(.slice (some ⟨g8, 0,none⟩) (LL.length + 1) c8),(.slice a5 BB.rows.length k5),.int .i64 BB.added], ?_, ?_,hBF⟩
     ·rw [HQ.out]
     ·rw [HQ.out]
      exact hPO
    | false =>
     rw [him] at cM
     rw [him,if_neg (by decide)] at HTP
     clear him cMo
     go_wp2_with fail
     refine cM.mono ?_
     rintro e w' ⟨rfl,hw'⟩
     rw [hw']
     clear hw' cM w' z1
     have S6 : OutS w1 w6 V w1.heap.size (.slice a2 P.win.length k2) (.slice a3 P.main.length k3) (.slice a5 BB.rows.length k5) ⟨P.win,P.main,BB⟩ := HS6.out
     obtain ⟨t0,t1,_,_,_⟩ := S6.1.cells
     have hlo6 := S6.lo
     have HV1 : Hid (∀ w',w6.grownBy w' (Value.slice a2 P.win.length k2).ownBlock → w'.cell? ⟨V, 0,none⟩ = some (.slice a2 P.win.length k2) ∧ w'.frozen? ⟨V, 0,none⟩ = false) := fun w' hg => ⟨(S6.1.var1 pol_ty hg).1,(S6.1.var1 pol_ty hg).2 0⟩
     by_cases hn2 : P.win.length + 1 ≤ 2
     ·rw [if_pos hn2] at HTP
      have HQ : Hid (touchP P key = (⟨P.win ++ [key],P.main,BB⟩,noKey)) := HTP
      have hle : (P.win.length : Int) + 1 ≤ 2 := by omega
      have hO1 : OwnV w6 w1.heap.size 9 (.slice a2 P.win.length k2) (strs P.win) := S6.1.2.1
      have hwl : P.win.length ≤ 2000000 := by omega
      clear S6 hn2
      go_wp2_with (at_builtin; refine wpList_snocS rfl (.tmp 52) (.tmp 54) 25 rfl w1.heap.size Tryz.underlying25 Tryz.infoSK _ P.win rfl hO1 key rfl hwl hlo6 ?_; intro g8 c8 w8 ho8 hg8 hn8; obtain ⟨q0,q1⟩ := HV1.out w8 hg8; have S9 := OutS.win HS6.out hg8 ho8 (fun k e => by simp only [Value.ownBlock,Option.some.injEq] at e; subst e; exact hn8); obtain ⟨hRW,HE⟩ := outS_end (w := w) S9 HB1.out; obtain ⟨y0,y1,y2,y3,_⟩ := S9.1.cells; obtain ⟨r0,r1,r2,r3⟩ := hRW.cells; have f0 := hRW.thaw 0; have f1 := hRW.thaw 1; have f2 := hRW.thaw 2; have f3 := hRW.thaw 3; clear hRW; clear S9 ho8 hg8 hn8)
      obtain ⟨X,hX⟩ : ∃ X,(((((w8.setCell ⟨V, 0,none⟩ (.slice (some ⟨g8, 0,none⟩) (P.win.length + 1) c8)).setCell ⟨w.heap.size + 1, 0,none⟩ (.slice (some ⟨g8, 0,none⟩) (P.win.length + 1) c8)).setCell ⟨w.heap.size + 1, 1,none⟩ (.slice a3 P.main.length k3)).setCell ⟨w.heap.size + 1, 2,none⟩ (.slice a5 BB.rows.length k5)).setCell ⟨w.heap.size + 1, 3,none⟩ (.int .i64 BB.added)) = X := ⟨_,rfl⟩
      obtain ⟨hPO,hBF,q0,q1,q2,q3⟩ := HE.out X hX
      rw [hX]
      clear hX
      try dsimp only at q3 hPO
      refine bodyPost_ret (v := .tuple #[.agg #[(.slice (some ⟨g8, 0,none⟩) (P.win.length + 1) c8),(.slice a3 P.main.length k3),(.slice a5 BB.rows.length k5),.int .i64 BB.added],.string noKey]) (by simp [results,Tryz.results38,go_sem,q0,q1,q2,q3,noKey]) rfl ⟨.agg #[(.slice (some ⟨g8, 0,none⟩) (P.win.length + 1) c8),(.slice a3 P.main.length k3),(.slice a5 BB.rows.length k5),.int .i64 BB.added], ?_, ?_,hBF⟩
      ·rw [HQ.out]
      ·rw [HQ.out]
       exact hPO
     ·rw [if_neg hn2] at HTP
      obtain ⟨f,s,hfs⟩ : ∃ f s,P.win = [f,s] := by
       have l1 := HZZ.out.1
       match hP : P.win with
       | [f,s] => exact ⟨f,s,rfl⟩
       | [] => rw [hP] at hn2; simp at hn2
       | [_] => rw [hP] at hn2; simp at hn2
       | _ :: _ :: _ :: _ => rw [hP] at l1; simp at l1
      have hO1 : OwnV w6 w1.heap.size 9 (.slice a2 P.win.length k2) (strs [f,s]) := by rw [← hfs]; exact S6.1.2.1
      have HTQ : Hid (touchP P key = pushP [s,key] P.main BB f) := by show _ = _; rw [HTP.out,hfs]; rfl
      have HFZ : Hid (f.size ≤ 1048576) := HZZ.out.2.2.2.1 f (by rw [hfs]; simp)
      have hl2 : ([f,s] : List ByteArray).length ≤ 2000000 := by simp
      clear S6 hn2 hfs HTP
      go_upto_region 12 with (at_builtin; refine wpList_snocS rfl (.tmp 52) (.tmp 54) 25 rfl w1.heap.size Tryz.underlying25 Tryz.infoSK _ [f,s] rfl hO1 key rfl hl2 hlo6 ?_; intro g8 c8 w8 ho8 hg8 hn8; obtain ⟨q0,q1⟩ := HV1.out w8 hg8)
      have S9 : OutS w1 (w8.setCell ⟨V, 0,none⟩ (.slice (some ⟨g8, 0,none⟩) 3 c8)) V w1.heap.size (.slice (some ⟨g8, 0,none⟩) 3 c8) (.slice a3 P.main.length k3) (.slice a5 BB.rows.length k5) ⟨[f,s,key],P.main,BB⟩ := OutS.win HS6.out hg8 ho8 (fun k e => by simp only [Value.ownBlock,Option.some.injEq] at e; subst e; exact hn8)
      obtain ⟨w9,hw9⟩ : ∃ x,w8.setCell ⟨V, 0,none⟩ (.slice (some ⟨g8, 0,none⟩) 3 c8) = x := ⟨_,rfl⟩
      rw [hw9] at S9 ⊢
      clear hw9 hg8 ho8 hn8 q0 q1 hO1 HV1 hlo6 t0 t1 HS6 hl2
      have hO9 : OwnV w9 w1.heap.size 9 (.slice (some ⟨g8, 0,none⟩) 3 c8) (strs [f,s,key]) := S9.1.2.1
      have hcf : w9.cell? ⟨g8, 0,none⟩ = some (.string f) := (hO9.cell (j := 0) (by simp [strs])).1
      obtain ⟨hcp,hcm⟩ := hO9.capOf
      have hc1 : ¬ (c8 = 1) := by omega
      have hc3 : (3 : Int) ≤ (c8 : Int) := by omega
      have hc4 : (1 : Int) ≤ (c8 : Int) := by omega
      obtain ⟨d0,d1,d2,d3,_⟩ := S9.1.cells
      have hbE : Below w9.heap.size w9 (w9.alloc (.cells #[] 9)) := (Below.refl _ _).alloc (Nat.le_refl _) _
      obtain ⟨d0',_,_,_,_⟩ := (S9.on hbE).1.cells
      have hOE : OwnV (w9.alloc (.cells #[] 9)) w9.heap.size 9 (.slice (some ⟨w9.heap.size, 0,none⟩) 0 0) (strs []) := World.ownsRow_made w9 #[] 0 (Nat.le_refl _) (by simp [maxLen]) (by simp)
      have hLR : LAt (w9.alloc (.cells #[] 9)) (some ⟨g8, 1,none⟩) [s,key] (w9.alloc (.cells #[] 9)).heap.size := LAt.rest (S9.on hbE).1.2.1
      have hsE : w9.heap.size ≤ (w9.alloc (.cells #[] 9)).heap.size := by simp
      have HV9 : Hid (∀ W,Below w9.heap.size w9 W → W.cell? ⟨V, 0,none⟩ = some (.slice (some ⟨g8, 0,none⟩) 3 c8) ∧ W.frozen? ⟨V, 0,none⟩ = false) := fun W h => ⟨(S9.on h).1.cells.1,(S9.on h).1.thaw 0⟩
      have HS9 : Hid (OutS w1 w9 V w1.heap.size (.slice (some ⟨g8, 0,none⟩) 3 c8) (.slice a3 P.main.length k3) (.slice a5 BB.rows.length k5) ⟨[f,s,key],P.main,BB⟩) := S9
      clear S9 hO9 hcp hcm
      go_upto_region 16 with (at_builtin; (refine wpList_plusS rfl (.tmp 66) (.tmp 69) 25 rfl w9.heap.size 9 Tryz.underlying25 Tryz.infoSK _ [] rfl hOE (some ⟨g8, 1,none⟩) (c8 - 1) [s,key] _ rfl hLR (by simp) hsE ?_; intro v10 w10 ho10 hg10; have hb10 : Below w9.heap.size w9 w10 := hbE.grown hg10 hsE (fun k e => by have e' : some w9.heap.size = some k := e; injection e' with e''; omega); obtain ⟨a10,k10,hv10,_⟩ := ho10.strsAt; subst hv10; obtain ⟨q0,q1⟩ := HV9.out w10 hb10))
      have S9 : OutS w1 w9 V w1.heap.size (.slice (some ⟨g8, 0,none⟩) 3 c8) (.slice a3 P.main.length k3) (.slice a5 BB.rows.length k5) ⟨[f,s,key],P.main,BB⟩ := HS9.out
      have S11 : OutS w1 (w10.setCell ⟨V, 0,none⟩ (.slice a10 2 k10)) V w1.heap.size (.slice a10 2 k10) (.slice a3 P.main.length k3) (.slice a5 BB.rows.length k5) ⟨[s,key],P.main,BB⟩ := S9.win (grownBy_below hb10) (ho10.mono S9.lo) (fun k e => .inr (by have := (ho10.lt k e).1; omega))
      obtain ⟨w11,hw11⟩ : ∃ x,w10.setCell ⟨V, 0,none⟩ (.slice a10 2 k10) = x := ⟨_,rfl⟩
      rw [hw11] at S11 ⊢
      clear S9 HS9 HV9 hw11 hb10 ho10 hg10 q0 q1 hOE hLR hsE hbE d0 d1 d2 d3 d0' hcf hc1 hc3 hc4
      have HS11 : Hid (OutS w1 w11 V w1.heap.size (.slice a10 2 k10) (.slice a3 P.main.length k3) (.slice a5 BB.rows.length k5) ⟨[s,key],P.main,BB⟩) := S11
      by_cases h4 : P.main.length < 4
      ·have HQ : Hid (touchP P key = (⟨[s,key],P.main ++ [f],BB⟩,noKey)) := by show _ = _; rw [HTQ.out]; unfold pushP; rw [if_pos h4]
       have hlt : (P.main.length : Int) < 4 := by omega
       have hO2 : OwnV w11 w1.heap.size 9 (.slice a3 P.main.length k3) (strs P.main) := S11.1.2.2.1
       have hml : P.main.length ≤ 2000000 := by omega
       have hlo11 := S11.lo
       obtain ⟨d0,d1,d2,d3,_⟩ := S11.1.cells
       have HV2 : Hid (∀ w',w11.grownBy w' (Value.slice a3 P.main.length k3).ownBlock → w'.cell? ⟨V, 1,none⟩ = some (.slice a3 P.main.length k3) ∧ w'.frozen? ⟨V, 1,none⟩ = false) := fun w' hg => ⟨(S11.1.var2 pol_ty hg).1,(S11.1.var2 pol_ty hg).2 1⟩
       clear S11 h4
       go_wp2_with (at_builtin; refine wpList_snocS rfl (.tmp 77) (.tmp 79) 25 rfl w1.heap.size Tryz.underlying25 Tryz.infoSK _ P.main rfl hO2 f rfl hml hlo11 ?_; intro g12 c12 w12 ho12 hg12 hn12; obtain ⟨q0,q1⟩ := HV2.out w12 hg12; have S13 := OutS.main HS11.out hg12 ho12 (fun k e => by simp only [Value.ownBlock,Option.some.injEq] at e; subst e; exact hn12); obtain ⟨hRW,HE⟩ := outS_end (w := w) S13 HB1.out; obtain ⟨y0,y1,y2,y3,_⟩ := S13.1.cells; obtain ⟨r0,r1,r2,r3⟩ := hRW.cells; have f0 := hRW.thaw 0; have f1 := hRW.thaw 1; have f2 := hRW.thaw 2; have f3 := hRW.thaw 3; clear hRW; clear S13 ho12 hg12 hn12)
       obtain ⟨X,hX⟩ : ∃ X,(((((w12.setCell ⟨V, 1,none⟩ (.slice (some ⟨g12, 0,none⟩) (P.main.length + 1) c12)).setCell ⟨w.heap.size + 1, 0,none⟩ (.slice a10 2 k10)).setCell ⟨w.heap.size + 1, 1,none⟩ (.slice (some ⟨g12, 0,none⟩) (P.main.length + 1) c12)).setCell ⟨w.heap.size + 1, 2,none⟩ (.slice a5 BB.rows.length k5)).setCell ⟨w.heap.size + 1, 3,none⟩ (.int .i64 BB.added)) = X := ⟨_,rfl⟩
       obtain ⟨hPO,hBF,q0,q1,q2,q3⟩ := HE.out X hX
       rw [hX]
       clear hX
       try dsimp only at q3 hPO
       refine bodyPost_ret (v := .tuple #[.agg #[(.slice a10 2 k10),(.slice (some ⟨g12, 0,none⟩) (P.main.length + 1) c12),(.slice a5 BB.rows.length k5),.int .i64 BB.added],.string noKey]) (by simp [results,Tryz.results38,go_sem,q0,q1,q2,q3,noKey]) rfl ⟨.agg #[(.slice a10 2 k10),(.slice (some ⟨g12, 0,none⟩) (P.main.length + 1) c12),(.slice a5 BB.rows.length k5),.int .i64 BB.added], ?_, ?_,hBF⟩
       ·rw [HQ.out]
       ·rw [HQ.out]
        exact hPO
      ·obtain ⟨m0,m1,m2,m3,hmm⟩ : ∃ m0 m1 m2 m3,P.main = [m0,m1,m2,m3] := by
        have l1 := HZZ.out.2.1
        match hP : P.main with
        | [a,b,c,d] => exact ⟨a,b,c,d,rfl⟩
        | [] => rw [hP] at h4; simp at h4
        | [_] => rw [hP] at h4; simp at h4
        | [_,_] => rw [hP] at h4; simp at h4
        | [_,_,_] => rw [hP] at h4; simp at h4
        | _ :: _ :: _ :: _ :: _ :: _ => rw [hP] at l1; simp at l1
       have hm4 : P.main.length = 4 := by rw [hmm]; rfl
       have HMZ : Hid (m0.size ≤ 1048576) := HZZ.out.2.2.2.2 m0 (by rw [hmm]; simp)
       have HTR : Hid (touchP P key = if guessS BB m0 < guessS BB f then (⟨[s,key], [m1,m2,m3] ++ [f],BB⟩,m0) else (⟨[s,key], [m0,m1,m2,m3],BB⟩,f)) := by show _ = _; rw [HTQ.out]; unfold pushP; rw [if_neg h4,hmm]; rfl
       rw [hm4,hmm] at S11 HS11
       rw [hm4]
       clear h4 hmm hm4 HTQ HZZ S11
       have S11 : OutS w1 w11 V w1.heap.size (.slice a10 2 k10) (.slice a3 4 k3) (.slice a5 BB.rows.length k5) ⟨[s,key], [m0,m1,m2,m3],BB⟩ := HS11.out
       have hO2 : OwnV w11 w1.heap.size 9 (.slice a3 4 k3) (strs [m0,m1,m2,m3]) := S11.1.2.2.1
       obtain ⟨g3,rfl⟩ : ∃ g,a3 = some ⟨g, 0,none⟩ := by
        obtain ⟨a',c',e',h'⟩ := hO2.shape
        simp only [Value.slice.injEq] at e'
        obtain ⟨g,e1,_⟩ := h' 0 (by simp [strs])
        exact ⟨g,e'.1.trans e1⟩
       have hcm : w11.cell? ⟨g3, 0,none⟩ = some (.string m0) := (hO2.cell (j := 0) (by simp [strs])).1
       obtain ⟨hcp,_⟩ := hO2.capOf
       obtain ⟨d0,d1,d2,d3,_⟩ := S11.1.cells
       have hSS : SSAt w11 a5 BB.rows w11.heap.size := by
        obtain ⟨a',c',e',h'⟩ := S11.1.2.2.2.2.at
        simp only [Value.slice.injEq] at e'
        rw [e'.1]
        exact h'
       obtain ⟨x,hx⟩ : ∃ x,guessS BB f = x := ⟨_,rfl⟩
       obtain ⟨y,hy⟩ : ∃ y,guessS BB m0 = y := ⟨_,rfl⟩
       have cF : ∀ d os,Calls Tryz.prog 64 #[.agg #[.slice a5 BB.rows.length k5,.int .i64 BB.added],.string f] (grow (redrawn w11 d) os) fun e w'' => e = .returned (.int .i64 x) ∧ ∃ p : Regrown,w'' = grow (redrawn w11 p.d) p.os := fun d os => Calls.regrown_of (by rw [← hx]; exact specSketchGuess_any (grow (redrawn w11 d) os) a5 k5 BB f (hSS.on (below_regrown w11 d os)) hbl HFZ.out)
       have cM : ∀ d os,Calls Tryz.prog 64 #[.agg #[.slice a5 BB.rows.length k5,.int .i64 BB.added],.string m0] (grow (redrawn w11 d) os) fun e w'' => e = .returned (.int .i64 y) ∧ ∃ p : Regrown,w'' = grow (redrawn w11 p.d) p.os := fun d os => Calls.regrown_of (by rw [← hy]; exact specSketchGuess_any (grow (redrawn w11 d) os) a5 k5 BB m0 (hSS.on (below_regrown w11 d os)) hbl HMZ.out)
       have kd1 := cell_regrown d1
       have kd2 := cell_regrown d2
       have kd3 := cell_regrown d3
       have kcm := cell_regrown hcm
       rw [hx,hy] at HTR
       clear S11 hSS hx hy hO2 d0
       by_cases hg : y < x
       ·rw [if_pos hg] at HTR
        have HQ : Hid (touchP P key = (⟨[s,key], [m1,m2,m3] ++ [f],BB⟩,m0)) := HTR
        go_wp2_with fail
        refine wp_region_quiet_below (by kernel_rfl) (by kernel_rfl) ?_
        repeat (first | go_big_quiet_step (first | with_reducible exact cF _ _ | with_reducible exact cM _ _) | quiet_step (first | with_reducible exact cF _ _ | with_reducible exact cM _ _))
        refine wpQuiet_nil ?_
        intro _ hw'
        obtain ⟨⟨dq,osq⟩,hw''⟩ := hw'
        subst hw''
        have S12 : OutS w1 (grow (redrawn w11 dq) osq) V w1.heap.size (.slice a10 2 k10) (.slice (some ⟨g3, 0,none⟩) 4 k3) (.slice a5 BB.rows.length k5) ⟨[s,key], [m0,m1,m2,m3],BB⟩ := OutS.on HS11.out (below_regrown w11 dq osq)
        obtain ⟨w12,hw12⟩ : ∃ x,grow (redrawn w11 dq) osq = x := ⟨_,rfl⟩
        show Exit.then _ _ Exit.normal _ (grow (redrawn w11 dq) osq)
        rw [hw12] at S12 ⊢
        clear hw12 cF cM kd1 kd2 kd3 kcm d1 d2 d3 hcm
        have hcm : w12.cell? ⟨g3, 0,none⟩ = some (.string m0) := (S12.1.2.2.1.cell (j := 0) (by simp [strs])).1
        obtain ⟨d0,d1,_,_,_⟩ := S12.1.cells
        have hc1 : ¬ (k3 = 1) := by omega
        have hc3 : (4 : Int) ≤ (k3 : Int) := by omega
        have hc4 : (1 : Int) ≤ (k3 : Int) := by omega
        have hbE : Below w12.heap.size w12 (w12.alloc (.cells #[] 9)) := (Below.refl _ _).alloc (Nat.le_refl _) _
        obtain ⟨_,d1',_,_,_⟩ := (S12.on hbE).1.cells
        have hOE : OwnV (w12.alloc (.cells #[] 9)) w12.heap.size 9 (.slice (some ⟨w12.heap.size, 0,none⟩) 0 0) (strs []) := World.ownsRow_made w12 #[] 0 (Nat.le_refl _) (by simp [maxLen]) (by simp)
        have hLR : LAt (w12.alloc (.cells #[] 9)) (some ⟨g3, 1,none⟩) [m1,m2,m3] (w12.alloc (.cells #[] 9)).heap.size := LAt.rest (S12.on hbE).1.2.2.1
        have hsE : w12.heap.size ≤ (w12.alloc (.cells #[] 9)).heap.size := by simp
        have HV12 : Hid (∀ W,Below w12.heap.size w12 W → W.cell? ⟨V, 1,none⟩ = some (.slice (some ⟨g3, 0,none⟩) 4 k3) ∧ W.frozen? ⟨V, 1,none⟩ = false) := fun W h => ⟨(S12.on h).1.cells.2.1,(S12.on h).1.thaw 1⟩
        have HS12 : Hid (OutS w1 w12 V w1.heap.size (.slice a10 2 k10) (.slice (some ⟨g3, 0,none⟩) 4 k3) (.slice a5 BB.rows.length k5) ⟨[s,key], [m0,m1,m2,m3],BB⟩) := S12
        clear S12 hcp
        go_wp2_with (at_builtin; first
         | (refine wpList_plusS rfl (.tmp 99) (.tmp 102) 25 rfl w12.heap.size 9 Tryz.underlying25 Tryz.infoSK _ [] rfl hOE (some ⟨g3, 1,none⟩) (k3 - 1) [m1,m2,m3] _ rfl hLR (by simp) hsE ?_; intro v13 w13 ho13 hg13; have hb13 : Below w12.heap.size w12 w13 := hbE.grown hg13 hsE (fun k e => by have e1 : some w12.heap.size = some k := e; injection e1 with e2; omega); obtain ⟨a13,k13,hv13,_⟩ := ho13.strsAt; subst hv13; have hs13 := hb13.size; clear hOE hLR)
         | (refine wpList_snocS rfl (.tmp 103) (.tmp 105) 25 rfl w12.heap.size Tryz.underlying25 Tryz.infoSK _ [m1,m2,m3] rfl ho13 f rfl (by simp) hs13 ?_; intro g14 c14 w14 ho14 hg14 hn14; have hb14 := without_own hb13 ho13 hg14; obtain ⟨q0,q1⟩ := HV12.out w14 hb14; have S15 : OutS w1 (w14.setCell ⟨V, 1,none⟩ (.slice (some ⟨g14, 0,none⟩) 4 c14)) V w1.heap.size (.slice a10 2 k10) (.slice (some ⟨g14, 0,none⟩) 4 c14) (.slice a5 BB.rows.length k5) ⟨[s,key], [m1,m2,m3] ++ [f],BB⟩ := OutS.main HS12.out (grownBy_below hb14) (ho14.mono (OutS.lo HS12.out)) (fun k e => .inr (by have := (ho14.lt k e).1; omega)); obtain ⟨hRW,HE⟩ := outS_end (w := w) S15 HB1.out; obtain ⟨y0,y1,y2,y3,_⟩ := S15.1.cells; obtain ⟨r0,r1,r2,r3⟩ := hRW.cells; have f0 := hRW.thaw 0; have f1 := hRW.thaw 1; have f2 := hRW.thaw 2; have f3 := hRW.thaw 3; clear hRW; clear S15 ho14 hg14 hn14))
        obtain ⟨X,hX⟩ : ∃ X,(((((w14.setCell ⟨V, 1,none⟩ (.slice (some ⟨g14, 0,none⟩) 4 c14)).setCell ⟨w.heap.size + 1, 0,none⟩ (.slice a10 2 k10)).setCell ⟨w.heap.size + 1, 1,none⟩ (.slice (some ⟨g14, 0,none⟩) 4 c14)).setCell ⟨w.heap.size + 1, 2,none⟩ (.slice a5 BB.rows.length k5)).setCell ⟨w.heap.size + 1, 3,none⟩ (.int .i64 BB.added)) = X := ⟨_,rfl⟩
        obtain ⟨hPO,hBF,q0,q1,q2,q3⟩ := HE.out X hX
        rw [hX]
        clear hX
        try dsimp only at q3 hPO
        refine bodyPost_ret (v := .tuple #[.agg #[(.slice a10 2 k10),(.slice (some ⟨g14, 0,none⟩) 4 c14),(.slice a5 BB.rows.length k5),.int .i64 BB.added],.string m0]) (by simp [results,Tryz.results38,go_sem,q0,q1,q2,q3]) rfl ⟨.agg #[(.slice a10 2 k10),(.slice (some ⟨g14, 0,none⟩) 4 c14),(.slice a5 BB.rows.length k5),.int .i64 BB.added], ?_, ?_,hBF⟩
        ·rw [HQ.out]
        ·rw [HQ.out]
         exact hPO
       ·rw [if_neg hg] at HTR
        have HQ : Hid (touchP P key = (⟨[s,key], [m0,m1,m2,m3],BB⟩,f)) := HTR
        go_wp2_with fail
        refine wp_region_quiet_below (by kernel_rfl) (by kernel_rfl) ?_
        repeat (first | go_big_quiet_step (first | with_reducible exact cF _ _ | with_reducible exact cM _ _) | quiet_step (first | with_reducible exact cF _ _ | with_reducible exact cM _ _))
        refine wpQuiet_nil ?_
        intro _ hw'
        obtain ⟨⟨dq,osq⟩,hw''⟩ := hw'
        subst hw''
        have S12 : OutS w1 (grow (redrawn w11 dq) osq) V w1.heap.size (.slice a10 2 k10) (.slice (some ⟨g3, 0,none⟩) 4 k3) (.slice a5 BB.rows.length k5) ⟨[s,key], [m0,m1,m2,m3],BB⟩ := OutS.on HS11.out (below_regrown w11 dq osq)
        obtain ⟨w12,hw12⟩ : ∃ x,grow (redrawn w11 dq) osq = x := ⟨_,rfl⟩
        show Exit.then _ _ Exit.normal _ (grow (redrawn w11 dq) osq)
        rw [hw12] at S12 ⊢
        clear hw12 cF cM kd1 kd2 kd3 kcm d1 d2 d3 hcm
        obtain ⟨hRW,HE⟩ := outS_end (w := w) S12 HB1.out
        obtain ⟨y0,y1,y2,y3,_⟩ := S12.1.cells
        obtain ⟨r0,r1,r2,r3⟩ := hRW.cells
        have f0 := hRW.thaw 0
        have f1 := hRW.thaw 1
        have f2 := hRW.thaw 2
        have f3 := hRW.thaw 3
        clear hRW
        clear S12
        go_wp2_with fail
        obtain ⟨X,hX⟩ : ∃ X,((((w12.setCell ⟨w.heap.size + 1, 0,none⟩ (.slice a10 2 k10)).setCell ⟨w.heap.size + 1, 1,none⟩ (.slice (some ⟨g3, 0,none⟩) 4 k3)).setCell ⟨w.heap.size + 1, 2,none⟩ (.slice a5 BB.rows.length k5)).setCell ⟨w.heap.size + 1, 3,none⟩ (.int .i64 BB.added)) = X := ⟨_,rfl⟩
        obtain ⟨hPO,hBF,q0,q1,q2,q3⟩ := HE.out X hX
        rw [hX]
        clear hX
        try dsimp only at q3 hPO
        refine bodyPost_ret (v := .tuple #[.agg #[(.slice a10 2 k10),(.slice (some ⟨g3, 0,none⟩) 4 k3),(.slice a5 BB.rows.length k5),.int .i64 BB.added],.string f]) (by simp [results,Tryz.results38,go_sem,q0,q1,q2,q3]) rfl ⟨.agg #[(.slice a10 2 k10),(.slice (some ⟨g3, 0,none⟩) 4 k3),(.slice a5 BB.rows.length k5),.int .i64 BB.added], ?_, ?_,hBF⟩
        ·rw [HQ.out]
        ·rw [HQ.out]
         exact hPO
end Go.Proofs.YthfjfccdelbkhaaGreatDoor
