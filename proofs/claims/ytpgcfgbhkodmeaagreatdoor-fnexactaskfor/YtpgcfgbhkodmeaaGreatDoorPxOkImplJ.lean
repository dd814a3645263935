/- Texts that stand in one: PxOkImpl, MayAsk, AskPlain. -/
import Derived.Test.YtpgcfgbhkodmeaaGreatDoorPxCliImplJ
import Derived.Test.YtpgcfgbhkodmeaaGreatDoorPolOkSzJ
import Derived.Test.YtpgcfgbhkodmeaaGreatDoorInsCliJ
import Derived.Test.YtpgcfgbhkodmeaaGreatDoorPolDropImplJ
import Derived.Test.YtpgcfgbhkodmeaaGreatDoorEntFreshJ
import Derived.Test.YtpgcfgbhkodmeaaGreatDoorEntPlaceJ
import Derived.Test.YtpgcfgbhkodmeaaGreatDoorCellPlainJ
import Derived.Test.YtpgcfgbhkodmeaaGreatDoorPolPlainJ
namespace Go.Proofs.YtpgcfgbhkodmeaaGreatDoor
open Go.RowKit Go.Sort
set_option maxRecDepth 100000 in
set_option maxHeartbeats 8000000 in
theorem implProxyOk_any (w : World) (X : Pc) (R : Prx) (hA : PxAt w X R w.heap.size) (hsz : PxSz R) (hcap : RoomF X.f R.fes.length) :
  Calls Tryz.prog 30 #[.agg #[.int .i64 R.now,X.e,X.w,X.m,X.k,.int .i64 R.pol.sk.added,X.f,X.c,.int .i64 R.hits]] w fun e w' => e = .returned (.bool (okX R)) ∧ Below w.heap.size w w' := by
 obtain ⟨e0,e1,p0,p1,m0,m1,k0,k1,f0,f1,c0,c1,rfl⟩ := hA.slices
 dsimp only at hcap ⊢
 obtain ⟨w1,hw1⟩ : ∃ x,w.alloc (.cells #[.int .i64 R.now,.slice e0 R.ents.length e1,.slice p0 R.pol.win.length p1,.slice m0 R.pol.main.length m1,.slice k0 R.pol.sk.rows.length k1,.int .i64 R.pol.sk.added,.slice f0 R.fes.length f1,.slice c0 R.cls.length c1,.int .i64 R.hits] 48) = x := ⟨_,rfl⟩
 have hb1 : Below w.heap.size w w1 := by rw [← hw1]; exact (Below.refl _ _).alloc (Nat.le_refl _) _
 have hB1 : NB w1 w.heap.size 48 (.int .i64 R.now) (.slice e0 R.ents.length e1) (.slice p0 R.pol.win.length p1) (.slice m0 R.pol.main.length m1) (.slice k0 R.pol.sk.rows.length k1) (.int .i64 R.pol.sk.added) (.slice f0 R.fes.length f1) (.slice c0 R.cls.length c1) (.int .i64 R.hits) := by rw [← hw1]; exact NB.new _ _ _ _ _ _ _ _ _ _ _
 have HN1 : Hid (NB w1 w.heap.size 48 (.int .i64 R.now) (.slice e0 R.ents.length e1) (.slice p0 R.pol.win.length p1) (.slice m0 R.pol.main.length m1) (.slice k0 R.pol.sk.rows.length k1) (.int .i64 R.pol.sk.added) (.slice f0 R.fes.length f1) (.slice c0 R.cls.length c1) (.int .i64 R.hits)) := hB1
 have HA1 : Hid (PxAt w1 ⟨.slice e0 R.ents.length e1,.slice p0 R.pol.win.length p1,.slice m0 R.pol.main.length m1,.slice k0 R.pol.sk.rows.length k1,.slice f0 R.fes.length f1,.slice c0 R.cls.length c1⟩ R w1.heap.size) := hA.on hb1
 have HB1 : Hid (Below w.heap.size w w1) := hb1
 have HW : Hid (w.alloc (.cells #[.int .i64 R.now,.slice e0 R.ents.length e1,.slice p0 R.pol.win.length p1,.slice m0 R.pol.main.length m1,.slice k0 R.pol.sk.rows.length k1,.int .i64 R.pol.sk.added,.slice f0 R.fes.length f1,.slice c0 R.cls.length c1,.int .i64 R.hits] 48) = w1) := hw1
 have HSZ : Hid (PxSz R) := hsz
 have HC : Hid (R.fes.length ≤ f1) := hcap _ _ _ rfl
 have HSE : Hid (∀ e ∈ R.ents,e.key.size ≤ 1048576 ∧ e.bd.size ≤ 1048576) := hsz.ents
 have HSF : Hid (∀ e ∈ R.fes,e.key.size ≤ 1048576 ∧ e.tx.size ≤ 1048576) := hsz.fes
 obtain ⟨res,hres⟩ : ∃ r,okX R = r := ⟨_,rfl⟩
 obtain ⟨x4,hx4⟩ : ∃ b,okP R.pol = b := ⟨_,rfl⟩
 obtain ⟨x5,hx5⟩ : ∃ b,entsOkX R.ents R.pol = b := ⟨_,rfl⟩
 obtain ⟨x6,hx6⟩ : ∃ b,fesOkX R.now R.fes = b := ⟨_,rfl⟩
 obtain ⟨x7,hx7⟩ : ∃ b,clsOkX R = b := ⟨_,rfl⟩
 obtain ⟨y0,hy0⟩ : ∃ b,decide (0 < R.now) = b := ⟨_,rfl⟩
 have HY4 : Hid (okP R.pol = x4) := hx4
 have HY5 : Hid (entsOkX R.ents R.pol = x5) := hx5
 have HY6 : Hid (fesOkX R.now R.fes = x6) := hx6
 have HY7 : Hid (clsOkX R = x7) := hx7
 have HE : Hid (res = (y0 && (inB R.now 0 1000000000 && (inB R.hits 0 1000000000 && (x4 && (x5 && (x6 && x7))))))) := by
  show _ = _
  rw [← hres]
  unfold okX
  rw [hx4,hx5,hx6,hx7, ← hy0,show inB R.now 1 1000000000 = (decide (0 < R.now) && inB R.now 0 1000000000) by
   unfold inB
   by_cases h : 0 < R.now
   ·rw [decide_eq_true h,decide_eq_true (show (1 : Int) ≤ R.now by omega),decide_eq_true (show (0 : Int) ≤ R.now by omega)]; rfl
   ·rw [decide_eq_false h,decide_eq_false (show ¬ (1 : Int) ≤ R.now by omega)]; rfl]
  simp only [Bool.and_assoc]
 rw [hres]
 have cK2 := numE_any R.now w1
 have cK3 := numE_any R.hits w1
 generalize inB R.now 0 1000000000 = x2 at cK2 HE
 generalize inB R.hits 0 1000000000 = x3 at cK3 HE
 obtain ⟨b0,b1,b2,b3,b4,b5,b6,b7,b8⟩ := hB1.cells
 rw [← hw1] at b0
 clear hw1 hb1 hB1 hA hsz hres hx4 hx5 hx6 hx7 hcap
 go_enter Tryz.func30,Tryz.ntmps30
 cases y0 with
 | false =>
  have HR : Hid (res = false) := by show _ = _; rw [HE.out]; simp
  go_wp2_with fail
  rw [HW.out]
  go_ret
  exact ⟨by rw [HR.out]; rfl,HB1.out⟩
 | true =>
  go_wp2_with fail
  rw [HW.out] at b0 ⊢
  refine cK2.mono ?_
  rintro e w' ⟨rfl,rfl⟩
  cases x2 with
  | false =>
   have HR : Hid (res = false) := by show _ = _; rw [HE.out]; simp
   go_wp2_with fail
   go_ret
   exact ⟨by rw [HR.out]; rfl,HB1.out⟩
  | true =>
   go_wp2_with fail
   refine cK3.mono ?_
   rintro e w' ⟨rfl,rfl⟩
   cases x3 with
   | false =>
    have HR : Hid (res = false) := by show _ = _; rw [HE.out]; simp
    go_wp2_with fail
    go_ret
    exact ⟨by rw [HR.out]; rfl,HB1.out⟩
   | true =>
    have cK4 := implPolicyOk_sz w1 p0 m0 k0 p1 m1 k1 R.pol HA1.out.polAt HSZ.out.parts.2.1
    rw [HY4.out] at cK4
    go_wp2_with fail
    refine cK4.mono ?_
    rintro e w2 ⟨rfl,hb⟩
    clear b0 b1 b2 b3 b4 b5 b6 b7 b8
    have HB2 : Hid (Below w.heap.size w w2) := HB1.out.trans (hb.mono HB1.out.size)
    have HN2 : Hid (NB w2 w.heap.size 48 (.int .i64 R.now) (.slice e0 R.ents.length e1) (.slice p0 R.pol.win.length p1) (.slice m0 R.pol.main.length m1) (.slice k0 R.pol.sk.rows.length k1) (.int .i64 R.pol.sk.added) (.slice f0 R.fes.length f1) (.slice c0 R.cls.length c1) (.int .i64 R.hits)) := HN1.out.on hb
    have HA2 : Hid (PxAt w2 ⟨.slice e0 R.ents.length e1,.slice p0 R.pol.win.length p1,.slice m0 R.pol.main.length m1,.slice k0 R.pol.sk.rows.length k1,.slice f0 R.fes.length f1,.slice c0 R.cls.length c1⟩ R w2.heap.size) := HA1.out.on hb
    clear hb
    obtain ⟨b0,b1,b2,b3,b4,b5,b6,b7,b8⟩ := HN2.out.cells
    cases x4 with
    | false =>
     have HR : Hid (res = false) := by show _ = _; rw [HE.out]; simp
     go_wp2_with fail
     go_ret
     exact ⟨by rw [HR.out]; rfl,HB2.out⟩
    | true =>
     have cK5 := implEntries_any w2 e0 p0 m0 k0 e1 p1 m1 k1 R.ents R.pol (EnsV.at' HA2.out.e) HA2.out.polAt HSZ.out.parts.1 HSZ.out.parts.2.1 HSE.out
     rw [HY5.out] at cK5
     go_wp2_with fail
     refine cK5.mono ?_
     rintro e w3 ⟨rfl,hb⟩
     clear b0 b1 b2 b3 b4 b5 b6 b7 b8
     have HB3 : Hid (Below w.heap.size w w3) := HB2.out.trans (hb.mono HB2.out.size)
     have HN3 : Hid (NB w3 w.heap.size 48 (.int .i64 R.now) (.slice e0 R.ents.length e1) (.slice p0 R.pol.win.length p1) (.slice m0 R.pol.main.length m1) (.slice k0 R.pol.sk.rows.length k1) (.int .i64 R.pol.sk.added) (.slice f0 R.fes.length f1) (.slice c0 R.cls.length c1) (.int .i64 R.hits)) := HN2.out.on hb
     have HA3 : Hid (PxAt w3 ⟨.slice e0 R.ents.length e1,.slice p0 R.pol.win.length p1,.slice m0 R.pol.main.length m1,.slice k0 R.pol.sk.rows.length k1,.slice f0 R.fes.length f1,.slice c0 R.cls.length c1⟩ R w3.heap.size) := HA2.out.on hb
     clear hb
     obtain ⟨b0,b1,b2,b3,b4,b5,b6,b7,b8⟩ := HN3.out.cells
     cases x5 with
     | false =>
      have HR : Hid (res = false) := by show _ = _; rw [HE.out]; simp
      go_wp2_with fail
      go_ret
      exact ⟨by rw [HR.out]; rfl,HB3.out⟩
     | true =>
      have cK6 := implFetches_any w3 f0 f1 R.fes R.now (FetV.at' HA3.out.f) HC.out (fun f hf => by have := HSF.out f hf; omega)
      rw [HY6.out] at cK6
      go_wp2_with fail
      refine cK6.mono ?_
      rintro e w4 ⟨rfl,hb⟩
      clear b0 b1 b2 b3 b4 b5 b6 b7 b8
      have HB4 : Hid (Below w.heap.size w w4) := HB3.out.trans (hb.mono HB3.out.size)
      have HN4 : Hid (NB w4 w.heap.size 48 (.int .i64 R.now) (.slice e0 R.ents.length e1) (.slice p0 R.pol.win.length p1) (.slice m0 R.pol.main.length m1) (.slice k0 R.pol.sk.rows.length k1) (.int .i64 R.pol.sk.added) (.slice f0 R.fes.length f1) (.slice c0 R.cls.length c1) (.int .i64 R.hits)) := HN3.out.on hb
      have HA4 : Hid (PxAt w4 ⟨.slice e0 R.ents.length e1,.slice p0 R.pol.win.length p1,.slice m0 R.pol.main.length m1,.slice k0 R.pol.sk.rows.length k1,.slice f0 R.fes.length f1,.slice c0 R.cls.length c1⟩ R w4.heap.size) := HA3.out.on hb
      clear hb
      obtain ⟨b0,b1,b2,b3,b4,b5,b6,b7,b8⟩ := HN4.out.cells
      cases x6 with
      | false =>
       have HR : Hid (res = false) := by show _ = _; rw [HE.out]; simp
       go_wp2_with fail
       go_ret
       exact ⟨by rw [HR.out]; rfl,HB4.out⟩
      | true =>
       have cK7 := implClients_any w4 ⟨.slice e0 R.ents.length e1,.slice p0 R.pol.win.length p1,.slice m0 R.pol.main.length m1,.slice k0 R.pol.sk.rows.length k1,.slice f0 R.fes.length f1,.slice c0 R.cls.length c1⟩ R HA4.out HSZ.out
       dsimp only at cK7
       rw [HY7.out] at cK7
       go_wp2_with fail
       refine cK7.mono ?_
       rintro e w5 ⟨rfl,hb⟩
       clear b0 b1 b2 b3 b4 b5 b6 b7 b8
       have HB5 : Hid (Below w.heap.size w w5) := HB4.out.trans (hb.mono HB4.out.size)
       have HN5 : Hid (NB w5 w.heap.size 48 (.int .i64 R.now) (.slice e0 R.ents.length e1) (.slice p0 R.pol.win.length p1) (.slice m0 R.pol.main.length m1) (.slice k0 R.pol.sk.rows.length k1) (.int .i64 R.pol.sk.added) (.slice f0 R.fes.length f1) (.slice c0 R.cls.length c1) (.int .i64 R.hits)) := HN4.out.on hb
       have HA5 : Hid (PxAt w5 ⟨.slice e0 R.ents.length e1,.slice p0 R.pol.win.length p1,.slice m0 R.pol.main.length m1,.slice k0 R.pol.sk.rows.length k1,.slice f0 R.fes.length f1,.slice c0 R.cls.length c1⟩ R w5.heap.size) := HA4.out.on hb
       clear hb
       obtain ⟨b0,b1,b2,b3,b4,b5,b6,b7,b8⟩ := HN5.out.cells
       cases x7 with
       | false =>
        have HR : Hid (res = false) := by show _ = _; rw [HE.out]; simp
        go_wp2_with fail
        go_ret
        exact ⟨by rw [HR.out]; rfl,HB5.out⟩
       | true =>
        have HR : Hid (res = true) := by show _ = _; rw [HE.out]; rfl
        go_wp2_with fail
        go_ret
        exact ⟨by rw [HR.out]; rfl,HB5.out⟩
def mayB (R : Prx) (id : Int) (key : ByteArray) : Bool := okX R && (inB id 1 9 && (enKey key && (!decide (R.cls.length = 6) && !R.cls.any fun c => decide (c.id = id))))
theorem ascC_of {R : Prx} (h : OkX R) : AscC R.cls := fun i j hi hj hij => (List.pairwise_iff_getElem.1 h.cup) i j hi hj hij
theorem PlaceC.any {L : List Cli} {id : Int} {k : Nat} {b : Bool} (h : PlaceC L id k b) (hA : AscC L) : (L.any fun c => decide (c.id = id)) = b := by
 cases b with
 | true =>
  obtain ⟨hk,he⟩ := h.there.1 rfl
  exact List.any_eq_true.2 ⟨L[k],List.getElem_mem hk,by simpa using he⟩
 | false =>
  have hn := h.none hA
  rw [List.any_eq_false]
  intro c hc
  simpa using hn c hc
set_option maxHeartbeats 1000000 in
theorem idA_any (x : Int) (w : World) : Calls Tryz.prog 119 #[.int .i64 x] w fun e w' => e = .returned (.bool (inB x 1 9)) ∧ w' = w := by
 by_cases h1 : x ≥ 1
 ·by_cases h2 : x ≤ 9
  ·have HP : Hid (inB x 1 9 = true) := by show _ = _; unfold inB; simp; omega
   go_enter Tryz.func119,Tryz.ntmps119
   go_wp2
   go_ret
   exact ⟨by rw [HP.out]; rfl,rfl⟩
  ·have HP : Hid (inB x 1 9 = false) := by show _ = _; unfold inB; simp; omega
   go_enter Tryz.func119,Tryz.ntmps119
   go_wp2
   go_ret
   exact ⟨by rw [HP.out]; rfl,rfl⟩
 ·have HP : Hid (inB x 1 9 = false) := by show _ = _; unfold inB; simp; omega
  go_enter Tryz.func119,Tryz.ntmps119
  go_wp2
  go_ret
  exact ⟨by rw [HP.out]; rfl,rfl⟩
set_option maxRecDepth 100000 in
set_option maxHeartbeats 8000000 in
theorem mayAsk_any (w : World) (X : Pc) (R : Prx) (id : Int) (key : ByteArray) (hA : PxAt w X R w.heap.size) (hsz : PxSz R) (hcap : RoomF X.f R.fes.length) (hkey : key.size ≤ 1048576) :
  Calls Tryz.prog 56 #[.agg #[.int .i64 R.now,X.e,X.w,X.m,X.k,.int .i64 R.pol.sk.added,X.f,X.c,.int .i64 R.hits],.int .i64 id,.string key] w fun e w' => e = .returned (.bool (mayB R id key)) ∧ Below w.heap.size w w' := by
 obtain ⟨e0,e1,p0,p1,m0,m1,k0,k1,f0,f1,c0,c1,rfl⟩ := hA.slices
 dsimp only at hcap ⊢
 obtain ⟨_,_,_,hl4⟩ := hsz.parts
 obtain ⟨w1,hw1⟩ : ∃ x,w.alloc (.cells #[.int .i64 R.now,.slice e0 R.ents.length e1,.slice p0 R.pol.win.length p1,.slice m0 R.pol.main.length m1,.slice k0 R.pol.sk.rows.length k1,.int .i64 R.pol.sk.added,.slice f0 R.fes.length f1,.slice c0 R.cls.length c1,.int .i64 R.hits] 48) = x := ⟨_,rfl⟩
 have hb1 : Below w.heap.size w w1 := by rw [← hw1]; exact (Below.refl _ _).alloc (Nat.le_refl _) _
 have hB1 : NB w1 w.heap.size 48 (.int .i64 R.now) (.slice e0 R.ents.length e1) (.slice p0 R.pol.win.length p1) (.slice m0 R.pol.main.length m1) (.slice k0 R.pol.sk.rows.length k1) (.int .i64 R.pol.sk.added) (.slice f0 R.fes.length f1) (.slice c0 R.cls.length c1) (.int .i64 R.hits) := by rw [← hw1]; exact NB.new _ _ _ _ _ _ _ _ _ _ _
 have HN1 : Hid (NB w1 w.heap.size 48 (.int .i64 R.now) (.slice e0 R.ents.length e1) (.slice p0 R.pol.win.length p1) (.slice m0 R.pol.main.length m1) (.slice k0 R.pol.sk.rows.length k1) (.int .i64 R.pol.sk.added) (.slice f0 R.fes.length f1) (.slice c0 R.cls.length c1) (.int .i64 R.hits)) := hB1
 have HA1 : Hid (PxAt w1 ⟨.slice e0 R.ents.length e1,.slice p0 R.pol.win.length p1,.slice m0 R.pol.main.length m1,.slice k0 R.pol.sk.rows.length k1,.slice f0 R.fes.length f1,.slice c0 R.cls.length c1⟩ R w1.heap.size) := hA.on hb1
 have HB1 : Hid (Below w.heap.size w w1) := hb1
 have HW : Hid (w.alloc (.cells #[.int .i64 R.now,.slice e0 R.ents.length e1,.slice p0 R.pol.win.length p1,.slice m0 R.pol.main.length m1,.slice k0 R.pol.sk.rows.length k1,.int .i64 R.pol.sk.added,.slice f0 R.fes.length f1,.slice c0 R.cls.length c1,.int .i64 R.hits] 48) = w1) := hw1
 have c1' := implProxyOk_any w1 ⟨.slice e0 R.ents.length e1,.slice p0 R.pol.win.length p1,.slice m0 R.pol.main.length m1,.slice k0 R.pol.sk.rows.length k1,.slice f0 R.fes.length f1,.slice c0 R.cls.length c1⟩ R (hA.on hb1) hsz hcap
 dsimp only at c1'
 obtain ⟨x1,hx1⟩ : ∃ b,okX R = b := ⟨_,rfl⟩
 rw [hx1] at c1'
 have HX1 : Hid (okX R = x1) := hx1
 obtain ⟨b0,b1,b2,b3,b4,b5,b6,b7,b8⟩ := hB1.cells
 rw [← hw1] at b0 b1 b2 b3 b4 b5 b6 b7 b8
 clear hw1 hb1 hB1 hA hsz hx1 hcap
 go_enter Tryz.func56,Tryz.ntmps56
 go_wp2_with fail
 rw [HW.out] at b0 b1 b2 b3 b4 b5 b6 b7 b8 ⊢
 refine c1'.mono ?_
 rintro e w2 ⟨rfl,hb2⟩
 have HB2 : Hid (Below w.heap.size w w2) := HB1.out.trans (hb2.mono HB1.out.size)
 have HA2 : Hid (PxAt w2 ⟨.slice e0 R.ents.length e1,.slice p0 R.pol.win.length p1,.slice m0 R.pol.main.length m1,.slice k0 R.pol.sk.rows.length k1,.slice f0 R.fes.length f1,.slice c0 R.cls.length c1⟩ R w2.heap.size) := HA1.out.on hb2
 clear b0 b1 b2 b3 b4 b5 b6 b7 b8 c1'
 obtain ⟨b0,b1,b2,b3,b4,b5,b6,b7,b8⟩ := (HN1.out.on hb2).cells
 clear hb2
 cases x1 with
 | false =>
  have HR : Hid (mayB R id key = false) := by show _ = _; unfold mayB; rw [HX1.out]; rfl
  go_wp2_with fail
  go_ret
  exact ⟨by rw [HR.out]; rfl,HB2.out⟩
 | true =>
  have HOK : Hid (OkX R) := okX_iff.1 HX1.out
  have c2 := idA_any id w2
  obtain ⟨x2,hx2⟩ : ∃ b,inB id 1 9 = b := ⟨_,rfl⟩
  rw [hx2] at c2
  have HX2 : Hid (inB id 1 9 = x2) := hx2
  clear hx2
  go_wp2_with fail
  refine c2.mono ?_
  rintro e w' ⟨rfl,hww⟩
  subst hww
  clear c2
  cases x2 with
  | false =>
   have HR : Hid (mayB R id key = false) := by show _ = _; unfold mayB; rw [HX1.out,HX2.out]; rfl
   go_wp2_with fail
   go_ret
   exact ⟨by rw [HR.out]; rfl,HB2.out⟩
  | true =>
   have c3 := keyE_any w' key (by omega)
   obtain ⟨x3,hx3⟩ : ∃ b,enKey key = b := ⟨_,rfl⟩
   rw [hx3] at c3
   have HX3 : Hid (enKey key = x3) := hx3
   clear hx3
   go_wp2_with fail
   refine c3.mono ?_
   rintro e w3 ⟨rfl,hww⟩
   subst hww
   clear c3
   cases x3 with
   | false =>
    have HR : Hid (mayB R id key = false) := by show _ = _; unfold mayB; rw [HX1.out,HX2.out,HX3.out]; rfl
    go_wp2_with fail
    go_ret
    exact ⟨by rw [HR.out]; rfl,HB2.out⟩
   | true =>
    by_cases h6 : R.cls.length = 6
    ·have h6i : ((R.cls.length : Int) == 6) = true := by simp; omega
     have HR : Hid (mayB R id key = false) := by show _ = _; unfold mayB; rw [HX1.out,HX2.out,HX3.out]; simp [h6]
     clear h6
     go_wp2_with fail
     go_ret
     exact ⟨by rw [HR.out]; rfl,HB2.out⟩
    ·have h6i : ((R.cls.length : Int) == 6) = false := by simp; omega
     have HR : Hid (mayB R id key = !R.cls.any fun c => decide (c.id = id)) := by show _ = _; unfold mayB; rw [HX1.out,HX2.out,HX3.out]; simp [h6]
     obtain ⟨ax,cx,hvx,hcx⟩ := HA2.out.c
     simp only [Value.slice.injEq,true_and] at hvx
     obtain ⟨hax,hcx'⟩ := hvx
     subst hax hcx'
     have c4 := clientPlace_any w' c0 c1 R.cls id hcx (by omega) (ascC_of HOK.out)
     clear h6 hcx
     go_wp2_with fail
     refine c4.mono ?_
     rintro e w4 ⟨k,b,rfl,hp,hb4⟩
     have HF : Hid ((R.cls.any fun c => decide (c.id = id)) = b ∧ Below w.heap.size w w4) := ⟨hp.any (ascC_of HOK.out),HB2.out.trans (hb4.mono HB2.out.size)⟩
     clear hp hb4 c4
     go_wp2_with fail
     go_ret
     exact ⟨by rw [HR.out,HF.out.1]; rfl,HF.out.2⟩
def newF (key : ByteArray) : Fet := ⟨key,⟨#[]⟩, 1, 0, 0⟩
def waitF (F : List Fet) (key : ByteArray) (z : Nat) : List Fet := if z = F.length then F ++ [newF key] else F
def waitP (P : Pol) (key : ByteArray) : Pol := ⟨(dropP P key).win,(dropP P key).main,bumpS (dropP P key).sk key⟩
def waitC (F : List Fet) (id : Int) (key : ByteArray) (z : Nat) : Cli := ⟨id,key,(z : Int) + 1, 0, 1,((waitF F key z).getD z zFet).tx, 0⟩
def askAt (P : Prx) (key : ByteArray) : Nat := if idxX (openP key) P.fes < 0 then P.fes.length else (idxX (openP key) P.fes).toNat
def hitB (P : Prx) (key : ByteArray) : Bool := (entAtX P.ents key).2 && enFresh (entAtX P.ents key).1 P.now
def hitC (P : Prx) (id : Int) (key : ByteArray) : Cli := ⟨id,key, 0,(entAtX P.ents key).1.st, 2,(entAtX P.ents key).1.bd,P.now - (entAtX P.ents key).1.st⟩
def hitR (P : Prx) (id : Int) (key : ByteArray) : Prx := ⟨P.now,P.ents,(touchP P.pol key).1,P.fes,insC P.cls (hitC P id key),min (P.hits + 1) 1000000000⟩
def waitR (P : Prx) (id : Int) (key : ByteArray) : Prx := ⟨P.now,offE P.ents key,waitP P.pol key,waitF P.fes key (askAt P key),insC P.cls (waitC P.fes id key (askAt P key)),P.hits⟩
def askR (P : Prx) (id : Int) (key : ByteArray) : Prx × Int :=
 if mayB P id key = true then (if hitB P key = true then (hitR P id key, 0) else if askAt P key = 20 then (P, 2) else (waitR P id key, 0)) else (P, 1)
theorem askR_no {P : Prx} {id : Int} {key : ByteArray} (h : mayB P id key = false) : askR P id key = (P, 1) := by unfold askR; rw [if_neg (by rw [h]; decide)]
theorem askR_hit {P : Prx} {id : Int} {key : ByteArray} (h : mayB P id key = true) (h2 : hitB P key = true) : askR P id key = (hitR P id key, 0) := by unfold askR; rw [if_pos h,if_pos h2]
theorem askR_full {P : Prx} {id : Int} {key : ByteArray} (h : mayB P id key = true) (h2 : hitB P key = false) (h3 : askAt P key = 20) : askR P id key = (P, 2) := by unfold askR; rw [if_pos h,if_neg (by rw [h2]; decide),if_pos h3]
theorem askR_wait {P : Prx} {id : Int} {key : ByteArray} (h : mayB P id key = true) (h2 : hitB P key = false) (h3 : ¬ askAt P key = 20) : askR P id key = (waitR P id key, 0) := by unfold askR; rw [if_pos h,if_neg (by rw [h2]; decide),if_neg h3]
theorem askAt_open {P : Prx} {key : ByteArray} {j : Nat} (h : idxX (openP key) P.fes = (j : Int)) : askAt P key = j := by unfold askAt; rw [h,if_neg (by omega)]; exact Int.toNat_natCast j
theorem askAt_none {P : Prx} {key : ByteArray} (h : idxX (openP key) P.fes = -1) : askAt P key = P.fes.length := by unfold askAt; rw [h,if_pos (by decide)]
theorem place_insC {L : List Cli} {c : Cli} {k : Nat} (h : PlaceC L c.id k false) (hA : AscC L) : L.take k ++ c :: L.drop k = insC L c := by
 have hne := h.none hA
 have h1 : ∀ x ∈ L.take k,x.id < c.id := fun x hx => by
  rw [List.mem_take_iff_getElem] at hx
  obtain ⟨i,hi,rfl⟩ := hx
  exact h.lo i (by omega) (by omega)
 have h2 : ∀ x ∈ L.drop k,c.id < x.id := fun x hx => by
  have hm := List.mem_of_mem_drop hx
  rw [List.mem_drop_iff_getElem] at hx
  obtain ⟨i,hi,rfl⟩ := hx
  have h3 := h.hi (k + i) (by omega) (by omega)
  have h4 := hne _ hm
  omega
 have e1 : L.filter (fun x => decide (x.id < c.id)) = L.take k := by
  conv => lhs; rw [← List.take_append_drop k L]
  rw [List.filter_append,List.filter_eq_self.2 (fun x hx => by simpa using h1 x hx),List.filter_eq_nil_iff.2 (fun x hx => by have := h2 x hx; simp; omega),List.append_nil]
 have e2 : L.filter (fun x => decide (c.id < x.id)) = L.drop k := by
  conv => lhs; rw [← List.take_append_drop k L]
  rw [List.filter_append,List.filter_eq_nil_iff.2 (fun x hx => by have := h1 x hx; simp; omega),List.filter_eq_self.2 (fun x hx => by simpa using h2 x hx),List.nil_append]
 unfold insC
 rw [e1,e2]
theorem ascE_of {P : Prx} (h : OkX P) : AscE P.ents := fun i j hi hj hij => (List.pairwise_iff_getElem.1 h.up) i j hi hj hij
theorem may_ok {P : Prx} {id : Int} {key : ByteArray} (h : mayB P id key = true) : OkX P := by
 unfold mayB at h
 simp only [Bool.and_eq_true] at h
 exact okX_iff.1 h.1
theorem may_new {P : Prx} {id : Int} {key : ByteArray} (h : mayB P id key = true) {k : Nat} {b : Bool} (hp : PlaceC P.cls id k b) : b = false := by
 have h1 := hp.any (ascC_of (may_ok h))
 unfold mayB at h
 simp only [Bool.and_eq_true,Bool.not_eq_true'] at h
 rw [← h1]
 exact h.2.2.2.2
theorem ent_there {E : List En} {key : ByteArray} {k : Nat} (h : PlaceE E key k true) : ∃ hk : k < E.length,E[k].key = key ∧ entAtX E key = (E[k],true) := by
 obtain ⟨hk,he⟩ := h.there.1 rfl
 refine ⟨hk,he,entAtX_there hk (fun j hj hjk e => ?_) he⟩
 have := h.lo j hj hjk
 rw [e,ltS_irr] at this
 cases this
theorem ent_none {E : List En} {key : ByteArray} {k : Nat} (h : PlaceE E key k false) (hA : AscE E) : (entAtX E key).2 = false := by
 have hn := h.none hA
 unfold entAtX
 cases e : E.find? (fun x => decide (x.key = key)) with
 | none => rfl
 | some x =>
  have h1 := List.find?_some e
  have h2 := List.mem_of_find?_eq_some e
  exact absurd (by simpa using h1) (hn x h2)
theorem hit_there {P : Prx} {key : ByteArray} {k : Nat} {e : En} (hk : k < P.ents.length) (he : P.ents[k] = e) (h : entAtX P.ents key = (P.ents[k],true)) (id : Int) : hitB P key = enFresh e P.now ∧ hitC P id key = ⟨id,key, 0,e.st, 2,e.bd,P.now - e.st⟩ := by
 unfold hitB hitC
 rw [h,he]
 exact ⟨by simp,rfl⟩
theorem hit_none {P : Prx} {key : ByteArray} (h : (entAtX P.ents key).2 = false) : hitB P key = false := by unfold hitB; rw [h]; rfl
theorem fresh_st {e : En} {now : Int} (h : enFresh e now = true) : enOk e = true ∧ e.st ≤ now ∧ now ≤ 1000000000 := by
 unfold enFresh at h
 simp only [Bool.and_eq_true] at h
 have h2 := h.2.1
 unfold inB at h2
 simp at h2
 exact ⟨h.1,h2⟩
end Go.Proofs.YtpgcfgbhkodmeaaGreatDoor
