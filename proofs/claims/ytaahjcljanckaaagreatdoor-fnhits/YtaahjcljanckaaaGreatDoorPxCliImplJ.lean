/- Texts that stand in one: PxCliImpl, KeyImpl, PolHasImpl, PxEntsImpl. -/
import Derived.Test.YtaahjcljanckaaaGreatDoorPxSlicesJ
import Derived.Test.YtaahjcljanckaaaGreatDoorCliLawJ
import Derived.Test.YtaahjcljanckaaaGreatDoorSkLaw3J
import Derived.Test.YtaahjcljanckaaaGreatDoorFindPlainJ
import Derived.Lib.QuietBelow
import Derived.BigQuiet
import Derived.Laws.Cover1
namespace Go.Proofs.YtaahjcljanckaaaGreatDoor
open Go.RowKit Go.Sort
theorem idB_any (x : Int) (w : World) : Calls Tryz.prog 36 #[.int .i64 x] w fun e w' => e = .returned (.bool (inB x 1 9)) ∧ w = w' := by
 by_cases h1 : x ≥ 1
 ·by_cases h2 : x ≤ 9
  ·rw [inB_yes h1 h2]
   go_enter Tryz.func36,Tryz.ntmps36
   go_wp2
   go_ret
   exact ⟨rfl,rfl⟩
  ·rw [inB_no (by omega)]
   go_enter Tryz.func36,Tryz.ntmps36
   go_wp2
   go_ret
   exact ⟨rfl,rfl⟩
 ·rw [inB_no (by omega)]
  go_enter Tryz.func36,Tryz.ntmps36
  go_wp2
  go_ret
  exact ⟨rfl,rfl⟩
theorem csB_any (x : Int) (w : World) : Calls Tryz.prog 87 #[.int .i64 x] w fun e w' => e = .returned (.bool (inB x 1 3)) ∧ w = w' := by
 by_cases h1 : x = 1
 ·subst h1
  go_enter Tryz.func87,Tryz.ntmps87
  go_wp2
  go_ret
  exact ⟨rfl,rfl⟩
 ·by_cases h2 : x = 2
  ·subst h2
   go_enter Tryz.func87,Tryz.ntmps87
   go_wp2
   go_ret
   exact ⟨rfl,rfl⟩
  ·have HP : Hid (inB x 1 3 = (x == 3)) := by
    show _ = _
    by_cases h3 : x = 3
    ·subst h3; rfl
    ·rw [inB_no (by omega)]; simp [h3]
   have e1 : (x == 1) = false := by simp [h1]
   have e2 : (x == 2) = false := by simp [h2]
   go_enter Tryz.func87,Tryz.ntmps87
   go_wp2
   go_ret
   exact ⟨by rw [HP.out]; rfl,rfl⟩
set_option maxRecDepth 100000 in
set_option maxHeartbeats 8000000 in
theorem implClient_any (w : World) (c : Cli) (e0 p0 m0 k0 f0 c0 : Option Addr) (e1 p1 m1 k1 f1 c1 : Nat) (R : Prx) (hkey : c.key.size ≤ 1048576) :
  Calls Tryz.prog 58 #[.agg #[.int .i64 c.id,.string c.key,.int .i64 c.fe,.int .i64 c.fr,.int .i64 c.st,.string c.got,.int .i64 c.ag],.agg #[.int .i64 R.now,.slice e0 R.ents.length e1,.slice p0 R.pol.win.length p1,.slice m0 R.pol.main.length m1,.slice k0 R.pol.sk.rows.length k1,.int .i64 R.pol.sk.added,.slice f0 R.fes.length f1,.slice c0 R.cls.length c1,.int .i64 R.hits]] w fun e w' => e = .returned (.bool (inB c.id 1 9 && (enKey c.key && (inB c.st 1 3 && (decide (c.got.size ≤ 400) && (inB c.fe 0 R.fes.length && (inB c.fr 0 R.now && decide (0 ≤ c.ag)))))))) ∧ Below w.heap.size w w' := by
 obtain ⟨w1,hw1⟩ : ∃ x,w.alloc (.cells #[.int .i64 c.id,.string c.key,.int .i64 c.fe,.int .i64 c.fr,.int .i64 c.st,.string c.got,.int .i64 c.ag] 45) = x := ⟨_,rfl⟩
 have hb1 : Below w.heap.size w w1 := by rw [← hw1]; exact (Below.refl _ _).alloc (Nat.le_refl _) _
 have hCB1 : w1.heap[w.heap.size]? = some (.cells #[.int .i64 c.id,.string c.key,.int .i64 c.fe,.int .i64 c.fr,.int .i64 c.st,.string c.got,.int .i64 c.ag] 45 (0, 0)) := by rw [← hw1]; exact heap_alloc_new _ _
 obtain ⟨w2,hw2⟩ : ∃ x,w1.alloc (.cells #[.int .i64 R.now,.slice e0 R.ents.length e1,.slice p0 R.pol.win.length p1,.slice m0 R.pol.main.length m1,.slice k0 R.pol.sk.rows.length k1,.int .i64 R.pol.sk.added,.slice f0 R.fes.length f1,.slice c0 R.cls.length c1,.int .i64 R.hits] 36) = x := ⟨_,rfl⟩
 have hb2 : Below w1.heap.size w1 w2 := by rw [← hw2]; exact (Below.refl _ _).alloc (Nat.le_refl _) _
 have hCB := (hb2.block _ (Array.getElem?_eq_some_iff.1 hCB1).1).trans hCB1
 have hB2 : NB w2 w1.heap.size 36 (.int .i64 R.now) (.slice e0 R.ents.length e1) (.slice p0 R.pol.win.length p1) (.slice m0 R.pol.main.length m1) (.slice k0 R.pol.sk.rows.length k1) (.int .i64 R.pol.sk.added) (.slice f0 R.fes.length f1) (.slice c0 R.cls.length c1) (.int .i64 R.hits) := by rw [← hw2]; exact NB.new _ _ _ _ _ _ _ _ _ _ _
 obtain ⟨b0,b1,b2,b3,b4,b5,b6,b7,b8⟩ := hB2.cells
 have q0 : w2.cell? ⟨w.heap.size, 0,none⟩ = some (.int .i64 c.id) := by rw [cell_of_row w2 w.heap.size 0 _ _ (0, 0) hCB]; rfl
 have q1 : w2.cell? ⟨w.heap.size, 1,none⟩ = some (.string c.key) := by rw [cell_of_row w2 w.heap.size 1 _ _ (0, 0) hCB]; rfl
 have q2 : w2.cell? ⟨w.heap.size, 2,none⟩ = some (.int .i64 c.fe) := by rw [cell_of_row w2 w.heap.size 2 _ _ (0, 0) hCB]; rfl
 have q3 : w2.cell? ⟨w.heap.size, 3,none⟩ = some (.int .i64 c.fr) := by rw [cell_of_row w2 w.heap.size 3 _ _ (0, 0) hCB]; rfl
 have q4 : w2.cell? ⟨w.heap.size, 4,none⟩ = some (.int .i64 c.st) := by rw [cell_of_row w2 w.heap.size 4 _ _ (0, 0) hCB]; rfl
 have q5 : w2.cell? ⟨w.heap.size, 5,none⟩ = some (.string c.got) := by rw [cell_of_row w2 w.heap.size 5 _ _ (0, 0) hCB]; rfl
 have q6 : w2.cell? ⟨w.heap.size, 6,none⟩ = some (.int .i64 c.ag) := by rw [cell_of_row w2 w.heap.size 6 _ _ (0, 0) hCB]; rfl
 have HW : Hid ((w.alloc (.cells #[.int .i64 c.id,.string c.key,.int .i64 c.fe,.int .i64 c.fr,.int .i64 c.st,.string c.got,.int .i64 c.ag] 45)).alloc (.cells #[.int .i64 R.now,.slice e0 R.ents.length e1,.slice p0 R.pol.win.length p1,.slice m0 R.pol.main.length m1,.slice k0 R.pol.sk.rows.length k1,.int .i64 R.pol.sk.added,.slice f0 R.fes.length f1,.slice c0 R.cls.length c1,.int .i64 R.hits] 36) = w2) := by show _ = _; rw [hw1]; exact hw2
 have HB2 : Hid (Below w.heap.size w w2) := hb1.trans (hb2.mono hb1.size)
 have hs1 : w1.heap.size = w.heap.size + 1 := by rw [← hw1]; simp
 rw [hs1] at b0 b1 b2 b3 b4 b5 b6 b7 b8
 have cK1 := idB_any c.id w2
 have cK3 := keyE_any w2 c.key (by omega)
 have cK4 := csB_any c.st w2
 rw [← hw2, ← hw1] at q0
 obtain ⟨x7,hx7⟩ : ∃ b,decide ((c.got.size : Int) ≤ 400) = b := ⟨_,rfl⟩
 obtain ⟨y1,hy1⟩ : ∃ b,decide (0 ≤ c.fe) = b := ⟨_,rfl⟩
 obtain ⟨y2,hy2⟩ : ∃ b,decide (c.fe ≤ (R.fes.length : Int)) = b := ⟨_,rfl⟩
 obtain ⟨y3,hy3⟩ : ∃ b,decide (0 ≤ c.fr) = b := ⟨_,rfl⟩
 obtain ⟨y4,hy4⟩ : ∃ b,decide (c.fr ≤ R.now) = b := ⟨_,rfl⟩
 obtain ⟨y5,hy5⟩ : ∃ b,decide (0 ≤ c.ag) = b := ⟨_,rfl⟩
 obtain ⟨res,hres⟩ : ∃ r,(inB c.id 1 9 && (enKey c.key && (inB c.st 1 3 && (decide (c.got.size ≤ 400) && (inB c.fe 0 R.fes.length && (inB c.fr 0 R.now && decide (0 ≤ c.ag))))))) = r := ⟨_,rfl⟩
 have HE : Hid (res = (inB c.id 1 9 && (enKey c.key && (inB c.st 1 3 && (x7 && ((y1 && y2) && ((y3 && y4) && y5))))))) := by
  show _ = _
  rw [← hres,show decide (c.got.size ≤ 400) = x7 by rw [← hx7]; exact decide_eq_decide.2 (by omega),hy5,show inB c.fe 0 R.fes.length = (y1 && y2) by rw [← hy1, ← hy2]; rfl,show inB c.fr 0 R.now = (y3 && y4) by rw [← hy3, ← hy4]; rfl]
 rw [hres]
 generalize inB c.id 1 9 = x1 at cK1 HE
 generalize enKey c.key = x3 at cK3 HE
 generalize inB c.st 1 3 = x4 at cK4 HE
 clear hw1 hw2 hb1 hb2 hCB1 hCB hB2 hs1 hres
 go_enter Tryz.func58,Tryz.ntmps58
 go_wp2_with fail
 rw [HW.out]
 refine cK1.mono ?_
 rintro e w' ⟨rfl,rfl⟩
 cases x1 with
 | false =>
  have HR : Hid (res = false) := by show _ = _; rw [HE.out]; simp
  go_wp2_with fail
  go_ret
  exact ⟨by rw [HR.out]; rfl,HB2.out⟩
 | true =>
  go_wp2_with fail
  refine cK3.mono ?_
  rintro e w' ⟨rfl,rfl⟩
  cases x3 with
  | false =>
   have HR : Hid (res = false) := by show _ = _; rw [HE.out]; simp
   go_wp2_with fail
   go_ret
   exact ⟨by rw [HR.out]; rfl,HB2.out⟩
  | true =>
   go_wp2_with fail
   refine cK4.mono ?_
   rintro e w' ⟨rfl,rfl⟩
   cases x4 with
   | false =>
    have HR : Hid (res = false) := by show _ = _; rw [HE.out]; simp
    go_wp2_with fail
    go_ret
    exact ⟨by rw [HR.out]; rfl,HB2.out⟩
   | true =>
    cases x7 with
    | false =>
     have HR : Hid (res = false) := by show _ = _; rw [HE.out]; simp
     go_wp2_with fail
     go_ret
     exact ⟨by rw [HR.out]; rfl,HB2.out⟩
    | true =>
     cases y1 with
     | false =>
      have HR : Hid (res = false) := by show _ = _; rw [HE.out]; simp
      go_wp2_with fail
      go_ret
      exact ⟨by rw [HR.out]; rfl,HB2.out⟩
     | true =>
      cases y2 with
      | false =>
       have HR : Hid (res = false) := by show _ = _; rw [HE.out]; simp
       go_wp2_with fail
       go_ret
       exact ⟨by rw [HR.out]; rfl,HB2.out⟩
      | true =>
       cases y3 with
       | false =>
        have HR : Hid (res = false) := by show _ = _; rw [HE.out]; simp
        go_wp2_with fail
        go_ret
        exact ⟨by rw [HR.out]; rfl,HB2.out⟩
       | true =>
        cases y4 with
        | false =>
         have HR : Hid (res = false) := by show _ = _; rw [HE.out]; simp
         go_wp2_with fail
         go_ret
         exact ⟨by rw [HR.out]; rfl,HB2.out⟩
        | true =>
         cases y5 with
         | false =>
          have HR : Hid (res = false) := by show _ = _; rw [HE.out]; simp
          go_wp2_with fail
          go_ret
          exact ⟨by rw [HR.out]; rfl,HB2.out⟩
         | true =>
          have HR : Hid (res = true) := by show _ = _; rw [HE.out]; rfl
          go_wp2_with fail
          go_ret
          exact ⟨by rw [HR.out]; rfl,HB2.out⟩
set_option maxRecDepth 100000 in
set_option maxHeartbeats 8000000 in
theorem implClients_any (w : World) (X : Pc) (R : Prx) (hA : PxAt w X R w.heap.size) (hsz : PxSz R) :
  Calls Tryz.prog 31 #[.agg #[.int .i64 R.now,X.e,X.w,X.m,X.k,.int .i64 R.pol.sk.added,X.f,X.c,.int .i64 R.hits]] w fun e w' => e = .returned (.bool (clsOkX R)) ∧ Below w.heap.size w w' := by
 obtain ⟨e0,e1,p0,p1,m0,m1,k0,k1,f0,f1,c0,c1,rfl⟩ := hA.slices
 dsimp only
 obtain ⟨w1,hw1⟩ : ∃ x,w.alloc (.cells #[.int .i64 R.now,.slice e0 R.ents.length e1,.slice p0 R.pol.win.length p1,.slice m0 R.pol.main.length m1,.slice k0 R.pol.sk.rows.length k1,.int .i64 R.pol.sk.added,.slice f0 R.fes.length f1,.slice c0 R.cls.length c1,.int .i64 R.hits] 36) = x := ⟨_,rfl⟩
 have hb1 : Below w.heap.size w w1 := by rw [← hw1]; exact (Below.refl _ _).alloc (Nat.le_refl _) _
 have hB1 : NB w1 w.heap.size 36 (.int .i64 R.now) (.slice e0 R.ents.length e1) (.slice p0 R.pol.win.length p1) (.slice m0 R.pol.main.length m1) (.slice k0 R.pol.sk.rows.length k1) (.int .i64 R.pol.sk.added) (.slice f0 R.fes.length f1) (.slice c0 R.cls.length c1) (.int .i64 R.hits) := by rw [← hw1]; exact NB.new _ _ _ _ _ _ _ _ _ _ _
 have HN1 : Hid (NB w1 w.heap.size 36 (.int .i64 R.now) (.slice e0 R.ents.length e1) (.slice p0 R.pol.win.length p1) (.slice m0 R.pol.main.length m1) (.slice k0 R.pol.sk.rows.length k1) (.int .i64 R.pol.sk.added) (.slice f0 R.fes.length f1) (.slice c0 R.cls.length c1) (.int .i64 R.hits)) := hB1
 have HA1 : Hid (PxAt w1 ⟨.slice e0 R.ents.length e1,.slice p0 R.pol.win.length p1,.slice m0 R.pol.main.length m1,.slice k0 R.pol.sk.rows.length k1,.slice f0 R.fes.length f1,.slice c0 R.cls.length c1⟩ R w1.heap.size) := hA.on hb1
 have HB1 : Hid (Below w.heap.size w w1) := hb1
 have HW : Hid (w.alloc (.cells #[.int .i64 R.now,.slice e0 R.ents.length e1,.slice p0 R.pol.win.length p1,.slice m0 R.pol.main.length m1,.slice k0 R.pol.sk.rows.length k1,.int .i64 R.pol.sk.added,.slice f0 R.fes.length f1,.slice c0 R.cls.length c1,.int .i64 R.hits] 36) = w1) := hw1
 have HZ : Hid (∀ c ∈ R.cls,c.key.size ≤ 1048576) := fun c hc => by
  obtain ⟨j,hj,rfl⟩ := List.getElem_of_mem hc
  have h1 := clwg_mem hj
  have h2 : wgtX R ≤ 1048576 := hsz
  unfold wgtX at h2
  unfold Cli.wg at h1
  omega
 obtain ⟨res,hres⟩ : ∃ r,clsOkX R = r := ⟨_,rfl⟩
 have HO : Hid (res = (decide (R.cls.length ≤ 6) && allT (cliF R.now R.fes.length R.cls) R.cls.length)) := hres.symm
 rw [hres]
 obtain ⟨b0,b1,b2,b3,b4,b5,b6,b7,b8⟩ := hB1.cells
 rw [← hw1] at b7
 clear hw1 hb1 hB1 hA hsz hres b0 b1 b2 b3 b4 b5 b6 b8
 go_enter Tryz.func31,Tryz.ntmps31
 by_cases hq : R.cls.length ≤ 6
 case neg =>
  have HR : Hid (res = false) := by show _ = _; rw [HO.out,decide_eq_false hq]; rfl
  have hq' : (6 : Int) < (R.cls.length : Int) := by omega
  clear hq
  go_wp2_with fail
  rw [HW.out]
  go_ret
  exact ⟨by rw [HR.out]; rfl,HB1.out⟩
 have HO2 : Hid (res = allT (cliF R.now R.fes.length R.cls) R.cls.length) := by show _ = _; rw [HO.out,decide_eq_true hq]; rfl
 have hq' : ¬ (6 : Int) < (R.cls.length : Int) := by omega
 have HL : Hid (R.cls.length ≤ 6) := hq
 clear hq HO
 go_wp2_with fail
 rw [HW.out]
 clear hq' b7 HW
 go_loopw [12] (fun i wr => Box (∃ k : Nat,k ≤ R.cls.length ∧ i = .int .i64 k ∧ allT (cliF R.now R.fes.length R.cls) k = true ∧ Below w1.heap.size w1 wr))
  (fun i _ => R.cls.length - (intOf i).toNat)
 case atStart => exact ⟨⟨0,by omega,rfl,rfl,Below.refl _ _⟩⟩
 case round =>
  obtain ⟨k,hk,rfl,hno,hbr⟩ := hrel.out
  obtain ⟨wo,hwo⟩ : ∃ wo,wo = wr := ⟨_,rfl⟩
  subst hwo
  have HN : Hid (allT (cliF R.now R.fes.length R.cls) k = true) := hno
  have HBO : Hid (Below w.heap.size w wo) := HB1.out.trans (hbr.mono HB1.out.size)
  have HBS : Hid (Below w1.heap.size w1 wo) := hbr
  clear hrel hno hbr
  have hL6 := HL.out
  by_cases hlt : k < R.cls.length
  ·obtain ⟨gg,offg,hga,_,q0,q1,q2,q3,q4,q5,q6⟩ := CliV.at' (HA1.out.on HBS.out).c k hlt
   obtain ⟨c,hc⟩ : ∃ c,R.cls[k] = c := ⟨_,rfl⟩
   rw [hc] at q0 q1 q2 q3 q4 q5 q6
   have hcs := HZ.out c (by rw [← hc]; exact List.getElem_mem hlt)
   have hgd : R.cls.getD k zCli = c := by rw [getD_of hlt,hc]
   have HK : Hid (k < R.cls.length) := hlt
   have hi1 : (0 : Int) ≤ (k : Int) := by omega
   have hi3 : (k : Int) < (R.cls.length : Int) := by omega
   obtain ⟨w3,hw3⟩ : ∃ x,wo.alloc (.cells #[.int .i64 c.id,.string c.key,.int .i64 c.fe,.int .i64 c.fr,.int .i64 c.st,.string c.got,.int .i64 c.ag] 45) = x := ⟨_,rfl⟩
   have hb3 : Below wo.heap.size wo w3 := by rw [← hw3]; exact (Below.refl _ _).alloc (Nat.le_refl _) _
   have hRB : w3.heap[wo.heap.size]? = some (.cells #[.int .i64 c.id,.string c.key,.int .i64 c.fe,.int .i64 c.fr,.int .i64 c.st,.string c.got,.int .i64 c.ag] 45 (0, 0)) := by rw [← hw3]; exact heap_alloc_new _ _
   have HB3 : Hid (Below w.heap.size w w3) := HBO.out.trans (hb3.mono HBO.out.size)
   have HS3 : Hid (Below w1.heap.size w1 w3) := HBS.out.trans (hb3.mono HBS.out.size)
   have HW3 : Hid (wo.alloc (.cells #[.int .i64 c.id,.string c.key,.int .i64 c.fe,.int .i64 c.fr,.int .i64 c.st,.string c.got,.int .i64 c.ag] 45) = w3) := hw3
   have HV : Hid (∀ j (hj : j < R.cls.length),w3.cell? ⟨gg,offg + j * 7,none⟩ = some (.int .i64 R.cls[j].id)) := fun j hj => by
    obtain ⟨g',o',he,_,h,_⟩ := CliV.at' (HA1.out.on HS3.out).c j hj
    rw [hga] at he
    cases he
    exact h
   obtain ⟨b0,b1,b2,b3,b4,b5,b6,b7,b8⟩ := (HN1.out.on HS3.out).cells
   have z0 := cell_regrown b0
   have z1 := cell_regrown b1
   have z2 := cell_regrown b2
   have z3 := cell_regrown b3
   have z4 := cell_regrown b4
   have z5 := cell_regrown b5
   have z6 := cell_regrown b6
   have z7 := cell_regrown b7
   have z8 := cell_regrown b8
   have y0 := cell_regrown (show w3.cell? ⟨wo.heap.size, 0,none⟩ = some (.int .i64 c.id) by rw [cell_of_row w3 wo.heap.size 0 _ _ (0, 0) hRB]; rfl)
   have y1 := cell_regrown (show w3.cell? ⟨wo.heap.size, 1,none⟩ = some (.string c.key) by rw [cell_of_row w3 wo.heap.size 1 _ _ (0, 0) hRB]; rfl)
   have y2 := cell_regrown (show w3.cell? ⟨wo.heap.size, 2,none⟩ = some (.int .i64 c.fe) by rw [cell_of_row w3 wo.heap.size 2 _ _ (0, 0) hRB]; rfl)
   have y3 := cell_regrown (show w3.cell? ⟨wo.heap.size, 3,none⟩ = some (.int .i64 c.fr) by rw [cell_of_row w3 wo.heap.size 3 _ _ (0, 0) hRB]; rfl)
   have y4 := cell_regrown (show w3.cell? ⟨wo.heap.size, 4,none⟩ = some (.int .i64 c.st) by rw [cell_of_row w3 wo.heap.size 4 _ _ (0, 0) hRB]; rfl)
   have y5 := cell_regrown (show w3.cell? ⟨wo.heap.size, 5,none⟩ = some (.string c.got) by rw [cell_of_row w3 wo.heap.size 5 _ _ (0, 0) hRB]; rfl)
   have y6 := cell_regrown (show w3.cell? ⟨wo.heap.size, 6,none⟩ = some (.int .i64 c.ag) by rw [cell_of_row w3 wo.heap.size 6 _ _ (0, 0) hRB]; rfl)
   have cA := quietV (W := w3) (fun w' _ => implClient_any w' c e0 p0 m0 k0 f0 (some ⟨gg,offg,none⟩) e1 p1 m1 k1 f1 c1 R hcs)
   have HSu : Hid (allT (cliF R.now R.fes.length R.cls) (k + 1) = ((inB c.id 1 9 && (enKey c.key && (inB c.st 1 3 && (decide (c.got.size ≤ 400) && (inB c.fe 0 R.fes.length && (inB c.fr 0 R.now && decide (0 ≤ c.ag))))))) && !(decide (0 < k) && decide (c.id ≤ (R.cls.getD (k - 1) zCli).id)))) := by
    show _ = _
    unfold allT
    rw [HN.out,Bool.true_and]
    unfold cliF
    rw [hgd]
   have HF : Hid (allT (cliF R.now R.fes.length R.cls) (k + 1) = false → res = false) := fun h => by rw [HO2.out]; exact allT_down (k := k) hlt (by unfold allT at h; rw [HN.out] at h; simpa using h)
   subst hga
   generalize (inB c.id 1 9 && (enKey c.key && (inB c.st 1 3 && (decide (c.got.size ≤ 400) && (inB c.fe 0 R.fes.length && (inB c.fr 0 R.now && decide (0 ≤ c.ag))))))) = x1 at cA HSu
   clear hc hgd hw3 hlt hRB hb3 b0 b1 b2 b3 b4 b5 b6 b7 b8
   by_cases h0 : k = 0
   ·have hS : Hid (allT (cliF R.now R.fes.length R.cls) (k + 1) = x1) := by
     show _ = _
     rw [HSu.out]; simp [h0]
    have hgN : decide (0 < k) = false := decide_eq_false (by omega)
    have hgI : ¬ (0 : Int) < (k : Int) := by omega
    clear HSu h0
    go_wp2_with fail
    rw [HW3.out]
    refine wp_region_quiet_below (by kernel_rfl) (by kernel_rfl) ?_
    repeat (first | go_big_quiet_step (with_reducible exact cA _ _) | quiet_step (with_reducible exact cA _ _))
    cases x1 with
    | false =>
     simp only [Bool.not_false]
     repeat (first | go_big_quiet_step (with_reducible exact cA _ _) | quiet_step (with_reducible exact cA _ _))
     refine wpQuiet_nil ?_
     intro _ hw'
     obtain ⟨⟨dq,osq⟩,hw''⟩ := hw'
     subst hw''
     have HPO : Hid (allT (cliF R.now R.fes.length R.cls) (k + 1) = false) := by show _ = _; rw [hS.out]
     go_wp2_with fail
     go_ret
     exact ⟨by rw [HF.out HPO.out]; rfl,HB3.out.trans ((below_regrown w3 dq osq).mono HB3.out.size)⟩
    | true =>
     simp only [Bool.not_true]
     repeat (first | go_big_quiet_step (with_reducible exact cA _ _) | quiet_step (with_reducible exact cA _ _))
     refine wpQuiet_nil ?_
     intro _ hw'
     obtain ⟨⟨dq,osq⟩,hw''⟩ := hw'
     subst hw''
     have HPO : Hid (allT (cliF R.now R.fes.length R.cls) (k + 1) = true) := by show _ = _; rw [hS.out]
     go_wp2_with fail
     go_roundw
     case rel =>
      try ((repeat apply Exists.intro); refine ⟨?_,rfl⟩)
      exact ⟨⟨k + 1,by have := HK.out; omega,by go_num,HPO.out,HS3.out.trans ((below_regrown w3 dq osq).mono HS3.out.size)⟩⟩
     case measure => have := HK.out; simp [intOf]; omega
   ·obtain ⟨j,hkj⟩ : ∃ j,k = j + 1 := ⟨k - 1,by omega⟩
    have z9 := cell_regrown (HV.out j (by have := HK.out; omega))
    obtain ⟨x,hx⟩ : ∃ x,(R.cls[j]'(by have := HK.out; omega)).id = x := ⟨_,rfl⟩
    have hxd : (R.cls.getD (k - 1) zCli).id = x := by rw [show k - 1 = j by omega,getD_of (show j < R.cls.length by have := HK.out; omega),hx]
    obtain ⟨x2,hx2⟩ : ∃ b,decide (c.id ≤ x) = b := ⟨_,rfl⟩
    have hS : Hid (allT (cliF R.now R.fes.length R.cls) (k + 1) = (x1 && !x2)) := by
     show _ = _
     rw [HSu.out,hxd,show decide (0 < k) = true from decide_eq_true (by omega),hx2]
     simp
    rw [hx] at z9
    have hgN : decide (0 < k) = true := decide_eq_true (by omega)
    have hgI : (0 : Int) < (k : Int) := by omega
    have hjj : (k : Int) - 1 = (j : Int) := by omega
    have hj0 : (0 : Int) ≤ (j : Int) := by omega
    have hj1 : (j : Int) < (R.cls.length : Int) := by have := HK.out; omega
    clear HSu h0 hx hxd hkj
    go_wp2_with fail
    rw [HW3.out]
    refine wp_region_quiet_below (by kernel_rfl) (by kernel_rfl) ?_
    repeat (first | go_big_quiet_step (with_reducible exact cA _ _) | quiet_step (with_reducible exact cA _ _))
    cases x1 with
    | false =>
     simp only [Bool.not_false]
     repeat (first | go_big_quiet_step (with_reducible exact cA _ _) | quiet_step (with_reducible exact cA _ _))
     refine wpQuiet_nil ?_
     intro _ hw'
     obtain ⟨⟨dq,osq⟩,hw''⟩ := hw'
     subst hw''
     have HPO : Hid (allT (cliF R.now R.fes.length R.cls) (k + 1) = false) := by show _ = _; rw [hS.out]; simp
     go_wp2_with fail
     go_ret
     exact ⟨by rw [HF.out HPO.out]; rfl,HB3.out.trans ((below_regrown w3 dq osq).mono HB3.out.size)⟩
    | true =>
     simp only [Bool.not_true]
     repeat (first | go_big_quiet_step (with_reducible exact cA _ _) | quiet_step (with_reducible exact cA _ _))
     cases x2 with
     | false =>
      repeat (first | go_big_quiet_step (with_reducible exact cA _ _) | quiet_step (with_reducible exact cA _ _))
      refine wpQuiet_nil ?_
      intro _ hw'
      obtain ⟨⟨dq,osq⟩,hw''⟩ := hw'
      subst hw''
      have HPO : Hid (allT (cliF R.now R.fes.length R.cls) (k + 1) = true) := by show _ = _; rw [hS.out]; first | rfl | simp
      go_wp2_with fail
      go_roundw
      case rel =>
       try ((repeat apply Exists.intro); refine ⟨?_,rfl⟩)
       exact ⟨⟨k + 1,by have := HK.out; omega,by go_num,HPO.out,HS3.out.trans ((below_regrown w3 dq osq).mono HS3.out.size)⟩⟩
      case measure => have := HK.out; simp [intOf]; omega
     | true =>
      repeat (first | go_big_quiet_step (with_reducible exact cA _ _) | quiet_step (with_reducible exact cA _ _))
      refine wpQuiet_nil ?_
      intro _ hw'
      obtain ⟨⟨dq,osq⟩,hw''⟩ := hw'
      subst hw''
      have HPO : Hid (allT (cliF R.now R.fes.length R.cls) (k + 1) = false) := by show _ = _; rw [hS.out]; simp
      go_wp2_with fail
      go_ret
      exact ⟨by rw [HF.out HPO.out]; rfl,HB3.out.trans ((below_regrown w3 dq osq).mono HB3.out.size)⟩
  ·have hi3 : ¬ (k : Int) < (R.cls.length : Int) := by omega
   have HR : Hid (res = true) := by show _ = _; rw [HO2.out,show R.cls.length = k by omega,HN.out]
   clear hlt hk
   go_wp2_with fail
   go_ret
   exact ⟨by rw [HR.out]; rfl,HBO.out⟩
theorem bytes_nk' {z key : ByteArray} (h : ¬ z = key) : (key.toList == z.toList) = false := bytes_nk (fun e => h e.symm)
set_option maxHeartbeats 2000000 in
theorem indexS_any (w : World) (a : Option Addr) (c : Nat) (L : List ByteArray) (s : ByteArray) (hA : LAt w a L w.heap.size) (hm : L.length ≤ 10000000) :
  Calls Tryz.prog 86 #[.slice a L.length c,.string s] w fun e w' => ∃ r : Int,e = .returned (.int .i64 r) ∧ w' = w ∧ ((r = -1 ∧ inL L s = false) ∨ ∃ k : Nat, ∃ hk : k < L.length,r = k ∧ L[k] = s ∧ inL (L.take k) s = false) := by
 go_enter Tryz.func86,Tryz.ntmps86
 go_wp2
 go_loopw [8] (fun i wr => Box (∃ (k : Nat),k ≤ L.length ∧ i = .int .i64 k ∧ Hid (inL (L.take k) s = false) ∧ w = wr))
  (fun i _ => L.length - (intOf i).toNat)
 case atStart => exact ⟨⟨0,by omega,rfl,rfl,rfl⟩⟩
 case round =>
  obtain ⟨k,hk,rfl,HN,rfl⟩ := hrel.out
  by_cases hlt : k < L.length
  ·obtain ⟨g,off,rfl,hg,hc⟩ := hA k hlt
   have hi1 : (0 : Int) ≤ (k : Int) := by omega
   have hi2 : (k : Int) < (L.length : Int) := by omega
   by_cases hz : L[k] = s
   ·have HT : Hid (∃ k' : Nat, ∃ hk : k' < L.length,(k : Int) = k' ∧ L[k'] = s ∧ inL (L.take k') s = false) := ⟨k,hlt,rfl,hz,HN.out⟩
    rw [hz] at hc
    clear hrel hz hA
    go_wp2
    go_ret
    exact ⟨_,rfl,rfl,.inr HT.out⟩
   ·have HT : Hid (inL (L.take (k + 1)) s = false) := inL_take hlt HN.out hz
    have hz1 := bytes_nk' hz
    obtain ⟨z,hzz⟩ : ∃ z,L[k] = z := ⟨_,rfl⟩
    rw [hzz] at hc hz1
    clear hrel hz hzz hA
    go_wp2
    go_roundw
    case rel =>
     try ((repeat apply Exists.intro); refine ⟨?_,rfl⟩)
     exact ⟨⟨k + 1,by omega,by go_num,HT,by first | rfl | trivial⟩⟩
    case measure => simp [intOf]; omega
  ·go_wp2
   go_ret
   have hke : k = L.length := by omega
   have := HN.out
   rw [hke,List.take_length] at this
   exact ⟨_,rfl,rfl,.inl ⟨rfl,this⟩⟩
theorem containsS_any (w : World) (a : Option Addr) (c : Nat) (L : List ByteArray) (s : ByteArray) (hA : LAt w a L w.heap.size) (hm : L.length ≤ 10000000) :
  Calls Tryz.prog 53 #[.slice a L.length c,.string s] w fun e w' => e = .returned (.bool (inL L s)) ∧ w' = w := by
 have c1 := indexS_any w a c L s hA hm
 go_enter Tryz.func53,Tryz.ntmps53
 go_wp2_with fail
 refine c1.mono ?_
 rintro e w' ⟨r,rfl,rfl,h⟩
 clear c1
 rcases h with ⟨rfl,h⟩ | ⟨k,hk,rfl,h1,_⟩
 ·go_wp2_with fail
  go_ret
  exact ⟨by rw [h]; rfl,rfl⟩
 ·have HT : Hid (inL L s = true) := inL_iff.2 (by rw [← h1]; exact List.getElem_mem hk)
  have hi1 : (0 : Int) ≤ (k : Int) := by omega
  clear h1
  go_wp2_with fail
  go_ret
  exact ⟨by rw [HT.out]; simp,rfl⟩
theorem nokey_bytes {s : ByteArray} (h : 1 ≤ s.size) : s.toList.isEmpty = false := by
 rw [ByteArray.toList_eq,List.isEmpty_eq_false_iff]
 intro e
 have h1 : s.size = s.data.toList.length := by rw [Array.length_toList]; rfl
 rw [e,List.length_nil] at h1
 omega
set_option maxHeartbeats 2000000 in
theorem implKeyOk_any (w : World) (s : ByteArray) (hs : s.size ≤ 10000000) :
  Calls Tryz.prog 37 #[.string s] w fun e w' => e = .returned (.bool (keyOk s)) ∧ w' = w := by
 by_cases h : 1 ≤ s.size
 ·have h1 := nokey_bytes h
  have HK : Hid (keyOk s = decide ((s.size : Int) ≤ 30)) := by
   show _ = _
   unfold keyOk
   by_cases h' : s.size ≤ 30
   ·rw [decide_eq_true (⟨h,h'⟩ : 1 ≤ s.size ∧ s.size ≤ 30),decide_eq_true (by omega)]
   ·rw [decide_eq_false (by omega),decide_eq_false (by omega)]
  clear h
  go_enter Tryz.func37,Tryz.ntmps37
  go_wp2
  go_ret
  exact ⟨by rw [HK.out]; rfl,rfl⟩
 ·have h0 : s = ⟨#[]⟩ := by
   have h0 : s.data.size = 0 := by have : s.size = s.data.size := rfl; omega
   exact ByteArray.ext (Array.eq_empty_of_size_eq_zero h0)
  subst h0
  go_enter Tryz.func37,Tryz.ntmps37
  go_wp2
  go_ret
  exact ⟨rfl,rfl⟩
set_option maxHeartbeats 2000000 in
theorem implPolicyHas_any (w : World) (aw am ak : Option Addr) (cw cm ck : Nat) (P : Pol) (key : ByteArray) (hA : PolAt w aw am ak P w.heap.size) (hm : P.win.length ≤ 10000000) (hm' : P.main.length ≤ 10000000) :
  Calls Tryz.prog 54 #[.agg #[.slice aw P.win.length cw,.slice am P.main.length cm,.slice ak P.sk.rows.length ck,.int .i64 P.sk.added],.string key] w fun e w' => e = .returned (.bool (hasP P key)) ∧ Below w.heap.size w w' := by
 obtain ⟨w1,hw1⟩ : ∃ x,w.alloc (.cells #[.slice aw P.win.length cw,.slice am P.main.length cm,.slice ak P.sk.rows.length ck,.int .i64 P.sk.added] 32) = x := ⟨_,rfl⟩
 have hb1 : Below w.heap.size w w1 := by rw [← hw1]; exact (Below.refl _ _).alloc (Nat.le_refl _) _
 have hB : PBox w1 w.heap.size (.slice aw P.win.length cw) (.slice am P.main.length cm) (.slice ak P.sk.rows.length ck) (.int .i64 P.sk.added) := by rw [← hw1]; exact PBox.new _ _ _ _ _
 have hA1 := hA.on hb1
 obtain ⟨b0,b1,b2,b3⟩ := hB.cells
 have c1 := containsS_any w1 aw cw P.win key hA1.1 hm
 have c2 := containsS_any w1 am cm P.main key hA1.2.1 hm'
 have HW : Hid (w.alloc (.cells #[.slice aw P.win.length cw,.slice am P.main.length cm,.slice ak P.sk.rows.length ck,.int .i64 P.sk.added] 32) = w1) := hw1
 rw [← hw1] at b0 b1 b2 b3
 clear hw1 hB hA1 hA
 go_enter Tryz.func54,Tryz.ntmps54
 cases h : inL P.win key with
 | true =>
  rw [h] at c1
  have HH : Hid (hasP P key = true) := by show _ = _; simp [hasP,h]
  clear h
  go_wp2_with fail
  rw [HW.out] at b0 b1 b2 b3 ⊢
  refine c1.mono ?_
  rintro e w' ⟨rfl,rfl⟩
  go_wp2_with fail
  go_ret
  exact ⟨by rw [HH.out]; rfl,hb1⟩
 | false =>
  rw [h] at c1
  have HH : Hid (hasP P key = inL P.main key) := by show _ = _; simp [hasP,h]
  clear h
  go_wp2_with fail
  rw [HW.out] at b0 b1 b2 b3 ⊢
  refine c1.mono ?_
  rintro e w' ⟨rfl,rfl⟩
  generalize inL P.main key = q at c2 HH
  go_wp2_with fail
  refine c2.mono ?_
  rintro e w' ⟨rfl,rfl⟩
  go_wp2_with fail
  go_ret
  exact ⟨by rw [HH.out]; rfl,hb1⟩
theorem le_lt (a b : ByteArray) : (Op.bytesLess a.toList b.toList || a.toList == b.toList) = !ltS b a := by
 show (ltS a b || eqS a b) = _
 by_cases h : a = b
 ·subst h; rw [ltS_irr,eqS_refl]; rfl
 ·rw [eqS_ne.2 h,Bool.or_false]
  rcases ltS_total h with h1 | h1
  ·rw [h1,ltS_asym h1]; rfl
  ·rw [h1,ltS_asym h1]; rfl
set_option maxRecDepth 100000 in
set_option maxHeartbeats 8000000 in
theorem implEntries_any (w : World) (a p0 m0 k0 : Option Addr) (c p1 m1 k1 : Nat) (L : List En) (P : Pol) (hE : NAt w a L w.heap.size) (hP : PolAt w p0 m0 k0 P w.heap.size) (hl : L.length ≤ 1048576) (hps : PolSz P) (hz : ∀ e ∈ L,e.key.size ≤ 1048576 ∧ e.bd.size ≤ 1048576) :
  Calls Tryz.prog 29 #[.slice a L.length c,.agg #[.slice p0 P.win.length p1,.slice m0 P.main.length m1,.slice k0 P.sk.rows.length k1,.int .i64 P.sk.added]] w fun e w' => e = .returned (.bool (entsOkX L P)) ∧ Below w.heap.size w w' := by
 obtain ⟨l1,l2,_⟩ := hps.parts
 obtain ⟨w1,hw1⟩ : ∃ x,w.alloc (.cells #[.slice p0 P.win.length p1,.slice m0 P.main.length m1,.slice k0 P.sk.rows.length k1,.int .i64 P.sk.added] 32) = x := ⟨_,rfl⟩
 have hb1 : Below w.heap.size w w1 := by rw [← hw1]; exact (Below.refl _ _).alloc (Nat.le_refl _) _
 have hB1 : PBox w1 w.heap.size (.slice p0 P.win.length p1) (.slice m0 P.main.length m1) (.slice k0 P.sk.rows.length k1) (.int .i64 P.sk.added) := by rw [← hw1]; exact PBox.new _ _ _ _ _
 have HE1 : Hid (NAt w1 a L w1.heap.size) := hE.on hb1
 have HP1 : Hid (PolAt w1 p0 m0 k0 P w1.heap.size) := hP.on hb1
 have HN1 : Hid (PBox w1 w.heap.size (.slice p0 P.win.length p1) (.slice m0 P.main.length m1) (.slice k0 P.sk.rows.length k1) (.int .i64 P.sk.added)) := hB1
 have HB1 : Hid (Below w.heap.size w w1) := hb1
 have HW : Hid (w.alloc (.cells #[.slice p0 P.win.length p1,.slice m0 P.main.length m1,.slice k0 P.sk.rows.length k1,.int .i64 P.sk.added] 32) = w1) := hw1
 have HZ : Hid (∀ e ∈ L,e.key.size ≤ 1048576 ∧ e.bd.size ≤ 1048576) := hz
 obtain ⟨res,hres⟩ : ∃ r,entsOkX L P = r := ⟨_,rfl⟩
 have HO : Hid (res = (decide (L.length = P.win.length + P.main.length) && allT (entF L P) L.length)) := hres.symm
 rw [hres]
 obtain ⟨b0,b1,b2,b3⟩ := hB1.cells
 rw [← hw1] at b0 b1 b2 b3
 clear hw1 hb1 hB1 hE hP hps hz hres
 go_enter Tryz.func29,Tryz.ntmps29
 by_cases hq : L.length = P.win.length + P.main.length
 case neg =>
  have HR : Hid (res = false) := by show _ = _; rw [HO.out,decide_eq_false hq]; rfl
  have hq' : ((L.length : Int) != (P.win.length : Int) + (P.main.length : Int)) = true := by simp; omega
  clear hq
  go_wp2_with fail
  rw [HW.out]
  go_ret
  exact ⟨by rw [HR.out]; rfl,HB1.out⟩
 have HO2 : Hid (res = allT (entF L P) L.length) := by show _ = _; rw [HO.out,decide_eq_true hq]; rfl
 have hq' : ((L.length : Int) != (P.win.length : Int) + (P.main.length : Int)) = false := by simp; omega
 clear hq HO
 go_wp2_with fail
 rw [HW.out]
 clear b0 b1 b2 b3 hq' HW
 go_loopw [19] (fun i wr => Box (∃ k : Nat,k ≤ L.length ∧ i = .int .i64 k ∧ allT (entF L P) k = true ∧ Below w1.heap.size w1 wr))
  (fun i _ => L.length - (intOf i).toNat)
 case atStart => exact ⟨⟨0,by omega,rfl,rfl,Below.refl _ _⟩⟩
 case round =>
  obtain ⟨k,hk,rfl,hno,hbr⟩ := hrel.out
  obtain ⟨wo,hwo⟩ : ∃ wo,wo = wr := ⟨_,rfl⟩
  subst hwo
  have HN : Hid (allT (entF L P) k = true) := hno
  have HBO : Hid (Below w.heap.size w wo) := HB1.out.trans (hbr.mono HB1.out.size)
  have HBS : Hid (Below w1.heap.size w1 wo) := hbr
  clear hrel hno hbr
  by_cases hlt : k < L.length
  ·obtain ⟨gg,offg,hga,_,q0,q1,q2,q3⟩ := (HE1.out.on HBS.out) k hlt
   obtain ⟨r,hr⟩ : ∃ r,L[k] = r := ⟨_,rfl⟩
   have hgd : L.getD k zen = r := by rw [getD_of hlt,hr]
   rw [hr] at q0 q1 q2 q3
   obtain ⟨rs1,rs2⟩ := HZ.out r (by rw [← hr]; exact List.getElem_mem hlt)
   have HK : Hid (k < L.length) := hlt
   have hi1 : (0 : Int) ≤ (k : Int) := by omega
   have hi3 : (k : Int) < (L.length : Int) := by omega
   obtain ⟨w3,hw3⟩ : ∃ x,wo.alloc (.cells #[.string r.key,.int .i64 r.st,.int .i64 r.lf,.string r.bd] 65) = x := ⟨_,rfl⟩
   have hb3 : Below wo.heap.size wo w3 := by rw [← hw3]; exact (Below.refl _ _).alloc (Nat.le_refl _) _
   have hRB : w3.heap[wo.heap.size]? = some (.cells #[.string r.key,.int .i64 r.st,.int .i64 r.lf,.string r.bd] 65 (0, 0)) := by rw [← hw3]; exact heap_alloc_new _ _
   have HRB : Hid (w3.heap[wo.heap.size]? = some (.cells #[.string r.key,.int .i64 r.st,.int .i64 r.lf,.string r.bd] 65 (0, 0))) := hRB
   have HB3 : Hid (Below w.heap.size w w3) := HBO.out.trans (hb3.mono HBO.out.size)
   have HS3 : Hid (Below w1.heap.size w1 w3) := HBS.out.trans (hb3.mono HBS.out.size)
   have HW3 : Hid (wo.alloc (.cells #[.string r.key,.int .i64 r.st,.int .i64 r.lf,.string r.bd] 65) = w3) := hw3
   have HV : Hid (∀ W,Below w3.heap.size w3 W → ∀ j (hj : j < L.length),W.cell? ⟨gg,offg + j * 4,none⟩ = some (.string L[j].key)) := fun W hW j hj => by
    obtain ⟨g',o',he,_,h,_⟩ := ((HE1.out.on HS3.out).on hW) j hj
    rw [hga] at he
    cases he
    exact h
   have g0 : w3.cell? ⟨wo.heap.size, 0,none⟩ = some (.string r.key) := by rw [cell_of_row w3 wo.heap.size 0 _ _ (0, 0) hRB]; rfl
   have g1 : w3.cell? ⟨wo.heap.size, 1,none⟩ = some (.int .i64 r.st) := by rw [cell_of_row w3 wo.heap.size 1 _ _ (0, 0) hRB]; rfl
   have g2 : w3.cell? ⟨wo.heap.size, 2,none⟩ = some (.int .i64 r.lf) := by rw [cell_of_row w3 wo.heap.size 2 _ _ (0, 0) hRB]; rfl
   have g3 : w3.cell? ⟨wo.heap.size, 3,none⟩ = some (.string r.bd) := by rw [cell_of_row w3 wo.heap.size 3 _ _ (0, 0) hRB]; rfl
   have cA := implEntryOk_any w3 r.key r.bd r.st r.lf (by omega) (by omega)
   change Calls _ _ _ _ fun e w' => e = .returned (.bool (enOk r)) ∧ _ at cA
   have HSu : Hid (allT (entF L P) (k + 1) = (enOk r && (!(decide (0 < k) && !ltS (L.getD (k - 1) zen).key r.key) && hasP P r.key))) := by
    show _ = _
    unfold allT
    rw [HN.out,Bool.true_and]
    unfold entF
    rw [hgd]
   have HF : Hid (allT (entF L P) (k + 1) = false → res = false) := fun h => by rw [HO2.out]; exact allT_down (k := k) hlt (by unfold allT at h; rw [HN.out] at h; simpa using h)
   subst hga
   generalize enOk r = x1 at cA HSu
   clear hr hgd hw3 hlt hRB hb3
   go_wp2_with fail
   rw [HW3.out]
   refine cA.mono ?_
   rintro e w3b ⟨rfl,hb3b⟩
   have HB3b : Hid (Below w.heap.size w w3b) := HB3.out.trans (hb3b.mono HB3.out.size)
   have HS3b : Hid (Below w1.heap.size w1 w3b) := HS3.out.trans (hb3b.mono HS3.out.size)
   clear g0 g1 g2 g3 cA
   cases x1 with
   | false =>
    have HPO : Hid (allT (entF L P) (k + 1) = false) := by show _ = _; rw [HSu.out]; rfl
    go_wp2_with fail
    go_ret
    exact ⟨by rw [HF.out HPO.out]; rfl,HB3b.out⟩
   | true =>
    obtain ⟨b0,b1,b2,b3⟩ := (HN1.out.on HS3b.out).cells
    have g0 : w3b.cell? ⟨wo.heap.size, 0,none⟩ = some (.string r.key) := by rw [cell_of_row w3b wo.heap.size 0 _ _ (0, 0) ((hb3b.block _ (Array.getElem?_eq_some_iff.1 HRB.out).1).trans HRB.out)]; rfl
    have cB := implPolicyHas_any w3b p0 m0 k0 p1 m1 k1 P r.key (HP1.out.on HS3b.out) (by omega) (by omega)
    generalize hasP P r.key = x2 at cB HSu
    go_wp2_with fail
    refine cB.mono ?_
    rintro e w4 ⟨rfl,hb4⟩
    have HB4 : Hid (Below w.heap.size w w4) := HB3b.out.trans (hb4.mono HB3b.out.size)
    have HB5 : Hid (Below w1.heap.size w1 w4) := HS3b.out.trans (hb4.mono HS3b.out.size)
    have hb34 : Below w3.heap.size w3 w4 := hb3b.trans (hb4.mono hb3b.size)
    have z0 := cell_regrown ((hb4.cell (block_lt_of_cell g0)).trans g0)
    clear g0 b0 b1 b2 b3 cB hb3b hb4
    cases x2 with
    | false =>
     have HPO : Hid (allT (entF L P) (k + 1) = false) := by show _ = _; rw [HSu.out]; simp
     go_wp2_with fail
     go_ret
     exact ⟨by rw [HF.out HPO.out]; rfl,HB4.out⟩
    | true =>
     by_cases h0 : k = 0
     ·have hS : Hid (allT (entF L P) (k + 1) = true) := by
       show _ = _
       rw [HSu.out]; simp [h0]
      have hgN : decide (0 < k) = false := decide_eq_false (by omega)
      have hgI : ¬ (0 : Int) < (k : Int) := by omega
      have HPO := hS
      clear HSu h0
      go_wp2_with fail
      refine wp_region_quiet_below (by kernel_rfl) (by kernel_rfl) ?_
      repeat (first | go_big_quiet_step (fail) | quiet_step (fail))
      refine wpQuiet_nil ?_
      intro _ hw'
      obtain ⟨⟨dq,osq⟩,hw''⟩ := hw'
      subst hw''
      go_wp2_with fail
      go_roundw
      case rel =>
       try ((repeat apply Exists.intro); refine ⟨?_,rfl⟩)
       exact ⟨⟨k + 1,by have := HK.out; omega,by go_num,HPO.out,HB5.out.trans ((below_regrown w4 dq osq).mono HB5.out.size)⟩⟩
      case measure => have := HK.out; simp [intOf]; omega
     ·obtain ⟨j,hkj⟩ : ∃ j,k = j + 1 := ⟨k - 1,by omega⟩
      have z6 := cell_regrown (HV.out w4 hb34 j (by have := HK.out; omega))
      obtain ⟨x,hx⟩ : ∃ x,(L[j]'(by have := HK.out; omega)).key = x := ⟨_,rfl⟩
      have hxd : (L.getD (k - 1) zen).key = x := by rw [show k - 1 = j by omega,getD_of (show j < L.length by have := HK.out; omega),hx]
      obtain ⟨x3,hx3⟩ : ∃ b,(Op.bytesLess r.key.toList x.toList || r.key.toList == x.toList) = b := ⟨_,rfl⟩
      have hS : Hid (allT (entF L P) (k + 1) = !x3) := by
       show _ = _
       rw [HSu.out,hxd,show decide (0 < k) = true from decide_eq_true (by omega), ← hx3,le_lt]
       simp
      rw [hx] at z6
      have hgN : decide (0 < k) = true := decide_eq_true (by omega)
      have hgI : (0 : Int) < (k : Int) := by omega
      have hjj : (k : Int) - 1 = (j : Int) := by omega
      have hj0 : (0 : Int) ≤ (j : Int) := by omega
      have hj1 : (j : Int) < (L.length : Int) := by have := HK.out; omega
      clear HSu h0 hx hxd hkj
      cases x3 with
      | false =>
       have HPO : Hid (allT (entF L P) (k + 1) = true) := hS
       go_wp2_with fail
       refine wp_region_quiet_below (by kernel_rfl) (by kernel_rfl) ?_
       repeat (first | go_big_quiet_step (fail) | quiet_step (fail))
       refine wpQuiet_nil ?_
       intro _ hw'
       obtain ⟨⟨dq,osq⟩,hw''⟩ := hw'
       subst hw''
       go_wp2_with fail
       go_roundw
       case rel =>
        try ((repeat apply Exists.intro); refine ⟨?_,rfl⟩)
        exact ⟨⟨k + 1,by have := HK.out; omega,by go_num,HPO.out,HB5.out.trans ((below_regrown w4 dq osq).mono HB5.out.size)⟩⟩
       case measure => have := HK.out; simp [intOf]; omega
      | true =>
       have HPO : Hid (allT (entF L P) (k + 1) = false) := hS
       go_wp2_with fail
       refine wp_region_quiet_below (by kernel_rfl) (by kernel_rfl) ?_
       repeat (first | go_big_quiet_step (fail) | quiet_step (fail))
       refine wpQuiet_nil ?_
       intro _ hw'
       obtain ⟨⟨dq,osq⟩,hw''⟩ := hw'
       subst hw''
       go_wp2_with fail
       go_ret
       exact ⟨by rw [HF.out HPO.out]; rfl,HB4.out.trans ((below_regrown w4 dq osq).mono HB4.out.size)⟩
  ·have hi3 : ¬ (k : Int) < (L.length : Int) := by omega
   have HR : Hid (res = true) := by show _ = _; rw [HO2.out,show L.length = k by omega,HN.out]
   clear hlt hk
   go_wp2_with fail
   go_ret
   exact ⟨by rw [HR.out]; rfl,HBO.out⟩
end Go.Proofs.YtaahjcljanckaaaGreatDoor
