/- Texts that stand in one: PolSzText, PolCopyImpl, PrxCopyKit, SpecJoin, DiskPlain, AtPlain, KeptPlain, ActPlain, FolderPlain. -/
import Derived.Test.YtaahjcljanckaaaGreatDoorSkLaw3J
import Derived.Test.YtaahjcljanckaaaGreatDoorSkStepJ
import Derived.Deep.RegionHeld3
import Derived.Test.YtaahjcljanckaaaGreatDoorPrxBaseJ
import Derived.Test.YtaahjcljanckaaaGreatDoorCliLawJ
import Derived.Test.YtaahjcljanckaaaGreatDoorShelf
import Derived.Deep.DeepCutAuto
import Derived.Test.YtaahjcljanckaaaGreatDoorFilesJ
import Derived.Maps.Own
import Derived.Maps.OwnSet
import Derived.Maps.Ext
import Derived.Sort.Walk0
import Derived.Sort.KeysCollected
namespace Go.Proofs.YtaahjcljanckaaaGreatDoor
open Go.RowKit
theorem PolSz.texts {P : Pol} (h : PolSz P) : ∀ z ∈ P.win ++ P.main,z.size ≤ 1048576 := fun z hz => by
 unfold PolSz wgtP at h
 rcases List.mem_append.1 hz with hz | hz
 ·have := wgtL_mem hz
  omega
 ·have := wgtL_mem hz
  omega
end Go.Proofs.YtaahjcljanckaaaGreatDoor
namespace Go.Proofs.YtaahjcljanckaaaGreatDoor
open Go.RowKit Go.Sort
set_option maxRecDepth 100000 in
set_option maxHeartbeats 8000000 in
theorem policyCopy_any (w : World) (aw am ak : Option Addr) (cw cm ck : Nat) (P : Pol) (hA : PolAt w aw am ak P w.heap.size) (hsz : PolSz P) :
  Calls Tryz.prog 32 #[.agg #[.slice aw P.win.length cw,.slice am P.main.length cm,.slice ak P.sk.rows.length ck,.int .i64 P.sk.added]] w fun e w' => ∃ v,e = .returned v ∧ POwn w' w.heap.size w'.heap.size v P ∧ Below w.heap.size w w' := by
 obtain ⟨l1,l2,l3⟩ := hsz.parts
 obtain ⟨w0,hw0⟩ : ∃ x,w.alloc (.cells #[.slice aw P.win.length cw,.slice am P.main.length cm,.slice ak P.sk.rows.length ck,.int .i64 P.sk.added] 32) = x := ⟨_,rfl⟩
 obtain ⟨w1,hw1⟩ : ∃ x,w0.alloc (.cells #[.slice none 0 0,.slice none 0 0,.slice none 0 0,.int .i64 0] 32) = x := ⟨_,rfl⟩
 have hb0 : Below w.heap.size w w0 := by rw [← hw0]; exact (Below.refl _ _).alloc (Nat.le_refl _) _
 have hb01 : Below w0.heap.size w0 w1 := by rw [← hw1]; exact (Below.refl _ _).alloc (Nat.le_refl _) _
 have s0 : w0.heap.size = w.heap.size + 1 := by rw [← hw0]; simp
 have s1 : w1.heap.size = w.heap.size + 2 := by rw [← hw1]; simp; omega
 have hb1 : Below w.heap.size w w1 := hb0.trans (hb01.mono hb0.size)
 have hB : PBox w1 w.heap.size (.slice aw P.win.length cw) (.slice am P.main.length cm) (.slice ak P.sk.rows.length ck) (.int .i64 P.sk.added) := by
  have h : PBox w0 w.heap.size (.slice aw P.win.length cw) (.slice am P.main.length cm) (.slice ak P.sk.rows.length ck) (.int .i64 P.sk.added) := by rw [← hw0]; exact PBox.new _ _ _ _ _
  exact h.on hb01
 have hR : PBox w1 (w.heap.size + 1) (.slice none 0 0) (.slice none 0 0) (.slice none 0 0) (.int .i64 0) := by rw [← hw1, ← s0]; exact PBox.new _ _ _ _ _
 have hA1 := hA.on hb1
 have HW : Hid ((w.alloc (.cells #[.slice aw P.win.length cw,.slice am P.main.length cm,.slice ak P.sk.rows.length ck,.int .i64 P.sk.added] 32)).alloc (.cells #[.slice none 0 0,.slice none 0 0,.slice none 0 0,.int .i64 0] 32) = w1) := by rw [hw0]; exact hw1
 have KS : ∀ W,Below w1.heap.size w1 W → W.cell? ⟨w.heap.size, 0,none⟩ = some (.slice aw P.win.length cw) ∧ W.cell? ⟨w.heap.size, 1,none⟩ = some (.slice am P.main.length cm) ∧ W.cell? ⟨w.heap.size, 2,none⟩ = some (.slice ak P.sk.rows.length ck) ∧ W.cell? ⟨w.heap.size, 3,none⟩ = some (.int .i64 P.sk.added) := fun W h => (hB.on h).cells
 have HC1 : Hid (∀ W,Below w1.heap.size w1 W → Calls Tryz.prog 59 #[.slice aw P.win.length cw] W fun e w' => ∃ a2 k2,e = .returned (.slice a2 P.win.length k2) ∧ OwnV w' W.heap.size 9 (.slice a2 P.win.length k2) (strs P.win) ∧ Below w1.heap.size w1 w') := fun W h => by
  refine (keysCopy_any W aw cw P.win (hA1.on h).1 l1 (fun z hz => by have := hsz.texts z (List.mem_append_left _ hz); omega)).mono ?_
  rintro e w' ⟨v,rfl,ho,hb⟩
  obtain ⟨a2,k2,rfl,_⟩ := ho.strsAt
  exact ⟨a2,k2,rfl,ho,h.trans (hb.mono h.size)⟩
 have HC2 : Hid (∀ W,Below w1.heap.size w1 W → Calls Tryz.prog 59 #[.slice am P.main.length cm] W fun e w' => ∃ a2 k2,e = .returned (.slice a2 P.main.length k2) ∧ OwnV w' W.heap.size 9 (.slice a2 P.main.length k2) (strs P.main) ∧ Below W.heap.size W w') := fun W h => by
  refine (keysCopy_any W am cm P.main (hA1.on h).2.1 l2 (fun z hz => by have := hsz.texts z (List.mem_append_right _ hz); omega)).mono ?_
  rintro e w' ⟨v,rfl,ho,hb⟩
  obtain ⟨a2,k2,rfl,_⟩ := ho.strsAt
  exact ⟨a2,k2,rfl,ho,hb⟩
 have HC3 : Hid (∀ W,Below w1.heap.size w1 W → Calls Tryz.prog 60 #[.agg #[.slice ak P.sk.rows.length ck,.int .i64 P.sk.added]] W fun e w' => ∃ a2 k2,e = .returned (.agg #[.slice a2 P.sk.rows.length k2,.int .i64 P.sk.added]) ∧ OwnSS w' W.heap.size w'.heap.size (.slice a2 P.sk.rows.length k2) P.sk.rows ∧ Below W.heap.size W w') := fun W h => by
  refine (sketchCopy_any W ak ck P.sk (hA1.on h).2.2 l3).mono ?_
  rintro e w' ⟨v,rfl,⟨u,rfl,ho⟩,hb⟩
  obtain ⟨a2,k2,rfl,_⟩ := ho.at
  exact ⟨a2,k2,rfl,ho,hb⟩
 have hdr : Below w1.heap.size w1 w1.drew := ⟨rfl,rfl,rfl,Nat.le_refl _,fun _ _ => rfl⟩
 have HRB : Hid (∀ W,Below w1.heap.size w1 W → PBox W (w.heap.size + 1) (.slice none 0 0) (.slice none 0 0) (.slice none 0 0) (.int .i64 0)) := fun W h => hR.on h
 have HB1 : Hid (Below w.heap.size w w1 ∧ w1.heap.size = w.heap.size + 2) := ⟨hb1,s1⟩
 have HS5 : Hid (∀ W x y z u,Below w1.heap.size w1 W → PBox ((((W.setCell ⟨w.heap.size + 1, 0,none⟩ x).setCell ⟨w.heap.size + 1, 1,none⟩ y).setCell ⟨w.heap.size + 1, 2,none⟩ z).setCell ⟨w.heap.size + 1, 3,none⟩ u) w.heap.size (.slice aw P.win.length cw) (.slice am P.main.length cm) (.slice ak P.sk.rows.length ck) (.int .i64 P.sk.added)) := fun W x y z u h => (hB.on h).kept (put4_other W _ x y z u _ (by omega))
 clear hw0 hw1 hb0 hb01 s0 hA hA1 hB hR hb1 s1 hsz l1 l2 l3
 go_enter Tryz.func32,Tryz.ntmps32
 go_wp2
 rw [HW.out]
 clear HW
 go_region_held3 (fun W => W.cell? ⟨w.heap.size, 0,none⟩ = some (.slice aw P.win.length cw) ∧ W.cell? ⟨w.heap.size, 1,none⟩ = some (.slice am P.main.length cm) ∧ W.cell? ⟨w.heap.size, 2,none⟩ = some (.slice ak P.sk.rows.length ck) ∧ W.cell? ⟨w.heap.size, 3,none⟩ = some (.int .i64 P.sk.added)) (first | with_reducible exact KS _ hdr | with_reducible exact KS _ hC4 | with_reducible exact KS _ hC3 | with_reducible exact KS _ hC2 | with_reducible exact hS5)
  (first
   | (go_at_call 59; first
     | (with_reducible refine (HC1.out _ hdr).mono ?_; rintro e w2 ⟨a2,k2,rfl,ho2,hC2⟩)
     | (with_reducible refine (HC2.out _ hC2).mono ?_; rintro e w3 ⟨a3,k3,rfl,ho3,hb3⟩; have hC3 : Below w1.heap.size w1 w3 := hC2.trans (hb3.mono hC2.size)))
   | (go_at_call 60; with_reducible refine (HC3.out _ hC3).mono ?_; rintro e w4 ⟨a4,k4,rfl,ho4,hb4⟩; have hC4 : Below w1.heap.size w1 w4 := hC3.trans (hb4.mono hC3.size); have hR4 := HRB.out _ hC4; obtain ⟨r0,r1,r2,r3⟩ := hR4.cells; have f0 := hR4.thaw 0; have f1 := hR4.thaw 1; have f2 := hR4.thaw 2; have f3 := hR4.thaw 3; have hS5 := (HS5.out w4 (.slice a2 P.win.length k2) (.slice a3 P.main.length k3) (.slice a4 P.sk.rows.length k4) (.int .i64 P.sk.added) hC4).cells))
 all_goals (
  obtain ⟨hb1,s1⟩ := HB1.out
  have hR4 := HRB.out _ hC4
  have hOA : POwn w4 w.heap.size w4.heap.size (.agg #[.slice a2 P.win.length k2,.slice a3 P.main.length k3,.slice a4 P.sk.rows.length k4,.int .i64 P.sk.added]) ⟨P.win,P.main,P.sk⟩ :=
   POwn.mk3 (P := ⟨P.win,P.main,P.sk⟩) ((ho2.below hb3 (Nat.le_refl _)).below hb4 (Nat.le_refl _)) (ho3.below hb4 (Nat.le_refl _)) ho4 (by simp; omega) (by have := hC2.size; omega) (by have := hC3.size; omega) (fun k hk => by
    intro e
    have h1 := (ho2.lt k hk).2
    have h2 := (ho3.lt k e).1
    omega)
  have HOA : Hid _ := hOA.put4 hR4 (.slice a2 P.win.length k2) (.slice a3 P.main.length k3) (.slice a4 P.sk.rows.length k4) (.int .i64 P.sk.added)
  have HBF : Hid _ := Below.put4 (hb1.trans (hC4.mono (by omega))) (T := w.heap.size + 1) (by omega) (.slice a2 P.win.length k2) (.slice a3 P.main.length k3) (.slice a4 P.sk.rows.length k4) (.int .i64 P.sk.added)
  obtain ⟨q0,q1,q2,q3⟩ := (hR4.put (.slice a2 P.win.length k2) (.slice a3 P.main.length k3) (.slice a4 P.sk.rows.length k4) (.int .i64 P.sk.added)).cells
  clear hOA
  try go_wp2_with fail
  refine bodyPost_ret (v := .agg #[.slice a2 P.win.length k2,.slice a3 P.main.length k3,.slice a4 P.sk.rows.length k4,.int .i64 P.sk.added]) (by simp [results,Tryz.results32,go_sem,q0,q1,q2,q3]) rfl ⟨_,rfl, ?_,HBF.out⟩
  refine POwn.mono HOA.out (Nat.le_refl _) ?_
  simp)
theorem cloneP_any (s : ByteArray) (w : World) (h : s.size ≤ 1048576) :
  Calls Tryz.prog 34 #[.string s] w fun e w' => e = .returned (.string s) ∧ Below w.heap.size w w' := by
 go_enter Tryz.func34,Tryz.ntmps34
 go_wp2_with fail
 refine (Tryz.stringslite_Clone s w (by omega)).mono ?_
 rintro e w1 ⟨rfl,hb⟩
 go_wp2
 go_ret
 exact ⟨rfl,hb⟩
theorem policyCopy_v (w : World) (x y z : Value) (P : Pol) (h : PlV w x y z P w.heap.size) (hsz : PolSz P) :
  Calls Tryz.prog 32 #[.agg #[x,y,z,.int .i64 P.sk.added]] w fun e w' => ∃ aw cw am cm ak ck,e = .returned (.agg #[.slice aw P.win.length cw,.slice am P.main.length cm,.slice ak P.sk.rows.length ck,.int .i64 P.sk.added]) ∧ POwn w' w.heap.size w'.heap.size (.agg #[.slice aw P.win.length cw,.slice am P.main.length cm,.slice ak P.sk.rows.length ck,.int .i64 P.sk.added]) P ∧ Below w.heap.size w w' := by
 obtain ⟨aw,cw,am,cm,ak,ck,rfl,rfl,rfl,hA⟩ := h.at
 refine (policyCopy_any w aw am ak cw cm ck P hA hsz).mono ?_
 rintro e w' ⟨v,rfl,ho,hb⟩
 obtain ⟨b1,d1,b2,d2,b3,d3,rfl,_⟩ := ho.at
 exact ⟨b1,d1,b2,d2,b3,d3,rfl,ho,hb⟩
theorem PxOwn.start {w : World} {lo hi : Nat} {x y z : Value} {P : Pol} {now hits : Int} (h : POwn w lo hi (.agg #[x,y,z,.int .i64 P.sk.added]) P) : PxOwn w lo hi ⟨.slice none 0 0,x,y,z,.slice none 0 0,.slice none 0 0⟩ ⟨now, [],P, [], [],hits⟩ :=
 ⟨ownN_nil _ _ _,h,OwnFet.nil _ _ _,OwnCli.nil _ _ _,fun k hk => by simp [Value.ownBlock] at hk,fun k hk => by simp [Value.ownBlock] at hk,fun k hk => by simp [Value.ownBlock] at hk⟩
theorem gat_b {w1 wP : World} {lo : Nat} {x y z : Value} {P : Pol} (now hits : Int) (oP : POwn wP lo wP.heap.size (.agg #[x,y,z,.int .i64 P.sk.added]) P) (fP : Below lo w1 wP) (hlo : lo ≤ wP.heap.size) :
  NB (wP.alloc (.cells #[.int .i64 now,.slice none 0 0,x,y,z,.int .i64 P.sk.added,.slice none 0 0,.slice none 0 0,.int .i64 hits] 36)) wP.heap.size 36 (.int .i64 now) (.slice none 0 0) x y z (.int .i64 P.sk.added) (.slice none 0 0) (.slice none 0 0) (.int .i64 hits) ∧ PxOwn (wP.alloc (.cells #[.int .i64 now,.slice none 0 0,x,y,z,.int .i64 P.sk.added,.slice none 0 0,.slice none 0 0,.int .i64 hits] 36)) lo (wP.alloc (.cells #[.int .i64 now,.slice none 0 0,x,y,z,.int .i64 P.sk.added,.slice none 0 0,.slice none 0 0,.int .i64 hits] 36)).heap.size ⟨.slice none 0 0,x,y,z,.slice none 0 0,.slice none 0 0⟩ (Prx.mk now [] P [] [] hits) ∧ Below lo w1 (wP.alloc (.cells #[.int .i64 now,.slice none 0 0,x,y,z,.int .i64 P.sk.added,.slice none 0 0,.slice none 0 0,.int .i64 hits] 36)) ∧ lo ≤ wP.heap.size :=
 ⟨NB.new _ _ _ _ _ _ _ _ _ _ _,((PxOwn.start oP).below ((Below.refl _ _).alloc (Nat.le_refl _) _) (Nat.le_refl _)).up,fP.alloc hlo _,hlo⟩
theorem gat_a {w1 wP : World} {lo T : Nat} {x y z a0 a1 a2 a3 a4 a5 a6 a7 a8 : Value} {P : Pol} (now hits : Int) (oP : POwn wP lo wP.heap.size (.agg #[x,y,z,.int .i64 P.sk.added]) P) (fP : Below lo w1 wP) (hlo : lo ≤ T) (hN : NB wP T 36 a0 a1 a2 a3 a4 a5 a6 a7 a8) :
  NB (((((((((wP.setCell ⟨T, 0,none⟩ (.int .i64 now)).setCell ⟨T, 1,none⟩ (.slice none 0 0)).setCell ⟨T, 2,none⟩ x).setCell ⟨T, 3,none⟩ y).setCell ⟨T, 4,none⟩ z).setCell ⟨T, 5,none⟩ (.int .i64 P.sk.added)).setCell ⟨T, 6,none⟩ (.slice none 0 0)).setCell ⟨T, 7,none⟩ (.slice none 0 0)).setCell ⟨T, 8,none⟩ (.int .i64 hits)) T 36 (.int .i64 now) (.slice none 0 0) x y z (.int .i64 P.sk.added) (.slice none 0 0) (.slice none 0 0) (.int .i64 hits) ∧ PxOwn (((((((((wP.setCell ⟨T, 0,none⟩ (.int .i64 now)).setCell ⟨T, 1,none⟩ (.slice none 0 0)).setCell ⟨T, 2,none⟩ x).setCell ⟨T, 3,none⟩ y).setCell ⟨T, 4,none⟩ z).setCell ⟨T, 5,none⟩ (.int .i64 P.sk.added)).setCell ⟨T, 6,none⟩ (.slice none 0 0)).setCell ⟨T, 7,none⟩ (.slice none 0 0)).setCell ⟨T, 8,none⟩ (.int .i64 hits)) lo (((((((((wP.setCell ⟨T, 0,none⟩ (.int .i64 now)).setCell ⟨T, 1,none⟩ (.slice none 0 0)).setCell ⟨T, 2,none⟩ x).setCell ⟨T, 3,none⟩ y).setCell ⟨T, 4,none⟩ z).setCell ⟨T, 5,none⟩ (.int .i64 P.sk.added)).setCell ⟨T, 6,none⟩ (.slice none 0 0)).setCell ⟨T, 7,none⟩ (.slice none 0 0)).setCell ⟨T, 8,none⟩ (.int .i64 hits)).heap.size ⟨.slice none 0 0,x,y,z,.slice none 0 0,.slice none 0 0⟩ (Prx.mk now [] P [] [] hits) ∧ Below lo w1 (((((((((wP.setCell ⟨T, 0,none⟩ (.int .i64 now)).setCell ⟨T, 1,none⟩ (.slice none 0 0)).setCell ⟨T, 2,none⟩ x).setCell ⟨T, 3,none⟩ y).setCell ⟨T, 4,none⟩ z).setCell ⟨T, 5,none⟩ (.int .i64 P.sk.added)).setCell ⟨T, 6,none⟩ (.slice none 0 0)).setCell ⟨T, 7,none⟩ (.slice none 0 0)).setCell ⟨T, 8,none⟩ (.int .i64 hits)) ∧ lo ≤ T :=
 ⟨hN.put _ _ _ _ _ _ _ _ _,((PxOwn.start oP).box hN (by unfold PxT; decide) (fun k hk => put9_other wP T _ _ _ _ _ _ _ _ _ k hk)).up,Below.put9 fP hlo _ _ _ _ _ _ _ _ _,hlo⟩
theorem PxOwn.setE {w w2 : World} {lo hi : Nat} {X : Pc} {R : Prx} {v2 : Value} {L2 : List En} (h : PxOwn w lo hi X R) (hg : w.grownBy w2 X.e.ownBlock) (ho : OwnN w2 lo 65 v2 L2) : PxOwn w2 lo w2.heap.size ⟨v2,X.w,X.m,X.k,X.f,X.c⟩ ⟨R.now,L2,R.pol,R.fes,R.cls,R.hits⟩ := by
 have hp : POwn w2 lo hi (.agg #[X.w,X.m,X.k,.int .i64 R.pol.sk.added]) R.pol := h.p.keptT fun k _ _ hk hty => hg.block k hk (fun e => by
  obtain ⟨cs,hcs⟩ := h.e.type k e.symm
  obtain ⟨cs',t',h1,h2⟩ := hty _ hcs
  simp only [Obj.cells.injEq] at h1
  rw [← h1.2.1] at h2
  revert h2
  decide)
 have hf : OwnFet w2 lo 84 X.f R.fes := h.f.grown hg fun q hq e => by
  obtain ⟨cs,h1⟩ := h.f.type q hq
  obtain ⟨cs',h2⟩ := h.e.type q e
  rw [h1] at h2
  simp at h2
 have hc : OwnCli w2 lo 45 X.c R.cls := h.c.grown hg fun q hq e => by
  obtain ⟨cs,h1⟩ := h.c.type q hq
  obtain ⟨cs',h2⟩ := h.e.type q e
  rw [h1] at h2
  simp at h2
 exact ⟨ho,hp.up,hf,hc,fun k hk => (ho.lt k hk).2,fun k hk => (hf.lt k hk).2,fun k hk => (hc.lt k hk).2⟩
theorem PxOwn.setF {w w2 : World} {lo hi : Nat} {X : Pc} {R : Prx} {v2 : Value} {L2 : List Fet} (h : PxOwn w lo hi X R) (hg : w.grownBy w2 X.f.ownBlock) (ho : OwnFet w2 lo 84 v2 L2) : PxOwn w2 lo w2.heap.size ⟨X.e,X.w,X.m,X.k,v2,X.c⟩ ⟨R.now,R.ents,R.pol,L2,R.cls,R.hits⟩ := by
 have hp : POwn w2 lo hi (.agg #[X.w,X.m,X.k,.int .i64 R.pol.sk.added]) R.pol := h.p.keptT fun k _ _ hk hty => hg.block k hk (fun e => by
  obtain ⟨cs,hcs⟩ := h.f.type k e.symm
  obtain ⟨cs',t',h1,h2⟩ := hty _ hcs
  simp only [Obj.cells.injEq] at h1
  rw [← h1.2.1] at h2
  revert h2
  decide)
 have he : OwnN w2 lo 65 X.e R.ents := h.e.grown hg fun q hq e => by
  obtain ⟨cs,h1⟩ := h.e.type q hq
  obtain ⟨cs',h2⟩ := h.f.type q e
  rw [h1] at h2
  simp at h2
 have hc : OwnCli w2 lo 45 X.c R.cls := h.c.grown hg fun q hq e => by
  obtain ⟨cs,h1⟩ := h.c.type q hq
  obtain ⟨cs',h2⟩ := h.f.type q e
  rw [h1] at h2
  simp at h2
 exact ⟨he,hp.up,ho,hc,fun k hk => (he.lt k hk).2,fun k hk => (ho.lt k hk).2,fun k hk => (hc.lt k hk).2⟩
theorem PxOwn.setC {w w2 : World} {lo hi : Nat} {X : Pc} {R : Prx} {v2 : Value} {L2 : List Cli} (h : PxOwn w lo hi X R) (hg : w.grownBy w2 X.c.ownBlock) (ho : OwnCli w2 lo 45 v2 L2) : PxOwn w2 lo w2.heap.size ⟨X.e,X.w,X.m,X.k,X.f,v2⟩ ⟨R.now,R.ents,R.pol,R.fes,L2,R.hits⟩ := by
 have hp : POwn w2 lo hi (.agg #[X.w,X.m,X.k,.int .i64 R.pol.sk.added]) R.pol := h.p.keptT fun k _ _ hk hty => hg.block k hk (fun e => by
  obtain ⟨cs,hcs⟩ := h.c.type k e.symm
  obtain ⟨cs',t',h1,h2⟩ := hty _ hcs
  simp only [Obj.cells.injEq] at h1
  rw [← h1.2.1] at h2
  revert h2
  decide)
 have he : OwnN w2 lo 65 X.e R.ents := h.e.grown hg fun q hq e => by
  obtain ⟨cs,h1⟩ := h.e.type q hq
  obtain ⟨cs',h2⟩ := h.c.type q e
  rw [h1] at h2
  simp at h2
 have hf : OwnFet w2 lo 84 X.f R.fes := h.f.grown hg fun q hq e => by
  obtain ⟨cs,h1⟩ := h.f.type q hq
  obtain ⟨cs',h2⟩ := h.c.type q e
  rw [h1] at h2
  simp at h2
 exact ⟨he,hp.up,hf,ho,fun k hk => (he.lt k hk).2,fun k hk => (hf.lt k hk).2,fun k hk => (ho.lt k hk).2⟩
theorem grown_box {w w2 : World} {N : Nat} {t e : TypeId} {cs : Array Value} {v : Value} (hg : w.grownBy w2 v.ownBlock) (hN : w.heap[N]? = some (.cells cs t (0, 0))) (hty : ∀ k,v.ownBlock = some k → ∃ cs,w.heap[k]? = some (.cells cs e (0, 0))) (hne : t ≠ e) : w2.heap[N]? = some (.cells cs t (0, 0)) := by
 refine (hg.block N (Array.getElem?_eq_some_iff.1 hN).1 (fun h => ?_)).trans hN
 obtain ⟨c,hc⟩ := hty N h.symm
 rw [hN] at hc
 simp only [Option.some.injEq,Obj.cells.injEq] at hc
 exact hne hc.2.1
def FetB (w : World) (T : Nat) (t : TypeId) (f : Fet) : Prop := w.heap[T]? = some (.cells #[.string f.key,.string f.tx,.int .i64 f.st,.int .i64 f.lf,.int .i64 f.sto] t (0, 0))
theorem FetB.lt {w : World} {T : Nat} {t : TypeId} {f : Fet} (h : FetB w T t f) : T < w.heap.size := (Array.getElem?_eq_some_iff.1 h).1
theorem FetB.on {w w' : World} {T : Nat} {t : TypeId} {f : Fet} (h : FetB w T t f) (hb : Below w.heap.size w w') : FetB w' T t f := (hb.block T h.lt).trans h
theorem FetB.new (w : World) (t : TypeId) (f : Fet) : FetB (w.alloc (.cells #[.string f.key,.string f.tx,.int .i64 f.st,.int .i64 f.lf,.int .i64 f.sto] t)) w.heap.size t f := heap_alloc_new w _
theorem FetB.thaw {w : World} {T : Nat} {t : TypeId} {f : Fet} (h : FetB w T t f) (i : Nat) : w.frozen? ⟨T,i,none⟩ = false := by unfold FetB at h; simp [World.frozen?,h]
theorem FetB.cells {w : World} {T : Nat} {t : TypeId} {f : Fet} (h : FetB w T t f) : w.cell? ⟨T, 0,none⟩ = some (.string f.key) ∧ w.cell? ⟨T, 1,none⟩ = some (.string f.tx) ∧ w.cell? ⟨T, 2,none⟩ = some (.int .i64 f.st) ∧ w.cell? ⟨T, 3,none⟩ = some (.int .i64 f.lf) ∧ w.cell? ⟨T, 4,none⟩ = some (.int .i64 f.sto) := by
 unfold FetB at h
 exact ⟨by simp [World.cell?,h],by simp [World.cell?,h],by simp [World.cell?,h],by simp [World.cell?,h],by simp [World.cell?,h]⟩
theorem FetB.same1 {w : World} {T : Nat} {t : TypeId} {f : Fet} (h : FetB w T t f) : FetB (w.setCell ⟨T, 0,none⟩ (.string f.key)) T t f := by
 unfold FetB at *
 simp only [World.setCell,Array.getElem?_modify,h]
 simp
theorem FetB.same {w : World} {T : Nat} {t : TypeId} {f : Fet} (h : FetB w T t f) : FetB ((w.setCell ⟨T, 0,none⟩ (.string f.key)).setCell ⟨T, 1,none⟩ (.string f.tx)) T t f := by
 unfold FetB at *
 simp only [World.setCell,Array.getElem?_modify,h]
 simp
def CliB (w : World) (T : Nat) (t : TypeId) (f : Cli) : Prop := w.heap[T]? = some (.cells #[.int .i64 f.id,.string f.key,.int .i64 f.fe,.int .i64 f.fr,.int .i64 f.st,.string f.got,.int .i64 f.ag] t (0, 0))
theorem CliB.lt {w : World} {T : Nat} {t : TypeId} {f : Cli} (h : CliB w T t f) : T < w.heap.size := (Array.getElem?_eq_some_iff.1 h).1
theorem CliB.on {w w' : World} {T : Nat} {t : TypeId} {f : Cli} (h : CliB w T t f) (hb : Below w.heap.size w w') : CliB w' T t f := (hb.block T h.lt).trans h
theorem CliB.new (w : World) (t : TypeId) (f : Cli) : CliB (w.alloc (.cells #[.int .i64 f.id,.string f.key,.int .i64 f.fe,.int .i64 f.fr,.int .i64 f.st,.string f.got,.int .i64 f.ag] t)) w.heap.size t f := heap_alloc_new w _
theorem CliB.thaw {w : World} {T : Nat} {t : TypeId} {f : Cli} (h : CliB w T t f) (i : Nat) : w.frozen? ⟨T,i,none⟩ = false := by unfold CliB at h; simp [World.frozen?,h]
theorem CliB.cells {w : World} {T : Nat} {t : TypeId} {f : Cli} (h : CliB w T t f) : w.cell? ⟨T, 0,none⟩ = some (.int .i64 f.id) ∧ w.cell? ⟨T, 1,none⟩ = some (.string f.key) ∧ w.cell? ⟨T, 2,none⟩ = some (.int .i64 f.fe) ∧ w.cell? ⟨T, 3,none⟩ = some (.int .i64 f.fr) ∧ w.cell? ⟨T, 4,none⟩ = some (.int .i64 f.st) ∧ w.cell? ⟨T, 5,none⟩ = some (.string f.got) ∧ w.cell? ⟨T, 6,none⟩ = some (.int .i64 f.ag) := by
 unfold CliB at h
 exact ⟨by simp [World.cell?,h],by simp [World.cell?,h],by simp [World.cell?,h],by simp [World.cell?,h],by simp [World.cell?,h],by simp [World.cell?,h],by simp [World.cell?,h]⟩
theorem CliB.same1 {w : World} {T : Nat} {t : TypeId} {f : Cli} (h : CliB w T t f) : CliB (w.setCell ⟨T, 1,none⟩ (.string f.key)) T t f := by
 unfold CliB at *
 simp only [World.setCell,Array.getElem?_modify,h]
 simp
theorem CliB.same {w : World} {T : Nat} {t : TypeId} {f : Cli} (h : CliB w T t f) : CliB ((w.setCell ⟨T, 1,none⟩ (.string f.key)).setCell ⟨T, 5,none⟩ (.string f.got)) T t f := by
 unfold CliB at *
 simp only [World.setCell,Array.getElem?_modify,h]
 simp
theorem EnB.same1 {w : World} {T : Nat} {t : TypeId} {f : En} (h : EnB w T t f) : EnB (w.setCell ⟨T, 0,none⟩ (.string f.key)) T t f := by
 unfold EnB at *
 simp only [World.setCell,Array.getElem?_modify,h]
 simp
theorem EnB.same {w : World} {T : Nat} {t : TypeId} {f : En} (h : EnB w T t f) : EnB ((w.setCell ⟨T, 0,none⟩ (.string f.key)).setCell ⟨T, 3,none⟩ (.string f.bd)) T t f := by
 unfold EnB at *
 simp only [World.setCell,Array.getElem?_modify,h]
 simp
def insC (L : List Cli) (e : Cli) : List Cli := (L.filter fun x => decide (x.id < e.id)) ++ e :: (L.filter fun x => decide (e.id < x.id))
end Go.Proofs.YtaahjcljanckaaaGreatDoor
namespace Go.Proofs.YtaahjcljanckaaaGreatDoor
open Go.RowKit
def ltS (a b : ByteArray) : Bool := Op.bytesLess a.toList b.toList
def eqS (a b : ByteArray) : Bool := a.toList == b.toList
def pos (L : List Fil) (nm : ByteArray) : Option Nat := L.findIdx? fun f => eqS f.nm nm
theorem toList_data' (a : ByteArray) : a.toList = a.data.toList := ByteArray.toList_eq a
theorem before_less : ∀ (x y : List UInt8),bytesBefore x y = Op.bytesLess x y
 | [], [] => by simp [bytesBefore,Op.bytesLess]
 | _ :: _, [] => by simp [bytesBefore,Op.bytesLess]
 | [],_ :: _ => by simp [bytesBefore,Op.bytesLess]
 | a :: x,b :: y => by simp [bytesBefore,Op.bytesLess,before_less x y]
theorem before_lt (a b : ByteArray) : (Lit.string a.data.toList).before (.string b.data.toList) = ltS a b := by
 simp only [Lit.before,ltS,before_less,toList_data']
theorem eqS_iff {a b : ByteArray} : eqS a b = true ↔ a = b := by
 unfold eqS
 rw [beq_iff_eq,toList_data',toList_data']
 constructor
 ·intro h; cases a; cases b; simp at h; simp [h]
 ·rintro rfl; rfl
theorem eqS_ne {a b : ByteArray} : eqS a b = false ↔ a ≠ b := by rw [← Bool.not_eq_true,eqS_iff]
theorem eqS_refl (a : ByteArray) : eqS a a = true := eqS_iff.2 rfl
theorem ltS_irr (a : ByteArray) : ltS a a = false := by rw [← before_lt]; exact WideAt.bytes_irrefl _
theorem ltS_trans {a b c : ByteArray} (h : ltS a b = true) (k : ltS b c = true) : ltS a c = true := by
 rw [← before_lt] at *
 exact WideShapes.bytes_trans _ _ _ h k
theorem ltS_total {a b : ByteArray} (h : a ≠ b) : ltS a b = true ∨ ltS b a = true := by
 rw [← before_lt, ← before_lt]
 exact WideAt.bytes_total _ _ (fun e => h (by cases a; cases b; simp at e; simp [e]))
theorem ltS_asym {a b : ByteArray} (h : ltS a b = true) : ltS b a = false := by
 cases k : ltS b a with
 | false => rfl
 | true => have := ltS_trans h k; rw [ltS_irr] at this; cases this
end Go.Proofs.YtaahjcljanckaaaGreatDoor
