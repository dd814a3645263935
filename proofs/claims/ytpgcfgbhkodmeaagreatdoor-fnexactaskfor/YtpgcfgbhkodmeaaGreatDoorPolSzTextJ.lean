/- Texts that stand in one: PolSzText, PolCopyImpl, PrxCopyKit, Ret9, EntCopyI. -/
import Derived.Test.YtpgcfgbhkodmeaaGreatDoorSkLaw3J
import Derived.Test.YtpgcfgbhkodmeaaGreatDoorSkStepJ
import Derived.Deep.RegionHeld3
import Derived.Test.YtpgcfgbhkodmeaaGreatDoorPrxBaseJ
import Derived.Test.YtpgcfgbhkodmeaaGreatDoorPrxMarkJ
import Derived.Test.YtpgcfgbhkodmeaaGreatDoorCliLawJ
import Derived.Test.YtpgcfgbhkodmeaaGreatDoorShelf
import Derived.Deep.DeepCutAuto
import Derived.Deep.AppendLies
import Derived.Deep.RegionLaw
namespace Go.Proofs.YtpgcfgbhkodmeaaGreatDoor
open Go.RowKit
theorem PolSz.texts {P : Pol} (h : PolSz P) : ∀ z ∈ P.win ++ P.main,z.size ≤ 1048576 := fun z hz => by
 unfold PolSz wgtP at h
 rcases List.mem_append.1 hz with hz | hz
 ·have := wgtL_mem hz
  omega
 ·have := wgtL_mem hz
  omega
end Go.Proofs.YtpgcfgbhkodmeaaGreatDoor
namespace Go.Proofs.YtpgcfgbhkodmeaaGreatDoor
open Go.RowKit Go.Sort
set_option maxRecDepth 100000 in
set_option maxHeartbeats 8000000 in
theorem policyCopy_any (w : World) (aw am ak : Option Addr) (cw cm ck : Nat) (P : Pol) (hA : PolAt w aw am ak P w.heap.size) (hsz : PolSz P) :
  Calls Tryz.prog 171 #[.agg #[.slice aw P.win.length cw,.slice am P.main.length cm,.slice ak P.sk.rows.length ck,.int .i64 P.sk.added]] w fun e w' => ∃ v,e = .returned v ∧ POwn w' w.heap.size w'.heap.size v P ∧ Below w.heap.size w w' := by
 obtain ⟨l1,l2,l3⟩ := hsz.parts
 obtain ⟨w0,hw0⟩ : ∃ x,w.alloc (.cells #[.slice aw P.win.length cw,.slice am P.main.length cm,.slice ak P.sk.rows.length ck,.int .i64 P.sk.added] 44) = x := ⟨_,rfl⟩
 obtain ⟨w1,hw1⟩ : ∃ x,w0.alloc (.cells #[.slice none 0 0,.slice none 0 0,.slice none 0 0,.int .i64 0] 44) = x := ⟨_,rfl⟩
 have hb0 : Below w.heap.size w w0 := by rw [← hw0]; exact (Below.refl _ _).alloc (Nat.le_refl _) _
 have hb01 : Below w0.heap.size w0 w1 := by rw [← hw1]; exact (Below.refl _ _).alloc (Nat.le_refl _) _
 have s0 : w0.heap.size = w.heap.size + 1 := by rw [← hw0]; simp
 have s1 : w1.heap.size = w.heap.size + 2 := by rw [← hw1]; simp; omega
 have hb1 : Below w.heap.size w w1 := hb0.trans (hb01.mono hb0.size)
 have hB : PBox w1 w.heap.size (.slice aw P.win.length cw) (.slice am P.main.length cm) (.slice ak P.sk.rows.length ck) (.int .i64 P.sk.added) := by
  have h : PBox w0 w.heap.size (.slice aw P.win.length cw) (.slice am P.main.length cm) (.slice ak P.sk.rows.length ck) (.int .i64 P.sk.added) := by rw [← hw0]; exact PBox.new _ _ _ _ _
  exact h.on hb01
 have hR : PBox w1 (w.heap.size + 1) (.slice none 0 0) (.slice none 0 0) (.slice none 0 0) (.int .i64 0) := by rw [← hw1, ← s0]; exact PBox.new _ _ _ _ _
 have hA1 := hA.on hb1
 have HW : Hid ((w.alloc (.cells #[.slice aw P.win.length cw,.slice am P.main.length cm,.slice ak P.sk.rows.length ck,.int .i64 P.sk.added] 44)).alloc (.cells #[.slice none 0 0,.slice none 0 0,.slice none 0 0,.int .i64 0] 44) = w1) := by rw [hw0]; exact hw1
 have KS : ∀ W,Below w1.heap.size w1 W → W.cell? ⟨w.heap.size, 0,none⟩ = some (.slice aw P.win.length cw) ∧ W.cell? ⟨w.heap.size, 1,none⟩ = some (.slice am P.main.length cm) ∧ W.cell? ⟨w.heap.size, 2,none⟩ = some (.slice ak P.sk.rows.length ck) ∧ W.cell? ⟨w.heap.size, 3,none⟩ = some (.int .i64 P.sk.added) := fun W h => (hB.on h).cells
 have HC1 : Hid (∀ W,Below w1.heap.size w1 W → Calls Tryz.prog 219 #[.slice aw P.win.length cw] W fun e w' => ∃ a2 k2,e = .returned (.slice a2 P.win.length k2) ∧ OwnV w' W.heap.size 9 (.slice a2 P.win.length k2) (strs P.win) ∧ Below w1.heap.size w1 w') := fun W h => by
  refine (keysCopy_any W aw cw P.win (hA1.on h).1 l1 (fun z hz => by have := hsz.texts z (List.mem_append_left _ hz); omega)).mono ?_
  rintro e w' ⟨v,rfl,ho,hb⟩
  obtain ⟨a2,k2,rfl,_⟩ := ho.strsAt
  exact ⟨a2,k2,rfl,ho,h.trans (hb.mono h.size)⟩
 have HC2 : Hid (∀ W,Below w1.heap.size w1 W → Calls Tryz.prog 219 #[.slice am P.main.length cm] W fun e w' => ∃ a2 k2,e = .returned (.slice a2 P.main.length k2) ∧ OwnV w' W.heap.size 9 (.slice a2 P.main.length k2) (strs P.main) ∧ Below W.heap.size W w') := fun W h => by
  refine (keysCopy_any W am cm P.main (hA1.on h).2.1 l2 (fun z hz => by have := hsz.texts z (List.mem_append_right _ hz); omega)).mono ?_
  rintro e w' ⟨v,rfl,ho,hb⟩
  obtain ⟨a2,k2,rfl,_⟩ := ho.strsAt
  exact ⟨a2,k2,rfl,ho,hb⟩
 have HC3 : Hid (∀ W,Below w1.heap.size w1 W → Calls Tryz.prog 184 #[.agg #[.slice ak P.sk.rows.length ck,.int .i64 P.sk.added]] W fun e w' => ∃ a2 k2,e = .returned (.agg #[.slice a2 P.sk.rows.length k2,.int .i64 P.sk.added]) ∧ OwnSS w' W.heap.size w'.heap.size (.slice a2 P.sk.rows.length k2) P.sk.rows ∧ Below W.heap.size W w') := fun W h => by
  refine (sketchCopy_any W ak ck P.sk (hA1.on h).2.2 l3).mono ?_
  rintro e w' ⟨v,rfl,⟨u,rfl,ho⟩,hb⟩
  obtain ⟨a2,k2,rfl,_⟩ := ho.at
  exact ⟨a2,k2,rfl,ho,hb⟩
 have hdr : Below w1.heap.size w1 w1.drew := ⟨rfl,rfl,rfl,Nat.le_refl _,fun _ _ => rfl⟩
 have HRB : Hid (∀ W,Below w1.heap.size w1 W → PBox W (w.heap.size + 1) (.slice none 0 0) (.slice none 0 0) (.slice none 0 0) (.int .i64 0)) := fun W h => hR.on h
 have HB1 : Hid (Below w.heap.size w w1 ∧ w1.heap.size = w.heap.size + 2) := ⟨hb1,s1⟩
 have HS5 : Hid (∀ W x y z u,Below w1.heap.size w1 W → PBox ((((W.setCell ⟨w.heap.size + 1, 0,none⟩ x).setCell ⟨w.heap.size + 1, 1,none⟩ y).setCell ⟨w.heap.size + 1, 2,none⟩ z).setCell ⟨w.heap.size + 1, 3,none⟩ u) w.heap.size (.slice aw P.win.length cw) (.slice am P.main.length cm) (.slice ak P.sk.rows.length ck) (.int .i64 P.sk.added)) := fun W x y z u h => (hB.on h).kept (put4_other W _ x y z u _ (by omega))
 clear hw0 hw1 hb0 hb01 s0 hA hA1 hB hR hb1 s1 hsz l1 l2 l3
 go_enter Tryz.func171,Tryz.ntmps171
 go_wp2
 rw [HW.out]
 clear HW
 go_region_held3 (fun W => W.cell? ⟨w.heap.size, 0,none⟩ = some (.slice aw P.win.length cw) ∧ W.cell? ⟨w.heap.size, 1,none⟩ = some (.slice am P.main.length cm) ∧ W.cell? ⟨w.heap.size, 2,none⟩ = some (.slice ak P.sk.rows.length ck) ∧ W.cell? ⟨w.heap.size, 3,none⟩ = some (.int .i64 P.sk.added)) (first | with_reducible exact KS _ hdr | with_reducible exact KS _ hC4 | with_reducible exact KS _ hC3 | with_reducible exact KS _ hC2 | with_reducible exact hS5)
  (first
   | (go_at_call 219; first
     | (with_reducible refine (HC1.out _ hdr).mono ?_; rintro e w2 ⟨a2,k2,rfl,ho2,hC2⟩)
     | (with_reducible refine (HC2.out _ hC2).mono ?_; rintro e w3 ⟨a3,k3,rfl,ho3,hb3⟩; have hC3 : Below w1.heap.size w1 w3 := hC2.trans (hb3.mono hC2.size)))
   | (go_at_call 184; with_reducible refine (HC3.out _ hC3).mono ?_; rintro e w4 ⟨a4,k4,rfl,ho4,hb4⟩; have hC4 : Below w1.heap.size w1 w4 := hC3.trans (hb4.mono hC3.size); have hR4 := HRB.out _ hC4; obtain ⟨r0,r1,r2,r3⟩ := hR4.cells; have f0 := hR4.thaw 0; have f1 := hR4.thaw 1; have f2 := hR4.thaw 2; have f3 := hR4.thaw 3; have hS5 := (HS5.out w4 (.slice a2 P.win.length k2) (.slice a3 P.main.length k3) (.slice a4 P.sk.rows.length k4) (.int .i64 P.sk.added) hC4).cells))
 all_goals (
  obtain ⟨hb1,s1⟩ := HB1.out
  have hR4 := HRB.out _ hC4
  have hOA : POwn w4 w.heap.size w4.heap.size (.agg #[.slice a2 P.win.length k2,.slice a3 P.main.length k3,.slice a4 P.sk.rows.length k4,.int .i64 P.sk.added]) ⟨P.win,P.main,P.sk⟩ :=
   POwn.mk3 (P := ⟨P.win,P.main,P.sk⟩) ((ho2.below hb3 (Nat.le_refl _)).below hb4 (Nat.le_refl _)) (ho3.below hb4 (Nat.le_refl _)) ho4 (by simp; omega) (by have := hC2.size; omega) (by have := hC3.size; omega) (fun k hk => by
    intro e
    have h1 := (ho2.lt k hk).2
    have h2 := (ho3.lt k e).1
    omega)
  have HOA : Hid _ := hOA.put4 hR4 (.slice a2 P.win.length k2) (.slice a3 P.main.length k3) (.slice a4 P.sk.rows.length k4) (.int .i64 P.sk.added)
  have HBF : Hid _ := Below.put4 (hb1.trans (hC4.mono (by omega))) (T := w.heap.size + 1) (by omega) (.slice a2 P.win.length k2) (.slice a3 P.main.length k3) (.slice a4 P.sk.rows.length k4) (.int .i64 P.sk.added)
  obtain ⟨q0,q1,q2,q3⟩ := (hR4.put (.slice a2 P.win.length k2) (.slice a3 P.main.length k3) (.slice a4 P.sk.rows.length k4) (.int .i64 P.sk.added)).cells
  clear hOA
  try go_wp2_with fail
  refine bodyPost_ret (v := .agg #[.slice a2 P.win.length k2,.slice a3 P.main.length k3,.slice a4 P.sk.rows.length k4,.int .i64 P.sk.added]) (by simp [results,Tryz.results171,go_sem,q0,q1,q2,q3]) rfl ⟨_,rfl, ?_,HBF.out⟩
  refine POwn.mono HOA.out (Nat.le_refl _) ?_
  simp)
theorem cloneP_any (s : ByteArray) (w : World) (h : s.size ≤ 1048576) :
  Calls Tryz.prog 127 #[.string s] w fun e w' => e = .returned (.string s) ∧ Below w.heap.size w w' := by
 go_enter Tryz.func127,Tryz.ntmps127
 go_wp2_with fail
 refine (Tryz.stringslite_Clone s w (by omega)).mono ?_
 rintro e w1 ⟨rfl,hb⟩
 go_wp2
 go_ret
 exact ⟨rfl,hb⟩
theorem policyCopy_v (w : World) (x y z : Value) (P : Pol) (h : PlV w x y z P w.heap.size) (hsz : PolSz P) :
  Calls Tryz.prog 171 #[.agg #[x,y,z,.int .i64 P.sk.added]] w fun e w' => ∃ aw cw am cm ak ck,e = .returned (.agg #[.slice aw P.win.length cw,.slice am P.main.length cm,.slice ak P.sk.rows.length ck,.int .i64 P.sk.added]) ∧ POwn w' w.heap.size w'.heap.size (.agg #[.slice aw P.win.length cw,.slice am P.main.length cm,.slice ak P.sk.rows.length ck,.int .i64 P.sk.added]) P ∧ Below w.heap.size w w' := by
 obtain ⟨aw,cw,am,cm,ak,ck,rfl,rfl,rfl,hA⟩ := h.at
 refine (policyCopy_any w aw am ak cw cm ck P hA hsz).mono ?_
 rintro e w' ⟨v,rfl,ho,hb⟩
 obtain ⟨b1,d1,b2,d2,b3,d3,rfl,_⟩ := ho.at
 exact ⟨b1,d1,b2,d2,b3,d3,rfl,ho,hb⟩
theorem PxOwn.start {w : World} {lo hi : Nat} {x y z : Value} {P : Pol} {now hits : Int} (h : POwn w lo hi (.agg #[x,y,z,.int .i64 P.sk.added]) P) : PxOwn w lo hi ⟨.slice none 0 0,x,y,z,.slice none 0 0,.slice none 0 0⟩ ⟨now, [],P, [], [],hits⟩ :=
 ⟨ownN_nil _ _ _,h,OwnFet.nil _ _ _,OwnCli.nil _ _ _,fun k hk => by simp [Value.ownBlock] at hk,fun k hk => by simp [Value.ownBlock] at hk,fun k hk => by simp [Value.ownBlock] at hk⟩
theorem gat_b {w1 wP : World} {lo : Nat} {x y z : Value} {P : Pol} (now hits : Int) (oP : POwn wP lo wP.heap.size (.agg #[x,y,z,.int .i64 P.sk.added]) P) (fP : Below lo w1 wP) (hlo : lo ≤ wP.heap.size) :
  NB (wP.alloc (.cells #[.int .i64 now,.slice none 0 0,x,y,z,.int .i64 P.sk.added,.slice none 0 0,.slice none 0 0,.int .i64 hits] 48)) wP.heap.size 48 (.int .i64 now) (.slice none 0 0) x y z (.int .i64 P.sk.added) (.slice none 0 0) (.slice none 0 0) (.int .i64 hits) ∧ PxOwn (wP.alloc (.cells #[.int .i64 now,.slice none 0 0,x,y,z,.int .i64 P.sk.added,.slice none 0 0,.slice none 0 0,.int .i64 hits] 48)) lo (wP.alloc (.cells #[.int .i64 now,.slice none 0 0,x,y,z,.int .i64 P.sk.added,.slice none 0 0,.slice none 0 0,.int .i64 hits] 48)).heap.size ⟨.slice none 0 0,x,y,z,.slice none 0 0,.slice none 0 0⟩ (Prx.mk now [] P [] [] hits) ∧ Below lo w1 (wP.alloc (.cells #[.int .i64 now,.slice none 0 0,x,y,z,.int .i64 P.sk.added,.slice none 0 0,.slice none 0 0,.int .i64 hits] 48)) ∧ lo ≤ wP.heap.size :=
 ⟨NB.new _ _ _ _ _ _ _ _ _ _ _,((PxOwn.start oP).below ((Below.refl _ _).alloc (Nat.le_refl _) _) (Nat.le_refl _)).up,fP.alloc hlo _,hlo⟩
theorem gat_a {w1 wP : World} {lo T : Nat} {x y z a0 a1 a2 a3 a4 a5 a6 a7 a8 : Value} {P : Pol} (now hits : Int) (oP : POwn wP lo wP.heap.size (.agg #[x,y,z,.int .i64 P.sk.added]) P) (fP : Below lo w1 wP) (hlo : lo ≤ T) (hN : NB wP T 48 a0 a1 a2 a3 a4 a5 a6 a7 a8) :
  NB (((((((((wP.setCell ⟨T, 0,none⟩ (.int .i64 now)).setCell ⟨T, 1,none⟩ (.slice none 0 0)).setCell ⟨T, 2,none⟩ x).setCell ⟨T, 3,none⟩ y).setCell ⟨T, 4,none⟩ z).setCell ⟨T, 5,none⟩ (.int .i64 P.sk.added)).setCell ⟨T, 6,none⟩ (.slice none 0 0)).setCell ⟨T, 7,none⟩ (.slice none 0 0)).setCell ⟨T, 8,none⟩ (.int .i64 hits)) T 48 (.int .i64 now) (.slice none 0 0) x y z (.int .i64 P.sk.added) (.slice none 0 0) (.slice none 0 0) (.int .i64 hits) ∧ PxOwn (((((((((wP.setCell ⟨T, 0,none⟩ (.int .i64 now)).setCell ⟨T, 1,none⟩ (.slice none 0 0)).setCell ⟨T, 2,none⟩ x).setCell ⟨T, 3,none⟩ y).setCell ⟨T, 4,none⟩ z).setCell ⟨T, 5,none⟩ (.int .i64 P.sk.added)).setCell ⟨T, 6,none⟩ (.slice none 0 0)).setCell ⟨T, 7,none⟩ (.slice none 0 0)).setCell ⟨T, 8,none⟩ (.int .i64 hits)) lo (((((((((wP.setCell ⟨T, 0,none⟩ (.int .i64 now)).setCell ⟨T, 1,none⟩ (.slice none 0 0)).setCell ⟨T, 2,none⟩ x).setCell ⟨T, 3,none⟩ y).setCell ⟨T, 4,none⟩ z).setCell ⟨T, 5,none⟩ (.int .i64 P.sk.added)).setCell ⟨T, 6,none⟩ (.slice none 0 0)).setCell ⟨T, 7,none⟩ (.slice none 0 0)).setCell ⟨T, 8,none⟩ (.int .i64 hits)).heap.size ⟨.slice none 0 0,x,y,z,.slice none 0 0,.slice none 0 0⟩ (Prx.mk now [] P [] [] hits) ∧ Below lo w1 (((((((((wP.setCell ⟨T, 0,none⟩ (.int .i64 now)).setCell ⟨T, 1,none⟩ (.slice none 0 0)).setCell ⟨T, 2,none⟩ x).setCell ⟨T, 3,none⟩ y).setCell ⟨T, 4,none⟩ z).setCell ⟨T, 5,none⟩ (.int .i64 P.sk.added)).setCell ⟨T, 6,none⟩ (.slice none 0 0)).setCell ⟨T, 7,none⟩ (.slice none 0 0)).setCell ⟨T, 8,none⟩ (.int .i64 hits)) ∧ lo ≤ T :=
 ⟨hN.put _ _ _ _ _ _ _ _ _,((PxOwn.start oP).box hN (by unfold PxT; decide) (fun k hk => put9_other wP T _ _ _ _ _ _ _ _ _ k hk)).up,Below.put9 fP hlo _ _ _ _ _ _ _ _ _,hlo⟩
theorem PxOwn.setE {w w2 : World} {lo hi : Nat} {X : Pc} {R : Prx} {v2 : Value} {L2 : List En} (h : PxOwn w lo hi X R) (hg : w.grownBy w2 X.e.ownBlock) (ho : OwnN w2 lo 69 v2 L2) : PxOwn w2 lo w2.heap.size ⟨v2,X.w,X.m,X.k,X.f,X.c⟩ ⟨R.now,L2,R.pol,R.fes,R.cls,R.hits⟩ := by
 have hp : POwn w2 lo hi (.agg #[X.w,X.m,X.k,.int .i64 R.pol.sk.added]) R.pol := h.p.keptT fun k _ _ hk hty => hg.block k hk (fun e => by
  obtain ⟨cs,hcs⟩ := h.e.type k e.symm
  obtain ⟨cs',t',h1,h2⟩ := hty _ hcs
  simp only [Obj.cells.injEq] at h1
  rw [← h1.2.1] at h2
  revert h2
  decide)
 have hf : OwnFet w2 lo 94 X.f R.fes := h.f.grown hg fun q hq e => by
  obtain ⟨cs,h1⟩ := h.f.type q hq
  obtain ⟨cs',h2⟩ := h.e.type q e
  rw [h1] at h2
  simp at h2
 have hc : OwnCli w2 lo 87 X.c R.cls := h.c.grown hg fun q hq e => by
  obtain ⟨cs,h1⟩ := h.c.type q hq
  obtain ⟨cs',h2⟩ := h.e.type q e
  rw [h1] at h2
  simp at h2
 exact ⟨ho,hp.up,hf,hc,fun k hk => (ho.lt k hk).2,fun k hk => (hf.lt k hk).2,fun k hk => (hc.lt k hk).2⟩
theorem PxOwn.setF {w w2 : World} {lo hi : Nat} {X : Pc} {R : Prx} {v2 : Value} {L2 : List Fet} (h : PxOwn w lo hi X R) (hg : w.grownBy w2 X.f.ownBlock) (ho : OwnFet w2 lo 94 v2 L2) : PxOwn w2 lo w2.heap.size ⟨X.e,X.w,X.m,X.k,v2,X.c⟩ ⟨R.now,R.ents,R.pol,L2,R.cls,R.hits⟩ := by
 have hp : POwn w2 lo hi (.agg #[X.w,X.m,X.k,.int .i64 R.pol.sk.added]) R.pol := h.p.keptT fun k _ _ hk hty => hg.block k hk (fun e => by
  obtain ⟨cs,hcs⟩ := h.f.type k e.symm
  obtain ⟨cs',t',h1,h2⟩ := hty _ hcs
  simp only [Obj.cells.injEq] at h1
  rw [← h1.2.1] at h2
  revert h2
  decide)
 have he : OwnN w2 lo 69 X.e R.ents := h.e.grown hg fun q hq e => by
  obtain ⟨cs,h1⟩ := h.e.type q hq
  obtain ⟨cs',h2⟩ := h.f.type q e
  rw [h1] at h2
  simp at h2
 have hc : OwnCli w2 lo 87 X.c R.cls := h.c.grown hg fun q hq e => by
  obtain ⟨cs,h1⟩ := h.c.type q hq
  obtain ⟨cs',h2⟩ := h.f.type q e
  rw [h1] at h2
  simp at h2
 exact ⟨he,hp.up,ho,hc,fun k hk => (he.lt k hk).2,fun k hk => (ho.lt k hk).2,fun k hk => (hc.lt k hk).2⟩
theorem PxOwn.setC {w w2 : World} {lo hi : Nat} {X : Pc} {R : Prx} {v2 : Value} {L2 : List Cli} (h : PxOwn w lo hi X R) (hg : w.grownBy w2 X.c.ownBlock) (ho : OwnCli w2 lo 87 v2 L2) : PxOwn w2 lo w2.heap.size ⟨X.e,X.w,X.m,X.k,X.f,v2⟩ ⟨R.now,R.ents,R.pol,R.fes,L2,R.hits⟩ := by
 have hp : POwn w2 lo hi (.agg #[X.w,X.m,X.k,.int .i64 R.pol.sk.added]) R.pol := h.p.keptT fun k _ _ hk hty => hg.block k hk (fun e => by
  obtain ⟨cs,hcs⟩ := h.c.type k e.symm
  obtain ⟨cs',t',h1,h2⟩ := hty _ hcs
  simp only [Obj.cells.injEq] at h1
  rw [← h1.2.1] at h2
  revert h2
  decide)
 have he : OwnN w2 lo 69 X.e R.ents := h.e.grown hg fun q hq e => by
  obtain ⟨cs,h1⟩ := h.e.type q hq
  obtain ⟨cs',h2⟩ := h.c.type q e
  rw [h1] at h2
  simp at h2
 have hf : OwnFet w2 lo 94 X.f R.fes := h.f.grown hg fun q hq e => by
  obtain ⟨cs,h1⟩ := h.f.type q hq
  obtain ⟨cs',h2⟩ := h.c.type q e
  rw [h1] at h2
  simp at h2
 exact ⟨he,hp.up,hf,ho,fun k hk => (he.lt k hk).2,fun k hk => (hf.lt k hk).2,fun k hk => (ho.lt k hk).2⟩
theorem grown_box {w w2 : World} {N : Nat} {t e : TypeId} {cs : Array Value} {v : Value} (hg : w.grownBy w2 v.ownBlock) (hN : w.heap[N]? = some (.cells cs t (0, 0))) (hty : ∀ k,v.ownBlock = some k → ∃ cs,w.heap[k]? = some (.cells cs e (0, 0))) (hne : t ≠ e) : w2.heap[N]? = some (.cells cs t (0, 0)) := by
 refine (hg.block N (Array.getElem?_eq_some_iff.1 hN).1 (fun h => ?_)).trans hN
 obtain ⟨c,hc⟩ := hty N h.symm
 rw [hN] at hc
 simp only [Option.some.injEq,Obj.cells.injEq] at hc
 exact hne hc.2.1
def FetB (w : World) (T : Nat) (t : TypeId) (f : Fet) : Prop := w.heap[T]? = some (.cells #[.string f.key,.string f.tx,.int .i64 f.st,.int .i64 f.lf,.int .i64 f.sto] t (0, 0))
theorem FetB.lt {w : World} {T : Nat} {t : TypeId} {f : Fet} (h : FetB w T t f) : T < w.heap.size := (Array.getElem?_eq_some_iff.1 h).1
theorem FetB.on {w w' : World} {T : Nat} {t : TypeId} {f : Fet} (h : FetB w T t f) (hb : Below w.heap.size w w') : FetB w' T t f := (hb.block T h.lt).trans h
theorem FetB.new (w : World) (t : TypeId) (f : Fet) : FetB (w.alloc (.cells #[.string f.key,.string f.tx,.int .i64 f.st,.int .i64 f.lf,.int .i64 f.sto] t)) w.heap.size t f := heap_alloc_new w _
theorem FetB.thaw {w : World} {T : Nat} {t : TypeId} {f : Fet} (h : FetB w T t f) (i : Nat) : w.frozen? ⟨T,i,none⟩ = false := by unfold FetB at h; simp [World.frozen?,h]
theorem FetB.cells {w : World} {T : Nat} {t : TypeId} {f : Fet} (h : FetB w T t f) : w.cell? ⟨T, 0,none⟩ = some (.string f.key) ∧ w.cell? ⟨T, 1,none⟩ = some (.string f.tx) ∧ w.cell? ⟨T, 2,none⟩ = some (.int .i64 f.st) ∧ w.cell? ⟨T, 3,none⟩ = some (.int .i64 f.lf) ∧ w.cell? ⟨T, 4,none⟩ = some (.int .i64 f.sto) := by
 unfold FetB at h
 exact ⟨by simp [World.cell?,h],by simp [World.cell?,h],by simp [World.cell?,h],by simp [World.cell?,h],by simp [World.cell?,h]⟩
theorem FetB.same1 {w : World} {T : Nat} {t : TypeId} {f : Fet} (h : FetB w T t f) : FetB (w.setCell ⟨T, 0,none⟩ (.string f.key)) T t f := by
 unfold FetB at *
 simp only [World.setCell,Array.getElem?_modify,h]
 simp
theorem FetB.same {w : World} {T : Nat} {t : TypeId} {f : Fet} (h : FetB w T t f) : FetB ((w.setCell ⟨T, 0,none⟩ (.string f.key)).setCell ⟨T, 1,none⟩ (.string f.tx)) T t f := by
 unfold FetB at *
 simp only [World.setCell,Array.getElem?_modify,h]
 simp
def CliB (w : World) (T : Nat) (t : TypeId) (f : Cli) : Prop := w.heap[T]? = some (.cells #[.int .i64 f.id,.string f.key,.int .i64 f.fe,.int .i64 f.fr,.int .i64 f.st,.string f.got,.int .i64 f.ag] t (0, 0))
theorem CliB.lt {w : World} {T : Nat} {t : TypeId} {f : Cli} (h : CliB w T t f) : T < w.heap.size := (Array.getElem?_eq_some_iff.1 h).1
theorem CliB.on {w w' : World} {T : Nat} {t : TypeId} {f : Cli} (h : CliB w T t f) (hb : Below w.heap.size w w') : CliB w' T t f := (hb.block T h.lt).trans h
theorem CliB.new (w : World) (t : TypeId) (f : Cli) : CliB (w.alloc (.cells #[.int .i64 f.id,.string f.key,.int .i64 f.fe,.int .i64 f.fr,.int .i64 f.st,.string f.got,.int .i64 f.ag] t)) w.heap.size t f := heap_alloc_new w _
theorem CliB.thaw {w : World} {T : Nat} {t : TypeId} {f : Cli} (h : CliB w T t f) (i : Nat) : w.frozen? ⟨T,i,none⟩ = false := by unfold CliB at h; simp [World.frozen?,h]
theorem CliB.cells {w : World} {T : Nat} {t : TypeId} {f : Cli} (h : CliB w T t f) : w.cell? ⟨T, 0,none⟩ = some (.int .i64 f.id) ∧ w.cell? ⟨T, 1,none⟩ = some (.string f.key) ∧ w.cell? ⟨T, 2,none⟩ = some (.int .i64 f.fe) ∧ w.cell? ⟨T, 3,none⟩ = some (.int .i64 f.fr) ∧ w.cell? ⟨T, 4,none⟩ = some (.int .i64 f.st) ∧ w.cell? ⟨T, 5,none⟩ = some (.string f.got) ∧ w.cell? ⟨T, 6,none⟩ = some (.int .i64 f.ag) := by
 unfold CliB at h
 exact ⟨by simp [World.cell?,h],by simp [World.cell?,h],by simp [World.cell?,h],by simp [World.cell?,h],by simp [World.cell?,h],by simp [World.cell?,h],by simp [World.cell?,h]⟩
theorem CliB.same1 {w : World} {T : Nat} {t : TypeId} {f : Cli} (h : CliB w T t f) : CliB (w.setCell ⟨T, 1,none⟩ (.string f.key)) T t f := by
 unfold CliB at *
 simp only [World.setCell,Array.getElem?_modify,h]
 simp
theorem CliB.same {w : World} {T : Nat} {t : TypeId} {f : Cli} (h : CliB w T t f) : CliB ((w.setCell ⟨T, 1,none⟩ (.string f.key)).setCell ⟨T, 5,none⟩ (.string f.got)) T t f := by
 unfold CliB at *
 simp only [World.setCell,Array.getElem?_modify,h]
 simp
theorem EnB.same1 {w : World} {T : Nat} {t : TypeId} {f : En} (h : EnB w T t f) : EnB (w.setCell ⟨T, 0,none⟩ (.string f.key)) T t f := by
 unfold EnB at *
 simp only [World.setCell,Array.getElem?_modify,h]
 simp
theorem EnB.same {w : World} {T : Nat} {t : TypeId} {f : En} (h : EnB w T t f) : EnB ((w.setCell ⟨T, 0,none⟩ (.string f.key)).setCell ⟨T, 3,none⟩ (.string f.bd)) T t f := by
 unfold EnB at *
 simp only [World.setCell,Array.getElem?_modify,h]
 simp
theorem hidR {p : Prop} (h : p) : Hid p := h
theorem ret9 {w w0 : World} {A lo hi : Nat} {X : Pc} {R : Prx} {z0 z1 z2 z3 z4 z5 z6 z7 z8 : Value} (ho : PxOwn w lo hi X R) (hr : NB w (A + 1) 48 z0 z1 z2 z3 z4 z5 z6 z7 z8) (hb : Below A w0 w) :
  NB (((((((((w.setCell ⟨A + 1, 0,none⟩ (.int .i64 R.now)).setCell ⟨A + 1, 1,none⟩ X.e).setCell ⟨A + 1, 2,none⟩ X.w).setCell ⟨A + 1, 3,none⟩ X.m).setCell ⟨A + 1, 4,none⟩ X.k).setCell ⟨A + 1, 5,none⟩ (.int .i64 R.pol.sk.added)).setCell ⟨A + 1, 6,none⟩ X.f).setCell ⟨A + 1, 7,none⟩ X.c).setCell ⟨A + 1, 8,none⟩ (.int .i64 R.hits)) (A + 1) 48 (.int .i64 R.now) X.e X.w X.m X.k (.int .i64 R.pol.sk.added) X.f X.c (.int .i64 R.hits) ∧ PxOwn (((((((((w.setCell ⟨A + 1, 0,none⟩ (.int .i64 R.now)).setCell ⟨A + 1, 1,none⟩ X.e).setCell ⟨A + 1, 2,none⟩ X.w).setCell ⟨A + 1, 3,none⟩ X.m).setCell ⟨A + 1, 4,none⟩ X.k).setCell ⟨A + 1, 5,none⟩ (.int .i64 R.pol.sk.added)).setCell ⟨A + 1, 6,none⟩ X.f).setCell ⟨A + 1, 7,none⟩ X.c).setCell ⟨A + 1, 8,none⟩ (.int .i64 R.hits)) lo (((((((((w.setCell ⟨A + 1, 0,none⟩ (.int .i64 R.now)).setCell ⟨A + 1, 1,none⟩ X.e).setCell ⟨A + 1, 2,none⟩ X.w).setCell ⟨A + 1, 3,none⟩ X.m).setCell ⟨A + 1, 4,none⟩ X.k).setCell ⟨A + 1, 5,none⟩ (.int .i64 R.pol.sk.added)).setCell ⟨A + 1, 6,none⟩ X.f).setCell ⟨A + 1, 7,none⟩ X.c).setCell ⟨A + 1, 8,none⟩ (.int .i64 R.hits)).heap.size X R ∧ Below A w0 (((((((((w.setCell ⟨A + 1, 0,none⟩ (.int .i64 R.now)).setCell ⟨A + 1, 1,none⟩ X.e).setCell ⟨A + 1, 2,none⟩ X.w).setCell ⟨A + 1, 3,none⟩ X.m).setCell ⟨A + 1, 4,none⟩ X.k).setCell ⟨A + 1, 5,none⟩ (.int .i64 R.pol.sk.added)).setCell ⟨A + 1, 6,none⟩ X.f).setCell ⟨A + 1, 7,none⟩ X.c).setCell ⟨A + 1, 8,none⟩ (.int .i64 R.hits)) :=
 ⟨hr.put _ _ _ _ _ _ _ _ _,(ho.box hr (by unfold PxT; decide) (fun j hj => put9_other w (A + 1) _ _ _ _ _ _ _ _ _ j hj)).up,Below.put9 hb (T := A + 1) (by omega) _ _ _ _ _ _ _ _ _⟩
theorem step_snocN {P : Program} {ops : Array Oper} {o : Oper} {a : Act} {K : Act → World → Prop} {Q : Exit → Act → World → Prop} {E' : Prop} {w : World} (hgd : o.guard = none) (s x : Operand) (t : TypeId)
  (ho : o.op = .call { callee := .builtin .append,args := #[s,x],argTypes := #[t,t] }) (base : Nat) (e : TypeId) (ht : P.underlying t = some (.slice e))
  (hinfo : (P.info? e).map (fun i => (i.zero,i.size,i.bytes)) = some (some (.agg #[.string ⟨#[]⟩,.int .i64 0,.int .i64 0,.string ⟨#[]⟩]), 4, 48)) (v : Value) (L : List En) (hs : a.eval s = v) (hown : OwnN w base e v L)
  (B : Nat) (f : En) (fr : Nat × Nat) (hx : a.eval x = .slice (some ⟨B, 0,none⟩) 1 1) (hB : w.heap[B]? = some (.cells #[.string f.key,.int .i64 f.st,.int .i64 f.lf,.string f.bd] e fr)) (hlen : L.length < 10000000) (hbase : base ≤ w.heap.size)
  (h : ∀ g cap w',OwnN w' base e (.slice (some ⟨g, 0,none⟩) (L.length + 1) cap) (L ++ [f]) → w.grownBy w' v.ownBlock → K (a.put o.dst (.slice (some ⟨g, 0,none⟩) (L.length + 1) cap)) w') :
  if Region.wanted o (yielded ops a.tmps) = true then Oper.wp P o a w K Q else E' := by
 obtain ⟨i0,hi,hz0,hz1,hz2⟩ := info_parts hinfo
 refine step_append_lies w hgd s x t ho base e i0 _ 4 48 ht hi hz0 hz1 hz2 rfl (by decide) v L.length (enl L) hs hown ⟨B, 0,none⟩ 1 1 (enl [f]) hx rfl (fun j u hu => World.news_of_block hB j u (by simpa [enl,En.cells] using hu)) ?_ (by decide) (by unfold maxLen; omega) (by omega) hbase w.heap.size rfl ?_
 ·intro u hu
  simp [enl,En.cells] at hu
  rcases hu with rfl | rfl | rfl | rfl <;> rfl
 ·intro g cap w' h1 h2 _ _
  refine h g cap w' ?_ h2
  unfold OwnN
  rw [show enl (L ++ [f]) = enl L ++ enl [f] by simp [enl],List.length_append,List.length_singleton]
  exact h1
set_option maxRecDepth 100000 in
set_option maxHeartbeats 4000000 in
theorem entryCopy_any (w : World) (x : En) (hs0 : x.key.size ≤ 1048576) (hs1 : x.bd.size ≤ 1048576) :
  Calls Tryz.prog 172 #[.agg #[.string x.key,.int .i64 x.st,.int .i64 x.lf,.string x.bd]] w fun e w' => e = .returned (.agg #[.string x.key,.int .i64 x.st,.int .i64 x.lf,.string x.bd]) ∧ Below w.heap.size w w' := by
 obtain ⟨T,hT⟩ : ∃ T,w.heap.size = T := ⟨_,rfl⟩
 obtain ⟨w0,hw0⟩ : ∃ y,w.alloc (.cells #[.string x.key,.int .i64 x.st,.int .i64 x.lf,.string x.bd] 69) = y := ⟨_,rfl⟩
 obtain ⟨wx,hwx⟩ : ∃ y,w0.alloc (.cells #[.string ⟨#[]⟩,.int .i64 0,.int .i64 0,.string ⟨#[]⟩] 69) = y := ⟨_,rfl⟩
 have hb0 : Below w.heap.size w w0 := by rw [← hw0]; exact (Below.refl _ _).alloc (Nat.le_refl _) _
 have hbx : Below w0.heap.size w0 wx := by rw [← hwx]; exact (Below.refl _ _).alloc (Nat.le_refl _) _
 have s0 : w0.heap.size = T + 1 := by rw [← hw0]; simp [hT]
 have sx : wx.heap.size = T + 2 := by rw [← hwx]; simp; omega
 have hX0 : EnB w0 T 69 x := by rw [← hw0, ← hT]; exact EnB.new _ _ _
 have hXB : EnB wx T 69 x := hX0.on hbx
 have hRB : wx.heap[T + 1]? = some (.cells #[.string ⟨#[]⟩,.int .i64 0,.int .i64 0,.string ⟨#[]⟩] 69 (0, 0)) := by rw [← hwx, ← s0]; exact heap_alloc_new _ _
 have HXW : Hid ((w.alloc (.cells #[.string x.key,.int .i64 x.st,.int .i64 x.lf,.string x.bd] 69)).alloc (.cells #[.string ⟨#[]⟩,.int .i64 0,.int .i64 0,.string ⟨#[]⟩] 69) = wx) := by show _ = _; rw [hw0]; exact hwx
 have HBX : Hid (Below w.heap.size w wx ∧ w.heap.size = T ∧ wx.heap.size = T + 2) := ⟨hb0.trans (hbx.mono hb0.size),hT,sx⟩
 have hdx : Below wx.heap.size wx wx.drew := ⟨rfl,rfl,rfl,Nat.le_refl _,fun _ _ => rfl⟩
 have HCL0 : Hid (∀ wi,Calls Tryz.prog 127 #[.string x.key] wi fun e w' => e = .returned (.string x.key) ∧ Below wi.heap.size wi w') := fun wi => cloneP_any x.key wi hs0
 have HCL1 : Hid (∀ wi,Calls Tryz.prog 127 #[.string x.bd] wi fun e w' => e = .returned (.string x.bd) ∧ Below wi.heap.size wi w') := fun wi => cloneP_any x.bd wi hs1
 have KX : ∀ W,EnB W T 69 x → W.cell? ⟨T, 0,none⟩ = some (.string x.key) ∧ W.cell? ⟨T, 3,none⟩ = some (.string x.bd) := fun W h => ⟨h.cells.1,h.cells.2.2.2⟩
 have HD : Hid (∀ W,Below wx.heap.size wx W → EnB W T 69 x ∧ W.heap[T + 1]? = some (.cells #[.string ⟨#[]⟩,.int .i64 0,.int .i64 0,.string ⟨#[]⟩] 69 (0, 0))) := fun W h => ⟨hXB.on h,(h.block _ (Array.getElem?_eq_some_iff.1 hRB).1).trans hRB⟩
 have hXD := KX _ (HD.out _ hdx).1
 rw [hT]
 clear hw0 hwx hb0 hbx s0 sx hX0 hXB hRB hs0 hs1
 go_enter Tryz.func172,Tryz.ntmps172
 go_upto_region 1 with fail
 rw [HXW.out]
 go_region_held3 (fun W => W.cell? ⟨T, 0,none⟩ = some (.string x.key) ∧ W.cell? ⟨T, 3,none⟩ = some (.string x.bd)) (first | with_reducible exact hXD | with_reducible exact KX _ hD6 | with_reducible exact KX _ hD7 | with_reducible exact hK8 | with_reducible exact hK9)
  (first | (go_at_call 127; first
   | (with_reducible refine (HCL0.out _).mono ?_; rintro e w6 ⟨rfl,hb6⟩; have hC6 := hdx.trans (hb6.mono hdx.size); have hD6 := (HD.out _ hC6).1)
   | (with_reducible refine (HCL1.out _).mono ?_; rintro e w7 ⟨rfl,hb7⟩; have hC7 := hC6.trans (hb7.mono hC6.size); have hD7 := (HD.out _ hC7).1; obtain ⟨d0,d1⟩ := KX _ hD7; have f0 := hD7.thaw 0; have f1 := hD7.thaw 3; have hK8 := KX _ hD7.same1; have hK9 := KX _ hD7.same)))
 have hE9 : EnB ((w7.setCell ⟨T, 0,none⟩ (.string x.key)).setCell ⟨T, 3,none⟩ (.string x.bd)) T 69 x := hD7.same
 have hR9 : ((w7.setCell ⟨T, 0,none⟩ (.string x.key)).setCell ⟨T, 3,none⟩ (.string x.bd)).heap[T + 1]? = some (.cells #[.string ⟨#[]⟩,.int .i64 0,.int .i64 0,.string ⟨#[]⟩] 69 (0, 0)) := by
  rw [Below.heap_setCell _ _ _ _ (by show T + 1 ≠ T; omega),Below.heap_setCell _ _ _ _ (by show T + 1 ≠ T; omega)]
  exact (HD.out _ hC7).2
 have hB9 : Below T w ((w7.setCell ⟨T, 0,none⟩ (.string x.key)).setCell ⟨T, 3,none⟩ (.string x.bd)) := by
  have h := HBX.out.1.trans (hC7.mono HBX.out.1.size)
  rw [HBX.out.2.1] at h
  exact (h.setCell (Nat.le_refl _) _).setCell (Nat.le_refl _) _
 obtain ⟨w9,hw9⟩ : ∃ y,(w7.setCell ⟨T, 0,none⟩ (.string x.key)).setCell ⟨T, 3,none⟩ (.string x.bd) = y := ⟨_,rfl⟩
 rw [hw9] at hE9 hR9 hB9 ⊢
 obtain ⟨u0,u1,u2,u3⟩ := hE9.cells
 have r0 : w9.cell? ⟨T + 1, 0,none⟩ = some (.string ⟨#[]⟩) := by rw [cell_of_row w9 (T + 1) 0 _ _ (0, 0) hR9]; rfl
 have r1 : w9.cell? ⟨T + 1, 1,none⟩ = some (.int .i64 0) := by rw [cell_of_row w9 (T + 1) 1 _ _ (0, 0) hR9]; rfl
 have r2 : w9.cell? ⟨T + 1, 2,none⟩ = some (.int .i64 0) := by rw [cell_of_row w9 (T + 1) 2 _ _ (0, 0) hR9]; rfl
 have r3 : w9.cell? ⟨T + 1, 3,none⟩ = some (.string ⟨#[]⟩) := by rw [cell_of_row w9 (T + 1) 3 _ _ (0, 0) hR9]; rfl
 have tt : ∀ i,w9.frozen? ⟨T + 1,i,none⟩ = false := fun i => by simp [World.frozen?,hR9]
 have t0 := tt 0
 have t1 := tt 1
 have t2 := tt 2
 have t3 := tt 3
 have HF : Hid (EnB ((((w9.setCell ⟨T + 1, 0,none⟩ (.string x.key)).setCell ⟨T + 1, 1,none⟩ (.int .i64 x.st)).setCell ⟨T + 1, 2,none⟩ (.int .i64 x.lf)).setCell ⟨T + 1, 3,none⟩ (.string x.bd)) (T + 1) 69 x) := by
  show EnB _ _ _ _
  unfold EnB
  simp only [World.setCell,Array.getElem?_modify,hR9]
  simp
 have HG : Hid (Below T w ((((w9.setCell ⟨T + 1, 0,none⟩ (.string x.key)).setCell ⟨T + 1, 1,none⟩ (.int .i64 x.st)).setCell ⟨T + 1, 2,none⟩ (.int .i64 x.lf)).setCell ⟨T + 1, 3,none⟩ (.string x.bd))) := (((hB9.setCell (by show T ≤ T + 1; omega) _).setCell (by show T ≤ T + 1; omega) _).setCell (by show T ≤ T + 1; omega) _).setCell (by show T ≤ T + 1; omega) _
 clear hXD hD6 hD7 hC6 hC7 hb6 hb7 d0 d1 f0 f1 hK8 hK9 hE9 hR9 hB9 hw9 HD KX hdx HCL0 HCL1 tt
 go_wp2_with fail
 obtain ⟨q0,q1,q2,q3⟩ := HF.out.cells
 exact bodyPost_ret (v := .agg #[.string x.key,.int .i64 x.st,.int .i64 x.lf,.string x.bd]) (by simp [results,Tryz.results172,go_sem,q0,q1,q2,q3]) rfl ⟨rfl,HG.out⟩
end Go.Proofs.YtpgcfgbhkodmeaaGreatDoor
