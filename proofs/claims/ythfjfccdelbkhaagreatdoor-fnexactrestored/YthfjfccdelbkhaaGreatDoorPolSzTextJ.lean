/- Texts that stand in one: PolSzText, PolCopyImpl, PrxCopyKit. -/
import Derived.Test.YthfjfccdelbkhaaGreatDoorSkLaw3J
import Derived.Test.YthfjfccdelbkhaaGreatDoorPolSpecJ
import Derived.Deep.RegionHeld3
import Derived.Test.YthfjfccdelbkhaaGreatDoorPrxBaseJ
import Derived.Test.YthfjfccdelbkhaaGreatDoorSkNewImplJ
import Derived.Test.YthfjfccdelbkhaaGreatDoorCliLawJ
import Derived.Test.YthfjfccdelbkhaaGreatDoorShelf
import Derived.Deep.DeepCutAuto
namespace Go.Proofs.YthfjfccdelbkhaaGreatDoor
open Go.RowKit
theorem PolSz.texts {P : Pol} (h : PolSz P) : ∀ z ∈ P.win ++ P.main,z.size ≤ 1048576 := fun z hz => by
 unfold PolSz wgtP at h
 rcases List.mem_append.1 hz with hz | hz
 ·have := wgtL_mem hz
  omega
 ·have := wgtL_mem hz
  omega
end Go.Proofs.YthfjfccdelbkhaaGreatDoor
namespace Go.Proofs.YthfjfccdelbkhaaGreatDoor
open Go.RowKit Go.Sort
set_option maxRecDepth 100000 in
set_option maxHeartbeats 8000000 in
theorem policyCopy_any (w : World) (aw am ak : Option Addr) (cw cm ck : Nat) (P : Pol) (hA : PolAt w aw am ak P w.heap.size) (hsz : PolSz P) :
  Calls Tryz.prog 68 #[.agg #[.slice aw P.win.length cw,.slice am P.main.length cm,.slice ak P.sk.rows.length ck,.int .i64 P.sk.added]] w fun e w' => ∃ v,e = .returned v ∧ POwn w' w.heap.size w'.heap.size v P ∧ Below w.heap.size w w' := by
 obtain ⟨l1,l2,l3⟩ := hsz.parts
 obtain ⟨w0,hw0⟩ : ∃ x,w.alloc (.cells #[.slice aw P.win.length cw,.slice am P.main.length cm,.slice ak P.sk.rows.length ck,.int .i64 P.sk.added] 30) = x := ⟨_,rfl⟩
 obtain ⟨w1,hw1⟩ : ∃ x,w0.alloc (.cells #[.slice none 0 0,.slice none 0 0,.slice none 0 0,.int .i64 0] 30) = x := ⟨_,rfl⟩
 have hb0 : Below w.heap.size w w0 := by rw [← hw0]; exact (Below.refl _ _).alloc (Nat.le_refl _) _
 have hb01 : Below w0.heap.size w0 w1 := by rw [← hw1]; exact (Below.refl _ _).alloc (Nat.le_refl _) _
 have s0 : w0.heap.size = w.heap.size + 1 := by rw [← hw0]; simp
 have s1 : w1.heap.size = w.heap.size + 2 := by rw [← hw1]; simp; omega
 have hb1 : Below w.heap.size w w1 := hb0.trans (hb01.mono hb0.size)
 have hB : PBox w1 w.heap.size (.slice aw P.win.length cw) (.slice am P.main.length cm) (.slice ak P.sk.rows.length ck) (.int .i64 P.sk.added) := by
  have h : PBox w0 w.heap.size (.slice aw P.win.length cw) (.slice am P.main.length cm) (.slice ak P.sk.rows.length ck) (.int .i64 P.sk.added) := by rw [← hw0]; exact PBox.new _ _ _ _ _
  exact h.on hb01
 have hR : PBox w1 (w.heap.size + 1) (.slice none 0 0) (.slice none 0 0) (.slice none 0 0) (.int .i64 0) := by rw [← hw1, ← s0]; exact PBox.new _ _ _ _ _
 have hA1 := hA.on hb1
 have HW : Hid ((w.alloc (.cells #[.slice aw P.win.length cw,.slice am P.main.length cm,.slice ak P.sk.rows.length ck,.int .i64 P.sk.added] 30)).alloc (.cells #[.slice none 0 0,.slice none 0 0,.slice none 0 0,.int .i64 0] 30) = w1) := by rw [hw0]; exact hw1
 have KS : ∀ W,Below w1.heap.size w1 W → W.cell? ⟨w.heap.size, 0,none⟩ = some (.slice aw P.win.length cw) ∧ W.cell? ⟨w.heap.size, 1,none⟩ = some (.slice am P.main.length cm) ∧ W.cell? ⟨w.heap.size, 2,none⟩ = some (.slice ak P.sk.rows.length ck) ∧ W.cell? ⟨w.heap.size, 3,none⟩ = some (.int .i64 P.sk.added) := fun W h => (hB.on h).cells
 have HC1 : Hid (∀ W,Below w1.heap.size w1 W → Calls Tryz.prog 90 #[.slice aw P.win.length cw] W fun e w' => ∃ a2 k2,e = .returned (.slice a2 P.win.length k2) ∧ OwnV w' W.heap.size 9 (.slice a2 P.win.length k2) (strs P.win) ∧ Below w1.heap.size w1 w') := fun W h => by
  refine (keysCopy_any W aw cw P.win (hA1.on h).1 l1 (fun z hz => by have := hsz.texts z (List.mem_append_left _ hz); omega)).mono ?_
  rintro e w' ⟨v,rfl,ho,hb⟩
  obtain ⟨a2,k2,rfl,_⟩ := ho.strsAt
  exact ⟨a2,k2,rfl,ho,h.trans (hb.mono h.size)⟩
 have HC2 : Hid (∀ W,Below w1.heap.size w1 W → Calls Tryz.prog 90 #[.slice am P.main.length cm] W fun e w' => ∃ a2 k2,e = .returned (.slice a2 P.main.length k2) ∧ OwnV w' W.heap.size 9 (.slice a2 P.main.length k2) (strs P.main) ∧ Below W.heap.size W w') := fun W h => by
  refine (keysCopy_any W am cm P.main (hA1.on h).2.1 l2 (fun z hz => by have := hsz.texts z (List.mem_append_right _ hz); omega)).mono ?_
  rintro e w' ⟨v,rfl,ho,hb⟩
  obtain ⟨a2,k2,rfl,_⟩ := ho.strsAt
  exact ⟨a2,k2,rfl,ho,hb⟩
 have HC3 : Hid (∀ W,Below w1.heap.size w1 W → Calls Tryz.prog 91 #[.agg #[.slice ak P.sk.rows.length ck,.int .i64 P.sk.added]] W fun e w' => ∃ a2 k2,e = .returned (.agg #[.slice a2 P.sk.rows.length k2,.int .i64 P.sk.added]) ∧ OwnSS w' W.heap.size w'.heap.size (.slice a2 P.sk.rows.length k2) P.sk.rows ∧ Below W.heap.size W w') := fun W h => by
  refine (sketchCopy_any W ak ck P.sk (hA1.on h).2.2 l3).mono ?_
  rintro e w' ⟨v,rfl,⟨u,rfl,ho⟩,hb⟩
  obtain ⟨a2,k2,rfl,_⟩ := ho.at
  exact ⟨a2,k2,rfl,ho,hb⟩
 have hdr : Below w1.heap.size w1 w1.drew := ⟨rfl,rfl,rfl,Nat.le_refl _,fun _ _ => rfl⟩
 have HRB : Hid (∀ W,Below w1.heap.size w1 W → PBox W (w.heap.size + 1) (.slice none 0 0) (.slice none 0 0) (.slice none 0 0) (.int .i64 0)) := fun W h => hR.on h
 have HB1 : Hid (Below w.heap.size w w1 ∧ w1.heap.size = w.heap.size + 2) := ⟨hb1,s1⟩
 have HS5 : Hid (∀ W x y z u,Below w1.heap.size w1 W → PBox ((((W.setCell ⟨w.heap.size + 1, 0,none⟩ x).setCell ⟨w.heap.size + 1, 1,none⟩ y).setCell ⟨w.heap.size + 1, 2,none⟩ z).setCell ⟨w.heap.size + 1, 3,none⟩ u) w.heap.size (.slice aw P.win.length cw) (.slice am P.main.length cm) (.slice ak P.sk.rows.length ck) (.int .i64 P.sk.added)) := fun W x y z u h => (hB.on h).kept (put4_other W _ x y z u _ (by omega))
 clear hw0 hw1 hb0 hb01 s0 hA hA1 hB hR hb1 s1 hsz l1 l2 l3
 go_enter Tryz.func68,Tryz.ntmps68
 go_wp2
 rw [HW.out]
 clear HW
 go_region_held3 (fun W => W.cell? ⟨w.heap.size, 0,none⟩ = some (.slice aw P.win.length cw) ∧ W.cell? ⟨w.heap.size, 1,none⟩ = some (.slice am P.main.length cm) ∧ W.cell? ⟨w.heap.size, 2,none⟩ = some (.slice ak P.sk.rows.length ck) ∧ W.cell? ⟨w.heap.size, 3,none⟩ = some (.int .i64 P.sk.added)) (first | with_reducible exact KS _ hdr | with_reducible exact KS _ hC4 | with_reducible exact KS _ hC3 | with_reducible exact KS _ hC2 | with_reducible exact hS5)
  (first
   | (go_at_call 90; first
     | (with_reducible refine (HC1.out _ hdr).mono ?_; rintro e w2 ⟨a2,k2,rfl,ho2,hC2⟩)
     | (with_reducible refine (HC2.out _ hC2).mono ?_; rintro e w3 ⟨a3,k3,rfl,ho3,hb3⟩; have hC3 : Below w1.heap.size w1 w3 := hC2.trans (hb3.mono hC2.size)))
   | (go_at_call 91; with_reducible refine (HC3.out _ hC3).mono ?_; rintro e w4 ⟨a4,k4,rfl,ho4,hb4⟩; have hC4 : Below w1.heap.size w1 w4 := hC3.trans (hb4.mono hC3.size); have hR4 := HRB.out _ hC4; obtain ⟨r0,r1,r2,r3⟩ := hR4.cells; have f0 := hR4.thaw 0; have f1 := hR4.thaw 1; have f2 := hR4.thaw 2; have f3 := hR4.thaw 3; have hS5 := (HS5.out w4 (.slice a2 P.win.length k2) (.slice a3 P.main.length k3) (.slice a4 P.sk.rows.length k4) (.int .i64 P.sk.added) hC4).cells))
 all_goals (
  obtain ⟨hb1,s1⟩ := HB1.out
  have hR4 := HRB.out _ hC4
  have hOA : POwn w4 w.heap.size w4.heap.size (.agg #[.slice a2 P.win.length k2,.slice a3 P.main.length k3,.slice a4 P.sk.rows.length k4,.int .i64 P.sk.added]) ⟨P.win,P.main,P.sk⟩ :=
   POwn.mk3 (P := ⟨P.win,P.main,P.sk⟩) ((ho2.below hb3 (Nat.le_refl _)).below hb4 (Nat.le_refl _)) (ho3.below hb4 (Nat.le_refl _)) ho4 (by simp; omega) (by have := hC2.size; omega) (by have := hC3.size; omega) (fun k hk => by
    intro e
    have h1 := (ho2.lt k hk).2
    have h2 := (ho3.lt k e).1
    omega)
  have HOA : Hid _ := hOA.put4 hR4 (.slice a2 P.win.length k2) (.slice a3 P.main.length k3) (.slice a4 P.sk.rows.length k4) (.int .i64 P.sk.added)
  have HBF : Hid _ := Below.put4 (hb1.trans (hC4.mono (by omega))) (T := w.heap.size + 1) (by omega) (.slice a2 P.win.length k2) (.slice a3 P.main.length k3) (.slice a4 P.sk.rows.length k4) (.int .i64 P.sk.added)
  obtain ⟨q0,q1,q2,q3⟩ := (hR4.put (.slice a2 P.win.length k2) (.slice a3 P.main.length k3) (.slice a4 P.sk.rows.length k4) (.int .i64 P.sk.added)).cells
  clear hOA
  try go_wp2_with fail
  refine bodyPost_ret (v := .agg #[.slice a2 P.win.length k2,.slice a3 P.main.length k3,.slice a4 P.sk.rows.length k4,.int .i64 P.sk.added]) (by simp [results,Tryz.results68,go_sem,q0,q1,q2,q3]) rfl ⟨_,rfl, ?_,HBF.out⟩
  refine POwn.mono HOA.out (Nat.le_refl _) ?_
  simp)
theorem cloneP_any (s : ByteArray) (w : World) (h : s.size ≤ 1048576) :
  Calls Tryz.prog 49 #[.string s] w fun e w' => e = .returned (.string s) ∧ Below w.heap.size w w' := by
 go_enter Tryz.func49,Tryz.ntmps49
 go_wp2_with fail
 refine (Tryz.stringslite_Clone s w (by omega)).mono ?_
 rintro e w1 ⟨rfl,hb⟩
 go_wp2
 go_ret
 exact ⟨rfl,hb⟩
theorem PxOwn.start {w : World} {lo hi : Nat} {x y z : Value} {P : Pol} {now hits : Int} (h : POwn w lo hi (.agg #[x,y,z,.int .i64 P.sk.added]) P) : PxOwn w lo hi ⟨.slice none 0 0,x,y,z,.slice none 0 0,.slice none 0 0⟩ ⟨now, [],P, [], [],hits⟩ :=
 ⟨ownN_nil _ _ _,h,OwnFet.nil _ _ _,OwnCli.nil _ _ _,fun k hk => by simp [Value.ownBlock] at hk,fun k hk => by simp [Value.ownBlock] at hk,fun k hk => by simp [Value.ownBlock] at hk⟩
theorem PxOwn.setE {w w2 : World} {lo hi : Nat} {X : Pc} {R : Prx} {v2 : Value} {L2 : List En} (h : PxOwn w lo hi X R) (hg : w.grownBy w2 X.e.ownBlock) (ho : OwnN w2 lo 47 v2 L2) : PxOwn w2 lo w2.heap.size ⟨v2,X.w,X.m,X.k,X.f,X.c⟩ ⟨R.now,L2,R.pol,R.fes,R.cls,R.hits⟩ := by
 have hp : POwn w2 lo hi (.agg #[X.w,X.m,X.k,.int .i64 R.pol.sk.added]) R.pol := h.p.keptT fun k _ _ hk hty => hg.block k hk (fun e => by
  obtain ⟨cs,hcs⟩ := h.e.type k e.symm
  obtain ⟨cs',t',h1,h2⟩ := hty _ hcs
  simp only [Obj.cells.injEq] at h1
  rw [← h1.2.1] at h2
  revert h2
  decide)
 have hf : OwnFet w2 lo 83 X.f R.fes := h.f.grown hg fun q hq e => by
  obtain ⟨cs,h1⟩ := h.f.type q hq
  obtain ⟨cs',h2⟩ := h.e.type q e
  rw [h1] at h2
  simp at h2
 have hc : OwnCli w2 lo 86 X.c R.cls := h.c.grown hg fun q hq e => by
  obtain ⟨cs,h1⟩ := h.c.type q hq
  obtain ⟨cs',h2⟩ := h.e.type q e
  rw [h1] at h2
  simp at h2
 exact ⟨ho,hp.up,hf,hc,fun k hk => (ho.lt k hk).2,fun k hk => (hf.lt k hk).2,fun k hk => (hc.lt k hk).2⟩
theorem EnB.same1 {w : World} {T : Nat} {t : TypeId} {f : En} (h : EnB w T t f) : EnB (w.setCell ⟨T, 0,none⟩ (.string f.key)) T t f := by
 unfold EnB at *
 simp only [World.setCell,Array.getElem?_modify,h]
 simp
theorem EnB.same {w : World} {T : Nat} {t : TypeId} {f : En} (h : EnB w T t f) : EnB ((w.setCell ⟨T, 0,none⟩ (.string f.key)).setCell ⟨T, 3,none⟩ (.string f.bd)) T t f := by
 unfold EnB at *
 simp only [World.setCell,Array.getElem?_modify,h]
 simp
end Go.Proofs.YthfjfccdelbkhaaGreatDoor
