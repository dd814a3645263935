/- Texts that stand in one: SkNewImpl, PolNewImpl, PolSizes, PrxNew, PrxNewE, FetPlus, CliPlus. -/
import Derived.Test.YthfjfccdelbkhaaGreatDoorSkStepJ
import Derived.Test.YthfjfccdelbkhaaGreatDoorSumTabJ
import Derived.Test.YthfjfccdelbkhaaGreatDoorSkLaw3J
import Derived.Test.YthfjfccdelbkhaaGreatDoorPrxBaseJ
import Derived.Test.YthfjfccdelbkhaaGreatDoorFetRowsJ
import Derived.Test.YthfjfccdelbkhaaGreatDoorFilesJ
namespace Go.Proofs.YthfjfccdelbkhaaGreatDoor
open Go.RowKit Go.Sort
set_option maxRecDepth 100000 in
set_option maxHeartbeats 4000000 in
theorem implSketchNew_any (w : World) :
  Calls Tryz.prog 65 #[] w fun e w' => ∃ v,e = .returned v ∧ SkOwn w' w.heap.size w'.heap.size v newS ∧ Below w.heap.size w w' := by
 obtain ⟨w1,hw1⟩ : ∃ x,w.alloc (.cells #[.slice none 0 0,.int .i64 0] 28) = x := ⟨_,rfl⟩
 have hb1 : Below w.heap.size w w1 := by rw [← hw1]; exact (Below.refl _ _).alloc (Nat.le_refl _) _
 have hR : SkBox w1 w.heap.size (.slice none 0 0) (.int .i64 0) := by rw [← hw1]; exact SkBox.new _ _ _
 have HW : Hid (w.alloc (.cells #[.slice none 0 0,.int .i64 0] 28) = w1) := hw1
 have c1 := lists_any w1 (List.replicate 3 (List.replicate 16 0)) rfl all16_zero
 clear hw1
 go_enter Tryz.func65,Tryz.ntmps65
 go_wp2_with fail
 rw [HW.out]
 refine c1.mono ?_
 rintro e w2 ⟨v,rfl,ho,hb2⟩
 obtain ⟨a,c,rfl,_⟩ := ho.at
 have hR2 := hR.on hb2
 have hbw := hb1.trans (hb2.mono hb1.size)
 obtain ⟨r0,r1⟩ := hR2.cells
 have f0 := hR2.thaw 0
 have f1 := hR2.thaw 1
 have HO : Hid (OwnSS w2 w1.heap.size w2.heap.size (.slice a 3 c) newS.rows) := ho
 rw [show (List.replicate 3 (List.replicate 16 (0 : Int))).length = 3 from rfl]
 clear c1 ho hR hb2 HW
 go_wp2_with fail
 obtain ⟨q0,q1⟩ := (hR2.put (.slice a 3 c) (.int .i64 0)).cells
 refine bodyPost_ret (v := .agg #[.slice a 3 c,.int .i64 0]) (by simp [results,Tryz.results65,go_sem,q0,q1]) rfl ⟨_,rfl,⟨_,rfl, ?_⟩,Below.put2 hbw (Nat.le_refl _) _ _⟩
 refine (HO.out.put2 hR2 _ _).mono hb1.size ?_
 simp
set_option maxRecDepth 100000 in
set_option maxHeartbeats 4000000 in
theorem implPolicyNew_any (w : World) :
  Calls Tryz.prog 42 #[] w fun e w' => ∃ v,e = .returned v ∧ POwn w' w.heap.size w'.heap.size v newP ∧ Below w.heap.size w w' := by
 obtain ⟨w1,hw1⟩ : ∃ x,w.alloc (.cells #[.slice none 0 0,.slice none 0 0,.slice none 0 0,.int .i64 0] 30) = x := ⟨_,rfl⟩
 have hb1 : Below w.heap.size w w1 := by rw [← hw1]; exact (Below.refl _ _).alloc (Nat.le_refl _) _
 have hR : PBox w1 w.heap.size (.slice none 0 0) (.slice none 0 0) (.slice none 0 0) (.int .i64 0) := by rw [← hw1]; exact PBox.new _ _ _ _ _
 have HW : Hid (w.alloc (.cells #[.slice none 0 0,.slice none 0 0,.slice none 0 0,.int .i64 0] 30) = w1) := hw1
 have c1 := implSketchNew_any w1
 clear hw1
 go_enter Tryz.func42,Tryz.ntmps42
 go_wp2_with fail
 rw [HW.out]
 refine c1.mono ?_
 rintro e w2 ⟨v,rfl,⟨u,rfl,ho⟩,hb2⟩
 obtain ⟨a,c,rfl,_⟩ := ho.at
 have hR2 := hR.on hb2
 have hbw := hb1.trans (hb2.mono hb1.size)
 obtain ⟨r0,r1,r2,r3⟩ := hR2.cells
 have f0 := hR2.thaw 0
 have f1 := hR2.thaw 1
 have f2 := hR2.thaw 2
 have f3 := hR2.thaw 3
 have HO : Hid (POwn w2 w1.heap.size w2.heap.size (.agg #[.slice none 0 0,.slice none 0 0,.slice a newS.rows.length c,.int .i64 0]) newP) := ⟨_,_,_,rfl,OwnV.nil _ _ _,OwnV.nil _ _ _,fun k hk => by simp [Value.ownBlock] at hk,fun k hk => by simp [Value.ownBlock] at hk,ho⟩
 obtain ⟨n,hn⟩ : ∃ n,newS.rows.length = n := ⟨_,rfl⟩
 have hz : newS.added = 0 := rfl
 rw [hn] at HO ⊢
 rw [hz]
 clear c1 ho hR hb2 HW hn hz
 go_wp2_with fail
 obtain ⟨q0,q1,q2,q3⟩ := (hR2.put (.slice none 0 0) (.slice none 0 0) (.slice a n c) (.int .i64 0)).cells
 refine bodyPost_ret (v := .agg #[.slice none 0 0,.slice none 0 0,.slice a n c,.int .i64 0]) (by simp [results,Tryz.results42,go_sem,q0,q1,q2,q3]) rfl ⟨_,rfl, ?_,Below.put4 hbw (Nat.le_refl _) _ _ _ _⟩
 refine (HO.out.put4 hR2 _ _ _ _).mono hb1.size ?_
 simp
end Go.Proofs.YthfjfccdelbkhaaGreatDoor
namespace Go.Proofs.YthfjfccdelbkhaaGreatDoor
open Go.RowKit
theorem wgtL_keys {l : List ByteArray} (h : ∀ z ∈ l,keyOk z = true) : wgtL l ≤ 30 * l.length := by
 induction l with
 | nil => simp [wgtL]
 | cons a r ih =>
  have h1 := ih (fun z hz => h z (List.mem_cons_of_mem _ hz))
  have h2 := h a (List.mem_cons_self ..)
  simp only [keyOk,decide_eq_true_eq] at h2
  simp only [wgtL,List.map_cons,List.sum_cons,List.length_cons] at h1 ⊢
  omega
theorem okP_wgt {P : Pol} (h : okP P = true) : wgtP P ≤ 300 := by
 obtain ⟨h1,h2,_,_,_,h6,h7,h8⟩ := okP_iff.1 h
 obtain ⟨a,b,c,e,ra,rb,rc,_,_⟩ := okK_parts h8
 have w1 := wgtL_keys h1
 have w2 := wgtL_keys h2
 have hl : P.sk.rows.length = 3 := by rw [e]; rfl
 have ht : tot P.sk.rows P.sk.rows.length = 48 := by
  rw [hl,e]
  simp [tot,rowOk_len ra,rowOk_len rb,rowOk_len rc]
 unfold wgtP
 omega
theorem okP_sz {P : Pol} (h : okP P = true) : PolSz P := by
 have := okP_wgt h
 unfold PolSz
 omega
end Go.Proofs.YthfjfccdelbkhaaGreatDoor
namespace Go.Proofs.YthfjfccdelbkhaaGreatDoor
open Go.RowKit Go.Sort
def newR : Prx := ⟨1, [],newP, [], [], 0⟩
set_option maxRecDepth 100000 in
set_option maxHeartbeats 4000000 in
theorem specProxyNew_any (w : World) :
  Calls Tryz.prog 14 #[] w fun e w' => ∃ X : Pc,e = .returned (.agg #[.int .i64 newR.now,X.e,X.w,X.m,X.k,.int .i64 newR.pol.sk.added,X.f,X.c,.int .i64 newR.hits]) ∧ PxOwn w' w.heap.size w'.heap.size X newR ∧ Below w.heap.size w w' := by
 obtain ⟨w1,hw1⟩ : ∃ x,w.alloc (.cells #[.int .i64 0,.slice none 0 0,.slice none 0 0,.slice none 0 0,.slice none 0 0,.int .i64 0,.slice none 0 0,.slice none 0 0,.int .i64 0] 34) = x := ⟨_,rfl⟩
 have hb1 : Below w.heap.size w w1 := by rw [← hw1]; exact (Below.refl _ _).alloc (Nat.le_refl _) _
 have hR : NB w1 w.heap.size 34 (.int .i64 0) (.slice none 0 0) (.slice none 0 0) (.slice none 0 0) (.slice none 0 0) (.int .i64 0) (.slice none 0 0) (.slice none 0 0) (.int .i64 0) := by rw [← hw1]; exact NB.new _ _ _ _ _ _ _ _ _ _ _
 have HW : Hid (w.alloc (.cells #[.int .i64 0,.slice none 0 0,.slice none 0 0,.slice none 0 0,.slice none 0 0,.int .i64 0,.slice none 0 0,.slice none 0 0,.int .i64 0] 34) = w1) := hw1
 have c1 := specPolicyNew_any w1
 clear hw1
 go_enter Tryz.func14,Tryz.ntmps14
 go_wp2_with fail
 rw [HW.out]
 refine c1.mono ?_
 rintro e w2 ⟨v,rfl,ho,hb2⟩
 obtain ⟨aw,cw,am,cm,ak,ck,rfl,_⟩ := ho.at
 obtain ⟨nw,hnw⟩ : ∃ n,newP.win.length = n := ⟨_,rfl⟩
 obtain ⟨nm,hnm⟩ : ∃ n,newP.main.length = n := ⟨_,rfl⟩
 obtain ⟨nk,hnk⟩ : ∃ n,newP.sk.rows.length = n := ⟨_,rfl⟩
 rw [hnw,hnm,hnk] at ho ⊢
 clear hnw hnm hnk
 have hR2 := hR.on hb2
 have hbw := hb1.trans (hb2.mono hb1.size)
 obtain ⟨r0,r1,r2,r3,r4,r5,r6,r7,r8⟩ := hR2.cells
 have f0 := hR2.thaw 0
 have f1 := hR2.thaw 1
 have f2 := hR2.thaw 2
 have f3 := hR2.thaw 3
 have f4 := hR2.thaw 4
 have f5 := hR2.thaw 5
 have f6 := hR2.thaw 6
 have f7 := hR2.thaw 7
 have f8 := hR2.thaw 8
 have hz : newP.sk.added = 0 := rfl
 have HO : Hid (PxOwn w2 w1.heap.size w2.heap.size ⟨.slice none 0 0,.slice aw nw cw,.slice am nm cm,.slice ak nk ck,.slice none 0 0,.slice none 0 0⟩ newR) := ⟨ownN_nil _ _ _,ho,OwnFet.nil _ _ _,OwnCli.nil _ _ _,fun k hk => by simp [Value.ownBlock] at hk,fun k hk => by simp [Value.ownBlock] at hk,fun k hk => by simp [Value.ownBlock] at hk⟩
 rw [hz]
 clear c1 ho hR hb2 HW hz
 go_wp2_with fail
 obtain ⟨q0,q1,q2,q3,q4,q5,q6,q7,q8⟩ := (hR2.put (.int .i64 1) (.slice none 0 0) (.slice aw nw cw) (.slice am nm cm) (.slice ak nk ck) (.int .i64 0) (.slice none 0 0) (.slice none 0 0) (.int .i64 0)).cells
 refine bodyPost_ret (v := .agg #[.int .i64 1,.slice none 0 0,.slice aw nw cw,.slice am nm cm,.slice ak nk ck,.int .i64 0,.slice none 0 0,.slice none 0 0,.int .i64 0]) (by simp [results,Tryz.results14,go_sem,q0,q1,q2,q3,q4,q5,q6,q7,q8]) rfl ⟨⟨.slice none 0 0,.slice aw nw cw,.slice am nm cm,.slice ak nk ck,.slice none 0 0,.slice none 0 0⟩,rfl, ?_,Below.put9 hbw (Nat.le_refl _) _ _ _ _ _ _ _ _ _⟩
 refine (HO.out.box hR2 (by unfold PxT; decide) fun k hk => put9_other _ _ _ _ _ _ _ _ _ _ _ k hk).mono hb1.size ?_
 simp
set_option maxRecDepth 100000 in
set_option maxHeartbeats 4000000 in
theorem implProxyNewE_any (w : World) :
  Calls Tryz.prog 19 #[] w fun e w' => ∃ X : Pc,e = .returned (.agg #[.int .i64 newR.now,X.e,X.w,X.m,X.k,.int .i64 newR.pol.sk.added,X.f,X.c,.int .i64 newR.hits]) ∧ PxOwn w' w.heap.size w'.heap.size X newR ∧ Below w.heap.size w w' ∧ X.e = .slice none 0 0 := by
 obtain ⟨w1,hw1⟩ : ∃ x,w.alloc (.cells #[.int .i64 0,.slice none 0 0,.slice none 0 0,.slice none 0 0,.slice none 0 0,.int .i64 0,.slice none 0 0,.slice none 0 0,.int .i64 0] 34) = x := ⟨_,rfl⟩
 have hb1 : Below w.heap.size w w1 := by rw [← hw1]; exact (Below.refl _ _).alloc (Nat.le_refl _) _
 have hR : NB w1 w.heap.size 34 (.int .i64 0) (.slice none 0 0) (.slice none 0 0) (.slice none 0 0) (.slice none 0 0) (.int .i64 0) (.slice none 0 0) (.slice none 0 0) (.int .i64 0) := by rw [← hw1]; exact NB.new _ _ _ _ _ _ _ _ _ _ _
 have HW : Hid (w.alloc (.cells #[.int .i64 0,.slice none 0 0,.slice none 0 0,.slice none 0 0,.slice none 0 0,.int .i64 0,.slice none 0 0,.slice none 0 0,.int .i64 0] 34) = w1) := hw1
 have c1 := implPolicyNew_any w1
 clear hw1
 go_enter Tryz.func19,Tryz.ntmps19
 go_wp2_with fail
 rw [HW.out]
 refine c1.mono ?_
 rintro e w2 ⟨v,rfl,ho,hb2⟩
 obtain ⟨aw,cw,am,cm,ak,ck,rfl,_⟩ := ho.at
 obtain ⟨nw,hnw⟩ : ∃ n,newP.win.length = n := ⟨_,rfl⟩
 obtain ⟨nm,hnm⟩ : ∃ n,newP.main.length = n := ⟨_,rfl⟩
 obtain ⟨nk,hnk⟩ : ∃ n,newP.sk.rows.length = n := ⟨_,rfl⟩
 rw [hnw,hnm,hnk] at ho ⊢
 clear hnw hnm hnk
 have hR2 := hR.on hb2
 have hbw := hb1.trans (hb2.mono hb1.size)
 obtain ⟨r0,r1,r2,r3,r4,r5,r6,r7,r8⟩ := hR2.cells
 have f0 := hR2.thaw 0
 have f1 := hR2.thaw 1
 have f2 := hR2.thaw 2
 have f3 := hR2.thaw 3
 have f4 := hR2.thaw 4
 have f5 := hR2.thaw 5
 have f6 := hR2.thaw 6
 have f7 := hR2.thaw 7
 have f8 := hR2.thaw 8
 have hz : newP.sk.added = 0 := rfl
 have HO : Hid (PxOwn w2 w1.heap.size w2.heap.size ⟨.slice none 0 0,.slice aw nw cw,.slice am nm cm,.slice ak nk ck,.slice none 0 0,.slice none 0 0⟩ newR) := ⟨ownN_nil _ _ _,ho,OwnFet.nil _ _ _,OwnCli.nil _ _ _,fun k hk => by simp [Value.ownBlock] at hk,fun k hk => by simp [Value.ownBlock] at hk,fun k hk => by simp [Value.ownBlock] at hk⟩
 rw [hz]
 clear c1 ho hR hb2 HW hz
 go_wp2_with fail
 obtain ⟨q0,q1,q2,q3,q4,q5,q6,q7,q8⟩ := (hR2.put (.int .i64 1) (.slice none 0 0) (.slice aw nw cw) (.slice am nm cm) (.slice ak nk ck) (.int .i64 0) (.slice none 0 0) (.slice none 0 0) (.int .i64 0)).cells
 refine bodyPost_ret (v := .agg #[.int .i64 1,.slice none 0 0,.slice aw nw cw,.slice am nm cm,.slice ak nk ck,.int .i64 0,.slice none 0 0,.slice none 0 0,.int .i64 0]) (by simp [results,Tryz.results19,go_sem,q0,q1,q2,q3,q4,q5,q6,q7,q8]) rfl ⟨⟨.slice none 0 0,.slice aw nw cw,.slice am nm cm,.slice ak nk ck,.slice none 0 0,.slice none 0 0⟩,rfl, ?_,Below.put9 hbw (Nat.le_refl _) _ _ _ _ _ _ _ _ _,rfl⟩
 refine (HO.out.box hR2 (by unfold PxT; decide) fun k hk => put9_other _ _ _ _ _ _ _ _ _ _ _ k hk).mono hb1.size ?_
 simp
end Go.Proofs.YthfjfccdelbkhaaGreatDoor
namespace Go.Proofs.YthfjfccdelbkhaaGreatDoor
open Go.RowKit
theorem OwnFet.new (w : World) (e : TypeId) (L : List Fet) (cs : Array Value) (hc : cs = (ftl L).toArray) (hl : L.length ≤ maxLen) : OwnFet (w.alloc (.cells cs e)) w.heap.size e (.slice (some ⟨w.heap.size, 0,none⟩) L.length L.length) L := by
 subst hc
 refine ⟨by rw [ftl_length],.inr ⟨w.heap.size,L.length,_,rfl,Nat.le_refl _,heap_alloc_new w _,Nat.le_refl _,hl,by simp [ftl_length], ?_⟩⟩
 exact List.take_of_length_le (by simp [ftl_length])
theorem FetAt.src {w : World} {a0 : Option Addr} {l : List Fet} {B : Nat} (hI : FetAt w a0 l B) : (a0 = none → l.length = 0) ∧ ∀ ad,a0 = some ad → ∀ j u,(ftl l)[j]? = some u → w.cell? (ad.add j) = some u := by
 refine ⟨fun e => ?_,fun ad e j u hu => ?_⟩
 ·cases l with
  | nil => rfl
  | cons x r => obtain ⟨g,off,ha,_⟩ := hI 0 (by simp); rw [e] at ha; cases ha
 ·obtain ⟨hj,_⟩ := List.getElem?_eq_some_iff.1 hu
  rw [ftl_length] at hj
  obtain ⟨g,off,ha,_,h0,h1,h2,h3,h4⟩ := hI (j / 5) (by omega)
  rw [e] at ha
  simp only [Option.some.injEq] at ha
  subst ha
  have hat := ftl_at l (j / 5) (by omega)
  rw [Addr.add_mid]
  rcases (by omega : j % 5 = 0 ∨ j % 5 = 1 ∨ j % 5 = 2 ∨ j % 5 = 3 ∨ j % 5 = 4) with h | h | h | h | h
  ·have e : j = 5 * (j / 5) := by omega
   rw [e,hat.1] at hu
   rw [show off + j = off + j / 5 * 5 by omega,h0]
   exact hu
  ·have e : j = 5 * (j / 5) + 1 := by omega
   rw [e,hat.2.1] at hu
   rw [show off + j = off + j / 5 * 5 + 1 by omega,h1]
   exact hu
  ·have e : j = 5 * (j / 5) + 2 := by omega
   rw [e,hat.2.2.1] at hu
   rw [show off + j = off + j / 5 * 5 + 2 by omega,h2]
   exact hu
  ·have e : j = 5 * (j / 5) + 3 := by omega
   rw [e,hat.2.2.2.1] at hu
   rw [show off + j = off + j / 5 * 5 + 3 by omega,h3]
   exact hu
  ·have e : j = 5 * (j / 5) + 4 := by omega
   rw [e,hat.2.2.2.2] at hu
   rw [show off + j = off + j / 5 * 5 + 4 by omega,h4]
   exact hu
theorem OwnCli.new (w : World) (e : TypeId) (L : List Cli) (cs : Array Value) (hc : cs = (cltl L).toArray) (hl : L.length ≤ maxLen) : OwnCli (w.alloc (.cells cs e)) w.heap.size e (.slice (some ⟨w.heap.size, 0,none⟩) L.length L.length) L := by
 subst hc
 refine ⟨by rw [cltl_length],.inr ⟨w.heap.size,L.length,_,rfl,Nat.le_refl _,heap_alloc_new w _,Nat.le_refl _,hl,by simp [cltl_length], ?_⟩⟩
 exact List.take_of_length_le (by simp [cltl_length])
theorem CliAt.src {w : World} {a0 : Option Addr} {l : List Cli} {B : Nat} (hI : CliAt w a0 l B) : (a0 = none → l.length = 0) ∧ ∀ ad,a0 = some ad → ∀ j u,(cltl l)[j]? = some u → w.cell? (ad.add j) = some u := by
 refine ⟨fun e => ?_,fun ad e j u hu => ?_⟩
 ·cases l with
  | nil => rfl
  | cons x r => obtain ⟨g,off,ha,_⟩ := hI 0 (by simp); rw [e] at ha; cases ha
 ·obtain ⟨hj,_⟩ := List.getElem?_eq_some_iff.1 hu
  rw [cltl_length] at hj
  obtain ⟨g,off,ha,_,h0,h1,h2,h3,h4,h5,h6⟩ := hI (j / 7) (by omega)
  rw [e] at ha
  simp only [Option.some.injEq] at ha
  subst ha
  have hat := cltl_at l (j / 7) (by omega)
  rw [Addr.add_mid]
  rcases (by omega : j % 7 = 0 ∨ j % 7 = 1 ∨ j % 7 = 2 ∨ j % 7 = 3 ∨ j % 7 = 4 ∨ j % 7 = 5 ∨ j % 7 = 6) with h | h | h | h | h | h | h
  ·have e : j = 7 * (j / 7) := by omega
   rw [e,hat.1] at hu
   rw [show off + j = off + j / 7 * 7 by omega,h0]
   exact hu
  ·have e : j = 7 * (j / 7) + 1 := by omega
   rw [e,hat.2.1] at hu
   rw [show off + j = off + j / 7 * 7 + 1 by omega,h1]
   exact hu
  ·have e : j = 7 * (j / 7) + 2 := by omega
   rw [e,hat.2.2.1] at hu
   rw [show off + j = off + j / 7 * 7 + 2 by omega,h2]
   exact hu
  ·have e : j = 7 * (j / 7) + 3 := by omega
   rw [e,hat.2.2.2.1] at hu
   rw [show off + j = off + j / 7 * 7 + 3 by omega,h3]
   exact hu
  ·have e : j = 7 * (j / 7) + 4 := by omega
   rw [e,hat.2.2.2.2.1] at hu
   rw [show off + j = off + j / 7 * 7 + 4 by omega,h4]
   exact hu
  ·have e : j = 7 * (j / 7) + 5 := by omega
   rw [e,hat.2.2.2.2.2.1] at hu
   rw [show off + j = off + j / 7 * 7 + 5 by omega,h5]
   exact hu
  ·have e : j = 7 * (j / 7) + 6 := by omega
   rw [e,hat.2.2.2.2.2.2] at hu
   rw [show off + j = off + j / 7 * 7 + 6 by omega,h6]
   exact hu
end Go.Proofs.YthfjfccdelbkhaaGreatDoor
