/- Texts that stand in one: SkNewSpec, PolNewSpec, SkListsImpl, SkNewImpl, PolNewImpl, PolSizes, PrxNew. -/
import Derived.Test.YtaahjcljanckaaaGreatDoorSkStepJ
import Derived.Test.YtaahjcljanckaaaGreatDoorSumTabJ
import Derived.Test.YtaahjcljanckaaaGreatDoorSkLaw3J
import Derived.Test.YtaahjcljanckaaaGreatDoorSkFlatJ
import Derived.Test.YtaahjcljanckaaaGreatDoorCellPlainJ
import Derived.Test.YtaahjcljanckaaaGreatDoorPrxBaseJ
namespace Go.Proofs.YtaahjcljanckaaaGreatDoor
open Go.RowKit Go.Sort
theorem OwnSS.put_new {wr w4 : World} {lo G n c k : Nat} {v4 : Value} {LL : List (List Int)} {r : List Int} (h : OwnSS wr lo wr.heap.size (.slice (some ⟨G, 0,none⟩) n c) LL) (hk : k < LL.length) (hlo : lo ≤ wr.heap.size)
  (ho : OwnV w4 wr.heap.size 3 v4 (ints r)) (hg : (wr.alloc (.cells #[] 3)).grownBy w4 (some wr.heap.size)) :
  ∃ ua uc x,v4 = .slice ua r.length uc ∧ w4.cell? ⟨G,k,none⟩ = some x ∧ w4.frozen? ⟨G,k,none⟩ = false ∧ OwnSS (w4.setCell ⟨G,k,none⟩ (.slice ua r.length uc)) lo (w4.setCell ⟨G,k,none⟩ (.slice ua r.length uc)).heap.size (.slice (some ⟨G, 0,none⟩) n c) (LL.set k r) ∧ Below wr.heap.size wr w4 ∧ lo ≤ G ∧ G < wr.heap.size := by
 have hb : Below wr.heap.size wr w4 := ((Below.refl _ wr).alloc (Nat.le_refl _) _).grown hg (by simp) (fun k e => by cases e; exact Nat.le_refl _)
 obtain ⟨ua,uc,rfl,_⟩ := ho.ints
 obtain ⟨g1,cap1,x,hv,xc,xf,hg1,hg2,hput⟩ := (h.below hb (Nat.le_refl _)).put ho hlo k hk
 simp only [Value.slice.injEq,Option.some.injEq,Addr.mk.injEq,and_true] at hv
 obtain ⟨rfl,_,_⟩ := hv
 exact ⟨ua,uc,x,rfl,xc,xf,by simpa using hput,hb,hg1,hg2⟩
set_option maxRecDepth 100000 in
set_option maxHeartbeats 4000000 in
theorem lists_any (w : World) (rows : List (List Int)) (h3 : rows.length = 3) (h16 : All16 rows) :
  Calls Tryz.prog 62 #[.agg (ints rows.flatten).toArray] w fun e w' => ∃ v,e = .returned v ∧ OwnSS w' w.heap.size w'.heap.size v rows ∧ Below w.heap.size w w' := by
 obtain ⟨w1,hw1⟩ : ∃ x,w.alloc (.cells (ints rows.flatten).toArray 119) = x := ⟨_,rfl⟩
 have hb1 : Below w.heap.size w w1 := by rw [← hw1]; exact (Below.refl _ _).alloc (Nat.le_refl _) _
 have hR : RBox w1 w.heap.size rows := by rw [← hw1]; exact RBox.new _ _
 have s1 : w1.heap.size = w.heap.size + 1 := by rw [← hw1]; simp
 have HW : Hid (w.alloc (.cells (ints rows.flatten).toArray 119) = w1) := hw1
 obtain ⟨i0,hi,hz0,hz1,hz2⟩ := info_parts Tryz.infoIntS
 obtain ⟨w2,hmk,hown0,hgr0⟩ := run_make_full (P := Tryz.prog) w1 w1.heap.size 28 24 i0 (.slice none 0 0) 1 Tryz.underlying28 hi hz0 hz1 .i64 .i64 3 (by rw [hz2]; omega) (by unfold maxLen; omega) (Nat.le_refl _)
 have hb2 : Below w1.heap.size w1 w2 := ⟨hgr0.os,hgr0.tape,hgr0.output,hgr0.size,fun j hj => hgr0.block j hj (by simp)⟩
 obtain ⟨G,hG⟩ : ∃ G,w1.heap.size = G := ⟨_,rfl⟩
 have hown : OwnSS w2 G w2.heap.size (.slice (some ⟨G, 0,none⟩) 3 3) (List.replicate 3 []) := by
  rw [← hG]
  refine OwnSS.made ?_
  have := hown0
  rw [show (Value.slice none 0 0).cells = #[Value.slice none 0 0] from rfl,toList_madeCells_one,Nat.mul_one] at this
  unfold OwnV
  rw [List.length_replicate]
  exact this
 rw [hG] at hmk
 have hbw : Below w.heap.size w w2 := hb1.trans (hb2.mono hb1.size)
 have hR2 := hR.on hb2
 rw [← hw1,show ((3 : Nat) : Int) = 3 from rfl] at hmk
 have hGw : w.heap.size < G := by omega
 clear hown0 hgr0 hi hz0 hz1 hz2 hw1 hb1 hb2 hR s1
 go_enter Tryz.func62,Tryz.ntmps62
 go_wp2
 go_loopw [4, 6] (fun _ i wr => Box (∃ (k : Nat),k ≤ 3 ∧ i = .int .i64 k ∧ OwnSS wr G wr.heap.size (.slice (some ⟨G, 0,none⟩) 3 3) (rows.take k ++ List.replicate (rows.length - k) []) ∧ RBox wr w.heap.size rows ∧ Below w.heap.size w wr))
  (fun _ i _ => 3 - (intOf i).toNat)
 case atStart => exact ⟨⟨0,by omega,rfl,by simpa [h3] using hown,hR2,hbw⟩⟩
 case round =>
  obtain ⟨k,hk,rfl,hown1,hR1,hbel⟩ := hrel.out
  by_cases hlt : k < 3
  ·have hk3 : k < rows.length := by omega
   have hI := hR1.at h16 hk3
   have hl16 := all16_get h16 hk3
   have HL : Hid (k < (rows.take k ++ List.replicate (rows.length - k) ([] : List Int)).length) := by show _ < _; simp; omega
   have HF := fill_set rows [] k hk3
   obtain ⟨r,hrr⟩ : ∃ r,rows[k] = r := ⟨_,rfl⟩
   rw [hrr] at hI HF hl16
   have HF' : Hid ((rows.take k ++ List.replicate (rows.length - k) ([] : List Int)).set k r = rows.take (k + 1) ++ List.replicate (rows.length - (k + 1)) []) := HF
   have HLr : Hid (rows.length = 3 ∧ r.length = 16) := ⟨h3,hl16⟩
   have hGs : G ≤ wr.heap.size := by
    obtain ⟨vs,hv,hb,_⟩ := hown1
    have := hb G rfl
    omega
   have HN : Hid (∀ v4 w4,OwnV w4 wr.heap.size 3 v4 (ints r) → (wr.alloc (.cells #[] 3)).grownBy w4 (some wr.heap.size) → ∃ ua uc x,v4 = .slice ua r.length uc ∧ w4.cell? ⟨G,k,none⟩ = some x ∧ w4.frozen? ⟨G,k,none⟩ = false ∧ Hid (OwnSS (w4.setCell ⟨G,k,none⟩ (.slice ua r.length uc)) G (w4.setCell ⟨G,k,none⟩ (.slice ua r.length uc)).heap.size (.slice (some ⟨G, 0,none⟩) 3 3) (rows.take (k + 1) ++ List.replicate (rows.length - (k + 1)) []) ∧ RBox (w4.setCell ⟨G,k,none⟩ (.slice ua r.length uc)) w.heap.size rows ∧ Below w.heap.size w (w4.setCell ⟨G,k,none⟩ (.slice ua r.length uc)))) := by
    intro v4 w4 ho hg
    obtain ⟨ua,uc,x,e,xc,xf,hput,hb,_,_⟩ := hown1.put_new HL.out hGs ho hg
    rw [HF] at hput
    exact ⟨ua,uc,x,e,xc,xf,hput,(hR1.on hb).kept (Below.heap_setCell _ _ _ _ (show w.heap.size ≠ G by omega)),(hbel.trans (hb.mono hbel.size)).setCell (show w.heap.size ≤ G by omega) _⟩
   clear hrel hmk hown hR2 hbw HF HF' hrr hown1 hR1 hbel h3 hl16 HL
   have hi1 : (0 : Int) ≤ (k : Int) := by omega
   have hi2 : (k : Int) < 3 := by omega
   go_wp2_with (at_builtin; refine wpList_allI rfl (.tmp 11) (.tmp 14) 24 rfl wr.heap.size 3 Tryz.underlying24 Tryz.infoInt wr.heap.size rfl (own_empty wr) ⟨w.heap.size,k * 16,none⟩ 16 r _ (by rw [HLr.out.2]; rfl) (hI.alloc _) (by have := HLr.out.2; omega) (by simp) ?_; intro v4 w4 hown4 hgr4; obtain ⟨ua,uc,x4,rfl,xc,xf,HX⟩ := HN.out v4 w4 hown4 hgr4; clear hown4 hgr4)
   go_roundw
   case rel =>
    try ((repeat apply Exists.intro); refine ⟨?_,rfl⟩)
    exact ⟨⟨k + 1,by omega,by go_num,HX.out.1,HX.out.2.1,HX.out.2.2⟩⟩
   case measure => simp [intOf]; omega
  ·go_wp2_with fail
   go_ret
   have hke : k = rows.length := by omega
   subst hke
   simp only [List.take_length,Nat.sub_self,List.replicate_zero,List.append_nil] at hown1
   exact ⟨_,rfl,hown1.mono (by omega) (Nat.le_refl _),hbel⟩
set_option maxRecDepth 100000 in
set_option maxHeartbeats 4000000 in
theorem implSketchNew_any (w : World) :
  Calls Tryz.prog 35 #[] w fun e w' => ∃ v,e = .returned v ∧ SkOwn w' w.heap.size w'.heap.size v newS ∧ Below w.heap.size w w' := by
 obtain ⟨w1,hw1⟩ : ∃ x,w.alloc (.cells #[.slice none 0 0,.int .i64 0] 30) = x := ⟨_,rfl⟩
 have hb1 : Below w.heap.size w w1 := by rw [← hw1]; exact (Below.refl _ _).alloc (Nat.le_refl _) _
 have hR : SkBox w1 w.heap.size (.slice none 0 0) (.int .i64 0) := by rw [← hw1]; exact SkBox.new _ _ _
 have HW : Hid (w.alloc (.cells #[.slice none 0 0,.int .i64 0] 30) = w1) := hw1
 have c1 := lists_any w1 (List.replicate 3 (List.replicate 16 0)) rfl all16_zero
 clear hw1
 go_enter Tryz.func35,Tryz.ntmps35
 go_wp2_with fail
 rw [HW.out]
 refine c1.mono ?_
 rintro e w2 ⟨v,rfl,ho,hb2⟩
 obtain ⟨a,c,rfl,_⟩ := ho.at
 have hR2 := hR.on hb2
 have hbw := hb1.trans (hb2.mono hb1.size)
 obtain ⟨r0,r1⟩ := hR2.cells
 have f0 := hR2.thaw 0
 have f1 := hR2.thaw 1
 have HO : Hid (OwnSS w2 w1.heap.size w2.heap.size (.slice a 3 c) newS.rows) := ho
 rw [show (List.replicate 3 (List.replicate 16 (0 : Int))).length = 3 from rfl]
 clear c1 ho hR hb2 HW
 go_wp2_with fail
 obtain ⟨q0,q1⟩ := (hR2.put (.slice a 3 c) (.int .i64 0)).cells
 refine bodyPost_ret (v := .agg #[.slice a 3 c,.int .i64 0]) (by simp [results,Tryz.results35,go_sem,q0,q1]) rfl ⟨_,rfl,⟨_,rfl, ?_⟩,Below.put2 hbw (Nat.le_refl _) _ _⟩
 refine (HO.out.put2 hR2 _ _).mono hb1.size ?_
 simp
set_option maxRecDepth 100000 in
set_option maxHeartbeats 4000000 in
theorem implPolicyNew_any (w : World) :
  Calls Tryz.prog 18 #[] w fun e w' => ∃ v,e = .returned v ∧ POwn w' w.heap.size w'.heap.size v newP ∧ Below w.heap.size w w' := by
 obtain ⟨w1,hw1⟩ : ∃ x,w.alloc (.cells #[.slice none 0 0,.slice none 0 0,.slice none 0 0,.int .i64 0] 32) = x := ⟨_,rfl⟩
 have hb1 : Below w.heap.size w w1 := by rw [← hw1]; exact (Below.refl _ _).alloc (Nat.le_refl _) _
 have hR : PBox w1 w.heap.size (.slice none 0 0) (.slice none 0 0) (.slice none 0 0) (.int .i64 0) := by rw [← hw1]; exact PBox.new _ _ _ _ _
 have HW : Hid (w.alloc (.cells #[.slice none 0 0,.slice none 0 0,.slice none 0 0,.int .i64 0] 32) = w1) := hw1
 have c1 := implSketchNew_any w1
 clear hw1
 go_enter Tryz.func18,Tryz.ntmps18
 go_wp2_with fail
 rw [HW.out]
 refine c1.mono ?_
 rintro e w2 ⟨v,rfl,⟨u,rfl,ho⟩,hb2⟩
 obtain ⟨a,c,rfl,_⟩ := ho.at
 have hR2 := hR.on hb2
 have hbw := hb1.trans (hb2.mono hb1.size)
 obtain ⟨r0,r1,r2,r3⟩ := hR2.cells
 have f0 := hR2.thaw 0
 have f1 := hR2.thaw 1
 have f2 := hR2.thaw 2
 have f3 := hR2.thaw 3
 have HO : Hid (POwn w2 w1.heap.size w2.heap.size (.agg #[.slice none 0 0,.slice none 0 0,.slice a newS.rows.length c,.int .i64 0]) newP) := ⟨_,_,_,rfl,OwnV.nil _ _ _,OwnV.nil _ _ _,fun k hk => by simp [Value.ownBlock] at hk,fun k hk => by simp [Value.ownBlock] at hk,ho⟩
 obtain ⟨n,hn⟩ : ∃ n,newS.rows.length = n := ⟨_,rfl⟩
 have hz : newS.added = 0 := rfl
 rw [hn] at HO ⊢
 rw [hz]
 clear c1 ho hR hb2 HW hn hz
 go_wp2_with fail
 obtain ⟨q0,q1,q2,q3⟩ := (hR2.put (.slice none 0 0) (.slice none 0 0) (.slice a n c) (.int .i64 0)).cells
 refine bodyPost_ret (v := .agg #[.slice none 0 0,.slice none 0 0,.slice a n c,.int .i64 0]) (by simp [results,Tryz.results18,go_sem,q0,q1,q2,q3]) rfl ⟨_,rfl, ?_,Below.put4 hbw (Nat.le_refl _) _ _ _ _⟩
 refine (HO.out.put4 hR2 _ _ _ _).mono hb1.size ?_
 simp
end Go.Proofs.YtaahjcljanckaaaGreatDoor
namespace Go.Proofs.YtaahjcljanckaaaGreatDoor
open Go.RowKit
theorem wgtL_keys {l : List ByteArray} (h : ∀ z ∈ l,keyOk z = true) : wgtL l ≤ 30 * l.length := by
 induction l with
 | nil => simp [wgtL]
 | cons a r ih =>
  have h1 := ih (fun z hz => h z (List.mem_cons_of_mem _ hz))
  have h2 := h a (List.mem_cons_self ..)
  simp only [keyOk,decide_eq_true_eq] at h2
  simp only [wgtL,List.map_cons,List.sum_cons,List.length_cons] at h1 ⊢
  omega
theorem okP_wgt {P : Pol} (h : okP P = true) : wgtP P ≤ 300 := by
 obtain ⟨h1,h2,_,_,_,h6,h7,h8⟩ := okP_iff.1 h
 obtain ⟨a,b,c,e,ra,rb,rc,_,_⟩ := okK_parts h8
 have w1 := wgtL_keys h1
 have w2 := wgtL_keys h2
 have hl : P.sk.rows.length = 3 := by rw [e]; rfl
 have ht : tot P.sk.rows P.sk.rows.length = 48 := by
  rw [hl,e]
  simp [tot,rowOk_len ra,rowOk_len rb,rowOk_len rc]
 unfold wgtP
 omega
theorem okP_sz {P : Pol} (h : okP P = true) : PolSz P := by
 have := okP_wgt h
 unfold PolSz
 omega
end Go.Proofs.YtaahjcljanckaaaGreatDoor
namespace Go.Proofs.YtaahjcljanckaaaGreatDoor
open Go.RowKit Go.Sort
def newR : Prx := ⟨1, [],newP, [], [], 0⟩
set_option maxRecDepth 100000 in
set_option maxHeartbeats 4000000 in
theorem implProxyNew_any (w : World) :
  Calls Tryz.prog 7 #[] w fun e w' => ∃ X : Pc,e = .returned (.agg #[.int .i64 newR.now,X.e,X.w,X.m,X.k,.int .i64 newR.pol.sk.added,X.f,X.c,.int .i64 newR.hits]) ∧ PxOwn w' w.heap.size w'.heap.size X newR ∧ Below w.heap.size w w' := by
 obtain ⟨w1,hw1⟩ : ∃ x,w.alloc (.cells #[.int .i64 0,.slice none 0 0,.slice none 0 0,.slice none 0 0,.slice none 0 0,.int .i64 0,.slice none 0 0,.slice none 0 0,.int .i64 0] 36) = x := ⟨_,rfl⟩
 have hb1 : Below w.heap.size w w1 := by rw [← hw1]; exact (Below.refl _ _).alloc (Nat.le_refl _) _
 have hR : NB w1 w.heap.size 36 (.int .i64 0) (.slice none 0 0) (.slice none 0 0) (.slice none 0 0) (.slice none 0 0) (.int .i64 0) (.slice none 0 0) (.slice none 0 0) (.int .i64 0) := by rw [← hw1]; exact NB.new _ _ _ _ _ _ _ _ _ _ _
 have HW : Hid (w.alloc (.cells #[.int .i64 0,.slice none 0 0,.slice none 0 0,.slice none 0 0,.slice none 0 0,.int .i64 0,.slice none 0 0,.slice none 0 0,.int .i64 0] 36) = w1) := hw1
 have c1 := implPolicyNew_any w1
 clear hw1
 go_enter Tryz.func7,Tryz.ntmps7
 go_wp2_with fail
 rw [HW.out]
 refine c1.mono ?_
 rintro e w2 ⟨v,rfl,ho,hb2⟩
 obtain ⟨aw,cw,am,cm,ak,ck,rfl,_⟩ := ho.at
 obtain ⟨nw,hnw⟩ : ∃ n,newP.win.length = n := ⟨_,rfl⟩
 obtain ⟨nm,hnm⟩ : ∃ n,newP.main.length = n := ⟨_,rfl⟩
 obtain ⟨nk,hnk⟩ : ∃ n,newP.sk.rows.length = n := ⟨_,rfl⟩
 rw [hnw,hnm,hnk] at ho ⊢
 clear hnw hnm hnk
 have hR2 := hR.on hb2
 have hbw := hb1.trans (hb2.mono hb1.size)
 obtain ⟨r0,r1,r2,r3,r4,r5,r6,r7,r8⟩ := hR2.cells
 have f0 := hR2.thaw 0
 have f1 := hR2.thaw 1
 have f2 := hR2.thaw 2
 have f3 := hR2.thaw 3
 have f4 := hR2.thaw 4
 have f5 := hR2.thaw 5
 have f6 := hR2.thaw 6
 have f7 := hR2.thaw 7
 have f8 := hR2.thaw 8
 have hz : newP.sk.added = 0 := rfl
 have HO : Hid (PxOwn w2 w1.heap.size w2.heap.size ⟨.slice none 0 0,.slice aw nw cw,.slice am nm cm,.slice ak nk ck,.slice none 0 0,.slice none 0 0⟩ newR) := ⟨ownN_nil _ _ _,ho,OwnFet.nil _ _ _,OwnCli.nil _ _ _,fun k hk => by simp [Value.ownBlock] at hk,fun k hk => by simp [Value.ownBlock] at hk,fun k hk => by simp [Value.ownBlock] at hk⟩
 rw [hz]
 clear c1 ho hR hb2 HW hz
 go_wp2_with fail
 obtain ⟨q0,q1,q2,q3,q4,q5,q6,q7,q8⟩ := (hR2.put (.int .i64 1) (.slice none 0 0) (.slice aw nw cw) (.slice am nm cm) (.slice ak nk ck) (.int .i64 0) (.slice none 0 0) (.slice none 0 0) (.int .i64 0)).cells
 refine bodyPost_ret (v := .agg #[.int .i64 1,.slice none 0 0,.slice aw nw cw,.slice am nm cm,.slice ak nk ck,.int .i64 0,.slice none 0 0,.slice none 0 0,.int .i64 0]) (by simp [results,Tryz.results7,go_sem,q0,q1,q2,q3,q4,q5,q6,q7,q8]) rfl ⟨⟨.slice none 0 0,.slice aw nw cw,.slice am nm cm,.slice ak nk ck,.slice none 0 0,.slice none 0 0⟩,rfl, ?_,Below.put9 hbw (Nat.le_refl _) _ _ _ _ _ _ _ _ _⟩
 refine (HO.out.box hR2 (by unfold PxT; decide) fun k hk => put9_other _ _ _ _ _ _ _ _ _ _ _ k hk).mono hb1.size ?_
 simp
end Go.Proofs.YtaahjcljanckaaaGreatDoor
