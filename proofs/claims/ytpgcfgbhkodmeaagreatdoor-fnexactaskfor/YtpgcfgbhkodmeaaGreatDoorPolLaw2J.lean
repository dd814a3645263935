/- Texts that stand in one: PolLaw2, PolMark, PolMark2, PolVar, VarPlain. -/
import Derived.Test.YtpgcfgbhkodmeaaGreatDoorSkLaw3J
import Derived.Test.YtpgcfgbhkodmeaaGreatDoorSumPlainJ
namespace Go.Proofs.YtpgcfgbhkodmeaaGreatDoor
open Go.RowKit Go.Sort
set_option maxHeartbeats 4000000 in
theorem toPolicy_any (w : World) (aw am ak : Option Addr) (cw cm ck : Nat) (P : Pol) (hA : PolAt w aw am ak P w.heap.size) (hm : PolSz P) :
  Calls Tryz.prog 52 #[.agg #[.slice aw P.win.length cw,.slice am P.main.length cm,.slice ak P.sk.rows.length ck,.int .i64 P.sk.added]] w fun e w' => ∃ v,e = .returned v ∧ POwn w' w.heap.size w'.heap.size v P ∧ Below w.heap.size w w' := by
 obtain ⟨l1,l2,l3⟩ := hm.parts
 obtain ⟨w0,hw0⟩ : ∃ x,w.alloc (.cells #[.slice aw P.win.length cw,.slice am P.main.length cm,.slice ak P.sk.rows.length ck,.int .i64 P.sk.added] 28) = x := ⟨_,rfl⟩
 obtain ⟨w1,hw1⟩ : ∃ x,w0.alloc (.cells #[.slice none 0 0,.slice none 0 0,.slice none 0 0,.int .i64 0] 44) = x := ⟨_,rfl⟩
 obtain ⟨w2,hw2⟩ : ∃ x,w1.alloc (.cells #[.slice none 0 0,.slice none 0 0,.slice none 0 0,.int .i64 0] 44) = x := ⟨_,rfl⟩
 have hb0 : Below w.heap.size w w0 := by rw [← hw0]; exact (Below.refl _ _).alloc (Nat.le_refl _) _
 have hb1 : Below w0.heap.size w0 w1 := by rw [← hw1]; exact (Below.refl _ _).alloc (Nat.le_refl _) _
 have hb2 : Below w1.heap.size w1 w2 := by rw [← hw2]; exact (Below.refl _ _).alloc (Nat.le_refl _) _
 have s0 : w0.heap.size = w.heap.size + 1 := by rw [← hw0]; simp
 have s1 : w1.heap.size = w.heap.size + 2 := by rw [← hw1]; simp; omega
 have s2 : w2.heap.size = w.heap.size + 3 := by rw [← hw2]; simp; omega
 have hb12 : Below w0.heap.size w0 w2 := hb1.trans (hb2.mono hb1.size)
 have hbw : Below w.heap.size w w2 := hb0.trans (hb12.mono hb0.size)
 have hB : QBox w2 w.heap.size (.slice aw P.win.length cw) (.slice am P.main.length cm) (.slice ak P.sk.rows.length ck) (.int .i64 P.sk.added) := by
  have h : QBox w0 w.heap.size (.slice aw P.win.length cw) (.slice am P.main.length cm) (.slice ak P.sk.rows.length ck) (.int .i64 P.sk.added) := by rw [← hw0]; exact QBox.new _ _ _ _ _
  exact h.on hb12
 have hR : PBox w2 (w.heap.size + 1) (.slice none 0 0) (.slice none 0 0) (.slice none 0 0) (.int .i64 0) := by
  have h : PBox w1 (w.heap.size + 1) (.slice none 0 0) (.slice none 0 0) (.slice none 0 0) (.int .i64 0) := by rw [← hw1, ← s0]; exact PBox.new _ _ _ _ _
  exact h.on hb2
 have hT : PBox w2 (w.heap.size + 2) (.slice none 0 0) (.slice none 0 0) (.slice none 0 0) (.int .i64 0) := by rw [← hw2, ← s1]; exact PBox.new _ _ _ _ _
 have HW : Hid (((w.alloc (.cells #[.slice aw P.win.length cw,.slice am P.main.length cm,.slice ak P.sk.rows.length ck,.int .i64 P.sk.added] 28)).alloc (.cells #[.slice none 0 0,.slice none 0 0,.slice none 0 0,.int .i64 0] 44)).alloc (.cells #[.slice none 0 0,.slice none 0 0,.slice none 0 0,.int .i64 0] 44) = w2) := by rw [hw0,hw1]; exact hw2
 obtain ⟨b0,b1,b2,b3⟩ := hB.cells
 have hA2 := hA.on hbw
 have c1 := toStringS_any w2 aw cw P.win hA2.1 l1
 rw [← hw2, ← hw1, ← hw0] at b0 b1 b2 b3
 have HS2 : Hid (w2.heap.size = w.heap.size + 3) := s2
 clear hw0 hw1 hw2 s0 s1 s2 hb0 hb1 hb2 hb12
 go_enter Tryz.func52,Tryz.ntmps52
 go_wp2_with fail
 rw [HW.out] at b0 b1 b2 b3 ⊢
 refine c1.mono ?_
 rintro e w3 ⟨v3,rfl,ho3,hb3⟩
 clear b0 b1 b2 b3 c1
 obtain ⟨a3,k3,rfl,_⟩ := ho3.strsAt
 have hbw3 := hbw.trans (hb3.mono hbw.size)
 have hT3 := hT.on hb3
 obtain ⟨t0,t1,t2,t3⟩ := hT3.cells
 have f0 := hT3.thaw 0
 obtain ⟨w4,hw4⟩ : ∃ x,w3.setCell ⟨w.heap.size + 2, 0,none⟩ (.slice a3 P.win.length k3) = x := ⟨_,rfl⟩
 have k4 : ∀ k,k ≠ w.heap.size + 2 → w4.heap[k]? = w3.heap[k]? := fun k hk => by rw [← hw4]; exact Below.heap_setCell _ _ _ _ (by exact hk)
 have z4 : w4.heap.size = w3.heap.size := by rw [← hw4]; simp
 have hT4 : PBox w4 (w.heap.size + 2) (.slice a3 P.win.length k3) (.slice none 0 0) (.slice none 0 0) (.int .i64 0) := by rw [← hw4]; exact hT3.set0 _
 have hB4 := (hB.on hb3).kept (k4 w.heap.size (by omega))
 have hR4 := (hR.on hb3).kept (k4 (w.heap.size + 1) (by omega))
 have hbw4 : Below w.heap.size w w4 := by rw [← hw4]; exact hbw3.setCell (by show w.heap.size ≤ w.heap.size + 2; omega) _
 have ho4 : OwnV w4 w2.heap.size 9 (.slice a3 P.win.length k3) (strs P.win) := ho3.kept fun k hk => k4 k (by have := (ho3.lt k hk).1; have := HS2.out; omega)
 obtain ⟨b0,b1,b2,b3⟩ := hB4.cells
 have c2 := toStringS_any w4 am cm P.main (hA.on hbw4).2.1 l2
 have HW4 : Hid (w3.setCell ⟨w.heap.size + 2, 0,none⟩ (.slice a3 P.win.length k3) = w4) := hw4
 have HO4 : Hid (OwnV w4 w2.heap.size 9 (.slice a3 P.win.length k3) (strs P.win)) := ho4
 have HZ4 : Hid (w2.heap.size ≤ w3.heap.size ∧ w4.heap.size = w3.heap.size) := ⟨hb3.size,z4⟩
 rw [← hw4] at b0 b1 b2 b3
 clear hw4 k4 z4 ho3 ho4 hT hB hR hT3 hbw3 hb3 hA2
 go_wp2_with fail
 rw [HW4.out] at b0 b1 b2 b3 ⊢
 clear t0 t1 t2 t3 f0
 refine c2.mono ?_
 rintro e w5 ⟨v5,rfl,ho5,hb5⟩
 clear b0 b1 b2 b3 c2
 obtain ⟨a5,k5,rfl,_⟩ := ho5.strsAt
 have hbw5 := hbw4.trans (hb5.mono hbw4.size)
 have hT5 := hT4.on hb5
 obtain ⟨t0,t1,t2,t3⟩ := hT5.cells
 have f0 := hT5.thaw 1
 obtain ⟨w6,hw6⟩ : ∃ x,w5.setCell ⟨w.heap.size + 2, 1,none⟩ (.slice a5 P.main.length k5) = x := ⟨_,rfl⟩
 have k6 : ∀ k,k ≠ w.heap.size + 2 → w6.heap[k]? = w5.heap[k]? := fun k hk => by rw [← hw6]; exact Below.heap_setCell _ _ _ _ (by exact hk)
 have z6 : w6.heap.size = w5.heap.size := by rw [← hw6]; simp
 have hT6 : PBox w6 (w.heap.size + 2) (.slice a3 P.win.length k3) (.slice a5 P.main.length k5) (.slice none 0 0) (.int .i64 0) := by rw [← hw6]; exact hT5.set1 _
 have hB6 := (hB4.on hb5).kept (k6 w.heap.size (by omega))
 have hR6 := (hR4.on hb5).kept (k6 (w.heap.size + 1) (by omega))
 have hbw6 : Below w.heap.size w w6 := by rw [← hw6]; exact hbw5.setCell (by show w.heap.size ≤ w.heap.size + 2; omega) _
 have HO6 : Hid (OwnV w6 w2.heap.size 9 (.slice a3 P.win.length k3) (strs P.win)) := (HO4.out.below hb5 (Nat.le_refl _)).kept fun k hk => k6 k (by have := (HO4.out.lt k hk).1; have := HS2.out; omega)
 have HM6 : Hid (OwnV w6 w4.heap.size 9 (.slice a5 P.main.length k5) (strs P.main)) := ho5.kept fun k hk => k6 k (by have := (ho5.lt k hk).1; have := HS2.out; have := HZ4.out; omega)
 have HZ6 : Hid (w4.heap.size ≤ w6.heap.size) := by show _ ≤ _; rw [z6]; exact hb5.size
 have HN : Hid (∀ k,(Value.slice a3 P.win.length k3).ownBlock = some k → (Value.slice a5 P.main.length k5).ownBlock ≠ some k) := fun k hk he => by
  have := (HO4.out.lt k hk).2
  have := (ho5.lt k he).1
  omega
 obtain ⟨b0,b1,b2,b3⟩ := hB6.cells
 have c3 := toSketch_any w6 ak ck P.sk (hA.on hbw6).2.2 l3
 have HW6 : Hid (w5.setCell ⟨w.heap.size + 2, 1,none⟩ (.slice a5 P.main.length k5) = w6) := hw6
 rw [← hw6] at b0 b1 b2 b3
 clear hw6 k6 z6 ho5 hT4 hB4 hR4 hT5 hbw5 hb5 hbw4 HO4
 go_wp2_with fail
 rw [HW6.out] at b0 b1 b2 b3 ⊢
 clear t0 t1 t2 t3 f0
 refine c3.mono ?_
 rintro e w7 ⟨v7,rfl,⟨u7,rfl,ho7⟩,hb7⟩
 clear b0 b1 b2 b3 c3
 obtain ⟨a7,k7,rfl,_⟩ := ho7.at
 have hbw7 := hbw6.trans (hb7.mono hbw6.size)
 have hT7 := hT6.on hb7
 have hR7 := hR6.on hb7
 have HO7 : Hid (OwnV w7 w2.heap.size 9 (.slice a3 P.win.length k3) (strs P.win)) := HO6.out.below hb7 (Nat.le_refl _)
 have HM7 : Hid (OwnV w7 w4.heap.size 9 (.slice a5 P.main.length k5) (strs P.main)) := HM6.out.below hb7 (Nat.le_refl _)
 have HP : Hid (POwn w7 w2.heap.size w7.heap.size (.agg #[.slice a3 P.win.length k3,.slice a5 P.main.length k5,(.slice a7 P.sk.rows.length k7),.int .i64 P.sk.added]) P) :=
  ⟨_,_,_,rfl,HO7.out,HM7.out.mono (by have := HZ4.out; omega),fun k hk => ⟨(HO7.out.lt k hk).2,HN.out k hk⟩,fun k hk => (HM7.out.lt k hk).2,ho7.mono (by have := HZ4.out; have := HZ6.out; omega) (Nat.le_refl _)⟩
 obtain ⟨t0,t1,t2,t3⟩ := hT7.cells
 have f2 := hT7.thaw 2
 have hT8 := hT7.set2 (.slice a7 P.sk.rows.length k7)
 have t3' := hT8.cells.2.2.2
 have f3 := hT8.thaw 3
 have hT9 := hT8.set3 (.int .i64 P.sk.added)
 obtain ⟨y0,y1,y2,y3⟩ := hT9.cells
 have hR9 := (hR7.far 2 (.slice a7 P.sk.rows.length k7) (show w.heap.size + 1 ≠ w.heap.size + 2 by omega)).far 3 (.int .i64 P.sk.added) (show w.heap.size + 1 ≠ w.heap.size + 2 by omega)
 obtain ⟨r0,r1,r2,r3⟩ := hR9.cells
 have g0 := hR9.thaw 0
 have g1 := hR9.thaw 1
 have g2 := hR9.thaw 2
 have g3 := hR9.thaw 3
 have HP9 : Hid (POwn ((w7.setCell ⟨w.heap.size + 2, 2,none⟩ (.slice a7 P.sk.rows.length k7)).setCell ⟨w.heap.size + 2, 3,none⟩ (.int .i64 P.sk.added)) w2.heap.size w7.heap.size (.agg #[.slice a3 P.win.length k3,.slice a5 P.main.length k5,(.slice a7 P.sk.rows.length k7),.int .i64 P.sk.added]) P) := HP.out.box hT7 fun k hk => (Below.heap_setCell _ _ _ _ (by exact hk)).trans (Below.heap_setCell _ _ _ _ (by exact hk))
 have hbw9 : Below w.heap.size w ((w7.setCell ⟨w.heap.size + 2, 2,none⟩ (.slice a7 P.sk.rows.length k7)).setCell ⟨w.heap.size + 2, 3,none⟩ (.int .i64 P.sk.added)) := (hbw7.setCell (by show w.heap.size ≤ w.heap.size + 2; omega) _).setCell (by show w.heap.size ≤ w.heap.size + 2; omega) _
 clear ho7 hT6 hB6 hR6 hT8 hT9 hR7 HO6 HM6 HO7 HM7 HN HP HZ6 HZ4 hA hb7
 go_wp2_with fail
 obtain ⟨q0,q1,q2,q3⟩ := (hR9.put (.slice a3 P.win.length k3) (.slice a5 P.main.length k5) (.slice a7 P.sk.rows.length k7) (.int .i64 P.sk.added)).cells
 refine bodyPost_ret (v := .agg #[.slice a3 P.win.length k3,.slice a5 P.main.length k5,(.slice a7 P.sk.rows.length k7),.int .i64 P.sk.added]) (by simp [results,Tryz.results52,go_sem,q0,q1,q2,q3]) rfl ⟨_,rfl, ?_,Below.put4 hbw9 (by omega) _ _ _ _⟩
 refine (HP9.out.put4 hR9 _ _ _ _).mono (by have := HS2.out; omega) ?_
 simp
set_option maxHeartbeats 1000000 in
theorem markIntSS_fine (w : World) (lo hi : Nat) (a : Option Addr) (cap : Nat) (LL : List (List Int)) (k : Nat) (hO : OwnSS w lo hi (.slice a LL.length cap) LL) (hl : LL.length + tot LL LL.length ≤ 1048576) (hk : k ≤ 10000000) (hh : hi ≤ w.heap.size) :
  Calls Tryz.prog 190 #[.slice a LL.length cap,.int .i64 k] w fun e w' => e = .returned (.int .i64 ((k + tot LL LL.length : Nat) : Int)) ∧ (∃ MM,MarkSS k LL MM LL.length ∧ OwnSS w' lo hi (.slice a LL.length cap) MM) ∧ Tch (fun b => lo ≤ b ∧ b < hi ∧ ∃ cs,w.heap[b]? = some (.cells cs 3 (0, 0))) w w' := by
 go_enter Tryz.func190,Tryz.ntmps190
 go_wp2
 go_loopw [1, 5] (fun n i wr => Box (∃ (j : Nat) (MM : List (List Int)),Hid (MarkSS k LL MM j) ∧ j ≤ LL.length ∧ i = .int .i64 j ∧ n = .int .i64 ((k + tot LL j : Nat) : Int) ∧ OwnSS wr lo hi (.slice a LL.length cap) MM ∧ Tch (fun b => lo ≤ b ∧ b < hi ∧ ∃ cs,w.heap[b]? = some (.cells cs 3 (0, 0))) w wr))
  (fun _ i _ => LL.length - (intOf i).toNat)
 case atStart => exact ⟨⟨0,LL,⟨rfl,fun i m h => by omega⟩,by omega,rfl,by rw [tot_zero]; rfl,hO,Tch.of_below (Below.refl _ _)⟩⟩
 case round =>
  obtain ⟨j,MM,HM,hj,rfl,rfl,hown,ht⟩ := hrel.out
  by_cases hlt : j < LL.length
  ·have hML : MM.length = LL.length := by have := congrArg List.length HM.out.1; simpa using this
   have hjm : j < MM.length := by omega
   have hlj : MM[j].length = LL[j].length := by
    have := congrArg (·[j]?) HM.out.1
    simp only [List.getElem?_map,List.getElem?_eq_getElem hjm,List.getElem?_eq_getElem hlt,Option.map_some,Option.some.injEq] at this
    exact this
   obtain ⟨g,cap',u,hv,_,hgs,hc,ho,hub,hput⟩ := hown.row j hjm
   simp only [Value.slice.injEq] at hv
   obtain ⟨rfl,e1,e2⟩ := hv
   clear e1 e2
   have hta := tot_at LL j hlt
   have HT : Hid (tot LL (j + 1) = tot LL j + LL[j].length) := tot_succ LL j hlt
   have c := markI_any wr lo u MM[j] (k + tot LL j) ho (by omega) (by omega)
   rw [hlj] at c
   have HP : Hid (∀ w' m,wr.grownBy w' u.ownBlock → OwnV w' lo 3 u (ints m) → OwnSS w' lo hi (.slice (some ⟨g, 0,none⟩) LL.length cap) (MM.set j m)) := hput
   have HU : Hid (∀ q,u.ownBlock = some q → lo ≤ q ∧ q < hi ∧ ∃ cs,w.heap[q]? = some (.cells cs 3 (0, 0))) := fun q hq => by
    obtain ⟨q1,q2⟩ := hub q hq
    obtain ⟨cs,hcs⟩ := ownV_type ho q hq
    by_cases hS : ∃ cs,w.heap[q]? = some (.cells cs 3 (0, 0))
    ·exact ⟨q1,q2,hS⟩
    ·exact absurd ⟨cs,(ht.2 q (by omega) (fun e => hS e.2.2)).symm.trans hcs⟩ hS
   have HTC : Hid (Tch (fun b => lo ≤ b ∧ b < hi ∧ ∃ cs,w.heap[b]? = some (.cells cs 3 (0, 0))) w wr) := ht
   have HLJ : Hid (MM[j].length = LL[j].length ∧ MM.length = LL.length) := ⟨hlj,hML⟩
   obtain ⟨r,hr⟩ : ∃ r,LL[j].length = r := ⟨_,rfl⟩
   rw [hr] at c HT hta
   have HR : Hid (LL[j].length = r) := hr
   obtain ⟨K,hK⟩ : ∃ K,k + tot LL j = K := ⟨_,rfl⟩
   rw [hK] at c ⊢
   have HK : Hid (k + tot LL j = K) := hK
   have hKr : K + r ≤ 100000000 := by omega
   clear hrel hO hown ht ho hub hput hlj hML hr hK hta
   have hi1 : (0 : Int) ≤ (j : Int) := by omega
   have hi2 : (j : Int) < (LL.length : Int) := by omega
   go_wp2_with fail
   refine c.mono ?_
   rintro e w1 ⟨rfl,⟨m,hml,hmk,hom⟩,hgr⟩
   have HX : Hid (MarkSS k LL (MM.set j m) (j + 1) ∧ OwnSS w1 lo hi (.slice (some ⟨g, 0,none⟩) LL.length cap) (MM.set j m) ∧ Tch (fun b => lo ≤ b ∧ b < hi ∧ ∃ cs,w.heap[b]? = some (.cells cs 3 (0, 0))) w w1) := by
    refine ⟨⟨?_, ?_⟩,HP.out w1 m hgr hom,HTC.out.trans (Tch.of_grown hgr fun q hq => HU.out q hq)⟩
    ·rw [List.map_set,HM.out.1,hml, ← HR.out]
     apply List.ext_getElem?
     intro i
     by_cases hij : j = i
     ·subst hij
      rw [List.getElem?_set_self (by simpa using hlt),List.getElem?_map,List.getElem?_eq_getElem hlt]
      rfl
     ·rw [List.getElem?_set_ne hij]
    ·intro i x hi' hx
     by_cases hij : j = i
     ·subst hij
      rw [List.getElem?_set_self hjm] at hx
      cases hx
      rw [HK.out,hml]
      exact hmk
     ·rw [List.getElem?_set_ne hij] at hx
      exact HM.out.2 i x (by omega) hx
   have HE : Hid ((K : Int) + (r : Int) = ((k + tot LL (j + 1) : Nat) : Int)) := by show _ = _; rw [HT.out, ← HK.out]; omega
   clear c hmk hom hgr hml HP HU HTC
   go_wp2_with fail
   go_roundw
   case rel =>
    try ((repeat apply Exists.intro); refine ⟨?_,rfl⟩)
    exact ⟨⟨j + 1,_,HX.out.1,by omega,by go_num,by rw [HE.out],HX.out.2.1,HX.out.2.2⟩⟩
   case measure => simp [intOf]; omega
  ·go_wp2_with fail
   go_ret
   have hje : j = LL.length := by omega
   subst hje
   exact ⟨rfl,⟨MM,HM.out,hown⟩,ht⟩
set_option maxHeartbeats 1000000 in
theorem markSketch_fine (w : World) (lo hi : Nat) (a : Option Addr) (c : Nat) (S : Sk) (k : Nat) (hO : OwnSS w lo hi (.slice a S.rows.length c) S.rows) (hm : SkSz S) (hk : k ≤ 10000000) (hh : hi ≤ w.heap.size) :
  Calls Tryz.prog 139 #[.agg #[.slice a S.rows.length c,.int .i64 S.added],.int .i64 k] w fun e w' => e = .returned (.int .i64 ((k + tot S.rows S.rows.length : Nat) : Int)) ∧ (∃ MM,MarkSS k S.rows MM S.rows.length ∧ OwnSS w' lo hi (.slice a S.rows.length c) MM) ∧ Tch (fun b => lo ≤ b ∧ b < hi ∧ ∃ cs,w.heap[b]? = some (.cells cs 3 (0, 0))) w w' := by
 obtain ⟨rows,added⟩ := S
 unfold SkSz at hm
 dsimp only at *
 obtain ⟨w1,hw1⟩ : ∃ x,w.alloc (.cells #[.slice a rows.length c,.int .i64 added] 42) = x := ⟨_,rfl⟩
 have hb1 : Below w.heap.size w w1 := by rw [← hw1]; exact (Below.refl _ _).alloc (Nat.le_refl _) _
 have hB : SkBox w1 w.heap.size (.slice a rows.length c) (.int .i64 added) := by rw [← hw1]; exact SkBox.new _ _ _
 have c1 := markIntSS_fine w1 lo hi a c rows k (hO.below hb1 (Nat.le_refl _)) hm hk (Nat.le_trans hh hb1.size)
 obtain ⟨b0,b1⟩ := hB.cells
 have HW : Hid (w.alloc (.cells #[.slice a rows.length c,.int .i64 added] 42) = w1) := hw1
 rw [← hw1] at b0 b1
 clear hw1 hO hB
 obtain ⟨K,hK⟩ : ∃ K,k + tot rows rows.length = K := ⟨_,rfl⟩
 rw [hK] at c1 ⊢
 clear hK
 go_enter Tryz.func139,Tryz.ntmps139
 go_wp2_with fail
 rw [HW.out] at b0 b1 ⊢
 refine c1.mono ?_
 rintro e w2 ⟨rfl,hM,ht⟩
 have HR : Hid ((∃ MM,MarkSS k rows MM rows.length ∧ OwnSS w2 lo hi (.slice a rows.length c) MM) ∧ Tch (fun b => lo ≤ b ∧ b < hi ∧ ∃ cs,w.heap[b]? = some (.cells cs 3 (0, 0))) w w2) := ⟨hM,(Tch.of_below hb1).trans (ht.weak fun q hq => ⟨hq.1,hq.2.1,by obtain ⟨cs,e⟩ := hq.2.2; exact ⟨cs,(hb1.block q (Nat.lt_of_lt_of_le hq.2.1 hh)).symm.trans e⟩⟩)⟩
 clear c1 hM ht b0 b1
 go_wp2_with fail
 go_ret
 exact ⟨rfl,HR.out⟩
theorem OwnSS.past9 {w w' : World} {lo hi lo' : Nat} {v u : Value} {LL : List (List Int)} {xs : List Value} (h : OwnSS w lo hi v LL) (hu : OwnV w lo' 9 u xs) (hg : w.grownBy w' u.ownBlock) : OwnSS w' lo hi v LL :=
 h.kept fun k _ _ hk hty => hg.block k hk (fun e => by
  obtain ⟨cs,hcs⟩ := ownV_type hu k e.symm
  rcases hty _ hcs with ⟨cs',e'⟩ | ⟨cs',e'⟩
  ·simp at e'
  ·simp at e')
theorem ownV_not3 {w : World} {lo k : Nat} {u : Value} {xs : List Value} (hu : OwnV w lo 9 u xs) (hk : u.ownBlock = some k) : ¬ ∃ cs,w.heap[k]? = some (.cells cs 3 (0, 0)) := fun ⟨cs,e⟩ => by
 obtain ⟨cs',hcs⟩ := ownV_type hu k hk
 rw [e] at hcs
 simp at hcs
def PMk (w : World) (lo hi : Nat) (v1 v2 v3 : Value) (P : Pol) (k : Nat) : Prop :=
 OwnV w lo 9 v1 (marks k P.win.length) ∧ OwnV w lo 9 v2 (marks (k + P.win.length) P.main.length) ∧ (∀ q,v1.ownBlock = some q → q < hi ∧ v2.ownBlock ≠ some q) ∧ (∀ q,v2.ownBlock = some q → q < hi) ∧ ∃ MM,MarkSS (k + P.win.length + P.main.length) P.sk.rows MM P.sk.rows.length ∧ OwnSS w lo hi v3 MM
theorem PMk.below {w w' : World} {B lo hi : Nat} {v1 v2 v3 : Value} {P : Pol} {k : Nat} (h : PMk w lo hi v1 v2 v3 P k) (hb : Below B w w') (hB : w.heap.size ≤ B) : PMk w' lo hi v1 v2 v3 P k := by
 obtain ⟨a1,a2,a3,a4,MM,a5,a6⟩ := h
 exact ⟨a1.below hb hB,a2.below hb hB,a3,a4,MM,a5,a6.below hb hB⟩
theorem POwn.lies {w : World} {lo hi : Nat} {aw am ak : Option Addr} {cw cm ck : Nat} {P : Pol} (h : POwn w lo hi (.agg #[.slice aw P.win.length cw,.slice am P.main.length cm,.slice ak P.sk.rows.length ck,.int .i64 P.sk.added]) P) : PolAt w aw am ak P w.heap.size := by
 obtain ⟨a1,c1,a2,c2,a3,c3,e,hA⟩ := h.at
 simp only [Value.agg.injEq,Array.mk.injEq,List.cons.injEq,and_true,Value.slice.injEq,true_and] at e
 obtain ⟨⟨rfl,rfl⟩,⟨rfl,rfl⟩,rfl,rfl⟩ := e
 exact hA
end Go.Proofs.YtpgcfgbhkodmeaaGreatDoor
namespace Go.Proofs.YtpgcfgbhkodmeaaGreatDoor
open Go.RowKit
def inB (x a b : Int) : Bool := decide (a ≤ x) && decide (x ≤ b)
theorem inB_yes {x a b : Int} (h1 : a ≤ x) (h2 : x ≤ b) : inB x a b = true := by simp [inB,h1,h2]
theorem inB_no {x a b : Int} (h : ¬ (a ≤ x ∧ x ≤ b)) : inB x a b = false := by simp [inB]; omega
end Go.Proofs.YtpgcfgbhkodmeaaGreatDoor
