/- Texts that stand in one: PolLaw2, PolMark, PolMark2, PolVar, VarPlain. -/
import Derived.Test.YthfjfccdelbkhaaGreatDoorSkLaw3J
import Derived.Test.YthfjfccdelbkhaaGreatDoorSkBaseJ
namespace Go.Proofs.YthfjfccdelbkhaaGreatDoor
open Go.RowKit Go.Sort
set_option maxHeartbeats 1000000 in
theorem markIntSS_fine (w : World) (lo hi : Nat) (a : Option Addr) (cap : Nat) (LL : List (List Int)) (k : Nat) (hO : OwnSS w lo hi (.slice a LL.length cap) LL) (hl : LL.length + tot LL LL.length ≤ 1048576) (hk : k ≤ 10000000) (hh : hi ≤ w.heap.size) :
  Calls Tryz.prog 83 #[.slice a LL.length cap,.int .i64 k] w fun e w' => e = .returned (.int .i64 ((k + tot LL LL.length : Nat) : Int)) ∧ (∃ MM,MarkSS k LL MM LL.length ∧ OwnSS w' lo hi (.slice a LL.length cap) MM) ∧ Tch (fun b => lo ≤ b ∧ b < hi ∧ ∃ cs,w.heap[b]? = some (.cells cs 3 (0, 0))) w w' := by
 go_enter Tryz.func83,Tryz.ntmps83
 go_wp2
 go_loopw [1, 5] (fun n i wr => Box (∃ (j : Nat) (MM : List (List Int)),Hid (MarkSS k LL MM j) ∧ j ≤ LL.length ∧ i = .int .i64 j ∧ n = .int .i64 ((k + tot LL j : Nat) : Int) ∧ OwnSS wr lo hi (.slice a LL.length cap) MM ∧ Tch (fun b => lo ≤ b ∧ b < hi ∧ ∃ cs,w.heap[b]? = some (.cells cs 3 (0, 0))) w wr))
  (fun _ i _ => LL.length - (intOf i).toNat)
 case atStart => exact ⟨⟨0,LL,⟨rfl,fun i m h => by omega⟩,by omega,rfl,by rw [tot_zero]; rfl,hO,Tch.of_below (Below.refl _ _)⟩⟩
 case round =>
  obtain ⟨j,MM,HM,hj,rfl,rfl,hown,ht⟩ := hrel.out
  by_cases hlt : j < LL.length
  ·have hML : MM.length = LL.length := by have := congrArg List.length HM.out.1; simpa using this
   have hjm : j < MM.length := by omega
   have hlj : MM[j].length = LL[j].length := by
    have := congrArg (·[j]?) HM.out.1
    simp only [List.getElem?_map,List.getElem?_eq_getElem hjm,List.getElem?_eq_getElem hlt,Option.map_some,Option.some.injEq] at this
    exact this
   obtain ⟨g,cap',u,hv,_,hgs,hc,ho,hub,hput⟩ := hown.row j hjm
   simp only [Value.slice.injEq] at hv
   obtain ⟨rfl,e1,e2⟩ := hv
   clear e1 e2
   have hta := tot_at LL j hlt
   have HT : Hid (tot LL (j + 1) = tot LL j + LL[j].length) := tot_succ LL j hlt
   have c := markI_any wr lo u MM[j] (k + tot LL j) ho (by omega) (by omega)
   rw [hlj] at c
   have HP : Hid (∀ w' m,wr.grownBy w' u.ownBlock → OwnV w' lo 3 u (ints m) → OwnSS w' lo hi (.slice (some ⟨g, 0,none⟩) LL.length cap) (MM.set j m)) := hput
   have HU : Hid (∀ q,u.ownBlock = some q → lo ≤ q ∧ q < hi ∧ ∃ cs,w.heap[q]? = some (.cells cs 3 (0, 0))) := fun q hq => by
    obtain ⟨q1,q2⟩ := hub q hq
    obtain ⟨cs,hcs⟩ := ownV_type ho q hq
    by_cases hS : ∃ cs,w.heap[q]? = some (.cells cs 3 (0, 0))
    ·exact ⟨q1,q2,hS⟩
    ·exact absurd ⟨cs,(ht.2 q (by omega) (fun e => hS e.2.2)).symm.trans hcs⟩ hS
   have HTC : Hid (Tch (fun b => lo ≤ b ∧ b < hi ∧ ∃ cs,w.heap[b]? = some (.cells cs 3 (0, 0))) w wr) := ht
   have HLJ : Hid (MM[j].length = LL[j].length ∧ MM.length = LL.length) := ⟨hlj,hML⟩
   obtain ⟨r,hr⟩ : ∃ r,LL[j].length = r := ⟨_,rfl⟩
   rw [hr] at c HT hta
   have HR : Hid (LL[j].length = r) := hr
   obtain ⟨K,hK⟩ : ∃ K,k + tot LL j = K := ⟨_,rfl⟩
   rw [hK] at c ⊢
   have HK : Hid (k + tot LL j = K) := hK
   have hKr : K + r ≤ 100000000 := by omega
   clear hrel hO hown ht ho hub hput hlj hML hr hK hta
   have hi1 : (0 : Int) ≤ (j : Int) := by omega
   have hi2 : (j : Int) < (LL.length : Int) := by omega
   go_wp2_with fail
   refine c.mono ?_
   rintro e w1 ⟨rfl,⟨m,hml,hmk,hom⟩,hgr⟩
   have HX : Hid (MarkSS k LL (MM.set j m) (j + 1) ∧ OwnSS w1 lo hi (.slice (some ⟨g, 0,none⟩) LL.length cap) (MM.set j m) ∧ Tch (fun b => lo ≤ b ∧ b < hi ∧ ∃ cs,w.heap[b]? = some (.cells cs 3 (0, 0))) w w1) := by
    refine ⟨⟨?_, ?_⟩,HP.out w1 m hgr hom,HTC.out.trans (Tch.of_grown hgr fun q hq => HU.out q hq)⟩
    ·rw [List.map_set,HM.out.1,hml, ← HR.out]
     apply List.ext_getElem?
     intro i
     by_cases hij : j = i
     ·subst hij
      rw [List.getElem?_set_self (by simpa using hlt),List.getElem?_map,List.getElem?_eq_getElem hlt]
      rfl
     ·rw [List.getElem?_set_ne hij]
    ·intro i x hi' hx
     by_cases hij : j = i
     ·subst hij
      rw [List.getElem?_set_self hjm] at hx
      cases hx
      rw [HK.out,hml]
      exact hmk
     ·rw [List.getElem?_set_ne hij] at hx
      exact HM.out.2 i x (by omega) hx
   have HE : Hid ((K : Int) + (r : Int) = ((k + tot LL (j + 1) : Nat) : Int)) := by show _ = _; rw [HT.out, ← HK.out]; omega
   clear c hmk hom hgr hml HP HU HTC
   go_wp2_with fail
   go_roundw
   case rel =>
    try ((repeat apply Exists.intro); refine ⟨?_,rfl⟩)
    exact ⟨⟨j + 1,_,HX.out.1,by omega,by go_num,by rw [HE.out],HX.out.2.1,HX.out.2.2⟩⟩
   case measure => simp [intOf]; omega
  ·go_wp2_with fail
   go_ret
   have hje : j = LL.length := by omega
   subst hje
   exact ⟨rfl,⟨MM,HM.out,hown⟩,ht⟩
set_option maxHeartbeats 1000000 in
theorem markSketch_fine (w : World) (lo hi : Nat) (a : Option Addr) (c : Nat) (S : Sk) (k : Nat) (hO : OwnSS w lo hi (.slice a S.rows.length c) S.rows) (hm : SkSz S) (hk : k ≤ 10000000) (hh : hi ≤ w.heap.size) :
  Calls Tryz.prog 55 #[.agg #[.slice a S.rows.length c,.int .i64 S.added],.int .i64 k] w fun e w' => e = .returned (.int .i64 ((k + tot S.rows S.rows.length : Nat) : Int)) ∧ (∃ MM,MarkSS k S.rows MM S.rows.length ∧ OwnSS w' lo hi (.slice a S.rows.length c) MM) ∧ Tch (fun b => lo ≤ b ∧ b < hi ∧ ∃ cs,w.heap[b]? = some (.cells cs 3 (0, 0))) w w' := by
 obtain ⟨rows,added⟩ := S
 unfold SkSz at hm
 dsimp only at *
 obtain ⟨w1,hw1⟩ : ∃ x,w.alloc (.cells #[.slice a rows.length c,.int .i64 added] 28) = x := ⟨_,rfl⟩
 have hb1 : Below w.heap.size w w1 := by rw [← hw1]; exact (Below.refl _ _).alloc (Nat.le_refl _) _
 have hB : SkBox w1 w.heap.size (.slice a rows.length c) (.int .i64 added) := by rw [← hw1]; exact SkBox.new _ _ _
 have c1 := markIntSS_fine w1 lo hi a c rows k (hO.below hb1 (Nat.le_refl _)) hm hk (Nat.le_trans hh hb1.size)
 obtain ⟨b0,b1⟩ := hB.cells
 have HW : Hid (w.alloc (.cells #[.slice a rows.length c,.int .i64 added] 28) = w1) := hw1
 rw [← hw1] at b0 b1
 clear hw1 hO hB
 obtain ⟨K,hK⟩ : ∃ K,k + tot rows rows.length = K := ⟨_,rfl⟩
 rw [hK] at c1 ⊢
 clear hK
 go_enter Tryz.func55,Tryz.ntmps55
 go_wp2_with fail
 rw [HW.out] at b0 b1 ⊢
 refine c1.mono ?_
 rintro e w2 ⟨rfl,hM,ht⟩
 have HR : Hid ((∃ MM,MarkSS k rows MM rows.length ∧ OwnSS w2 lo hi (.slice a rows.length c) MM) ∧ Tch (fun b => lo ≤ b ∧ b < hi ∧ ∃ cs,w.heap[b]? = some (.cells cs 3 (0, 0))) w w2) := ⟨hM,(Tch.of_below hb1).trans (ht.weak fun q hq => ⟨hq.1,hq.2.1,by obtain ⟨cs,e⟩ := hq.2.2; exact ⟨cs,(hb1.block q (Nat.lt_of_lt_of_le hq.2.1 hh)).symm.trans e⟩⟩)⟩
 clear c1 hM ht b0 b1
 go_wp2_with fail
 go_ret
 exact ⟨rfl,HR.out⟩
theorem OwnSS.past9 {w w' : World} {lo hi lo' : Nat} {v u : Value} {LL : List (List Int)} {xs : List Value} (h : OwnSS w lo hi v LL) (hu : OwnV w lo' 9 u xs) (hg : w.grownBy w' u.ownBlock) : OwnSS w' lo hi v LL :=
 h.kept fun k _ _ hk hty => hg.block k hk (fun e => by
  obtain ⟨cs,hcs⟩ := ownV_type hu k e.symm
  rcases hty _ hcs with ⟨cs',e'⟩ | ⟨cs',e'⟩
  ·simp at e'
  ·simp at e')
theorem ownV_not3 {w : World} {lo k : Nat} {u : Value} {xs : List Value} (hu : OwnV w lo 9 u xs) (hk : u.ownBlock = some k) : ¬ ∃ cs,w.heap[k]? = some (.cells cs 3 (0, 0)) := fun ⟨cs,e⟩ => by
 obtain ⟨cs',hcs⟩ := ownV_type hu k hk
 rw [e] at hcs
 simp at hcs
def PMk (w : World) (lo hi : Nat) (v1 v2 v3 : Value) (P : Pol) (k : Nat) : Prop :=
 OwnV w lo 9 v1 (marks k P.win.length) ∧ OwnV w lo 9 v2 (marks (k + P.win.length) P.main.length) ∧ (∀ q,v1.ownBlock = some q → q < hi ∧ v2.ownBlock ≠ some q) ∧ (∀ q,v2.ownBlock = some q → q < hi) ∧ ∃ MM,MarkSS (k + P.win.length + P.main.length) P.sk.rows MM P.sk.rows.length ∧ OwnSS w lo hi v3 MM
theorem PMk.below {w w' : World} {B lo hi : Nat} {v1 v2 v3 : Value} {P : Pol} {k : Nat} (h : PMk w lo hi v1 v2 v3 P k) (hb : Below B w w') (hB : w.heap.size ≤ B) : PMk w' lo hi v1 v2 v3 P k := by
 obtain ⟨a1,a2,a3,a4,MM,a5,a6⟩ := h
 exact ⟨a1.below hb hB,a2.below hb hB,a3,a4,MM,a5,a6.below hb hB⟩
theorem POwn.lies {w : World} {lo hi : Nat} {aw am ak : Option Addr} {cw cm ck : Nat} {P : Pol} (h : POwn w lo hi (.agg #[.slice aw P.win.length cw,.slice am P.main.length cm,.slice ak P.sk.rows.length ck,.int .i64 P.sk.added]) P) : PolAt w aw am ak P w.heap.size := by
 obtain ⟨a1,c1,a2,c2,a3,c3,e,hA⟩ := h.at
 simp only [Value.agg.injEq,Array.mk.injEq,List.cons.injEq,and_true,Value.slice.injEq,true_and] at e
 obtain ⟨⟨rfl,rfl⟩,⟨rfl,rfl⟩,rfl,rfl⟩ := e
 exact hA
end Go.Proofs.YthfjfccdelbkhaaGreatDoor
namespace Go.Proofs.YthfjfccdelbkhaaGreatDoor
open Go.RowKit
def inB (x a b : Int) : Bool := decide (a ≤ x) && decide (x ≤ b)
theorem inB_yes {x a b : Int} (h1 : a ≤ x) (h2 : x ≤ b) : inB x a b = true := by simp [inB,h1,h2]
theorem inB_no {x a b : Int} (h : ¬ (a ≤ x ∧ x ≤ b)) : inB x a b = false := by simp [inB]; omega
end Go.Proofs.YthfjfccdelbkhaaGreatDoor
