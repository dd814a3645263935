/- Texts that stand in one: SkStep, SkNewSpec, PolNewSpec, SkListsImpl. -/
import Derived.Test.YthfjfccdelbkhaaGreatDoorSkFlatJ
import Derived.Deep.AppendLies
import Derived.Deep.RegionHeld3
import Derived.Deep.RegionLaw
import Derived.Test.YthfjfccdelbkhaaGreatDoorSumTabJ
import Derived.Test.YthfjfccdelbkhaaGreatDoorSkLaw3J
import Derived.Test.YthfjfccdelbkhaaGreatDoorCellPlainJ
namespace Go.Proofs.YthfjfccdelbkhaaGreatDoor
open Go.RowKit Go.Sort
theorem step_allI {P : Program} {ops : Array Oper} {o : Oper} {a : Act} {K : Act → World → Prop} {Q : Exit → Act → World → Prop} {E' : Prop} {w : World} (hgd : o.guard = none) (s x : Operand) (t : TypeId)
  (ho : o.op = .call { callee := .builtin .append,args := #[s,x],argTypes := #[t,t] }) (e : TypeId) (ht : P.underlying t = some (.slice e)) (z : Value) (size bytes : Nat)
  (hinfo : (P.info? e).map (fun i => (i.zero,i.size,i.bytes)) = some (some z,size,bytes)) (hzs : z.cells.size = size) (hsz : 0 < size) (hby : bytes ≤ 1000)
  (G : Nat) (hs : a.eval s = .slice (some ⟨G, 0,none⟩) 0 0) (hG : w.heap[G]? = some (.cells #[] e (0, 0)))
  (a0 : Option Addr) (n cap : Nat) (news : List Value) (hx : a.eval x = .slice a0 n cap) (hl : news.length = n * size) (hnone : a0 = none → n = 0) (hnews : ∀ ad,a0 = some ad → ∀ j u,news[j]? = some u → w.cell? (ad.add j) = some u) (h1 : ∀ u ∈ news,u.oneCell' = true) (hn : n ≤ 1048576)
  (h : ∀ g c w',w'.ownsRow G e size (.slice (some ⟨g, 0,none⟩) n c) n news → Below G w w' → (g = G ∨ w.heap.size ≤ g) → (∀ k,k < w.heap.size → k ≠ G → w'.heap[k]? = w.heap[k]?) → K (a.put o.dst (.slice (some ⟨g, 0,none⟩) n c)) w') :
  if Region.wanted o (yielded ops a.tmps) = true then Oper.wp P o a w K Q else E' := by
 obtain ⟨i0,hi,hz0,hz1,hz2⟩ := info_parts hinfo
 have hGs : G < w.heap.size := (Array.getElem?_eq_some_iff.1 hG).1
 by_cases h0 : n = 0
 ·subst h0
  have hnil : news = [] := List.length_eq_zero_iff.1 (by simpa using hl)
  subst hnil
  have hw : Region.wanted o (yielded ops a.tmps) = true := by simp [Region.wanted,hgd]
  rw [if_pos hw]
  have hrun : (Builtin.append_ #[t,t] o.type #[.slice (some ⟨G, 0,none⟩) 0 0,.slice a0 0 cap]).run P w = .ok (.slice (some ⟨G, 0,none⟩) 0 0) w := by
   cases a0 with
   | none => simp [Builtin.append_,run_underlying ht,sizeOf,typeInfo,hi,Builtin.lenOf,Builtin.firstCells,storeCells]
   | some ad =>
    have hld := run_loadCells_list (P := P) w ad [] (fun j u hu => by simp at hu)
    simp at hld
    simp [Builtin.append_,run_underlying ht,sizeOf,typeInfo,hi,Builtin.lenOf,Builtin.firstCells,storeCells,hld]
  unfold Oper.wp
  simp [execOp,ho,resolve,invoke,builtin,hs,hx,hrun,Result.andThen]
  exact h G 0 w ⟨by simp,.inr ⟨G, 0,#[],rfl,Nat.le_refl _,hG,Nat.le_refl _,by simp [maxLen],by simp,by simp⟩⟩ (Below.refl _ _) (.inl rfl) (fun _ _ _ => rfl)
 ·obtain ⟨ad,rfl⟩ : ∃ ad,a0 = some ad := by
   cases a0 with
   | none => exact absurd (hnone rfl) h0
   | some ad => exact ⟨ad,rfl⟩
  have hown : w.ownsRow G e size (.slice (some ⟨G, 0,none⟩) 0 0) 0 [] := ⟨by simp,.inr ⟨G, 0,#[],rfl,Nat.le_refl _,hG,Nat.le_refl _,by simp [maxLen],by simp,by simp⟩⟩
  have hbs : (0 + n) * bytes ≤ 140737488355328 := by
   have : (0 + n) * bytes ≤ 1048576 * 1000 := by rw [Nat.zero_add]; exact Nat.mul_le_mul hn hby
   omega
  refine step_append_lies w hgd s x t ho G e i0 z size bytes ht hi hz0 hz1 hz2 hzs hsz _ 0 [] hs hown ad n cap news hx hl (hnews ad rfl) h1 (by omega) (by unfold maxLen; omega) hbs (by omega) w.heap.size rfl ?_
  intro g c w' ho' hgr hg hgl
  rw [Nat.zero_add,List.nil_append] at ho'
  rw [Nat.zero_add]
  refine h g c w' ho' ((Below.refl _ w).grown hgr (by omega) (fun k e => by cases e; exact Nat.le_refl _)) ?_ (fun k hk hne => hgr.block k hk (fun e => hne (by cases e; rfl)))
  rcases hg with hg | hg
  ·left; cases hg; rfl
  ·right; omega
theorem IAt.srcI {w : World} {a0 : Option Addr} {l : List Int} {B : Nat} (h : IAt w a0 l B) : (a0 = none → l.length = 0) ∧ ∀ ad,a0 = some ad → ∀ j u,(ints l)[j]? = some u → w.cell? (ad.add j) = some u := by
 refine ⟨fun e => ?_,fun ad e j u hu => ?_⟩
 ·cases l with
  | nil => rfl
  | cons x r => obtain ⟨g,off,ha,_⟩ := h 0 (by simp); rw [e] at ha; cases ha
 ·have hj := (List.getElem?_eq_some_iff.1 hu).1
  rw [ints_length] at hj
  obtain ⟨g,off,ha,_,hc⟩ := h j hj
  rw [e] at ha
  simp only [Option.some.injEq] at ha
  subst ha
  rw [Addr.add_mid,hc]
  rw [List.getElem?_eq_getElem (by rw [ints_length]; exact hj),ints_at hj] at hu
  exact hu
theorem bdrewS (w : World) : Below w.heap.size w w.drew := ⟨rfl,rfl,rfl,Nat.le_refl _,fun _ _ => rfl⟩
theorem step_snocO {P : Program} {ops : Array Oper} {o : Oper} {a : Act} {K : Act → World → Prop} {Q : Exit → Act → World → Prop} {E : Prop} {w : World} (hgd : o.guard = none) (s x : Operand) (t : TypeId)
  (ho : o.op = .call { callee := .builtin .append,args := #[s,x],argTypes := #[t,t] }) (base : Nat) (e : TypeId) (ht : P.underlying t = some (.slice e)) (z : Value) (bytes : Nat)
  (hinfo : (P.info? e).map (fun i => (i.zero,i.size,i.bytes)) = some (some z, 1,bytes)) (hzc : z.cells.size = 1) (v : Value) (xs : List Value) (hs : a.eval s = v) (hown : OwnV w base e v xs)
  (B : Nat) (y : Value) (fr : Nat × Nat) (hx : a.eval x = .slice (some ⟨B, 0,none⟩) 1 1) (hB : w.heap[B]? = some (.cells #[y] e fr)) (hy : y.oneCell' = true) (hlen : (xs.length + 1) * bytes ≤ 140737488355328) (hlen2 : xs.length < 140737488355328) (hbase : base ≤ w.heap.size)
  (h : ∀ g cap w',OwnV w' base e (.slice (some ⟨g, 0,none⟩) (xs.length + 1) cap) (xs ++ [y]) → w.grownBy w' v.ownBlock → K (a.put o.dst (.slice (some ⟨g, 0,none⟩) (xs.length + 1) cap)) w') :
  if Region.wanted o (yielded ops a.tmps) = true then Oper.wp P o a w K Q else E := by
 obtain ⟨i0,hi,hz0,hz1,hz2⟩ := info_parts hinfo
 refine step_append_lies w hgd s x t ho base e i0 z 1 bytes ht hi hz0 hz1 hz2 hzc (by decide) v xs.length xs hs hown ⟨B, 0,none⟩ 1 1 [y] hx rfl (fun j u hu => World.news_of_block hB j u (by simpa using hu)) ?_ (by decide) (by unfold maxLen; omega) hlen hbase w.heap.size rfl ?_
 ·intro u hu
  simp at hu
  subst hu
  exact hy
 ·intro g cap w' h1 h2 _ _
  refine h g cap w' ?_ h2
  unfold OwnV
  rw [List.length_append,List.length_singleton]
  exact h1
theorem ownVS_ne {w : World} {b1 b2 : Nat} {v u : Value} {xs ys : List Value} (h1 : OwnV w b1 3 v xs) (h2 : OwnV w b2 107 u ys) : ∀ k,v.ownBlock = some k → u.ownBlock ≠ some k := by
 intro k hk hu
 rcases h1.2 with ⟨rfl,_⟩ | ⟨g,cap,cur,rfl,_,hg,_⟩
 ·simp [Value.ownBlock] at hk
 ·rcases h2.2 with ⟨rfl,_⟩ | ⟨g',cap',cur',rfl,_,hg',_⟩
  ·simp [Value.ownBlock] at hu
  ·simp [Value.ownBlock] at hk hu
   subst hk
   subst hu
   have := hg.symm.trans hg'
   simp at this
theorem OwnSS.grow {wr wx w' : World} {lo : Nat} {v v' u : Value} {LL : List (List Int)} {l : List Int} {vs : List Value} (hv : OwnV wr lo 107 v vs) (hl : vs.length = LL.length)
  (hr : ∀ (i : Nat) (u : Value) (l : List Int),vs[i]? = some u → LL[i]? = some l → OwnV wr lo 3 u (ints l) ∧ ∀ k,u.ownBlock = some k → k < wr.heap.size)
  (hd : ∀ (i j : Nat) (u u' : Value) (k : Nat),vs[i]? = some u → vs[j]? = some u' → u.ownBlock = some k → u'.ownBlock = some k → i = j)
  (hx : Below wr.heap.size wr wx) (hu : OwnV wx wr.heap.size 3 u (ints l)) (hg : wx.grownBy w' v.ownBlock) (hv' : OwnV w' lo 107 v' (vs ++ [u])) (hlo : lo ≤ wr.heap.size) : OwnSS w' lo w'.heap.size v' (LL ++ [l]) := by
 have hvx := hv.below hx (Nat.le_refl _)
 refine OwnSS.snoc (hi := wr.heap.size) hl (fun i x m hx' hm => ?_) hd hv' (hu.grown hg fun k hk e => ownVS_ne hu hvx k hk e) hlo
 obtain ⟨h1,h2⟩ := hr i x m hx' hm
 have h1x := h1.below hx (Nat.le_refl _)
 exact ⟨h1x.grown hg fun k hk e => ownVS_ne h1x hvx k hk e,h2⟩
theorem gatherSS {w wr wx w3 : World} {B T lo : Nat} {v v' u n : Value} {LL : List (List Int)} {l : List Int} {vs : List Value} (hT : SkBox wr T v n) (hTl : T < lo) (hlo : lo ≤ wr.heap.size) (hbel : Below B w wr) (hBT : B ≤ T)
  (hv : OwnV wr lo 107 v vs) (hl : vs.length = LL.length)
  (hr : ∀ (i : Nat) (u : Value) (l : List Int),vs[i]? = some u → LL[i]? = some l → OwnV wr lo 3 u (ints l) ∧ ∀ k,u.ownBlock = some k → k < wr.heap.size)
  (hd : ∀ (i j : Nat) (u u' : Value) (k : Nat),vs[i]? = some u → vs[j]? = some u' → u.ownBlock = some k → u'.ownBlock = some k → i = j)
  (hx : Below wr.heap.size wr wx) (hu : OwnV wx wr.heap.size 3 u (ints l)) (hg : wx.grownBy w3 v.ownBlock) (hv' : OwnV w3 lo 107 v' (vs ++ [u])) :
  w3.cell? ⟨T, 0,none⟩ = some v ∧ w3.frozen? ⟨T, 0,none⟩ = false ∧ SkBox (w3.setCell ⟨T, 0,none⟩ v') T v' n ∧ OwnSS (w3.setCell ⟨T, 0,none⟩ v') lo (w3.setCell ⟨T, 0,none⟩ v').heap.size v' (LL ++ [l]) ∧
   (∀ j,j < lo → j ≠ T → (w3.setCell ⟨T, 0,none⟩ v').heap[j]? = wr.heap[j]?) ∧ Below B w (w3.setCell ⟨T, 0,none⟩ v') := by
 have hvb : ∀ k,v.ownBlock = some k → lo ≤ k := fun k hk => (hv.lt k hk).1
 have hxs := hx.size
 have keep : ∀ j,j < lo → w3.heap[j]? = wr.heap[j]? := fun j hj => (hg.block j (by omega) (fun e => by have := hvb j e.symm; omega)).trans (hx.block j (by omega))
 have hT3 : SkBox w3 T v n := hT.kept (keep T hTl)
 have hO := OwnSS.grow hv hl hr hd hx hu hg hv' hlo
 have hbs := hT.lt
 refine ⟨hT3.cells.1,hT3.thaw 0,hT3.set0 v',by simpa using hO.far hT3 0 v',fun j hj hn => ?_, ?_⟩
 ·rw [Below.heap_setCell _ _ _ _ (by exact hn)]
  exact keep j hj
 ·exact ((hbel.trans (hx.mono (by omega))).grown hg (by omega) (fun k hk => by have := hvb k hk; omega)).setCell (show B ≤ T from hBT) _
set_option maxRecDepth 100000 in
set_option maxHeartbeats 4000000 in
theorem specSketchNew_any (w : World) :
  Calls Tryz.prog 58 #[] w fun e w' => ∃ v,e = .returned v ∧ SkOwn w' w.heap.size w'.heap.size v newS ∧ Below w.heap.size w w' := by
 obtain ⟨w0,hw0⟩ : ∃ x,w.alloc (.cells #[.slice none 0 0,.int .i64 0] 28) = x := ⟨_,rfl⟩
 obtain ⟨w1,hw1⟩ : ∃ x,w0.alloc (.cells #[.slice none 0 0,.int .i64 0] 28) = x := ⟨_,rfl⟩
 have hb0 : Below w.heap.size w w0 := by rw [← hw0]; exact (Below.refl _ _).alloc (Nat.le_refl _) _
 have hb1 : Below w0.heap.size w0 w1 := by rw [← hw1]; exact (Below.refl _ _).alloc (Nat.le_refl _) _
 have s0 : w0.heap.size = w.heap.size + 1 := by rw [← hw0]; simp
 have s1 : w1.heap.size = w.heap.size + 2 := by rw [← hw1]; simp; omega
 have hR : SkBox w1 w.heap.size (.slice none 0 0) (.int .i64 0) := by
  have h : SkBox w0 w.heap.size (.slice none 0 0) (.int .i64 0) := by rw [← hw0]; exact SkBox.new _ _ _
  exact h.on hb1
 have hT : SkBox w1 (w.heap.size + 1) (.slice none 0 0) (.int .i64 0) := by rw [← hw1, ← s0]; exact SkBox.new _ _ _
 have hbw : Below w.heap.size w w1 := hb0.trans (hb1.mono hb0.size)
 have HW : Hid ((w.alloc (.cells #[.slice none 0 0,.int .i64 0] 28)).alloc (.cells #[.slice none 0 0,.int .i64 0] 28) = w1) := by rw [hw0]; exact hw1
 clear hw0 hw1 hb0 hb1 s0
 go_enter Tryz.func58,Tryz.ntmps58
 go_wp2
 rw [HW.out]
 go_loopw [2] (fun i wr => Box (∃ (k : Nat) (v : Value),k ≤ 3 ∧ i = .int .i64 k ∧ SkBox wr w.heap.size (.slice none 0 0) (.int .i64 0) ∧ SkBox wr (w.heap.size + 1) v (.int .i64 0) ∧ OwnSS wr (w.heap.size + 2) wr.heap.size v (List.replicate k (List.replicate 16 0)) ∧ Below w.heap.size w wr))
  (fun i _ => 3 - (intOf i).toNat)
 case atStart => exact ⟨⟨0,_,by omega,rfl,hR,hT,OwnSS.nil _ _ _,hbw⟩⟩
 case round =>
  obtain ⟨k,v,hk,rfl,hR1,hT1,hown,hbel⟩ := hrel.out
  by_cases hlt : k < 3
  ·obtain ⟨vs,hv,hvb,hvl,hvr,hvd⟩ := hown
   obtain ⟨i0,hi,hz0,hz1,hz2⟩ := info_parts Tryz.infoInt
   obtain ⟨w2,hmk,hown0,hgr0⟩ := run_make_full (P := Tryz.prog) wr.drew wr.drew.heap.size 107 3 i0 (.int .i64 0) 1 Tryz.underlying107 hi hz0 hz1 .i64 .i64 16 (by rw [hz2]; omega) (by unfold maxLen; omega) (Nat.le_refl _)
   have hb2 : Below wr.heap.size wr w2 := (bdrewS wr).trans ⟨hgr0.os,hgr0.tape,hgr0.output,hgr0.size,fun j hj => hgr0.block j hj (by simp)⟩
   have hu : OwnV w2 wr.heap.size 3 (.slice (some ⟨wr.heap.size, 0,none⟩) 16 16) (ints (List.replicate 16 0)) := by
    have h := hown0
    rw [show (Value.int .i64 0).cells = #[Value.int .i64 0] from rfl,toList_madeCells_one,Nat.mul_one] at h
    have e : ints (List.replicate 16 0) = List.replicate 16 (Value.int .i64 0) := by simp [ints]
    unfold OwnV
    rw [e,List.length_replicate]
    exact h
   rw [show ((16 : Nat) : Int) = 16 from rfl,show wr.drew.heap.size = wr.heap.size from rfl] at hmk
   have hb3 : Below wr.heap.size wr (w2.alloc (.cells #[.slice (some ⟨wr.heap.size, 0,none⟩) 16 16] 107)) := hb2.alloc hb2.size _
   have hu3 : OwnV (w2.alloc (.cells #[.slice (some ⟨wr.heap.size, 0,none⟩) 16 16] 107)) wr.heap.size 3 (.slice (some ⟨wr.heap.size, 0,none⟩) 16 16) (ints (List.replicate 16 0)) := hu.alloc _
   have hT2 := hT1.on hb2
   have hT3 := hT1.on hb3
   have t0 := hT1.cells.1
   have t2 := hT2.cells.1
   have t3 := hT3.cells.1
   have hTs := hT1.lt
   have HOV : Hid (OwnV (w2.alloc (.cells #[.slice (some ⟨wr.heap.size, 0,none⟩) 16 16] 107)) (w.heap.size + 2) 107 v vs) := hv.below hb3 (Nat.le_refl _)
   have hvk : vs.length = k := by simpa using hvl
   have HS : Hid (w.heap.size + 2 ≤ w2.heap.size ∧ w2.heap.size ≤ (w2.alloc (.cells #[.slice (some ⟨wr.heap.size, 0,none⟩) 16 16] 107)).heap.size) := ⟨by have := hb2.size; omega,by simp⟩
   have HG : Hid (∀ v' w3,OwnV w3 (w.heap.size + 2) 107 v' (vs ++ [.slice (some ⟨wr.heap.size, 0,none⟩) 16 16]) → (w2.alloc (.cells #[.slice (some ⟨wr.heap.size, 0,none⟩) 16 16] 107)).grownBy w3 v.ownBlock → w3.cell? ⟨w.heap.size + 1, 0,none⟩ = some v ∧ w3.frozen? ⟨w.heap.size + 1, 0,none⟩ = false ∧ Hid (SkBox (w3.setCell ⟨w.heap.size + 1, 0,none⟩ v') w.heap.size (.slice none 0 0) (.int .i64 0) ∧ SkBox (w3.setCell ⟨w.heap.size + 1, 0,none⟩ v') (w.heap.size + 1) v' (.int .i64 0) ∧ OwnSS (w3.setCell ⟨w.heap.size + 1, 0,none⟩ v') (w.heap.size + 2) (w3.setCell ⟨w.heap.size + 1, 0,none⟩ v').heap.size v' (List.replicate (k + 1) (List.replicate 16 0)) ∧ Below w.heap.size w (w3.setCell ⟨w.heap.size + 1, 0,none⟩ v'))) := by
    intro v' w3 ho hg
    obtain ⟨g1,g2,g3,g4,g5,g6⟩ := gatherSS hT1 (by omega) (by omega) hbel (by omega) hv hvl hvr hvd hb3 hu3 hg ho
    refine ⟨g1,g2,hR1.kept (g5 _ (by omega) (by omega)),g3, ?_,g6⟩
    rw [List.replicate_succ']
    exact g4
   clear hrel hR1 hT1 hv hvb hvr hvd hi hz0 hz1 hz2 hown0 hgr0 hb2 hb3 hu hu3 hT2 hT3 hvl hbel
   have hvk1 : (vs.length + 1) * 24 ≤ 140737488355328 := by omega
   have hvk2 : vs.length < 140737488355328 := by omega
   have HVK : Hid (vs.length = k) := hvk
   clear hvk
   go_wp2
   go_region_law (refine step_snocO (by rfl) _ _ 26 (by rfl) (w.heap.size + 2) 107 Tryz.underlying26 (.slice none 0 0) 24 Tryz.infoIntS rfl v vs (by rfl) (by exact HOV.out) w2.heap.size (.slice (some ⟨wr.heap.size, 0,none⟩) 16 16) (0, 0) (by rfl) (by exact heap_alloc_new w2 _) rfl hvk1 hvk2 (by have := HS.out; omega) ?_; intro g2 cap2 w3 hown2 hgr2; have hk2 := HG.out _ w3 hown2 hgr2; have q2 := hk2.1; have z2 := hk2.2.1; have HK2 := hk2.2.2; clear hk2 hown2 hgr2)
   all_goals (
    go_wp2
    refine ⟨?_, ?_⟩
    ·exact ⟨⟨k + 1,_,by omega,by go_num,HK2.out.1,HK2.out.2.1,HK2.out.2.2.1,HK2.out.2.2.2⟩⟩
    ·simp [intOf]; omega)
  ·have hke : k = 3 := by omega
   subst hke
   obtain ⟨av,cv,rfl,_⟩ := hown.at
   obtain ⟨t0,t1⟩ := hT1.cells
   obtain ⟨r0,r1⟩ := hR1.cells
   have f0 := hR1.thaw 0
   have f1 := hR1.thaw 1
   have HO : Hid (OwnSS wr (w.heap.size + 2) wr.heap.size (.slice av 3 cv) newS.rows) := hown
   rw [show (List.replicate 3 (List.replicate 16 (0 : Int))).length = 3 from rfl] at t0
   clear hrel hown hT1 hlt
   go_wp2
   obtain ⟨q0,q1⟩ := (hR1.put (.slice av 3 cv) (.int .i64 0)).cells
   refine bodyPost_ret (v := .agg #[.slice av 3 cv,.int .i64 0]) (by simp [results,Tryz.results58,go_sem,q0,q1]) rfl ⟨_,rfl,⟨_,rfl, ?_⟩,Below.put2 hbel (Nat.le_refl _) _ _⟩
   refine (HO.out.put2 hR1 _ _).mono (by omega) ?_
   simp
set_option maxRecDepth 100000 in
set_option maxHeartbeats 4000000 in
theorem specPolicyNew_any (w : World) :
  Calls Tryz.prog 35 #[] w fun e w' => ∃ v,e = .returned v ∧ POwn w' w.heap.size w'.heap.size v newP ∧ Below w.heap.size w w' := by
 obtain ⟨w1,hw1⟩ : ∃ x,w.alloc (.cells #[.slice none 0 0,.slice none 0 0,.slice none 0 0,.int .i64 0] 30) = x := ⟨_,rfl⟩
 have hb1 : Below w.heap.size w w1 := by rw [← hw1]; exact (Below.refl _ _).alloc (Nat.le_refl _) _
 have hR : PBox w1 w.heap.size (.slice none 0 0) (.slice none 0 0) (.slice none 0 0) (.int .i64 0) := by rw [← hw1]; exact PBox.new _ _ _ _ _
 have HW : Hid (w.alloc (.cells #[.slice none 0 0,.slice none 0 0,.slice none 0 0,.int .i64 0] 30) = w1) := hw1
 have c1 := specSketchNew_any w1
 clear hw1
 go_enter Tryz.func35,Tryz.ntmps35
 go_wp2_with fail
 rw [HW.out]
 refine c1.mono ?_
 rintro e w2 ⟨v,rfl,⟨u,rfl,ho⟩,hb2⟩
 obtain ⟨a,c,rfl,_⟩ := ho.at
 have hR2 := hR.on hb2
 have hbw := hb1.trans (hb2.mono hb1.size)
 obtain ⟨r0,r1,r2,r3⟩ := hR2.cells
 have f0 := hR2.thaw 0
 have f1 := hR2.thaw 1
 have f2 := hR2.thaw 2
 have f3 := hR2.thaw 3
 have HO : Hid (POwn w2 w1.heap.size w2.heap.size (.agg #[.slice none 0 0,.slice none 0 0,.slice a newS.rows.length c,.int .i64 0]) newP) := ⟨_,_,_,rfl,OwnV.nil _ _ _,OwnV.nil _ _ _,fun k hk => by simp [Value.ownBlock] at hk,fun k hk => by simp [Value.ownBlock] at hk,ho⟩
 obtain ⟨n,hn⟩ : ∃ n,newS.rows.length = n := ⟨_,rfl⟩
 have hz : newS.added = 0 := rfl
 rw [hn] at HO ⊢
 rw [hz]
 clear c1 ho hR hb2 HW hn hz
 go_wp2_with fail
 obtain ⟨q0,q1,q2,q3⟩ := (hR2.put (.slice none 0 0) (.slice none 0 0) (.slice a n c) (.int .i64 0)).cells
 refine bodyPost_ret (v := .agg #[.slice none 0 0,.slice none 0 0,.slice a n c,.int .i64 0]) (by simp [results,Tryz.results35,go_sem,q0,q1,q2,q3]) rfl ⟨_,rfl, ?_,Below.put4 hbw (Nat.le_refl _) _ _ _ _⟩
 refine (HO.out.put4 hR2 _ _ _ _).mono hb1.size ?_
 simp
theorem OwnSS.put_new {wr w4 : World} {lo G n c k : Nat} {v4 : Value} {LL : List (List Int)} {r : List Int} (h : OwnSS wr lo wr.heap.size (.slice (some ⟨G, 0,none⟩) n c) LL) (hk : k < LL.length) (hlo : lo ≤ wr.heap.size)
  (ho : OwnV w4 wr.heap.size 3 v4 (ints r)) (hg : (wr.alloc (.cells #[] 3)).grownBy w4 (some wr.heap.size)) :
  ∃ ua uc x,v4 = .slice ua r.length uc ∧ w4.cell? ⟨G,k,none⟩ = some x ∧ w4.frozen? ⟨G,k,none⟩ = false ∧ OwnSS (w4.setCell ⟨G,k,none⟩ (.slice ua r.length uc)) lo (w4.setCell ⟨G,k,none⟩ (.slice ua r.length uc)).heap.size (.slice (some ⟨G, 0,none⟩) n c) (LL.set k r) ∧ Below wr.heap.size wr w4 ∧ lo ≤ G ∧ G < wr.heap.size := by
 have hb : Below wr.heap.size wr w4 := ((Below.refl _ wr).alloc (Nat.le_refl _) _).grown hg (by simp) (fun k e => by cases e; exact Nat.le_refl _)
 obtain ⟨ua,uc,rfl,_⟩ := ho.ints
 obtain ⟨g1,cap1,x,hv,xc,xf,hg1,hg2,hput⟩ := (h.below hb (Nat.le_refl _)).put ho hlo k hk
 simp only [Value.slice.injEq,Option.some.injEq,Addr.mk.injEq,and_true] at hv
 obtain ⟨rfl,_,_⟩ := hv
 exact ⟨ua,uc,x,rfl,xc,xf,by simpa using hput,hb,hg1,hg2⟩
set_option maxRecDepth 100000 in
set_option maxHeartbeats 4000000 in
theorem lists_any (w : World) (rows : List (List Int)) (h3 : rows.length = 3) (h16 : All16 rows) :
  Calls Tryz.prog 88 #[.agg (ints rows.flatten).toArray] w fun e w' => ∃ v,e = .returned v ∧ OwnSS w' w.heap.size w'.heap.size v rows ∧ Below w.heap.size w w' := by
 obtain ⟨w1,hw1⟩ : ∃ x,w.alloc (.cells (ints rows.flatten).toArray 113) = x := ⟨_,rfl⟩
 have hb1 : Below w.heap.size w w1 := by rw [← hw1]; exact (Below.refl _ _).alloc (Nat.le_refl _) _
 have hR : RBox w1 w.heap.size rows := by rw [← hw1]; exact RBox.new _ _
 have s1 : w1.heap.size = w.heap.size + 1 := by rw [← hw1]; simp
 have HW : Hid (w.alloc (.cells (ints rows.flatten).toArray 113) = w1) := hw1
 obtain ⟨i0,hi,hz0,hz1,hz2⟩ := info_parts Tryz.infoIntS
 obtain ⟨w2,hmk,hown0,hgr0⟩ := run_make_full (P := Tryz.prog) w1 w1.heap.size 26 107 i0 (.slice none 0 0) 1 Tryz.underlying26 hi hz0 hz1 .i64 .i64 3 (by rw [hz2]; omega) (by unfold maxLen; omega) (Nat.le_refl _)
 have hb2 : Below w1.heap.size w1 w2 := ⟨hgr0.os,hgr0.tape,hgr0.output,hgr0.size,fun j hj => hgr0.block j hj (by simp)⟩
 obtain ⟨G,hG⟩ : ∃ G,w1.heap.size = G := ⟨_,rfl⟩
 have hown : OwnSS w2 G w2.heap.size (.slice (some ⟨G, 0,none⟩) 3 3) (List.replicate 3 []) := by
  rw [← hG]
  refine OwnSS.made ?_
  have := hown0
  rw [show (Value.slice none 0 0).cells = #[Value.slice none 0 0] from rfl,toList_madeCells_one,Nat.mul_one] at this
  unfold OwnV
  rw [List.length_replicate]
  exact this
 rw [hG] at hmk
 have hbw : Below w.heap.size w w2 := hb1.trans (hb2.mono hb1.size)
 have hR2 := hR.on hb2
 rw [← hw1,show ((3 : Nat) : Int) = 3 from rfl] at hmk
 have hGw : w.heap.size < G := by omega
 clear hown0 hgr0 hi hz0 hz1 hz2 hw1 hb1 hb2 hR s1
 go_enter Tryz.func88,Tryz.ntmps88
 go_wp2
 go_loopw [4, 6] (fun _ i wr => Box (∃ (k : Nat),k ≤ 3 ∧ i = .int .i64 k ∧ OwnSS wr G wr.heap.size (.slice (some ⟨G, 0,none⟩) 3 3) (rows.take k ++ List.replicate (rows.length - k) []) ∧ RBox wr w.heap.size rows ∧ Below w.heap.size w wr))
  (fun _ i _ => 3 - (intOf i).toNat)
 case atStart => exact ⟨⟨0,by omega,rfl,by simpa [h3] using hown,hR2,hbw⟩⟩
 case round =>
  obtain ⟨k,hk,rfl,hown1,hR1,hbel⟩ := hrel.out
  by_cases hlt : k < 3
  ·have hk3 : k < rows.length := by omega
   have hI := hR1.at h16 hk3
   have hl16 := all16_get h16 hk3
   have HL : Hid (k < (rows.take k ++ List.replicate (rows.length - k) ([] : List Int)).length) := by show _ < _; simp; omega
   have HF := fill_set rows [] k hk3
   obtain ⟨r,hrr⟩ : ∃ r,rows[k] = r := ⟨_,rfl⟩
   rw [hrr] at hI HF hl16
   have HF' : Hid ((rows.take k ++ List.replicate (rows.length - k) ([] : List Int)).set k r = rows.take (k + 1) ++ List.replicate (rows.length - (k + 1)) []) := HF
   have HLr : Hid (rows.length = 3 ∧ r.length = 16) := ⟨h3,hl16⟩
   have hGs : G ≤ wr.heap.size := by
    obtain ⟨vs,hv,hb,_⟩ := hown1
    have := hb G rfl
    omega
   have HN : Hid (∀ v4 w4,OwnV w4 wr.heap.size 3 v4 (ints r) → (wr.alloc (.cells #[] 3)).grownBy w4 (some wr.heap.size) → ∃ ua uc x,v4 = .slice ua r.length uc ∧ w4.cell? ⟨G,k,none⟩ = some x ∧ w4.frozen? ⟨G,k,none⟩ = false ∧ Hid (OwnSS (w4.setCell ⟨G,k,none⟩ (.slice ua r.length uc)) G (w4.setCell ⟨G,k,none⟩ (.slice ua r.length uc)).heap.size (.slice (some ⟨G, 0,none⟩) 3 3) (rows.take (k + 1) ++ List.replicate (rows.length - (k + 1)) []) ∧ RBox (w4.setCell ⟨G,k,none⟩ (.slice ua r.length uc)) w.heap.size rows ∧ Below w.heap.size w (w4.setCell ⟨G,k,none⟩ (.slice ua r.length uc)))) := by
    intro v4 w4 ho hg
    obtain ⟨ua,uc,x,e,xc,xf,hput,hb,_,_⟩ := hown1.put_new HL.out hGs ho hg
    rw [HF] at hput
    exact ⟨ua,uc,x,e,xc,xf,hput,(hR1.on hb).kept (Below.heap_setCell _ _ _ _ (show w.heap.size ≠ G by omega)),(hbel.trans (hb.mono hbel.size)).setCell (show w.heap.size ≤ G by omega) _⟩
   clear hrel hmk hown hR2 hbw HF HF' hrr hown1 hR1 hbel h3 hl16 HL
   have hi1 : (0 : Int) ≤ (k : Int) := by omega
   have hi2 : (k : Int) < 3 := by omega
   go_wp2_with (at_builtin; refine wpList_allI rfl (.tmp 11) (.tmp 14) 107 rfl wr.heap.size 3 Tryz.underlying107 Tryz.infoInt wr.heap.size rfl (own_empty wr) ⟨w.heap.size,k * 16,none⟩ 16 r _ (by rw [HLr.out.2]; rfl) (hI.alloc _) (by have := HLr.out.2; omega) (by simp) ?_; intro v4 w4 hown4 hgr4; obtain ⟨ua,uc,x4,rfl,xc,xf,HX⟩ := HN.out v4 w4 hown4 hgr4; clear hown4 hgr4)
   go_roundw
   case rel =>
    try ((repeat apply Exists.intro); refine ⟨?_,rfl⟩)
    exact ⟨⟨k + 1,by omega,by go_num,HX.out.1,HX.out.2.1,HX.out.2.2⟩⟩
   case measure => simp [intOf]; omega
  ·go_wp2_with fail
   go_ret
   have hke : k = rows.length := by omega
   subst hke
   simp only [List.take_length,Nat.sub_self,List.replicate_zero,List.append_nil] at hown1
   exact ⟨_,rfl,hown1.mono (by omega) (Nat.le_refl _),hbel⟩
end Go.Proofs.YthfjfccdelbkhaaGreatDoor
