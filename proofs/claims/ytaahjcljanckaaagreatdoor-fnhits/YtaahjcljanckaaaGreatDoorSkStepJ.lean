/- Texts that stand in one: SkStep, PolStep, KeysCopy, PolMk, SkCopyImpl. -/
import Derived.Test.YtaahjcljanckaaaGreatDoorSkFlatJ
import Derived.Deep.AppendLies
import Derived.Deep.RegionHeld3
import Derived.Deep.RegionLaw
import Derived.Test.YtaahjcljanckaaaGreatDoorSumTabJ
import Derived.Test.YtaahjcljanckaaaGreatDoorCliLawJ
import Derived.Test.YtaahjcljanckaaaGreatDoorShelf
import Derived.Test.YtaahjcljanckaaaGreatDoorCellPlainJ
import Derived.Deep.DeepCutAuto
namespace Go.Proofs.YtaahjcljanckaaaGreatDoor
open Go.RowKit Go.Sort
theorem step_allI {P : Program} {ops : Array Oper} {o : Oper} {a : Act} {K : Act → World → Prop} {Q : Exit → Act → World → Prop} {E' : Prop} {w : World} (hgd : o.guard = none) (s x : Operand) (t : TypeId)
  (ho : o.op = .call { callee := .builtin .append,args := #[s,x],argTypes := #[t,t] }) (e : TypeId) (ht : P.underlying t = some (.slice e)) (z : Value) (size bytes : Nat)
  (hinfo : (P.info? e).map (fun i => (i.zero,i.size,i.bytes)) = some (some z,size,bytes)) (hzs : z.cells.size = size) (hsz : 0 < size) (hby : bytes ≤ 1000)
  (G : Nat) (hs : a.eval s = .slice (some ⟨G, 0,none⟩) 0 0) (hG : w.heap[G]? = some (.cells #[] e (0, 0)))
  (a0 : Option Addr) (n cap : Nat) (news : List Value) (hx : a.eval x = .slice a0 n cap) (hl : news.length = n * size) (hnone : a0 = none → n = 0) (hnews : ∀ ad,a0 = some ad → ∀ j u,news[j]? = some u → w.cell? (ad.add j) = some u) (h1 : ∀ u ∈ news,u.oneCell' = true) (hn : n ≤ 1048576)
  (h : ∀ g c w',w'.ownsRow G e size (.slice (some ⟨g, 0,none⟩) n c) n news → Below G w w' → (g = G ∨ w.heap.size ≤ g) → (∀ k,k < w.heap.size → k ≠ G → w'.heap[k]? = w.heap[k]?) → K (a.put o.dst (.slice (some ⟨g, 0,none⟩) n c)) w') :
  if Region.wanted o (yielded ops a.tmps) = true then Oper.wp P o a w K Q else E' := by
 obtain ⟨i0,hi,hz0,hz1,hz2⟩ := info_parts hinfo
 have hGs : G < w.heap.size := (Array.getElem?_eq_some_iff.1 hG).1
 by_cases h0 : n = 0
 ·subst h0
  have hnil : news = [] := List.length_eq_zero_iff.1 (by simpa using hl)
  subst hnil
  have hw : Region.wanted o (yielded ops a.tmps) = true := by simp [Region.wanted,hgd]
  rw [if_pos hw]
  have hrun : (Builtin.append_ #[t,t] o.type #[.slice (some ⟨G, 0,none⟩) 0 0,.slice a0 0 cap]).run P w = .ok (.slice (some ⟨G, 0,none⟩) 0 0) w := by
   cases a0 with
   | none => simp [Builtin.append_,run_underlying ht,sizeOf,typeInfo,hi,Builtin.lenOf,Builtin.firstCells,storeCells]
   | some ad =>
    have hld := run_loadCells_list (P := P) w ad [] (fun j u hu => by simp at hu)
    simp at hld
    simp [Builtin.append_,run_underlying ht,sizeOf,typeInfo,hi,Builtin.lenOf,Builtin.firstCells,storeCells,hld]
  unfold Oper.wp
  simp [execOp,ho,resolve,invoke,builtin,hs,hx,hrun,Result.andThen]
  exact h G 0 w ⟨by simp,.inr ⟨G, 0,#[],rfl,Nat.le_refl _,hG,Nat.le_refl _,by simp [maxLen],by simp,by simp⟩⟩ (Below.refl _ _) (.inl rfl) (fun _ _ _ => rfl)
 ·obtain ⟨ad,rfl⟩ : ∃ ad,a0 = some ad := by
   cases a0 with
   | none => exact absurd (hnone rfl) h0
   | some ad => exact ⟨ad,rfl⟩
  have hown : w.ownsRow G e size (.slice (some ⟨G, 0,none⟩) 0 0) 0 [] := ⟨by simp,.inr ⟨G, 0,#[],rfl,Nat.le_refl _,hG,Nat.le_refl _,by simp [maxLen],by simp,by simp⟩⟩
  have hbs : (0 + n) * bytes ≤ 140737488355328 := by
   have : (0 + n) * bytes ≤ 1048576 * 1000 := by rw [Nat.zero_add]; exact Nat.mul_le_mul hn hby
   omega
  refine step_append_lies w hgd s x t ho G e i0 z size bytes ht hi hz0 hz1 hz2 hzs hsz _ 0 [] hs hown ad n cap news hx hl (hnews ad rfl) h1 (by omega) (by unfold maxLen; omega) hbs (by omega) w.heap.size rfl ?_
  intro g c w' ho' hgr hg hgl
  rw [Nat.zero_add,List.nil_append] at ho'
  rw [Nat.zero_add]
  refine h g c w' ho' ((Below.refl _ w).grown hgr (by omega) (fun k e => by cases e; exact Nat.le_refl _)) ?_ (fun k hk hne => hgr.block k hk (fun e => hne (by cases e; rfl)))
  rcases hg with hg | hg
  ·left; cases hg; rfl
  ·right; omega
theorem IAt.srcI {w : World} {a0 : Option Addr} {l : List Int} {B : Nat} (h : IAt w a0 l B) : (a0 = none → l.length = 0) ∧ ∀ ad,a0 = some ad → ∀ j u,(ints l)[j]? = some u → w.cell? (ad.add j) = some u := by
 refine ⟨fun e => ?_,fun ad e j u hu => ?_⟩
 ·cases l with
  | nil => rfl
  | cons x r => obtain ⟨g,off,ha,_⟩ := h 0 (by simp); rw [e] at ha; cases ha
 ·have hj := (List.getElem?_eq_some_iff.1 hu).1
  rw [ints_length] at hj
  obtain ⟨g,off,ha,_,hc⟩ := h j hj
  rw [e] at ha
  simp only [Option.some.injEq] at ha
  subst ha
  rw [Addr.add_mid,hc]
  rw [List.getElem?_eq_getElem (by rw [ints_length]; exact hj),ints_at hj] at hu
  exact hu
theorem bdrewS (w : World) : Below w.heap.size w w.drew := ⟨rfl,rfl,rfl,Nat.le_refl _,fun _ _ => rfl⟩
theorem ownVS_ne {w : World} {b1 b2 : Nat} {v u : Value} {xs ys : List Value} (h1 : OwnV w b1 3 v xs) (h2 : OwnV w b2 24 u ys) : ∀ k,v.ownBlock = some k → u.ownBlock ≠ some k := by
 intro k hk hu
 rcases h1.2 with ⟨rfl,_⟩ | ⟨g,cap,cur,rfl,_,hg,_⟩
 ·simp [Value.ownBlock] at hk
 ·rcases h2.2 with ⟨rfl,_⟩ | ⟨g',cap',cur',rfl,_,hg',_⟩
  ·simp [Value.ownBlock] at hu
  ·simp [Value.ownBlock] at hk hu
   subst hk
   subst hu
   have := hg.symm.trans hg'
   simp at this
theorem OwnSS.grow {wr wx w' : World} {lo : Nat} {v v' u : Value} {LL : List (List Int)} {l : List Int} {vs : List Value} (hv : OwnV wr lo 24 v vs) (hl : vs.length = LL.length)
  (hr : ∀ (i : Nat) (u : Value) (l : List Int),vs[i]? = some u → LL[i]? = some l → OwnV wr lo 3 u (ints l) ∧ ∀ k,u.ownBlock = some k → k < wr.heap.size)
  (hd : ∀ (i j : Nat) (u u' : Value) (k : Nat),vs[i]? = some u → vs[j]? = some u' → u.ownBlock = some k → u'.ownBlock = some k → i = j)
  (hx : Below wr.heap.size wr wx) (hu : OwnV wx wr.heap.size 3 u (ints l)) (hg : wx.grownBy w' v.ownBlock) (hv' : OwnV w' lo 24 v' (vs ++ [u])) (hlo : lo ≤ wr.heap.size) : OwnSS w' lo w'.heap.size v' (LL ++ [l]) := by
 have hvx := hv.below hx (Nat.le_refl _)
 refine OwnSS.snoc (hi := wr.heap.size) hl (fun i x m hx' hm => ?_) hd hv' (hu.grown hg fun k hk e => ownVS_ne hu hvx k hk e) hlo
 obtain ⟨h1,h2⟩ := hr i x m hx' hm
 have h1x := h1.below hx (Nat.le_refl _)
 exact ⟨h1x.grown hg fun k hk e => ownVS_ne h1x hvx k hk e,h2⟩
theorem LAt.srcS {w : World} {a0 : Option Addr} {l : List ByteArray} {B : Nat} (h : LAt w a0 l B) : (a0 = none → l.length = 0) ∧ ∀ ad,a0 = some ad → ∀ j u,(strs l)[j]? = some u → w.cell? (ad.add j) = some u := by
 refine ⟨fun e => ?_,fun ad e j u hu => ?_⟩
 ·cases l with
  | nil => rfl
  | cons x r => obtain ⟨g,off,ha,_⟩ := h 0 (by simp); rw [e] at ha; cases ha
 ·have hj := (List.getElem?_eq_some_iff.1 hu).1
  rw [strs_length] at hj
  obtain ⟨g,off,ha,_,hc⟩ := h j hj
  rw [e] at ha
  simp only [Option.some.injEq] at ha
  subst ha
  rw [Addr.add_mid,hc]
  simp [strs,List.getElem?_eq_getElem hj] at hu
  rw [hu]
theorem strs_one (l : List ByteArray) : ∀ u ∈ strs l,u.oneCell' = true := by
 intro u hu
 simp only [strs,List.mem_map] at hu
 obtain ⟨b,_,rfl⟩ := hu
 rfl
theorem cloneS_any (s : ByteArray) (w : World) (hs : s.size ≤ 281474976710656) :
  Calls Tryz.prog 34 #[.string s] w fun e w' => e = .returned (.string s) ∧ Below w.heap.size w w' := by
 go_enter Tryz.func34,Tryz.ntmps34
 go_wp2_with (go_at_call 61; refine (Tryz.stringslite_Clone s _ hs).mono ?_; rintro e w' ⟨rfl,hb⟩)
 go_ret
 exact ⟨rfl,hb⟩
theorem set_part {l : List ByteArray} {k : Nat} (hk : k < l.length) (z : Value) : (strs (l.take k) ++ List.replicate (l.length - k) z).set k (.string l[k]) = strs (l.take (k + 1)) ++ List.replicate (l.length - (k + 1)) z := by
 have hl : (strs (l.take k)).length = k := by rw [strs_length,List.length_take]; omega
 obtain ⟨m,hm⟩ : ∃ m,l.length - k = m + 1 := ⟨l.length - k - 1,by omega⟩
 rw [List.set_append_right _ _ (by omega),hl,hm,Nat.sub_self,List.replicate_succ,List.set_cons_zero,List.take_succ_eq_append_getElem hk,strs_append,show l.length - (k + 1) = m by omega]
 simp [strs]
set_option maxRecDepth 100000 in
set_option maxHeartbeats 2000000 in
theorem keysCopy_any (w : World) (a : Option Addr) (c : Nat) (L : List ByteArray) (hA : LAt w a L w.heap.size) (hm : L.length ≤ 1048576) (hz : ∀ z ∈ L,z.size ≤ 281474976710656) :
  Calls Tryz.prog 59 #[.slice a L.length c] w fun e w' => ∃ v,e = .returned v ∧ OwnV w' w.heap.size 9 v (strs L) ∧ Below w.heap.size w w' := by
 obtain ⟨i0,hi,hz0,hz1,hz2⟩ := info_parts Tryz.infoSK
 obtain ⟨w2,hmk,hown0,hgr0⟩ := run_make_full (P := Tryz.prog) w w.heap.size 27 9 i0 (.string ⟨#[]⟩) 1 Tryz.underlying27 hi hz0 hz1 .i64 .i64 L.length (by rw [hz2]; omega) (by unfold maxLen; omega) (Nat.le_refl _)
 have HO : Hid (OwnV w2 w.heap.size 9 (.slice (some ⟨w.heap.size, 0,none⟩) L.length L.length) (strs (L.take 0) ++ List.replicate (L.length - 0) (.string ⟨#[]⟩))) := by
  have := hown0
  rw [show (Value.string ⟨#[]⟩).cells = #[Value.string ⟨#[]⟩] from rfl,toList_madeCells_one,Nat.mul_one] at this
  show OwnV _ _ _ _ _
  rw [List.take_zero,show strs [] = [] from rfl,List.nil_append,Nat.sub_zero]
  unfold OwnV
  rw [List.length_replicate]
  exact this
 have HB : Hid (Below w.heap.size w w2) := ⟨hgr0.os,hgr0.tape,hgr0.output,hgr0.size,fun j hj => hgr0.block j hj (by simp)⟩
 have HZ : Hid (∀ z ∈ L,z.size ≤ 281474976710656) := hz
 obtain ⟨G,hG⟩ : ∃ G,w.heap.size = G := ⟨_,rfl⟩
 rw [hG] at hmk HO HB
 have HG : Hid (w.heap.size = G) := hG
 rw [hG] at hA
 clear hown0 hgr0 hz hz0 hz1 hz2 hi hG
 go_enter Tryz.func59,Tryz.ntmps59
 go_wp2
 go_loopw [11] (fun i wr => Box (∃ (k : Nat),k ≤ L.length ∧ i = .int .i64 k ∧ Hid (OwnV wr G 9 (.slice (some ⟨G, 0,none⟩) L.length L.length) (strs (L.take k) ++ List.replicate (L.length - k) (.string ⟨#[]⟩))) ∧ Hid (Below G w wr)))
  (fun i _ => L.length - (intOf i).toNat)
 case atStart => exact ⟨⟨0,by omega,rfl,HO,HB⟩⟩
 case round =>
  obtain ⟨k,hk,rfl,HO1,HB1⟩ := hrel.out
  clear hrel HO HB hmk
  by_cases hlt : k < L.length
  ·obtain ⟨g,off,hga,_,q0⟩ := (hA.below HB1.out (Nat.le_refl _)) k hlt
   have hsz := HZ.out _ (List.getElem_mem hlt)
   have HS := fun (W : World) (h : OwnV W G 9 (.slice (some ⟨G, 0,none⟩) L.length L.length) (strs (L.take k) ++ List.replicate (L.length - k) (.string ⟨#[]⟩))) => (h.stored (by rw [List.length_append,strs_length,List.length_take,List.length_replicate]; omega) k (.string L[k]))
   rw [set_part hlt] at HS
   obtain ⟨f,hf⟩ : ∃ f,L[k] = f := ⟨_,rfl⟩
   rw [hf] at q0 hsz HS
   have HSS : Hid _ := HS
   subst hga
   have HC : Hid (∀ wi,Calls Tryz.prog 34 #[.string f] wi fun e w' => e = .returned (.string f) ∧ Below wi.heap.size wi w') := fun wi => cloneS_any f wi hsz
   have hi1 : (0 : Int) ≤ (k : Int) := by omega
   have hi2 : (k : Int) < (L.length : Int) := by omega
   have HK : Hid (k < L.length) := hlt
   have hkb : k ≤ 1048576 := by omega
   clear hf hsz hlt hk HS
   go_wp2_with fail
   refine (HC.out _).mono ?_
   rintro e w3 ⟨rfl,hb3⟩
   have hO3 := HO1.out.below hb3 (Nat.le_refl _)
   have HB3 : Hid (Below G w w3) := HB1.out.trans (hb3.mono (by have := HB1.out.size; have := HG.out; omega))
   have HN := HSS.out w3 hO3
   have s0 : w3.cell? ⟨G,k,none⟩ = some (.string ⟨#[]⟩) := by
    obtain ⟨a',c',e',h'⟩ := hO3.shape
    have hlen : (strs (L.take k) ++ List.replicate (L.length - k) (Value.string ⟨#[]⟩)).length = L.length := by rw [List.length_append,strs_length,List.length_take,List.length_replicate]; have := HK.out; omega
    obtain ⟨g',e1,h1,_⟩ := h' k (by rw [hlen]; exact HK.out)
    simp only [Value.slice.injEq] at e'
    rw [← e'.1] at e1
    simp only [Option.some.injEq,Addr.mk.injEq,and_true] at e1
    rw [e1,h1,List.getElem_append_right (by rw [strs_length,List.length_take]; omega)]
    simp
   have s1 : w3.frozen? ⟨G,k,none⟩ = false := by
    obtain ⟨a',c',e',h'⟩ := hO3.shape
    have hlen : (strs (L.take k) ++ List.replicate (L.length - k) (Value.string ⟨#[]⟩)).length = L.length := by rw [List.length_append,strs_length,List.length_take,List.length_replicate]; have := HK.out; omega
    obtain ⟨g',e1,_,h1,_⟩ := h' k (by rw [hlen]; exact HK.out)
    simp only [Value.slice.injEq] at e'
    rw [← e'.1] at e1
    simp only [Option.some.injEq,Addr.mk.injEq,and_true] at e1
    rw [e1]
    exact h1
   have HNN : Hid _ := HN
   clear HN hO3 hb3 HC HO1 q0 HSS
   go_wp2_with fail
   go_roundw
   case rel =>
    try ((repeat apply Exists.intro); refine ⟨?_,rfl⟩)
    exact ⟨⟨k + 1,HK.out,by go_num,HNN.out.1,HB3.out.setCell (Nat.le_refl _) _⟩⟩
   case measure => have := HK.out; simp [intOf]; omega
  ·have hke : k = L.length := by omega
   have HO2 : Hid (OwnV wr w.heap.size 9 (.slice (some ⟨G, 0,none⟩) L.length L.length) (strs L)) := by
    have := HO1.out
    rw [hke,List.take_length,Nat.sub_self,List.replicate_zero,List.append_nil] at this
    rw [HG.out]
    exact this
   clear hA HO1
   go_wp2_with fail
   go_ret
   exact ⟨_,rfl,HO2.out,by rw [HG.out]; exact HB1.out⟩
end Go.Proofs.YtaahjcljanckaaaGreatDoor
namespace Go.Proofs.YtaahjcljanckaaaGreatDoor
open Go.RowKit
theorem POwn.mk3 {w : World} {lo B1 B2 B3 : Nat} {v1 v2 v3 : Value} {P : Pol} (h1 : OwnV w B1 9 v1 (strs P.win)) (h2 : OwnV w B2 9 v2 (strs P.main)) (h3 : OwnSS w B3 w.heap.size v3 P.sk.rows) (l1 : lo ≤ B1) (l2 : lo ≤ B2) (l3 : lo ≤ B3) (hn : ∀ k,v1.ownBlock = some k → v2.ownBlock ≠ some k) :
  POwn w lo w.heap.size (.agg #[v1,v2,v3,.int .i64 P.sk.added]) P :=
 ⟨v1,v2,v3,rfl,h1.mono l1,h2.mono l2,fun k hk => ⟨(h1.lt k hk).2,hn k hk⟩,fun k hk => (h2.lt k hk).2,h3.mono l3 (Nat.le_refl _)⟩
end Go.Proofs.YtaahjcljanckaaaGreatDoor
namespace Go.Proofs.YtaahjcljanckaaaGreatDoor
open Go.RowKit Go.Sort
theorem ownV_of_rowI {w : World} {base : Nat} {v : Value} {l : List Int} (h : w.ownsRow base 3 1 v l.length (ints l)) : OwnV w base 3 v (ints l) := by unfold OwnV; rw [ints_length]; exact h
set_option maxRecDepth 100000 in
set_option maxHeartbeats 4000000 in
theorem sketchCopy_any (w : World) (a : Option Addr) (c : Nat) (S : Sk) (hA : SSAt w a S.rows w.heap.size) (hm : SkSz S) :
  Calls Tryz.prog 60 #[.agg #[.slice a S.rows.length c,.int .i64 S.added]] w fun e w' => ∃ v,e = .returned v ∧ SkOwn w' w.heap.size w'.heap.size v S ∧ Below w.heap.size w w' := by
 obtain ⟨rows,added⟩ := S
 unfold SkSz at hm
 dsimp only at *
 obtain ⟨w0,hw0⟩ : ∃ x,w.alloc (.cells #[.slice a rows.length c,.int .i64 added] 30) = x := ⟨_,rfl⟩
 obtain ⟨w1,hw1⟩ : ∃ x,w0.alloc (.cells #[.slice none 0 0,.int .i64 0] 30) = x := ⟨_,rfl⟩
 have hb0 : Below w.heap.size w w0 := by rw [← hw0]; exact (Below.refl _ _).alloc (Nat.le_refl _) _
 have hb1 : Below w0.heap.size w0 w1 := by rw [← hw1]; exact (Below.refl _ _).alloc (Nat.le_refl _) _
 have s0 : w0.heap.size = w.heap.size + 1 := by rw [← hw0]; simp
 have s1 : w1.heap.size = w.heap.size + 1 + 1 := by rw [← hw1]; simp; omega
 have hbw1 : Below w.heap.size w w1 := hb0.trans (hb1.mono hb0.size)
 have hB1 : SkBox w1 w.heap.size (.slice a rows.length c) (.int .i64 added) := by
  have h : SkBox w0 w.heap.size (.slice a rows.length c) (.int .i64 added) := by rw [← hw0]; exact SkBox.new _ _ _
  exact h.on hb1
 have hR1 : SkBox w1 (w.heap.size + 1) (.slice none 0 0) (.int .i64 0) := by rw [← hw1, ← s0]; exact SkBox.new _ _ _
 have HW : Hid ((w.alloc (.cells #[.slice a rows.length c,.int .i64 added] 30)).alloc (.cells #[.slice none 0 0,.int .i64 0] 30) = w1) := by rw [hw0]; exact hw1
 have HM : ∀ wx : World, ∃ w2,(Instr.makeSlice 28 (.int .i64 (rows.length : Int)) (.int .i64 (rows.length : Int))).run Tryz.prog wx.drew = .ok (.slice (some ⟨wx.heap.size, 0,none⟩) rows.length rows.length) w2 ∧ OwnSS w2 wx.heap.size w2.heap.size (.slice (some ⟨wx.heap.size, 0,none⟩) rows.length rows.length) (List.replicate rows.length []) ∧ Below wx.heap.size wx w2 := by
  intro wx
  obtain ⟨i0,hi,hz0,hz1,hz2⟩ := info_parts Tryz.infoIntS
  obtain ⟨w2,hmk,hown0,hgr0⟩ := run_make_full (P := Tryz.prog) wx.drew wx.drew.heap.size 28 24 i0 (.slice none 0 0) 1 Tryz.underlying28 hi hz0 hz1 .i64 .i64 rows.length (by rw [hz2]; omega) (by unfold maxLen; omega) (Nat.le_refl _)
  refine ⟨w2,hmk,OwnSS.made ?_,(bdrewS wx).trans ⟨hgr0.os,hgr0.tape,hgr0.output,hgr0.size,fun j hj => hgr0.block j hj (by simp)⟩⟩
  have := hown0
  rw [show (Value.slice none 0 0).cells = #[Value.slice none 0 0] from rfl,toList_madeCells_one,Nat.mul_one] at this
  unfold OwnV
  rw [List.length_replicate]
  exact this
 obtain ⟨wz,hwz⟩ : ∃ x,w1.alloc (.cells #[.slice none 0 0,.int .i64 0] 30) = x := ⟨_,rfl⟩
 have hbz : Below w1.heap.size w1 wz := by rw [← hwz]; exact (Below.refl _ _).alloc (Nat.le_refl _) _
 have hTz : SkBox wz w1.heap.size (.slice none 0 0) (.int .i64 0) := by rw [← hwz]; exact SkBox.new _ _ _
 have hzs : wz.heap.size = w1.heap.size + 1 := by rw [← hwz]; simp
 obtain ⟨w2,hmk,hown2,hb2⟩ := HM w1
 obtain ⟨w2',hmk',hown2',hb2'⟩ := HM wz
 have hb2w : Below w1.heap.size w1 w2' := hbz.trans (hb2'.mono hbz.size)
 obtain ⟨x0,x1⟩ := hB1.cells
 obtain ⟨y0,y1⟩ := (hB1.on hb2).cells
 obtain ⟨z0,z1⟩ := ((hB1.on hb2).on (w' := w2.alloc (.cells #[.slice none 0 0,.int .i64 0] 30)) ((Below.refl _ _).alloc (Nat.le_refl _) _)).cells
 obtain ⟨u0,u1⟩ := (hB1.on hbz).cells
 obtain ⟨v0,v1⟩ := (hB1.on hb2w).cells
 have hT2' := hTz.on hb2'
 obtain ⟨t0,t1⟩ := hT2'.cells
 have tf0 := hT2'.thaw 0
 have tf1 := hT2'.thaw 1
 have HP : Hid (SkBox (w2.alloc (.cells #[.slice (some ⟨w1.heap.size, 0,none⟩) rows.length rows.length,.int .i64 added] 30)) w2.heap.size (.slice (some ⟨w1.heap.size, 0,none⟩) rows.length rows.length) (.int .i64 added) ∧ SkBox (w2.alloc (.cells #[.slice (some ⟨w1.heap.size, 0,none⟩) rows.length rows.length,.int .i64 added] 30)) w.heap.size (.slice a rows.length c) (.int .i64 added) ∧ SkBox (w2.alloc (.cells #[.slice (some ⟨w1.heap.size, 0,none⟩) rows.length rows.length,.int .i64 added] 30)) (w.heap.size + 1) (.slice none 0 0) (.int .i64 0) ∧ OwnSS (w2.alloc (.cells #[.slice (some ⟨w1.heap.size, 0,none⟩) rows.length rows.length,.int .i64 added] 30)) (w.heap.size + 2) (w2.alloc (.cells #[.slice (some ⟨w1.heap.size, 0,none⟩) rows.length rows.length,.int .i64 added] 30)).heap.size (.slice (some ⟨w1.heap.size, 0,none⟩) rows.length rows.length) (List.replicate rows.length []) ∧ Below w.heap.size w (w2.alloc (.cells #[.slice (some ⟨w1.heap.size, 0,none⟩) rows.length rows.length,.int .i64 added] 30)) ∧ w.heap.size + 1 < w2.heap.size ∧ w1.heap.size ≠ w2.heap.size ∧ w.heap.size + 1 < w1.heap.size) := by
  have hb3 : Below w2.heap.size w2 (w2.alloc (.cells #[.slice (some ⟨w1.heap.size, 0,none⟩) rows.length rows.length,.int .i64 added] 30)) := (Below.refl _ _).alloc (Nat.le_refl _) _
  have hs := hb2.size
  refine ⟨SkBox.new _ _ _,(hB1.on hb2).on hb3,(hR1.on hb2).on hb3,(hown2.below hb3 (Nat.le_refl _)).up.mono (by omega) (Nat.le_refl _),(hbw1.trans (hb2.mono hbw1.size)).trans (hb3.mono (by omega)),by omega, ?_,by omega⟩
  obtain ⟨vs,hv,hb,_⟩ := hown2
  have := hb w1.heap.size rfl
  omega
 have HQ : Hid (SkBox ((w2'.setCell ⟨w1.heap.size, 0,none⟩ (.slice (some ⟨w1.heap.size + 1, 0,none⟩) rows.length rows.length)).setCell ⟨w1.heap.size, 1,none⟩ (.int .i64 added)) w1.heap.size (.slice (some ⟨w1.heap.size + 1, 0,none⟩) rows.length rows.length) (.int .i64 added) ∧ SkBox ((w2'.setCell ⟨w1.heap.size, 0,none⟩ (.slice (some ⟨w1.heap.size + 1, 0,none⟩) rows.length rows.length)).setCell ⟨w1.heap.size, 1,none⟩ (.int .i64 added)) w.heap.size (.slice a rows.length c) (.int .i64 added) ∧ SkBox ((w2'.setCell ⟨w1.heap.size, 0,none⟩ (.slice (some ⟨w1.heap.size + 1, 0,none⟩) rows.length rows.length)).setCell ⟨w1.heap.size, 1,none⟩ (.int .i64 added)) (w.heap.size + 1) (.slice none 0 0) (.int .i64 0) ∧ OwnSS ((w2'.setCell ⟨w1.heap.size, 0,none⟩ (.slice (some ⟨w1.heap.size + 1, 0,none⟩) rows.length rows.length)).setCell ⟨w1.heap.size, 1,none⟩ (.int .i64 added)) (w.heap.size + 2) ((w2'.setCell ⟨w1.heap.size, 0,none⟩ (.slice (some ⟨w1.heap.size + 1, 0,none⟩) rows.length rows.length)).setCell ⟨w1.heap.size, 1,none⟩ (.int .i64 added)).heap.size (.slice (some ⟨w1.heap.size + 1, 0,none⟩) rows.length rows.length) (List.replicate rows.length []) ∧ Below w.heap.size w ((w2'.setCell ⟨w1.heap.size, 0,none⟩ (.slice (some ⟨w1.heap.size + 1, 0,none⟩) rows.length rows.length)).setCell ⟨w1.heap.size, 1,none⟩ (.int .i64 added)) ∧ w.heap.size + 1 < w1.heap.size ∧ w1.heap.size + 1 ≠ w1.heap.size ∧ w.heap.size + 1 < w1.heap.size + 1) := by
  have hs := hb2'.size
  rw [hzs] at hown2'
  refine ⟨hT2'.put _ _,(hB1.on hb2w).kept (put2_other _ _ _ _ _ (by omega)),(hR1.on hb2w).kept (put2_other _ _ _ _ _ (by omega)), ?_,Below.put2 (hbw1.trans (hb2w.mono hbw1.size)) (by omega) _ _,by omega,by omega,by omega⟩
  refine (hown2'.put2 hT2' _ _).mono (by omega) ?_
  simp
 rw [hzs] at hmk'
 rw [← hwz] at hmk' u0 u1
 clear s1
 clear hw0 hw1 hwz s0 hb0 hb1 hbz hTz hzs hb2 hb2' hb2w hown2 hown2' hB1 hR1 hT2' hbw1 HM
 go_enter Tryz.func60,Tryz.ntmps60
 go_upto_region 1 with fail
 rw [HW.out]
 go_cut [3] (fun p wc => ∃ V G,p = .pointer (some ⟨V, 0,none⟩) ∧ SkBox wc V (.slice (some ⟨G, 0,none⟩) rows.length rows.length) (.int .i64 added) ∧ SkBox wc w.heap.size (.slice a rows.length c) (.int .i64 added) ∧ SkBox wc (w.heap.size + 1) (.slice none 0 0) (.int .i64 0) ∧ OwnSS wc (w.heap.size + 2) wc.heap.size (.slice (some ⟨G, 0,none⟩) rows.length rows.length) (List.replicate rows.length []) ∧ Below w.heap.size w wc ∧ w.heap.size + 1 < V ∧ G ≠ V ∧ w.heap.size + 1 < G)
 case first =>
  go_region_law (fail)
  all_goals go_wp2_with fail
  all_goals go_meet
  all_goals first | exact ⟨_,_,rfl,HP.out.1,HP.out.2.1,HP.out.2.2.1,HP.out.2.2.2.1,HP.out.2.2.2.2.1,HP.out.2.2.2.2.2.1,HP.out.2.2.2.2.2.2.1,HP.out.2.2.2.2.2.2.2⟩ | exact ⟨_,_,rfl,HQ.out.1,HQ.out.2.1,HQ.out.2.2.1,HQ.out.2.2.2.1,HQ.out.2.2.2.2.1,HQ.out.2.2.2.2.2.1,HQ.out.2.2.2.2.2.2.1,HQ.out.2.2.2.2.2.2.2⟩
 case rest =>
  obtain ⟨V,G,rfl,hT,hB,hR,hown,hbw,hV,hGV,hGw⟩ := hcut
  clear HP HQ hmk hmk' x0 x1 y0 y1 z0 z1 u0 u1 v0 v1 t0 t1 tf0 tf1 HW
  obtain ⟨b0,b1⟩ := hB.cells
  have hsz0 : w.heap.size + 2 ≤ wc.heap.size := by have := hT.lt; omega
  clear hB
  go_wp2
  clear b0 b1
  go_loopw [4, 5, 16] (fun _ _ i wr => Box (∃ (k : Nat),k ≤ rows.length ∧ i = .int .i64 k ∧ SkBox wr V (.slice (some ⟨G, 0,none⟩) rows.length rows.length) (.int .i64 added) ∧ SkBox wr (w.heap.size + 1) (.slice none 0 0) (.int .i64 0) ∧ OwnSS wr (w.heap.size + 2) wr.heap.size (.slice (some ⟨G, 0,none⟩) rows.length rows.length) (rows.take k ++ List.replicate (rows.length - k) []) ∧ Below w.heap.size w wr ∧ w.heap.size + 2 ≤ wr.heap.size))
   (fun _ _ i _ => rows.length - (intOf i).toNat)
  case atStart => exact ⟨⟨0,by omega,rfl,hT,hR,by simpa using hown,hbw,hsz0⟩⟩
  case round =>
   obtain ⟨k,hk,rfl,hT1,hR1,hown1,hbel,hsz⟩ := hrel.out
   by_cases hlt : k < rows.length
   ·obtain ⟨g,off,ai,ci,rfl,hg,hc,hI⟩ := (hA.below hbel (Nat.le_refl _)) k hlt
    have hlen := tot_at rows k hlt
    have HL : Hid (k < (rows.take k ++ List.replicate (rows.length - k) ([] : List Int)).length) := by show _ < _; simp; omega
    have HF := fill_set rows [] k hlt
    have hgs : g < wr.heap.size := Nat.lt_of_lt_of_le hg hbel.size
    obtain ⟨r,hr⟩ : ∃ r,rows[k] = r := ⟨_,rfl⟩
    rw [hr] at hc hI HF hlen
    have HSI : Hid ((ai = none → r.length = 0) ∧ ∀ W,Below wr.heap.size wr W → ∀ ad,ai = some ad → ∀ j u,(ints r)[j]? = some u → W.cell? (ad.add j) = some u) := ⟨hI.srcI.1,fun W hW => ((hI.mono hbel.size).on hW).srcI.2⟩
    have HKC : Hid (∀ W,Below wr.heap.size wr W → W.cell? ⟨V, 0,none⟩ = some (.slice (some ⟨G, 0,none⟩) rows.length rows.length)) := fun W h => (hT1.on h).cells.1
    have hbE : Below wr.heap.size wr (wr.alloc (.cells #[] 3)) := (Below.refl _ _).alloc (Nat.le_refl _) _
    have hbEd : Below wr.heap.size wr (wr.alloc (.cells #[] 3)).drew := hbE.trans ⟨rfl,rfl,rfl,Nat.le_refl _,fun _ _ => rfl⟩
    have d0 := HKC.out wr (Below.refl _ _)
    have e0 := HKC.out _ hbE
    have HN : Hid (∀ g4 c4 w4,Below wr.heap.size wr w4 → OwnV w4 wr.heap.size 3 (.slice (some ⟨g4, 0,none⟩) r.length c4) (ints r) → ∃ x,w4.cell? ⟨G,k,none⟩ = some x ∧ w4.frozen? ⟨G,k,none⟩ = false ∧ Hid (SkBox (w4.setCell ⟨G,k,none⟩ (.slice (some ⟨g4, 0,none⟩) r.length c4)) V (.slice (some ⟨G, 0,none⟩) rows.length rows.length) (.int .i64 added) ∧ SkBox (w4.setCell ⟨G,k,none⟩ (.slice (some ⟨g4, 0,none⟩) r.length c4)) (w.heap.size + 1) (.slice none 0 0) (.int .i64 0) ∧ OwnSS (w4.setCell ⟨G,k,none⟩ (.slice (some ⟨g4, 0,none⟩) r.length c4)) (w.heap.size + 2) (w4.setCell ⟨G,k,none⟩ (.slice (some ⟨g4, 0,none⟩) r.length c4)).heap.size (.slice (some ⟨G, 0,none⟩) rows.length rows.length) (rows.take (k + 1) ++ List.replicate (rows.length - (k + 1)) []) ∧ Below w.heap.size w (w4.setCell ⟨G,k,none⟩ (.slice (some ⟨g4, 0,none⟩) r.length c4)) ∧ w.heap.size + 2 ≤ (w4.setCell ⟨G,k,none⟩ (.slice (some ⟨g4, 0,none⟩) r.length c4)).heap.size)) := by
     intro g4 c4 w4 hb4 hu4
     obtain ⟨g1,cap1,x,hv,xc,xf,hg1,hg2,hput⟩ := (hown1.below hb4 (Nat.le_refl _)).put hu4 hsz k HL.out
     simp only [Value.slice.injEq,Option.some.injEq,Addr.mk.injEq,and_true] at hv
     obtain ⟨rfl,_,_⟩ := hv
     rw [HF] at hput
     have hs4 := hb4.size
     refine ⟨x,xc,xf,(hT1.on hb4).far _ _ (fun e => hGV e.symm),(hR1.on hb4).far _ _ (by omega),by simpa using hput,(hbel.trans (hb4.mono hbel.size)).setCell (show w.heap.size ≤ G by omega) _,by simp; omega⟩
    have hrl : r.length ≤ 1048576 := by omega
    clear hrel hA hT hR hown hbw hT1 hR1 hown1 hbel HF hlen hr hI hbE HL
    have hi1 : (0 : Int) ≤ (k : Int) := by omega
    have hi2 : (k : Int) < (rows.length : Int) := by omega
    go_wp2
    go_region_law (refine step_allI rfl (.tmp 24) (.tmp 25) 24 rfl 3 Tryz.underlying24 (.int .i64 0) 1 8 Tryz.infoInt rfl (by omega) (by omega) wr.heap.size rfl (by exact heap_alloc_new _ _) ai r.length ci (ints r) rfl (by rw [ints_length]; omega) HSI.out.1 (HSI.out.2 _ hbEd) (ints_one' r) hrl ?_; rintro g4 c4 w4 o4 b4 n4 k4; have hb4 : Below wr.heap.size wr w4 := hbEd.trans b4; have hu4 := ownV_of_rowI o4; have f1 := HKC.out _ hb4; obtain ⟨x4,xc,xf,HX⟩ := HN.out g4 c4 w4 hb4 hu4; clear o4 b4 n4 k4)
    all_goals (
     clear hb4 hu4 f1 xc xf HN HSI HKC d0 e0 hbEd
     go_wp2
     refine ⟨?_, ?_⟩
     ·exact ⟨⟨k + 1,by omega,by go_num,HX.out.1,HX.out.2.1,HX.out.2.2.1,HX.out.2.2.2.1,HX.out.2.2.2.2⟩⟩
     ·simp [intOf]; omega)
   ·have hke : k = rows.length := by omega
    subst hke
    simp only [List.take_length,Nat.sub_self,List.replicate_zero,List.append_nil] at hown1
    obtain ⟨t0,t1⟩ := hT1.cells
    obtain ⟨r0,r1⟩ := hR1.cells
    have f0 := hR1.thaw 0
    have f1 := hR1.thaw 1
    have HO : Hid (OwnSS wr (w.heap.size + 2) wr.heap.size (.slice (some ⟨G, 0,none⟩) rows.length rows.length) rows) := hown1
    clear hrel hown1 hT1 hlt hA hT hR hown hbw
    go_wp2
    obtain ⟨q0,q1⟩ := (hR1.put (.slice (some ⟨G, 0,none⟩) rows.length rows.length) (.int .i64 added)).cells
    refine bodyPost_ret (v := .agg #[.slice (some ⟨G, 0,none⟩) rows.length rows.length,.int .i64 added]) (by simp [results,Tryz.results60,go_sem,q0,q1]) rfl ⟨_,rfl,⟨_,rfl, ?_⟩,Below.put2 hbel (by omega) _ _⟩
    refine (HO.out.put2 hR1 _ _).mono (by omega) ?_
    simp
end Go.Proofs.YtaahjcljanckaaaGreatDoor
