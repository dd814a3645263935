/- Texts that stand in one: InsEnt, InvRegion, InvMode. -/
import Derived.Test.YthfjfccdelbkhaaGreatDoorFilesJ
import Derived.Test.YthfjfccdelbkhaaGreatDoorPrxBaseJ
import Derived.Test.YthfjfccdelbkhaaGreatDoorFolderPlainJ
import Derived.Test.YthfjfccdelbkhaaGreatDoorIntsJ
import Derived.Lib.Overlaps
import Derived.Lib.AppendZerosOnto
import Derived.Deep.RegionLaw
import Derived.Deep.AppendLies
import Derived.Deep.RegionHeld3
namespace Go.Proofs.YthfjfccdelbkhaaGreatDoor
open Go.RowKit Go.Sort
theorem enl_takeI (L : List (En)) (i : Nat) : (enl L).take (i * 4) = enl (L.take i) := by
 induction L generalizing i with
 | nil => simp [enl]
 | cons f L ih =>
  cases i with
  | zero => simp [enl]
  | succ i =>
   rw [enl_cons,show (i + 1) * 4 = i * 4 + 1 + 1 + 1 + 1 by omega]
   simp only [En.cells,List.cons_append,List.take_succ_cons,List.nil_append,enl_cons,ih]
theorem enl_dropI (L : List (En)) (i : Nat) : (enl L).drop (i * 4) = enl (L.drop i) := by
 induction L generalizing i with
 | nil => simp [enl]
 | cons f L ih =>
  cases i with
  | zero => simp
  | succ i =>
   rw [enl_cons,show (i + 1) * 4 = i * 4 + 1 + 1 + 1 + 1 by omega]
   simp only [En.cells,List.cons_append,List.drop_succ_cons,List.nil_append,ih]
theorem enl_appendI (A B : List (En)) : enl (A ++ B) = enl A ++ enl B := by simp [enl]
set_option maxHeartbeats 4000000 in
set_option maxRecDepth 100000 in
theorem insertEnt_end (w : World) (base : Nat) (v : Value) (L : List (En)) (f : En) (vb : Nat) (ho : OwnN w base 47 v L) (hbase : base ≤ w.heap.size) (hm : L.length ≤ 1048577)
  (hV : w.heap[vb]? = some (.cells #[.string f.key,.int .i64 f.st,.int .i64 f.lf,.string f.bd] 47 (0, 0))) :
  Calls Tryz.prog 48 #[v,.int .i64 L.length,.slice (some ⟨vb, 0,none⟩) 1 1] w fun e w' => ∃ v',e = .returned v' ∧ OwnN w' base 47 v' (L ++ [f]) ∧ Tch (fun k => v.ownBlock = some k) w w' := by
 have hsrc : ∀ j u,(enl [f])[j]? = some u → w.cell? ((⟨vb, 0,none⟩ : Addr).add j) = some u := fun j u hu => World.news_of_block hV j u (by simpa [enl,En.cells] using hu)
 obtain ⟨i0,hi,hz0,hz1,hz2⟩ := info_parts Tryz.infoEn
 have hone : ∀ u ∈ enl [f],u.oneCell' = true := enl_one [f]
 have hlt : ∀ k,v.ownBlock = some k → base ≤ k := fun k hk => (ho.lt k hk).1
 obtain ⟨a,cap,rfl,hP⟩ := ho.at
 have hn : (L.length : Int) ≤ 1048577 := by omega
 have HO : Hid (OwnN w base 47 (.slice a L.length cap) L) := ho
 have hcap : L.length ≤ cap := by
  rcases ho.2 with ⟨e,h0⟩ | ⟨g,cp,cur,e,_,_,h1,_⟩
  ·simp only [Value.slice.injEq] at e; omega
  ·simp only [Value.slice.injEq] at e; omega
 clear ho hV hP
 go_enter Tryz.func48,Tryz.ntmps48
 go_wp2_with (at_builtin; refine wpList_append_own _ rfl _ _ 24 rfl base 47 i0 _ 4 48 Tryz.underlying24 hi hz0 hz1 hz2 rfl (by decide) _ L.length (enl L) rfl HO.out ⟨vb, 0,none⟩ 1 1 (enl [f]) rfl rfl hsrc hone (by unfold maxLen; omega) (by omega) hbase ?_; intro v' w' h1 h2 _)
 all_goals (
  go_ret
  refine ⟨_,rfl, ?_,Tch.of_grown (row := (Value.slice a L.length cap).ownBlock) h2 (fun k e => by cases a <;> exact e)⟩
  unfold OwnN
  rw [enl_appendI,List.length_append,List.length_singleton]
  exact h1)
theorem ins_spliceEnt {α : Type} (X D F : List α) (o m : Nat) (hF : F.length = m) (hX : o + m + D.length ≤ X.length) : (splice (splice X (o + m) D) o F).take (o + m + D.length) = X.take o ++ F ++ D := by
 subst hF
 unfold splice
 have e1 : (X.take (o + F.length) ++ (D ++ X.drop (o + F.length + D.length))).take o = X.take o := by
  rw [List.take_append_of_le_length (by simp; omega),List.take_take,Nat.min_eq_left (by omega)]
 have e2 : (X.take (o + F.length) ++ (D ++ X.drop (o + F.length + D.length))).drop (o + F.length) = D ++ X.drop (o + F.length + D.length) := by
  rw [List.drop_append_of_le_length (by simp; omega),List.drop_of_length_le (by simp; omega),List.nil_append]
 rw [e1,e2, ← List.append_assoc, ← List.append_assoc,List.take_append_of_le_length (by simp; omega)]
 exact List.take_of_length_le (by simp; omega)
theorem ins_spliceEnt' {α : Type} (X D F : List α) (o m : Nat) (hF : F.length = m) (hX : o + m + D.length ≤ X.length) : (splice (splice X o F) (o + m) D).take (o + m + D.length) = X.take o ++ F ++ D := by
 subst hF
 unfold splice
 have e1 : (X.take o ++ (F ++ X.drop (o + F.length))).take (o + F.length) = X.take o ++ F := by
  rw [← List.append_assoc,List.take_append_of_le_length (by simp; omega)]
  exact List.take_of_length_le (by simp; omega)
 rw [e1, ← List.append_assoc,List.take_append_of_le_length (by simp; omega)]
 exact List.take_of_length_le (by simp; omega)
theorem row_srcEnt {w : World} {g : Nat} {cur : List Value} {t : TypeId} {fr : Nat × Nat} (hg : w.heap[g]? = some (.cells cur.toArray t fr)) (L : List (En)) (hL : cur.take (L.length * 4) = enl L) (i : Nat) (hi : i ≤ L.length) :
  ∀ j v,(enl (L.drop i))[j]? = some v → w.cell? ((⟨g,i * 4,none⟩ : Addr).add j) = some v := by
 intro j v hj
 rw [Addr.add_mid]
 have hlt := (List.getElem?_eq_some_iff.1 hj).1
 rw [enl_length,List.length_drop] at hlt
 rw [← enl_dropI, ← hL,List.getElem?_drop,List.getElem?_take,if_pos (by omega)] at hj
 simp [World.cell?,hg,hj]
theorem Tryz.sizeEnt : (Tryz.prog.info? 47).map (·.size) = some 4 := by kernel_rfl
theorem overEnt (w : World) (vb g : Nat) (hne : vb ≠ g) (vcur cur : List Value) (hV : w.heap[vb]? = some (.cells vcur.toArray 47 (0, 0))) (hG : w.heap[g]? = some (.cells cur.toArray 47 (0, 0))) (h0 : cur.length ≠ 0) (m vc o lb cb : Nat) :
  (callFunc 79 #[.slice (some ⟨vb, 0,none⟩) m vc,.slice (some ⟨g,o,none⟩) lb cb]).run Tryz.prog w = .ok (.value (.bool false)) w := by
 rw [run_callFunc_extern Tryz.func79 (by kernel_rfl) (by kernel_rfl) (by kernel_rfl) (e := Extern.SlicesOverlaps.overlaps #[24, 24] #[4]) (by kernel_rfl),
  Lib.run_overlaps_apart w 24 4 47 Tryz.underlying24 4 (by intro w; kernel_rfl) ⟨vb, 0,none⟩ ⟨g,o,none⟩ m vc lb cb hne 47 47 vcur.length cur.length (by simp [World.shape?,hV]) (by simp [World.shape?,hG]) h0 (by simp [World.frozen?,hV]) (by simp [World.frozen?,hV])]
 rfl
set_option maxHeartbeats 4000000 in
set_option maxRecDepth 100000 in
theorem insertEnt_room (w : World) (base g cap i : Nat) (L : List (En)) (f : En) (vb : Nat) (cur : List Value) (hg : w.heap[g]? = some (.cells cur.toArray 47 (0, 0))) (hcur : cur.length = cap * 4) (htk : cur.take (L.length * 4) = enl L)
  (hcap : cap ≤ maxLen) (hbg : base ≤ g) (hroom : L.length + 1 ≤ cap) (hi : i < L.length)
  (hV : w.heap[vb]? = some (.cells #[.string f.key,.int .i64 f.st,.int .i64 f.lf,.string f.bd] 47 (0, 0))) (hne : vb ≠ g) :
  Calls Tryz.prog 48 #[.slice (some ⟨g, 0,none⟩) L.length cap,.int .i64 i,.slice (some ⟨vb, 0,none⟩) 1 1] w fun e w' => ∃ v',e = .returned v' ∧ OwnN w' base 47 v' (L.take i ++ f :: L.drop i) ∧ Tch (fun k => k = g) w w' := by
 have hov := overEnt w vb g hne [.string f.key,.int .i64 f.st,.int .i64 f.lf,.string f.bd] cur hV hg (by omega) 1 1
 have hsrc1 : Hid (∀ (wi : World),wi.heap[g]? = w.heap[g]? → ∀ j v,(enl (L.drop i))[j]? = some v → wi.cell? ((⟨g,i * 4,none⟩ : Addr).add j) = some v) := fun wi h => row_srcEnt (h.trans hg) L htk i (by omega)
 have hsrc2 : Hid (∀ (wi : World),wi.heap[vb]? = w.heap[vb]? → ∀ j v,(enl [f])[j]? = some v → wi.cell? ((⟨vb, 0,none⟩ : Addr).add j) = some v) := fun wi h j u hu => World.news_of_block (h.trans hV) j u (by simpa [enl,En.cells] using hu)
 have HG : Hid (w.heap[g]? = some (.cells cur.toArray 47 (0, 0)) ∧ cur.length = cap * 4 ∧ cur.take (L.length * 4) = enl L) := ⟨hg,hcur,htk⟩
 obtain ⟨D,hD⟩ : ∃ D,enl (L.drop i) = D := ⟨_,rfl⟩
 obtain ⟨F,hF⟩ : ∃ F,enl [f] = F := ⟨_,rfl⟩
 have hDl : Hid (D.length = (L.length - i) * 4) := by show _ = _; rw [← hD,enl_length,List.length_drop]
 have hFl : Hid (F.length = 4) := by show _ = _; rw [← hF]; rfl
 have hD1 : Hid (∀ v ∈ D,v.oneCell' = true) := by show ∀ v ∈ D,_; rw [← hD]; exact enl_one _
 have hF1 : Hid (∀ v ∈ F,v.oneCell' = true) := by show ∀ v ∈ F,_; rw [← hF]; exact enl_one _
 rw [hD] at hsrc1
 rw [hF] at hsrc2
 have HD : Hid (enl (L.drop i) = D ∧ enl [f] = F) := ⟨hD,hF⟩
 obtain ⟨n,hn⟩ : ∃ n,L.length = n := ⟨_,rfl⟩
 have HN : Hid (L.length = n) := hn
 rw [hn] at hroom hi hDl HG ⊢
 clear hg hcur htk hV hD hF hn
 have hc1 : (cap : Int) ≤ 9223372036854775807 := by unfold maxLen at hcap; omega
 have hz2 : ¬ ((i : Int) = (n : Int)) := by omega
 have hw1 : IntKind.i64.wrap ((i : Int) + 1) = (i : Int) + 1 := by rw [IntKind.wrap_i64]; omega
 have hw2 : IntKind.i64.wrap ((n : Int) + 1) = (n : Int) + 1 := by rw [IntKind.wrap_i64]; omega
 have hz3 : ¬ ((cap : Int) < (n : Int) + 1) := by omega
 have htn : ((i : Int) + 1).toNat = i + 1 := by omega
 have htn2 : ((n : Int) + 1).toNat = n + 1 := by omega
 have hb1 : (0 : Int) ≤ (i : Int) + 1 := by omega
 have hb2 : ¬ (cap = i + 1) := by omega
 have hb3 : (i : Int) ≤ (n : Int) + 1 := by omega
 have hb4 : ¬ (cap = i) := by omega
 have hb5 : (i : Int) + 1 ≤ (n : Int) + 1 := by omega
 have hb6 : (0 : Int) ≤ (n : Int) + 1 := by omega
 have hb7 : (n : Int) + 1 ≤ (cap : Int) := by omega
 have hin : i ≤ n := by omega
 go_enter Tryz.func48,Tryz.ntmps48
 go_wp2_with (simp only [hov])
 go_region_law (refine step_copy_spliceN rfl (.tmp 73) (.tmp 76) 24 24 rfl 47 4 Tryz.underlying24 Tryz.sizeEnt (n - i) (cap - (i + 1)) (n + 1 - i) (cap - i) g ((i + 1) * 4) ⟨g,i * 4,none⟩ (by simp [Act.eval,Act.put]) (by simp [Act.eval,Act.put]) cur 47 HG.out.1 D (by rw [hDl.out]; simp only [Nat.min_def]; split <;> omega) (hsrc1.out _ rfl) (by rw [hDl.out,HG.out.2.1]; omega) hD1.out base w ⟨rfl,rfl,rfl,Nat.le_refl _,fun _ _ => rfl⟩ hbg ?_; intro w1 hW1 hB1)
 go_wp2_with (refine wpList_copy_spliceN rfl (.tmp 80) (.tmp 81) 24 24 rfl 47 4 Tryz.underlying24 Tryz.sizeEnt (n + 1 - i) (cap - i) 1 1 g (i * 4) ⟨vb, 0,none⟩ rfl rfl (splice cur ((i + 1) * 4) D) 47 hW1.out.1 F (by rw [hFl.out]; simp only [Nat.min_def]; split <;> omega) (hsrc2.out _ (hW1.out.2 _ hne)) (by rw [length_splice _ _ _ (by rw [hDl.out,HG.out.2.1]; omega),hFl.out,HG.out.2.1]; omega) hF1.out base w hB1 hbg ?_; intro w2 hW2 hB2)
 go_ret
 refine ⟨_,rfl, ?_,⟨hB2.mono (Nat.zero_le _),fun k _ hn => (hW2.out.2 k hn).trans (hW1.out.2 k hn)⟩⟩
 have hl1 : (splice cur ((i + 1) * 4) D).length = cap * 4 := by rw [length_splice _ _ _ (by rw [hDl.out,HG.out.2.1]; omega),HG.out.2.1]
 have hl2 : (splice (splice cur ((i + 1) * 4) D) (i * 4) F).length = cap * 4 := by rw [length_splice _ _ _ (by rw [hl1,hFl.out]; omega),hl1]
 have hLn : (L.take i ++ f :: L.drop i).length = n + 1 := by have := HN.out; simp; omega
 refine ⟨by rw [enl_length],.inr ⟨g,cap,(splice (splice cur ((i + 1) * 4) D) (i * 4) F).toArray,by rw [hLn]; rfl,hbg,hW2.out.1,by omega,hcap,by simpa using hl2, ?_⟩⟩
 have e := ins_spliceEnt cur D F (i * 4) 4 hFl.out (by rw [hDl.out,HG.out.2.1]; omega)
 rw [show (i + 1) * 4 = i * 4 + 4 by omega,hLn,show (n + 1) * 4 = i * 4 + 4 + D.length by rw [hDl.out]; omega]
 show List.take _ (splice (splice cur (i * 4 + 4) D) (i * 4) F) = _
 rw [e, ← HD.out.1, ← HD.out.2,show cur.take (i * 4) = enl (L.take i) by rw [← enl_takeI, ← HG.out.2.2,List.take_take,Nat.min_eq_left (by omega)]]
 rw [show L.take i ++ f :: L.drop i = L.take i ++ [f] ++ L.drop i by simp,enl_appendI,enl_appendI]
set_option maxHeartbeats 4000000 in
set_option maxRecDepth 100000 in
theorem insertEnt_grow (w : World) (base g cap i : Nat) (L : List (En)) (f : En) (vb : Nat) (cur : List Value) (hg : w.heap[g]? = some (.cells cur.toArray 47 (0, 0))) (htk : cur.take (L.length * 4) = enl L)
  (hnc : L.length ≤ cap) (hroom : cap < L.length + 1) (hi : i < L.length) (hm : L.length ≤ 1048577) (hbase : base ≤ w.heap.size)
  (hV : w.heap[vb]? = some (.cells #[.string f.key,.int .i64 f.st,.int .i64 f.lf,.string f.bd] 47 (0, 0))) :
  Calls Tryz.prog 48 #[.slice (some ⟨g, 0,none⟩) L.length cap,.int .i64 i,.slice (some ⟨vb, 0,none⟩) 1 1] w fun e w' => ∃ v',e = .returned v' ∧ OwnN w' base 47 v' (L.take i ++ f :: L.drop i) ∧ Below w.heap.size w w' := by
 have hgs : g < w.heap.size := (Array.getElem?_eq_some_iff.1 hg).1
 have hvs : vb < w.heap.size := (Array.getElem?_eq_some_iff.1 hV).1
 obtain ⟨i0,hi0,hz0,hzs,hzb⟩ := info_parts Tryz.infoEn
 have hsrc1 : Hid (∀ (wi : World),wi.heap[g]? = w.heap[g]? → ∀ j v,(enl (L.drop i))[j]? = some v → wi.cell? ((⟨g,i * 4,none⟩ : Addr).add j) = some v) := fun wi h => row_srcEnt (h.trans hg) L htk i (by omega)
 have hsrc2 : Hid (∀ (wi : World),wi.heap[vb]? = w.heap[vb]? → ∀ j v,(enl [f])[j]? = some v → wi.cell? ((⟨vb, 0,none⟩ : Addr).add j) = some v) := fun wi h j u hu => World.news_of_block (h.trans hV) j u (by simpa [enl,En.cells] using hu)
 have hold : (Builtin.firstCells i0.size i (.slice (some ⟨g, 0,none⟩) i cap)).run Tryz.prog w.drew = .ok (enl (L.take i)).toArray w.drew := by
  rw [hzs]
  exact run_firstCells_some w.drew 4 i ⟨g, 0,none⟩ i cap (enl (L.take i)) (by rw [enl_length,List.length_take]; omega) (fun j v hj => by
   have h0 := row_srcEnt (w := w.drew) hg L htk 0 (by omega) j v (by
    have hl := (List.getElem?_eq_some_iff.1 hj).1
    rw [← enl_takeI,List.getElem?_take] at hj
    split at hj
    ·exact hj
    ·cases hj)
   simpa using h0)
 obtain ⟨D,hD⟩ : ∃ D,enl (L.drop i) = D := ⟨_,rfl⟩
 obtain ⟨F,hF⟩ : ∃ F,enl [f] = F := ⟨_,rfl⟩
 have hDl : Hid (D.length = (L.length - i) * 4) := by show _ = _; rw [← hD,enl_length,List.length_drop]
 have hFl : Hid (F.length = 4) := by show _ = _; rw [← hF]; rfl
 have hD1 : Hid (∀ v ∈ D,v.oneCell' = true) := by show ∀ v ∈ D,_; rw [← hD]; exact enl_one _
 have hF1 : Hid (∀ v ∈ F,v.oneCell' = true) := by show ∀ v ∈ F,_; rw [← hF]; exact enl_one _
 rw [hD] at hsrc1
 rw [hF] at hsrc2
 have HD : Hid (enl (L.drop i) = D ∧ enl [f] = F) := ⟨hD,hF⟩
 obtain ⟨n,hn⟩ : ∃ n,L.length = n := ⟨_,rfl⟩
 have HN : Hid (L.length = n) := hn
 rw [hn] at hnc hroom hi hDl hm ⊢
 have hkk : (n : Int) + 1 - (i : Int) = ((n + 1 - i : Nat) : Int) := by omega
 have hik : i + (n + 1 - i) = n + 1 := by omega
 obtain ⟨G,hG⟩ : ∃ G,G = grownCap w (n + 1) cap 47 := ⟨_,rfl⟩
 obtain ⟨ROW,hROW⟩ : ∃ ROW : Array Value,ROW = (enl (L.take i)).toArray ++ Builtin.zeroCells (Value.agg #[.string ⟨#[]⟩,.int .i64 0,.int .i64 0,.string ⟨#[]⟩]).cells (n + 1 - i) ++ Builtin.zeroCells (Value.agg #[.string ⟨#[]⟩,.int .i64 0,.int .i64 0,.string ⟨#[]⟩]).cells (G - (n + 1)) := ⟨_,rfl⟩
 have hGn : n + 1 ≤ G := by rw [hG]; exact grownCap_ge w _ _ _
 have hG63 : G ≤ maxLen := by rw [hG]; exact grownCap_le_maxLen w (n + 1) cap 47 (by unfold maxLen; omega)
 have hRl : ROW.toList.length = G * 4 := by
  have hzl : ∀ k,(Builtin.zeroCells (Value.agg #[.string ⟨#[]⟩,.int .i64 0,.int .i64 0,.string ⟨#[]⟩]).cells k).size = k * 4 := fun k => by simp [Builtin.zeroCells,Value.cells]
  rw [hROW,Array.length_toList,Array.size_append,Array.size_append,hzl,hzl,List.size_toArray,enl_length,List.length_take]
  omega
 have hRt : ROW.toList.take (i * 4) = enl (L.take i) := by
  rw [hROW]
  simp only [Array.toList_append]
  rw [List.append_assoc,List.take_append_of_le_length (by rw [enl_length,List.length_take]; omega)]
  exact List.take_of_length_le (by rw [enl_length,List.length_take]; omega)
 have hrz : ∀ ty,(Builtin.append_ #[24, 3] ty #[.slice (some ⟨g, 0,none⟩) i cap,.int .i64 ((n : Int) + 1 - (i : Int))]).run Tryz.prog w =
   .ok (.slice (some ⟨w.heap.size, 0,none⟩) (n + 1) G) (w.drew.alloc (.cells ROW 47)) := fun ty => by
  have h := Lib.run_append_grow_zeros w 24 3 ty 47 i0 _ .i64 .i64 Tryz.underlying24 Tryz.underlying3 hi0 hz0 (some ⟨g, 0,none⟩) i cap (enl (L.take i)) hold (n + 1 - i) (by omega) (by omega) (by omega) (by omega) (by rw [hzb]; omega) (by rw [hzb,hik]; exact growslice_fits hroom (by omega))
  rw [hik] at h
  rw [hkk,hROW,hG]
  exact h
 obtain ⟨W1,hW1⟩ : ∃ W1,w.drew.alloc (.cells ROW 47) = W1 := ⟨_,rfl⟩
 rw [hW1] at hrz
 have HW : Hid (W1.heap[w.heap.size]? = some (.cells ROW.toList.toArray 47 (0, 0)) ∧ W1.heap[g]? = w.heap[g]? ∧ W1.heap[vb]? = w.heap[vb]? ∧ Below w.heap.size w W1) := by
  rw [← hW1]
  refine ⟨by rw [Array.toArray_toList]; exact heap_alloc_new w.drew _,Below.heap_alloc w.drew _ _ hgs,Below.heap_alloc w.drew _ _ hvs, ?_⟩
  exact (show Below w.heap.size w w.drew from ⟨rfl,rfl,rfl,Nat.le_refl _,fun _ _ => rfl⟩).alloc (Nat.le_refl _) _
 obtain ⟨S,hS⟩ : ∃ S,w.heap.size = S := ⟨_,rfl⟩
 rw [hS] at hrz HW hbase hgs hvs
 have HR : Hid (ROW.toList.length = G * 4 ∧ ROW.toList.take (i * 4) = enl (L.take i)) := ⟨hRl,hRt⟩
 clear hg htk hV hD hF hn hold hROW hG hRl hRt hW1 hkk hik
 have hc1 : (G : Int) ≤ 9223372036854775807 := by unfold maxLen at hG63; omega
 have hz2 : ¬ ((i : Int) = (n : Int)) := by omega
 have hw1 : IntKind.i64.wrap ((i : Int) + 1) = (i : Int) + 1 := by rw [IntKind.wrap_i64]; omega
 have hw2 : IntKind.i64.wrap ((n : Int) + 1) = (n : Int) + 1 := by rw [IntKind.wrap_i64]; omega
 have hw3 : IntKind.i64.wrap ((n : Int) + 1 - (i : Int)) = (n : Int) + 1 - (i : Int) := by rw [IntKind.wrap_i64]; omega
 have hz3 : (cap : Int) < (n : Int) + 1 := by omega
 have htn : ((i : Int) + 1).toNat = i + 1 := by omega
 have hb1 : (0 : Int) ≤ (i : Int) + 1 := by omega
 have hb2 : ¬ (G = i + 1) := by omega
 have hb3 : (i : Int) ≤ (n : Int) + 1 := by omega
 have hb4 : ¬ (G = i) := by omega
 have hb8 : ¬ (cap = i) := by omega
 have hb5 : (i : Int) + 1 ≤ (n : Int) + 1 := by omega
 have hic : (i : Int) ≤ (cap : Int) := by omega
 have hin : i ≤ n := by omega
 have hin' : (i : Int) ≤ (n : Int) := by omega
 have hne1 : g ≠ S := by omega
 have hne2 : vb ≠ S := by omega
 go_enter Tryz.func48,Tryz.ntmps48
 go_wp2_with (first | (at_builtin; refine Lib.wpList_append_run _ rfl _ _ _ _ rfl _ _ rfl rfl _ _ (hrz _) ?_) | (refine wpList_copy_spliceN rfl (.tmp 43) (.tmp 44) 24 24 rfl 47 4 Tryz.underlying24 Tryz.sizeEnt (n + 1 - i) (G - i) 1 1 S (i * 4) ⟨vb, 0,none⟩ rfl rfl ROW.toList 47 HW.out.1 F (by rw [hFl.out]; simp only [Nat.min_def]; split <;> omega) (hsrc2.out _ HW.out.2.2.1) (by rw [HR.out.1,hFl.out]; omega) hF1.out S w HW.out.2.2.2 (Nat.le_refl _) ?_; intro w1 hC1 hB1))
 go_region_law (refine step_copy_spliceN rfl (.tmp 50) (.tmp 53) 24 24 rfl 47 4 Tryz.underlying24 Tryz.sizeEnt (n - i) (G - (i + 1)) (n - i) (cap - i) S ((i + 1) * 4) ⟨g,i * 4,none⟩ (by simp [Act.eval,Act.put]) (by simp [Act.eval,Act.put]) (splice ROW.toList (i * 4) F) 47 hC1.out.1 D (by rw [hDl.out]; simp only [Nat.min_def]; split <;> omega) (hsrc1.out _ ((hC1.out.2 _ hne1).trans HW.out.2.1)) (by rw [length_splice _ _ _ (by rw [HR.out.1,hFl.out]; omega),hDl.out,HR.out.1]; omega) hD1.out S w (hB1.trans ⟨rfl,rfl,rfl,Nat.le_refl _,fun _ _ => rfl⟩) (Nat.le_refl _) ?_; intro w2 hC2 hB2)
 go_wp2
 go_ret
 refine ⟨_,rfl, ?_,by rw [hS]; exact hB2⟩
 have hl1 : (splice ROW.toList (i * 4) F).length = G * 4 := by rw [length_splice _ _ _ (by rw [HR.out.1,hFl.out]; omega),HR.out.1]
 have hl2 : (splice (splice ROW.toList (i * 4) F) ((i + 1) * 4) D).length = G * 4 := by rw [length_splice _ _ _ (by rw [hl1,hDl.out]; omega),hl1]
 have hLn : (L.take i ++ f :: L.drop i).length = n + 1 := by have := HN.out; simp; omega
 refine ⟨by rw [enl_length],.inr ⟨S,G,(splice (splice ROW.toList (i * 4) F) ((i + 1) * 4) D).toArray,by rw [hLn]; rfl,hbase,hC2.out.1,by omega,hG63,by simpa using hl2, ?_⟩⟩
 have e := ins_spliceEnt' ROW.toList D F (i * 4) 4 hFl.out (by rw [hDl.out,HR.out.1]; omega)
 rw [show (i + 1) * 4 = i * 4 + 4 by omega,hLn,show (n + 1) * 4 = i * 4 + 4 + D.length by rw [hDl.out]; omega]
 show List.take _ (splice (splice ROW.toList (i * 4) F) (i * 4 + 4) D) = _
 rw [e, ← HD.out.1, ← HD.out.2,HR.out.2]
 rw [show L.take i ++ f :: L.drop i = L.take i ++ [f] ++ L.drop i by simp,enl_appendI,enl_appendI]
theorem insertEnt_any (w : World) (base : Nat) (v : Value) (L : List (En)) (i : Nat) (f : En) (vb : Nat) (ho : OwnN w base 47 v L) (hbase : base ≤ w.heap.size) (hm : L.length ≤ 1048577) (hi : i ≤ L.length)
  (hV : w.heap[vb]? = some (.cells #[.string f.key,.int .i64 f.st,.int .i64 f.lf,.string f.bd] 47 (0, 0))) (hne : v.ownBlock ≠ some vb) :
  Calls Tryz.prog 48 #[v,.int .i64 i,.slice (some ⟨vb, 0,none⟩) 1 1] w fun e w' => ∃ v',e = .returned v' ∧ OwnN w' base 47 v' (L.take i ++ f :: L.drop i) ∧ Tch (fun k => v.ownBlock = some k) w w' := by
 by_cases he : i = L.length
 ·subst he
  have := insertEnt_end w base v L f vb ho hbase hm hV
  simpa using this
 ·rcases ho.2 with ⟨_,h0⟩ | ⟨g,cap,cur,rfl,hb,hg,h1,h2,h3,h4⟩
  ·omega
  ·have hg' : w.heap[g]? = some (.cells cur.toList.toArray 47 (0, 0)) := by simpa using hg
   by_cases hr : L.length + 1 ≤ cap
   ·exact (insertEnt_room w base g cap i L f vb cur.toList hg' (by simpa using h3) h4 h2 hb hr (by omega) hV (fun e => hne (by rw [e]; rfl))).mono (fun e w' h => by obtain ⟨v',he,ho',ht⟩ := h; exact ⟨v',he,ho',ht.weak (fun k e => by rw [e]; rfl)⟩)
   ·exact (insertEnt_grow w base g cap i L f vb cur.toList hg' h4 h1 (by omega) (by omega) hm hbase hV).mono (fun e w' h => by obtain ⟨v',he,ho',ht⟩ := h; exact ⟨v',he,ho',Tch.of_below ht⟩)
end Go.Proofs.YthfjfccdelbkhaaGreatDoor
namespace Go.Proofs.YthfjfccdelbkhaaGreatDoor
section
variable {P : Program} {ops : Array Oper} {Q : Exit → Act → World → Prop} {md : Region.Mode} {S : World → Prop}
theorem wpOp_at {i : Nat} {o : Oper} {K : Act → World → Prop} {a : Act} {w : World} (ho : ops[i]? = some o) (hg : o.guard = none) (h : o.wp P a w K Q) : wpOp P ops Q i K a w := by
 unfold wpOp
 simp only [ho]
 have hw : Region.wanted o (yielded ops a.tmps) = true := by simp [Region.wanted,hg]
 rw [if_pos hw]
 exact .inl h
theorem wpOp_value {i : Nat} {o : Oper} {K : Act → World → Prop} {a : Act} {w w' : World} (v : Value) (ho : ops[i]? = some o) (hg : o.guard = none) (hr : (execOp a.eval o).run P w = .ok (.value v) w') (h : K (a.put o.dst v) w') : wpOp P ops Q i K a w :=
 wpOp_at ho hg (by unfold Oper.wp; rw [hr]; exact h)
theorem wpOp_skip {i : Nat} {o : Oper} {K : Act → World → Prop} {a : Act} {w w' : World} (ho : ops[i]? = some o) (hg : o.guard = none) (hr : (execOp a.eval o).run P w = .ok .skip w') (h : K (a.put o.dst undef) w') : wpOp P ops Q i K a w :=
 wpOp_at ho hg (by unfold Oper.wp; rw [hr]; exact h)
theorem wpOp_enter {i : Nat} {o : Oper} {K : Act → World → Prop} {a : Act} {w : World} (f : FuncId) (args : Array Value) (ho : ops[i]? = some o) (hg : o.guard = none) (hr : (execOp a.eval o).run P w = .ok (.enter f args) w) (h : Calls P f args w fun e w' => ∃ v,e = .returned v ∧ K (a.put o.dst v) w') : wpOp P ops Q i K a w :=
 wpOp_at ho hg (by
  unfold Oper.wp
  rw [hr]
  exact Calls.mono h fun e w' he => by
   obtain ⟨v,rfl,hk⟩ := he
   exact hk)
end
end Go.Proofs.YthfjfccdelbkhaaGreatDoor
namespace Go.Proofs.YthfjfccdelbkhaaGreatDoor
section
variable {P : Program} {ops : Array Oper} {Q : Exit → Act → World → Prop} {md : Region.Mode} {S : World → Prop}
def backM (md : Region.Mode) (ops : Array Oper) : Bool := (List.range ops.size).all fun i => match ops[i]? with | some o => o.after.all fun e => !Region.binds md e || decide (e.on < i) | none => true
theorem backM_spec (h : backM md ops = true) : ∀ (i : Nat) (o : Oper),ops[i]? = some o → ∀ e ∈ o.after,Region.binds md e = true → e.on < i := by
 intro i o ho e he hb
 have hlt : i < ops.size := (Array.getElem?_eq_some_iff.1 ho).1
 have h1 := (List.all_eq_true.1 h) i (List.mem_range.2 hlt)
 rw [ho] at h1
 have h2 := Array.all_eq_true_iff_forall_mem.1 h1 e he
 rw [hb] at h2
 simpa using h2
theorem all_listedM {s : Array Bool} (hback : ∀ (i : Nat) (o : Oper),ops[i]? = some o → ∀ e ∈ o.after,Region.binds md e = true → e.on < i) (h : Region.ready md ops s = []) (hsz : s.size = ops.size) : ∀ k,k < ops.size → s.getD k false = true := by
 intro k
 induction k using Nat.strongRecOn with
 | ind k ih =>
  intro hk
  cases hb : s.getD k false with
  | true => rfl
  | false =>
   exfalso
   have hm : k ∈ Region.ready md ops s := by
    refine mem_ready.2 ⟨?_,ops[k],Array.getElem?_eq_getElem hk,fun e he hbe => ih e.on (hback k _ (Array.getElem?_eq_getElem hk) e he hbe) ?_⟩
    ·have h' : k < s.size := by omega
     simp [h'] at hb ⊢
     exact hb
    ·have := hback k _ (Array.getElem?_eq_getElem hk) e he hbe
     omega
   rw [h] at hm
   cases hm
theorem wpAnyH_invM (I : Array Bool → Act → World → Prop) (hbk : backM md ops = true)
  (hsz : ∀ s a w,I s a w → s.size = ops.size) (hS : ∀ s a w,I s a w → S w)
  (hstep : ∀ s a w i,I s a w → i ∈ Region.ready md ops s → wpOp P ops Q i (I (s.setIfInBounds i true)) a w)
  (hend : ∀ s a w,I s a w → (∀ k,k < ops.size → s.getD k false = true) → Q .normal a w) :
  ∀ (m : Nat) (s : Array Bool) (a : Act) (w : World),I s a w → s.toList.count false ≤ m → wpAnyH P md ops Q S m s a w := by
 have hback := backM_spec hbk
 intro m
 induction m with
 | zero =>
  intro s a w hI hc
  have hall : ∀ k,k < ops.size → s.getD k false = true := by
   intro k hk
   have hk' : k < s.size := by rw [hsz s a w hI]; exact hk
   have h0 : s.toList.count false = 0 := by omega
   have hn : false ∉ s.toList := List.count_eq_zero.1 h0
   cases hb : s[k] with
   | true => simp [hk',hb]
   | false => exact absurd (by rw [← hb]; simp) hn
  refine ⟨?_,hend s a w hI hall⟩
  rw [List.eq_nil_iff_forall_not_mem]
  intro i hi
  obtain ⟨h1,o,ho,_⟩ := mem_ready.1 hi
  have hlt : i < ops.size := (Array.getElem?_eq_some_iff.1 ho).1
  have h2 := hall i hlt
  have hk' : i < s.size := by rw [hsz s a w hI]; exact hlt
  simp [hk'] at h1 h2
  rw [h1] at h2
  cases h2
 | succ m ih =>
  intro s a w hI hc
  refine ⟨fun h => hend s a w hI (all_listedM hback h (hsz s a w hI)),fun i hi => ?_⟩
  refine wpOp_mono (fun a' w' h' => ⟨hS _ _ _ h',ih _ a' w' h' ?_⟩) (hstep s a w i hI hi)
  obtain ⟨h1,o,ho,_⟩ := mem_ready.1 hi
  have hlt : i < ops.size := (Array.getElem?_eq_some_iff.1 ho).1
  have hk' : i < s.size := by rw [hsz s a w hI]; exact hlt
  have hf : s.toList[i]'(by simpa using hk') = false := by simpa [hk'] using h1
  have hpos : 0 < s.toList.count false := List.count_pos_iff.2 (by rw [← hf]; exact List.getElem_mem _)
  have hset : (s.setIfInBounds i true).toList.count false = s.toList.count false - 1 := by
   rw [Array.toList_setIfInBounds,List.count_set (by simpa using hk')]
   simp [hf]
  omega
end
end Go.Proofs.YthfjfccdelbkhaaGreatDoor
