/- Texts that stand in one: ToEnd, SkBumpImpl. -/
import Derived.Test.YthfjfccdelbkhaaGreatDoorSettleJ
import Derived.Test.YthfjfccdelbkhaaGreatDoorDelEntJ
import Derived.Test.YthfjfccdelbkhaaGreatDoorFolderPlainJ
import Derived.Deep.RegionLaw
import Derived.Deep.MidRow
import Derived.Test.YthfjfccdelbkhaaGreatDoorPolSpecJ
import Derived.Test.YthfjfccdelbkhaaGreatDoorSkOkSpecJ
import Derived.Test.YthfjfccdelbkhaaGreatDoorSumSpecJ
import Derived.Test.YthfjfccdelbkhaaGreatDoorSkStepJ
namespace Go.Proofs.YthfjfccdelbkhaaGreatDoor
open Go.RowKit Go.Sort
theorem without_at {L : List ByteArray} {key : ByteArray} {k : Nat} (hn : L.Nodup) (hk : k < L.length) (h : L[k] = key) : without L key = L.take k ++ L.drop (k + 1) := by
 have e : L = L.take k ++ key :: L.drop (k + 1) := by
  rw [← h, ← List.drop_eq_getElem_cons hk,List.take_append_drop]
 rw [e] at hn
 rw [List.nodup_append,List.nodup_cons] at hn
 obtain ⟨_,⟨h2,_⟩,h3⟩ := hn
 have h1 : key ∉ L.take k := fun hm => h3 key hm key (List.mem_cons_self ..) rfl
 have e2 : without L key = without (L.take k ++ key :: L.drop (k + 1)) key := congrArg (fun l => without l key) e
 rw [e2]
 unfold without
 rw [List.filter_append,List.filter_cons]
 simp only [decide_true,Bool.not_true,Bool.false_eq_true,if_false]
 have f1 := without_none h1
 have f2 := without_none h2
 unfold without at f1 f2
 rw [f1,f2]
theorem Tryz.sizeStr : (Tryz.prog.info? 9).map (·.size) = some 1 := by kernel_rfl
theorem end_row {cur cs : List Value} {k n : Nat} {xs : List Value} {z : Value} (hx : cur.take n = xs) (hl : xs.length = n) (hc : n ≤ cur.length) (hk : k < n) (hcs : cs = xs.drop (k + 1)) : ((splice cur k cs).set (n - 1) z).take n = xs.take k ++ xs.drop (k + 1) ++ [z] := by
 have hcl : cs.length = n - (k + 1) := by rw [hcs,List.length_drop,hl]
 have e1 : splice cur k cs = (xs.take k ++ cs) ++ cur.drop (n - 1) := by
  unfold splice
  rw [← hx,List.take_take,Nat.min_eq_left (by omega),hcl,show k + (n - (k + 1)) = n - 1 by omega,List.append_assoc]
 have el : (xs.take k ++ cs).length = n - 1 := by rw [List.length_append,List.length_take,hcl,hl]; omega
 obtain ⟨y,hy⟩ : ∃ y,cur.drop (n - 1) = y :: cur.drop n := by
  refine ⟨cur[n - 1], ?_⟩
  rw [List.drop_eq_getElem_cons (by omega),show n - 1 + 1 = n by omega]
 rw [e1,List.set_append_right _ _ (by omega),el,Nat.sub_self,hy,List.set_cons_zero, ← hcs]
 rw [show (xs.take k ++ cs) ++ z :: cur.drop n = ((xs.take k ++ cs) ++ [z]) ++ cur.drop n by simp]
 rw [List.take_append_of_le_length (by rw [List.length_append,el]; simp; omega)]
 exact List.take_of_length_le (by rw [List.length_append,el]; simp; omega)
theorem heap_put' {w : World} {V : Nat} {cs : Array Value} {ty : TypeId} (h : w.heap[V]? = some (.cells cs ty (0, 0))) (i : Nat) (x : Value) : (w.setCell ⟨V,i,none⟩ x).heap[V]? = some (.cells (cs.setIfInBounds i x) ty (0, 0)) := by
 simp only [World.setCell,Array.getElem?_modify,h]
 simp
set_option maxRecDepth 100000 in
set_option maxHeartbeats 4000000 in
theorem toEnd_row (w : World) (base g c : Nat) (L : List ByteArray) (cur : List Value) (key : ByteArray) (hg : w.heap[g]? = some (.cells cur.toArray 9 (0, 0))) (hcur : cur.length = c) (htk : cur.take L.length = strs L) (hcap : c ≤ maxLen) (hbg : base ≤ g) (hnc : L.length ≤ c) (hm : L.length ≤ 1048576) (hnd : L.Nodup) :
  Calls Tryz.prog 95 #[.slice (some ⟨g, 0,none⟩) L.length c,.string key] w fun e w' => (inL L key = false ∧ e = .returned (.bool false) ∧ w' = w) ∨ (inL L key = true ∧ e = .returned (.bool true) ∧ OwnV w' base 9 (.slice (some ⟨g, 0,none⟩) L.length c) (strs (without L key ++ [key])) ∧ w.grownBy w' (some g)) := by
 have hgs := (Array.getElem?_eq_some_iff.1 hg).1
 have hL : LAt w (some ⟨g, 0,none⟩) L w.heap.size := fun j hj => by
  refine ⟨g, 0,rfl,hgs, ?_⟩
  rw [Nat.zero_add,cell_of_row w g j _ _ (0, 0) hg]
  have h1 : (cur.take L.length)[j]? = (strs L)[j]? := by rw [htk]
  rw [List.getElem?_take_of_lt hj,List.getElem?_eq_getElem (l := strs L) (by rw [strs_length]; exact hj),strs_at hj] at h1
  simpa using h1
 have c1 := indexS_any w (some ⟨g, 0,none⟩) c L key hL (by omega)
 go_enter Tryz.func95,Tryz.ntmps95
 go_wp2_with fail
 refine c1.mono ?_
 rintro e w' ⟨r,rfl,hw',h⟩
 rw [hw']
 clear c1 hw'
 rcases h with ⟨rfl,h⟩ | ⟨k,hk,rfl,h1,h2⟩
 ·have HI : Hid (inL L key = false) := h
  clear h
  go_wp2_with fail
  go_ret
  exact .inl ⟨HI.out,rfl,rfl⟩
 ·have HI : Hid (inL L key = true) := inL_iff.2 (by rw [← h1]; exact List.getElem_mem hk)
  have HWA : Hid (without L key = L.take k ++ L.drop (k + 1)) := without_at hnd hk h1
  have hck : w.cell? ⟨g,k,none⟩ = some (.string key) := by
   obtain ⟨g',off,e1,_,e2⟩ := hL k hk
   simp only [Option.some.injEq,Addr.mk.injEq,and_true] at e1
   rw [← e1.1, ← e1.2,Nat.zero_add] at e2
   rw [e2,h1]
  obtain ⟨D,hD⟩ : ∃ D,(strs L).drop (k + 1) = D := ⟨_,rfl⟩
  have hDl : D.length = L.length - (k + 1) := by rw [← hD,List.length_drop,strs_length]
  have hsrc0 : ∀ j v,D[j]? = some v → w.cell? ⟨g,k + 1 + j,none⟩ = some v := fun j v hv => by
   have hjl : j < D.length := (List.getElem?_eq_some_iff.1 hv).1
   rw [cell_of_row w g (k + 1 + j) _ _ (0, 0) hg]
   rw [← hD,List.getElem?_drop, ← htk,List.getElem?_take_of_lt (by omega)] at hv
   simpa using hv
  obtain ⟨A,hA,hsrc⟩ : ∃ A : Addr,(if c = k + 1 then some (⟨g, 0,none⟩ : Addr) else some ⟨g,k + 1,none⟩) = some A ∧ Hid (∀ j v,D[j]? = some v → w.drew.cell? (A.add j) = some v) := by
   by_cases h : c = k + 1
   ·refine ⟨⟨g, 0,none⟩,by simp [h],fun t u hu => ?_⟩
    have h0 : D.length = 0 := by rw [hDl]; omega
    rw [List.length_eq_zero_iff.1 h0] at hu
    simp at hu
   ·exact ⟨⟨g,k + 1,none⟩,by simp [h],fun j v hv => by rw [Addr.add_mid]; exact hsrc0 j v hv⟩
  have HDl : Hid (D.length = L.length - (k + 1)) := hDl
  have HD : Hid ((strs L).drop (k + 1) = D) := hD
  have s2 : Hid (∀ v ∈ D,v.oneCell' = true) := by
   intro v hv
   rw [← hD] at hv
   have hv' := List.mem_of_mem_drop hv
   simp only [strs,List.mem_map] at hv'
   obtain ⟨b,_,rfl⟩ := hv'
   rfl
  have HG : Hid (w.drew.heap[g]? = some (.cells cur.toArray 9 (0, 0)) ∧ cur.length = c ∧ cur.take L.length = strs L ∧ w.heap.size = w.drew.heap.size) := ⟨hg,hcur,htk,rfl⟩
  have hdb : Hid (Below g w w.drew) := ⟨rfl,rfl,rfl,Nat.le_refl _,fun _ _ => rfl⟩
  have hw1 : IntKind.i64.wrap ((k : Int) + 1) = (k : Int) + 1 := by rw [IntKind.wrap_i64]; omega
  have hw2 : IntKind.i64.wrap ((L.length : Int) - 1) = (L.length : Int) - 1 := by rw [IntKind.wrap_i64]; omega
  have hn0 : ¬ ((k : Int) < 0) := by omega
  have hi1 : (0 : Int) ≤ (k : Int) := by omega
  have hi2 : (k : Int) < (L.length : Int) := by omega
  have hi3 : (k : Int) ≤ (L.length : Int) := by omega
  have hi4 : (L.length : Int) ≤ (c : Int) := by omega
  have hi5 : (0 : Int) ≤ (k : Int) + 1 := by omega
  have hi6 : (k : Int) + 1 ≤ (L.length : Int) := by omega
  have htn : ((k : Int) + 1).toNat = k + 1 := by omega
  have hl1 : (0 : Int) ≤ (L.length : Int) - 1 := by omega
  have hl2 : (L.length : Int) - 1 < (L.length : Int) := by omega
  have hl3 : ((L.length : Int) - 1).toNat = L.length - 1 := by omega
  have hd1 : ¬ (c = k) := by omega
  have HK : Hid (k < L.length ∧ L.length ≤ c) := ⟨hk,hnc⟩
  clear h1 h2 hk hL hg hcur htk hgs hD hDl hsrc0 hnd
  go_wp2_with fail
  go_region_law (refine step_copy_spliceN rfl (.tmp 18) (.tmp 22) 25 25 rfl 9 1 Tryz.underlying25 Tryz.sizeStr (L.length - k) (c - k) (L.length - (k + 1)) (c - (k + 1)) g k A (by simp [Act.eval,Act.put]) (by simp [Act.eval,Act.put]) cur 9 HG.out.1 D (by rw [HDl.out,Nat.mul_one]; simp only [Nat.min_def]; split <;> omega) hsrc.out (by rw [HDl.out,HG.out.2.1]; have := HK.out; omega) s2.out g w hdb.out (Nat.le_refl _) ?_; rintro w4 h4 hb4)
  obtain ⟨hrow,hoth⟩ := h4.out
  obtain ⟨_,hcl,htk,_⟩ := HG.out
  have hk := HK.out
  have hsl : (splice cur k D).length = c := by rw [length_splice _ _ _ (by rw [HDl.out,hcl]; omega),hcl]
  have q0 : ∃ y,w4.cell? ⟨g,L.length - 1,none⟩ = some y := by
   refine ⟨(splice cur k D)[L.length - 1]'(by rw [hsl]; omega), ?_⟩
   rw [cell_of_row w4 g (L.length - 1) _ _ (0, 0) hrow]
   simp
  obtain ⟨y,q0⟩ := q0
  have q1 : w4.frozen? ⟨g,L.length - 1,none⟩ = false := by simp [World.frozen?,hrow]
  have HF : Hid (OwnV (w4.setCell ⟨g,L.length - 1,none⟩ (.string key)) base 9 (.slice (some ⟨g, 0,none⟩) L.length c) (strs (without L key ++ [key])) ∧ w.grownBy (w4.setCell ⟨g,L.length - 1,none⟩ (.string key)) (some g)) := by
   have hln : (without L key ++ [key]).length = L.length := by rw [HWA.out]; simp; omega
   refine ⟨?_,⟨hb4.os,hb4.tape,hb4.output,by simpa [World.setCell] using hb4.size,fun j hj hn => ?_⟩⟩
   ·unfold OwnV
    rw [strs_length,hln]
    refine ⟨by rw [strs_length,hln,Nat.mul_one],.inr ⟨g,c,_,rfl,hbg,heap_put' hrow (L.length - 1) (.string key),by omega,hcap, ?_, ?_⟩⟩
    ·simp [hsl]
    ·have e := end_row (z := .string key) htk (strs_length L) (by omega) hk.1 HD.out.symm
     rw [Nat.mul_one,HWA.out]
     simp only [Array.toList_setIfInBounds]
     rw [e]
     simp [strs]
   ·have hjg : j ≠ g := fun e => hn (by rw [e])
    rw [Below.heap_setCell _ _ _ _ (by exact hjg)]
    exact hoth j hjg
  clear hrow hoth h4 hcl htk hk hsl hb4 HD HDl HG hsrc s2 HWA hA
  go_wp2_with fail
  go_ret
  exact .inr ⟨HI.out,rfl,HF.out.1,HF.out.2⟩
theorem toEnd_any (w : World) (base : Nat) (v : Value) (L : List ByteArray) (key : ByteArray) (ho : OwnV w base 9 v (strs L)) (hm : L.length ≤ 1048576) (hnd : L.Nodup) :
  Calls Tryz.prog 95 #[v,.string key] w fun e w' => (inL L key = false ∧ e = .returned (.bool false) ∧ w' = w) ∨ (inL L key = true ∧ e = .returned (.bool true) ∧ OwnV w' base 9 v (strs (without L key ++ [key])) ∧ w.grownBy w' v.ownBlock) := by
 rcases ho.2 with ⟨rfl,h0⟩ | ⟨g,c,cur,rfl,h1,h2,h3,h4,h5,h6⟩
 ·rw [strs_length] at h0
  have hl : L = [] := List.length_eq_zero_iff.1 h0
  subst hl
  have c1 := indexS_any w none 0 [] key (fun j hj => by simp at hj) (by simp)
  go_enter Tryz.func95,Tryz.ntmps95
  go_wp2_with fail
  refine c1.mono ?_
  rintro e w' ⟨r,rfl,hw',h⟩
  rw [hw']
  clear c1 hw'
  rcases h with ⟨rfl,h⟩ | ⟨k0,hk0,_⟩
  ·go_wp2_with fail
   go_ret
   exact .inl ⟨rfl,rfl,rfl⟩
  ·simp at hk0
 ·rw [strs_length] at h3 h6 ⊢
  have h2' : w.heap[g]? = some (.cells cur.toList.toArray 9 (0, 0)) := by simpa using h2
  exact toEnd_row w base g c L cur.toList key h2' (by simpa using h5) (by rw [Nat.mul_one] at h6; exact h6) h4 h1 h3 hm hnd
@[reducible] def zl : Array Value := #[.int .i64 0,.int .i64 0,.int .i64 0,.int .i64 0,.int .i64 0,.int .i64 0,.int .i64 0,.int .i64 0,.int .i64 0,.int .i64 0,.int .i64 0,.int .i64 0,.int .i64 0,.int .i64 0,.int .i64 0,.int .i64 0,.int .i64 0,.int .i64 0,.int .i64 0,.int .i64 0,.int .i64 0,.int .i64 0,.int .i64 0,.int .i64 0,.int .i64 0,.int .i64 0,.int .i64 0,.int .i64 0,.int .i64 0,.int .i64 0,.int .i64 0,.int .i64 0,.int .i64 0,.int .i64 0,.int .i64 0,.int .i64 0,.int .i64 0,.int .i64 0,.int .i64 0,.int .i64 0,.int .i64 0,.int .i64 0,.int .i64 0,.int .i64 0,.int .i64 0,.int .i64 0,.int .i64 0,.int .i64 0]
theorem okK_all {S : Sk} (h : okK S = true) : S.rows.length = 3 ∧ AllOk S.rows ∧ 0 ≤ S.added ∧ S.added ≤ 63 := by
 obtain ⟨r0,r1,r2,hrows,o0,o1,o2,h0,h1⟩ := okK_parts h
 refine ⟨by rw [hrows]; rfl, ?_,h0,h1⟩
 rw [hrows]
 intro r hr
 simp only [List.mem_cons,List.not_mem_nil,or_false] at hr
 rcases hr with rfl | rfl | rfl
 ·exact o0
 ·exact o1
 ·exact o2
set_option maxRecDepth 100000 in
set_option maxHeartbeats 8000000 in
theorem implSketchBump_any (w : World) (a : Option Addr) (c : Nat) (S : Sk) (key : ByteArray) (hA : SSAt w a S.rows w.heap.size) (hm : SkSz S) (hk : key.size ≤ 1048576) (ht : Tab w) :
  Calls Tryz.prog 94 #[.agg #[.slice a S.rows.length c,.int .i64 S.added],.string key] w fun e w' => ∃ v,e = .returned v ∧ SkOwn w' w.heap.size w'.heap.size v (bumpS S key) ∧ Below w.heap.size w w' := by
 obtain ⟨w0,hw0⟩ : ∃ x,w.alloc (.cells #[.slice a S.rows.length c,.int .i64 S.added] 28) = x := ⟨_,rfl⟩
 obtain ⟨w1,hw1⟩ : ∃ x,w0.alloc (.cells #[.slice none 0 0,.int .i64 0] 28) = x := ⟨_,rfl⟩
 have hb0 : Below w.heap.size w w0 := by rw [← hw0]; exact (Below.refl _ _).alloc (Nat.le_refl _) _
 have hb1 : Below w0.heap.size w0 w1 := by rw [← hw1]; exact (Below.refl _ _).alloc (Nat.le_refl _) _
 have s0 : w0.heap.size = w.heap.size + 1 := by rw [← hw0]; simp
 have s1 : w1.heap.size = w.heap.size + 2 := by rw [← hw1]; simp; omega
 have hbw1 : Below w.heap.size w w1 := hb0.trans (hb1.mono hb0.size)
 have hB1 : SkBox w1 w.heap.size (.slice a S.rows.length c) (.int .i64 S.added) := by
  have h : SkBox w0 w.heap.size (.slice a S.rows.length c) (.int .i64 S.added) := by rw [← hw0]; exact SkBox.new _ _ _
  exact h.on hb1
 have hR1 : SkBox w1 (w.heap.size + 1) (.slice none 0 0) (.int .i64 0) := by rw [← hw1, ← s0]; exact SkBox.new _ _ _
 have HW : Hid ((w.alloc (.cells #[.slice a S.rows.length c,.int .i64 S.added] 28)).alloc (.cells #[.slice none 0 0,.int .i64 0] 28) = w1) := by rw [hw0]; exact hw1
 have hA1 := hA.on hbw1
 have hm1 : S.rows.length ≤ 1048576 := by unfold SkSz at hm; omega
 have c0 := implSketchOk_any w1 a c S hA1 hm1
 obtain ⟨b0,b1⟩ := hB1.cells
 rw [← HW.out] at b0 b1
 have HS1 : Hid (w1.heap.size = w.heap.size + 2) := s1
 clear hw0 hw1 s0 s1 hb0 hb1
 cases hok : okK S with
 | false =>
  rw [hok] at c0
  have HB : Hid (bumpS S key = S) := by show _ = _; unfold bumpS; rw [hok]; rfl
  clear hok
  go_enter Tryz.func94,Tryz.ntmps94
  go_wp2_with fail
  rw [HW.out] at b0 b1 ⊢
  refine c0.mono ?_
  rintro e w2 ⟨rfl,hb2⟩
  clear c0 b0 b1
  obtain ⟨b0,b1⟩ := (hB1.on hb2).cells
  have hbw2 := hbw1.trans (hb2.mono hbw1.size)
  have c1 := sketchCopy_any w2 a c S (hA1.on hb2) hm
  go_wp2_with fail
  refine c1.mono ?_
  rintro e w3 ⟨v3,rfl,ho3,hb3⟩
  have hbw3 := hbw2.trans (hb3.mono hbw2.size)
  have hR3 := (hR1.on hb2).on hb3
  obtain ⟨a3,c3,rfl,_⟩ := ho3.at
  obtain ⟨v1,ev,ho⟩ := ho3
  simp only [Value.agg.injEq,Array.mk.injEq,List.cons.injEq,and_true] at ev
  subst ev
  obtain ⟨r0,r1⟩ := hR3.cells
  have f0 := hR3.thaw 0
  have f1 := hR3.thaw 1
  have HO : Hid (OwnSS w3 w2.heap.size w3.heap.size (.slice a3 S.rows.length c3) S.rows) := ho
  have hws := hbw2.size
  clear c1 ho hR1 hB1 hA1 hA b0 b1 hb2 hb3
  go_wp2_with fail
  obtain ⟨q0,q1⟩ := (hR3.put (.slice a3 S.rows.length c3) (.int .i64 S.added)).cells
  refine bodyPost_ret (v := .agg #[.slice a3 S.rows.length c3,.int .i64 S.added]) (by simp [results,Tryz.results94,go_sem,q0,q1]) rfl ⟨_,rfl, ?_,Below.put2 hbw3 (by omega) _ _⟩
  rw [HB.out]
  exact ⟨_,rfl,(HO.out.put2 hR3 _ _).mono (by omega) (by simp)⟩
 | true =>
  rw [hok] at c0
  obtain ⟨h3,hall,ha0,ha1⟩ := okK_all hok
  have HB : Hid (bumpS S key = if S.added = 63 then ⟨halfTo (bumpTo key S.rows 3) 3, 0⟩ else ⟨bumpTo key S.rows 3,S.added + 1⟩) := by show _ = _; unfold bumpS; rw [if_pos hok]
  obtain ⟨rows,added⟩ := S
  dsimp only at *
  rw [h3] at c0 b0 b1 hB1 HW
  have hallb := bumpTo_ok (key := key) hall 3
  have hlb : (bumpTo key rows 3).length = 3 := by rw [bumpTo_length,h3]
  have hfl : (bumpTo key rows 3).flatten.length = 48 := by rw [flat_len _ hallb.all16,hlb]
  obtain ⟨new,hnew⟩ : ∃ new,bumpTo key rows 3 = new := ⟨_,rfl⟩
  have cR := fun wi (h : SSAt wi a rows wi.heap.size) => rowsOf_any wi a c rows added h3 hall.all16 h
  have cW := fun wi (h : Tab wi) => with_any wi rows key h3 hall hk h
  rw [hnew] at hallb hlb hfl HB cW
  have hsz : (Tryz.prog.info? 113).map (·.size) = some (ints new.flatten).toArray.size := by rw [List.size_toArray,ints_length,hfl]; kernel_rfl
  have hol : zl.size = (ints new.flatten).toArray.size := by rw [show (ints new.flatten).toArray.size = (ints new.flatten).length from rfl,ints_length,hfl]; rfl
  have ht1 := ht.below hbw1 (Nat.le_refl _)
  clear hok hnew hA hm hm1 ht
  go_enter Tryz.func94,Tryz.ntmps94
  rw [h3]
  clear h3
  go_wp2_with fail
  rw [HW.out] at b0 b1 ⊢
  refine c0.mono ?_
  rintro e w2 ⟨rfl,hb2⟩
  clear c0 b0 b1
  have hbw2 : Below w.heap.size w w2 := hbw1.trans (hb2.mono hbw1.size)
  have hs2 : w.heap.size + 2 ≤ w2.heap.size := by have := hb2.size; have := HS1.out; omega
  have hB2 := hB1.on hb2
  have hR2 := hR1.on hb2
  have hA2 := hA1.on hb2
  have ht2 := ht1.below hb2 (Nat.le_refl _)
  have KC : ∀ W,Below w2.heap.size w2 W → W.cell? ⟨w.heap.size, 0,none⟩ = some (.slice a 3 c) ∧ W.cell? ⟨w.heap.size, 1,none⟩ = some (.int .i64 added) := fun W h => (hB2.on h).cells
  have HKC : Hid (∀ W,Below w2.heap.size w2 W → W.cell? ⟨w.heap.size, 0,none⟩ = some (.slice a 3 c) ∧ W.cell? ⟨w.heap.size, 1,none⟩ = some (.int .i64 added)) := KC
  have CR : Hid (∀ W,Below w2.heap.size w2 W → Calls Tryz.prog 108 #[.agg #[.slice a 3 c,.int .i64 added]] W fun e w' => e = .returned (.agg (ints rows.flatten).toArray) ∧ Below W.heap.size W w') := fun W h => cR W (hA2.on h)
  have CW : Hid (∀ W,Below w2.heap.size w2 W → Calls Tryz.prog 109 #[.agg (ints rows.flatten).toArray,.string key] W fun e w' => e = .returned (.agg (ints new.flatten).toArray) ∧ Below W.heap.size W w') := fun W h => cW W (ht2.below h (Nat.le_refl _))
  have FIN : Hid (∀ (X : World) (T : Nat),X.heap[T]? = some (.cells zl 113 (0, 0)) → w2.heap.size ≤ T → Below w2.heap.size w2 X → RBox (X.setRow T (ints new.flatten).toArray) T new ∧ SkBox (X.setRow T (ints new.flatten).toArray) (w.heap.size + 1) (.slice none 0 0) (.int .i64 0) ∧ Below w.heap.size w (X.setRow T (ints new.flatten).toArray) ∧ w.heap.size + 2 ≤ T) := by
   intro X T hT hTs hX
   refine ⟨setRow_heap X T _ _ _ _ hT,(hR2.on hX).kept (setRow_other _ _ _ _ (by omega)),below_setRow (hbw2.trans (hX.mono hbw2.size)) (by have := hbw2.size; omega) _,by omega⟩
  have hdr : Below w2.heap.size w2 w2.drew := bdrewS w2
  have hz : Below w2.heap.size w2 (w2.alloc (.cells zl 113)) := (Below.refl _ _).alloc (Nat.le_refl _) _
  have hzd : Below w2.heap.size w2 (w2.alloc (.cells zl 113)).drew := hz.trans ⟨rfl,rfl,rfl,Nat.le_refl _,fun _ _ => rfl⟩
  obtain ⟨d0,d1⟩ := KC w2 (Below.refl _ _)
  obtain ⟨e0,e1⟩ := KC _ hz
  have hwr : IntKind.i64.wrap (added + 1) = added + 1 := by rw [IntKind.wrap_i64]; omega
  have hl48 : (ints new.flatten).length = 48 := by rw [ints_length]; exact hfl
  have HST : Hid (∀ (X : World) (T : Nat),X.heap[T]? = some (.cells zl 113 (0, 0)) → (storeCells ⟨T, 0,none⟩ (ints new.flatten) 0).run Tryz.prog X = .ok () (X.setRow T (ints new.flatten).toArray)) := fun X T h => RBox.store (rows := zrows) h zrows_len hfl
  have HC : Hid (∀ (X : World) (T : Nat),Below w2.heap.size w2 X → w2.heap.size ≤ T → (X.setRow T (ints new.flatten).toArray).cell? ⟨w.heap.size, 1,none⟩ = some (.int .i64 added)) := fun X T h hT => (World.cell?_of_block (setRow_other X T w.heap.size _ (by omega))).trans (KC X h).2
  have hla : -9223372036854775808 ≤ added + 1 ∧ added + 1 ≤ 9223372036854775807 := by omega
  clear cR cW hA1 hA2 ht1 ht2 hB1 hR1 hbw1 hb2 KC hB2
  have kz : ∀ (W W' : World),Below W.heap.size W W' → ∀ T o,W.heap[T]? = some o → W'.heap[T]? = some o := fun W W' h T o hT => (h.block T (Array.getElem?_eq_some_iff.1 hT).1).trans hT
  go_upto_region 3 with fail
  go_cut [5, 6] (fun p n wc => ∃ T,p = .pointer (some ⟨T, 0,none⟩) ∧ n = .int .i64 (added + 1) ∧ RBox wc T new ∧ SkBox wc (w.heap.size + 1) (.slice none 0 0) (.int .i64 0) ∧ Below w.heap.size w wc ∧ w.heap.size + 2 ≤ T)
  case first =>
   go_region_law (first
    | (go_simp; go_at_call 108; (first | (refine (CR.out _ hdr).mono ?_; rintro e wA ⟨rfl,hbA⟩; have fA : Below w2.heap.size w2 wA := hdr.trans hbA) | (refine (CR.out _ hzd).mono ?_; rintro e wA ⟨rfl,hbA⟩; have fA : Below w2.heap.size w2 wA := hzd.trans (hbA.mono hzd.size); have oA := kz _ _ hbA _ _ (heap_alloc_new w2 (.cells zl 113)))); have A1 := (HKC.out _ fA).2; have fAz : Below w2.heap.size w2 (wA.alloc (.cells zl 113)) := fA.alloc fA.size _; have A2 := (HKC.out _ fAz).2)
    | (go_simp; go_at_call 109; (first | (refine (CW.out _ fA).mono ?_; rintro e wB ⟨rfl,hbB⟩; have fB : Below w2.heap.size w2 wB := fA.trans (hbB.mono fA.size); try (have oB := kz _ _ hbB _ _ oA; have S1 := HST.out _ _ oB; have C1 := HC.out _ _ fB (Nat.le_refl _))) | (refine (CW.out _ fAz).mono ?_; rintro e wB ⟨rfl,hbB⟩; have fB : Below w2.heap.size w2 wB := fAz.trans (hbB.mono fAz.size); have oB := kz _ _ hbB _ _ (heap_alloc_new wA (.cells zl 113)); have S1 := HST.out _ _ oB; have C1 := HC.out _ _ fB fA.size)); have B1 := (HKC.out _ fB).2; have fBz : Below w2.heap.size w2 (wB.alloc (.cells zl 113)) := fB.alloc fB.size _; have B2 := (HKC.out _ fBz).2; have S2 := HST.out _ _ (heap_alloc_new wB (.cells zl 113)); have C2 := HC.out _ _ fBz fB.size))
   all_goals go_wp2_with fail
   all_goals go_meet
   all_goals first | exact ⟨_,rfl,rfl,FIN.out _ _ oB (by first | exact Nat.le_refl _ | exact fA.size) fB⟩ | exact ⟨_,rfl,rfl,FIN.out _ _ (heap_alloc_new wB (.cells zl 113)) fB.size fBz⟩
  case rest =>
   obtain ⟨T,rfl,rfl,hT,hR,hbw,hTs⟩ := hcut
   clear HKC CR CW FIN HST HC hdr hz hzd d0 d1 e0 e1 hR2 hbw2 HW HS1 kz hla hwr
   obtain ⟨T1,hT1⟩ : ∃ T1,w.heap.size + 1 = T1 := ⟨_,rfl⟩
   have hT1l : w.heap.size ≤ T1 := by omega
   have hT1n : T1 ≠ T := by omega
   rw [hT1] at hR ⊢
   have HTs : Hid (w.heap.size ≤ T) := by show _ ≤ _; omega
   by_cases h63 : added = 63
   ·have HB2 : Hid (bumpS ⟨rows,added⟩ key = ⟨halfTo new 3, 0⟩) := by show _ = _; rw [HB.out,if_pos h63]
    have hnl : (halfTo new 3).length = 3 := by rw [halfTo_length]; exact hlb
    have hno := halfTo_ok hallb 3
    have hnf : (halfTo new 3).flatten.length = 48 := by rw [flat_len _ hno.all16,hnl]
    have hsz2 : (Tryz.prog.info? 113).map (·.size) = some (ints (halfTo new 3).flatten).toArray.size := by rw [show (ints (halfTo new 3).flatten).toArray.size = (ints (halfTo new 3).flatten).length from rfl,ints_length,hnf]; kernel_rfl
    have hol2 : (ints new.flatten).toArray.size = (ints (halfTo new 3).flatten).toArray.size := by rw [show (ints (halfTo new 3).flatten).toArray.size = (ints (halfTo new 3).flatten).length from rfl,ints_length,hnf]; exact hl48
    have cH := halved_any wc new hlb hallb
    subst h63
    clear HB
    go_wp2_with (refine wpList_loadR rfl (.tmp 5) 113 rfl T rfl 3 111 Tryz.underlying113 _ _ hT hsz ?_)
    refine cH.mono ?_
    rintro e w5 ⟨rfl,hb5⟩
    have hT5 := hT.on hb5
    have hR5 := hR.on hb5
    have hbw5 := hbw.trans (hb5.mono hbw.size)
    have hTE : RBox (w5.setRow T (ints (halfTo new 3).flatten).toArray) T (halfTo new 3) := hT5.stored _
    have hRE : SkBox (w5.setRow T (ints (halfTo new 3).flatten).toArray) T1 (.slice none 0 0) (.int .i64 0) := hR5.kept (setRow_other _ _ _ _ hT1n)
    have hbwE := below_setRow hbw5 HTs.out (ints (halfTo new 3).flatten).toArray
    have hszE := hsz2
    have hRl := hnl
    have hRo := hno
    clear cH hT hR hbw hR5 hbw5 hb5
    go_wp2_with (first | (refine wpList_storeR rfl (.tmp 5) (.tmp 22) 113 rfl T rfl _ rfl _ _ hT5 hsz2 hol2 (ints_all _) ?_) | (refine wpList_loadR rfl (.tmp 5) 113 rfl T rfl 3 111 Tryz.underlying113 _ _ hTE hszE ?_))
    obtain ⟨wE,hwE⟩ : ∃ x,w5.setRow T (ints (halfTo new 3).flatten).toArray = x := ⟨_,rfl⟩
    rw [hwE] at hTE hRE hbwE ⊢
    clear hwE hT5 hsz2 hol2 hsz hol
    have cL := lists_any wE (halfTo new 3) hRl hRo.all16
    refine cL.mono ?_
    rintro e w7 ⟨v7,rfl,ho7,hb7⟩
    obtain ⟨a7,c7,rfl,_⟩ := ho7.at
    have hR7 := hRE.on hb7
    have hbw7 := hbwE.trans (hb7.mono hbwE.size)
    obtain ⟨r0,r1⟩ := hR7.cells
    have f0 := hR7.thaw 0
    have f1 := hR7.thaw 1
    rw [hRl] at ho7 ⊢
    have HO : Hid (OwnSS w7 wE.heap.size w7.heap.size (.slice a7 3 c7) (halfTo new 3)) := ho7
    have hwsE := hbwE.size
    clear cL ho7 hTE hRE hb7
    go_wp2_with fail
    obtain ⟨q0,q1⟩ := (hR7.put (.slice a7 3 c7) (.int .i64 0)).cells
    refine bodyPost_ret (v := .agg #[.slice a7 3 c7,.int .i64 0]) (by simp [results,Tryz.results94,go_sem,q0,q1]) rfl ⟨_,rfl, ?_,Below.put2 hbw7 hT1l _ _⟩
    rw [HB2.out]
    exact ⟨_,rfl,(HO.out.put2 hR7 _ _).mono hwsE (by simp)⟩
   ·have HB2 : Hid (bumpS ⟨rows,added⟩ key = ⟨new,added + 1⟩) := by show _ = _; rw [HB.out,if_neg h63]
    have hne : ((added + 1 == 64) : Bool) = false := by simp; omega
    have hTE := hT
    have hRE := hR
    have hbwE := hbw
    have hszE := hsz
    have hRl := hlb
    have hRo := hallb
    clear hT hR hbw HB hsz hol
    have h64 : ¬ added + 1 = 64 := by omega
    have cL := lists_any wc new hRl hRo.all16
    go_wp2_with (refine wpList_loadR rfl (.tmp 5) 113 rfl T rfl 3 111 Tryz.underlying113 _ _ hTE hszE ?_)
    refine cL.mono ?_
    rintro e w7 ⟨v7,rfl,ho7,hb7⟩
    obtain ⟨a7,c7,rfl,_⟩ := ho7.at
    have hR7 := hRE.on hb7
    have hbw7 := hbwE.trans (hb7.mono hbwE.size)
    obtain ⟨r0,r1⟩ := hR7.cells
    have f0 := hR7.thaw 0
    have f1 := hR7.thaw 1
    rw [hRl] at ho7 ⊢
    have HO : Hid (OwnSS w7 wc.heap.size w7.heap.size (.slice a7 3 c7) new) := ho7
    have hwsE := hbwE.size
    clear cL ho7 hTE hRE hb7
    go_wp2_with fail
    obtain ⟨q0,q1⟩ := (hR7.put (.slice a7 3 c7) (.int .i64 (added + 1))).cells
    refine bodyPost_ret (v := .agg #[.slice a7 3 c7,.int .i64 (added + 1)]) (by simp [results,Tryz.results94,go_sem,q0,q1]) rfl ⟨_,rfl, ?_,Below.put2 hbw7 hT1l _ _⟩
    rw [HB2.out]
    exact ⟨_,rfl,(HO.out.put2 hR7 _ _).mono hwsE (by simp)⟩
end Go.Proofs.YthfjfccdelbkhaaGreatDoor
