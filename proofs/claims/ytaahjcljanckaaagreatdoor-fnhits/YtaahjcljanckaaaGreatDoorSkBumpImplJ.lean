/- Texts that stand in one: SkBumpImpl, TouchImpl, PolTouchImpl. -/
import Derived.Test.YtaahjcljanckaaaGreatDoorSkStepJ
import Derived.Test.YtaahjcljanckaaaGreatDoorPolOkSzJ
import Derived.Test.YtaahjcljanckaaaGreatDoorSumSpecJ
import Derived.Test.YtaahjcljanckaaaGreatDoorSkNewSpecJ
import Derived.Test.YtaahjcljanckaaaGreatDoorSnocSJ
import Derived.Test.YtaahjcljanckaaaGreatDoorPolSzTextJ
import Derived.StillTailTactics
namespace Go.Proofs.YtaahjcljanckaaaGreatDoor
open Go.RowKit Go.Sort
@[reducible] def zl : Array Value := #[.int .i64 0,.int .i64 0,.int .i64 0,.int .i64 0,.int .i64 0,.int .i64 0,.int .i64 0,.int .i64 0,.int .i64 0,.int .i64 0,.int .i64 0,.int .i64 0,.int .i64 0,.int .i64 0,.int .i64 0,.int .i64 0,.int .i64 0,.int .i64 0,.int .i64 0,.int .i64 0,.int .i64 0,.int .i64 0,.int .i64 0,.int .i64 0,.int .i64 0,.int .i64 0,.int .i64 0,.int .i64 0,.int .i64 0,.int .i64 0,.int .i64 0,.int .i64 0,.int .i64 0,.int .i64 0,.int .i64 0,.int .i64 0,.int .i64 0,.int .i64 0,.int .i64 0,.int .i64 0,.int .i64 0,.int .i64 0,.int .i64 0,.int .i64 0,.int .i64 0,.int .i64 0,.int .i64 0,.int .i64 0]
theorem okK_all {S : Sk} (h : okK S = true) : S.rows.length = 3 ∧ AllOk S.rows ∧ 0 ≤ S.added ∧ S.added ≤ 63 := by
 obtain ⟨r0,r1,r2,hrows,o0,o1,o2,h0,h1⟩ := okK_parts h
 refine ⟨by rw [hrows]; rfl, ?_,h0,h1⟩
 rw [hrows]
 intro r hr
 simp only [List.mem_cons,List.not_mem_nil,or_false] at hr
 rcases hr with rfl | rfl | rfl
 ·exact o0
 ·exact o1
 ·exact o2
set_option maxRecDepth 100000 in
set_option maxHeartbeats 8000000 in
theorem implSketchBump_any (w : World) (a : Option Addr) (c : Nat) (S : Sk) (key : ByteArray) (hA : SSAt w a S.rows w.heap.size) (hm : SkSz S) (hk : key.size ≤ 1048576) (ht : Tab w) :
  Calls Tryz.prog 49 #[.agg #[.slice a S.rows.length c,.int .i64 S.added],.string key] w fun e w' => ∃ v,e = .returned v ∧ SkOwn w' w.heap.size w'.heap.size v (bumpS S key) ∧ Below w.heap.size w w' := by
 obtain ⟨w0,hw0⟩ : ∃ x,w.alloc (.cells #[.slice a S.rows.length c,.int .i64 S.added] 30) = x := ⟨_,rfl⟩
 obtain ⟨w1,hw1⟩ : ∃ x,w0.alloc (.cells #[.slice none 0 0,.int .i64 0] 30) = x := ⟨_,rfl⟩
 have hb0 : Below w.heap.size w w0 := by rw [← hw0]; exact (Below.refl _ _).alloc (Nat.le_refl _) _
 have hb1 : Below w0.heap.size w0 w1 := by rw [← hw1]; exact (Below.refl _ _).alloc (Nat.le_refl _) _
 have s0 : w0.heap.size = w.heap.size + 1 := by rw [← hw0]; simp
 have s1 : w1.heap.size = w.heap.size + 2 := by rw [← hw1]; simp; omega
 have hbw1 : Below w.heap.size w w1 := hb0.trans (hb1.mono hb0.size)
 have hB1 : SkBox w1 w.heap.size (.slice a S.rows.length c) (.int .i64 S.added) := by
  have h : SkBox w0 w.heap.size (.slice a S.rows.length c) (.int .i64 S.added) := by rw [← hw0]; exact SkBox.new _ _ _
  exact h.on hb1
 have hR1 : SkBox w1 (w.heap.size + 1) (.slice none 0 0) (.int .i64 0) := by rw [← hw1, ← s0]; exact SkBox.new _ _ _
 have HW : Hid ((w.alloc (.cells #[.slice a S.rows.length c,.int .i64 S.added] 30)).alloc (.cells #[.slice none 0 0,.int .i64 0] 30) = w1) := by rw [hw0]; exact hw1
 have hA1 := hA.on hbw1
 have hm1 : S.rows.length ≤ 1048576 := by unfold SkSz at hm; omega
 have c0 := implSketchOk_any w1 a c S hA1 hm1
 obtain ⟨b0,b1⟩ := hB1.cells
 rw [← HW.out] at b0 b1
 have HS1 : Hid (w1.heap.size = w.heap.size + 2) := s1
 clear hw0 hw1 s0 s1 hb0 hb1
 cases hok : okK S with
 | false =>
  rw [hok] at c0
  have HB : Hid (bumpS S key = S) := by show _ = _; unfold bumpS; rw [hok]; rfl
  clear hok
  go_enter Tryz.func49,Tryz.ntmps49
  go_wp2_with fail
  rw [HW.out] at b0 b1 ⊢
  refine c0.mono ?_
  rintro e w2 ⟨rfl,hb2⟩
  clear c0 b0 b1
  obtain ⟨b0,b1⟩ := (hB1.on hb2).cells
  have hbw2 := hbw1.trans (hb2.mono hbw1.size)
  have c1 := sketchCopy_any w2 a c S (hA1.on hb2) hm
  go_wp2_with fail
  refine c1.mono ?_
  rintro e w3 ⟨v3,rfl,ho3,hb3⟩
  have hbw3 := hbw2.trans (hb3.mono hbw2.size)
  have hR3 := (hR1.on hb2).on hb3
  obtain ⟨a3,c3,rfl,_⟩ := ho3.at
  obtain ⟨v1,ev,ho⟩ := ho3
  simp only [Value.agg.injEq,Array.mk.injEq,List.cons.injEq,and_true] at ev
  subst ev
  obtain ⟨r0,r1⟩ := hR3.cells
  have f0 := hR3.thaw 0
  have f1 := hR3.thaw 1
  have HO : Hid (OwnSS w3 w2.heap.size w3.heap.size (.slice a3 S.rows.length c3) S.rows) := ho
  have hws := hbw2.size
  clear c1 ho hR1 hB1 hA1 hA b0 b1 hb2 hb3
  go_wp2_with fail
  obtain ⟨q0,q1⟩ := (hR3.put (.slice a3 S.rows.length c3) (.int .i64 S.added)).cells
  refine bodyPost_ret (v := .agg #[.slice a3 S.rows.length c3,.int .i64 S.added]) (by simp [results,Tryz.results49,go_sem,q0,q1]) rfl ⟨_,rfl, ?_,Below.put2 hbw3 (by omega) _ _⟩
  rw [HB.out]
  exact ⟨_,rfl,(HO.out.put2 hR3 _ _).mono (by omega) (by simp)⟩
 | true =>
  rw [hok] at c0
  obtain ⟨h3,hall,ha0,ha1⟩ := okK_all hok
  have HB : Hid (bumpS S key = if S.added = 63 then ⟨halfTo (bumpTo key S.rows 3) 3, 0⟩ else ⟨bumpTo key S.rows 3,S.added + 1⟩) := by show _ = _; unfold bumpS; rw [if_pos hok]
  obtain ⟨rows,added⟩ := S
  dsimp only at *
  rw [h3] at c0 b0 b1 hB1 HW
  have hallb := bumpTo_ok (key := key) hall 3
  have hlb : (bumpTo key rows 3).length = 3 := by rw [bumpTo_length,h3]
  have hfl : (bumpTo key rows 3).flatten.length = 48 := by rw [flat_len _ hallb.all16,hlb]
  obtain ⟨new,hnew⟩ : ∃ new,bumpTo key rows 3 = new := ⟨_,rfl⟩
  have cR := fun wi (h : SSAt wi a rows wi.heap.size) => rowsOf_any wi a c rows added h3 hall.all16 h
  have cW := fun wi (h : Tab wi) => with_any wi rows key h3 hall hk h
  rw [hnew] at hallb hlb hfl HB cW
  have hsz : (Tryz.prog.info? 119).map (·.size) = some (ints new.flatten).toArray.size := by rw [List.size_toArray,ints_length,hfl]; kernel_rfl
  have hol : zl.size = (ints new.flatten).toArray.size := by rw [show (ints new.flatten).toArray.size = (ints new.flatten).length from rfl,ints_length,hfl]; rfl
  have ht1 := ht.below hbw1 (Nat.le_refl _)
  clear hok hnew hA hm hm1 ht
  go_enter Tryz.func49,Tryz.ntmps49
  rw [h3]
  clear h3
  go_wp2_with fail
  rw [HW.out] at b0 b1 ⊢
  refine c0.mono ?_
  rintro e w2 ⟨rfl,hb2⟩
  clear c0 b0 b1
  have hbw2 : Below w.heap.size w w2 := hbw1.trans (hb2.mono hbw1.size)
  have hs2 : w.heap.size + 2 ≤ w2.heap.size := by have := hb2.size; have := HS1.out; omega
  have hB2 := hB1.on hb2
  have hR2 := hR1.on hb2
  have hA2 := hA1.on hb2
  have ht2 := ht1.below hb2 (Nat.le_refl _)
  have KC : ∀ W,Below w2.heap.size w2 W → W.cell? ⟨w.heap.size, 0,none⟩ = some (.slice a 3 c) ∧ W.cell? ⟨w.heap.size, 1,none⟩ = some (.int .i64 added) := fun W h => (hB2.on h).cells
  have HKC : Hid (∀ W,Below w2.heap.size w2 W → W.cell? ⟨w.heap.size, 0,none⟩ = some (.slice a 3 c) ∧ W.cell? ⟨w.heap.size, 1,none⟩ = some (.int .i64 added)) := KC
  have CR : Hid (∀ W,Below w2.heap.size w2 W → Calls Tryz.prog 74 #[.agg #[.slice a 3 c,.int .i64 added]] W fun e w' => e = .returned (.agg (ints rows.flatten).toArray) ∧ Below W.heap.size W w') := fun W h => cR W (hA2.on h)
  have CW : Hid (∀ W,Below w2.heap.size w2 W → Calls Tryz.prog 75 #[.agg (ints rows.flatten).toArray,.string key] W fun e w' => e = .returned (.agg (ints new.flatten).toArray) ∧ Below W.heap.size W w') := fun W h => cW W (ht2.below h (Nat.le_refl _))
  have FIN : Hid (∀ (X : World) (T : Nat),X.heap[T]? = some (.cells zl 119 (0, 0)) → w2.heap.size ≤ T → Below w2.heap.size w2 X → RBox (X.setRow T (ints new.flatten).toArray) T new ∧ SkBox (X.setRow T (ints new.flatten).toArray) (w.heap.size + 1) (.slice none 0 0) (.int .i64 0) ∧ Below w.heap.size w (X.setRow T (ints new.flatten).toArray) ∧ w.heap.size + 2 ≤ T) := by
   intro X T hT hTs hX
   refine ⟨setRow_heap X T _ _ _ _ hT,(hR2.on hX).kept (setRow_other _ _ _ _ (by omega)),below_setRow (hbw2.trans (hX.mono hbw2.size)) (by have := hbw2.size; omega) _,by omega⟩
  have hdr : Below w2.heap.size w2 w2.drew := bdrewS w2
  have hz : Below w2.heap.size w2 (w2.alloc (.cells zl 119)) := (Below.refl _ _).alloc (Nat.le_refl _) _
  have hzd : Below w2.heap.size w2 (w2.alloc (.cells zl 119)).drew := hz.trans ⟨rfl,rfl,rfl,Nat.le_refl _,fun _ _ => rfl⟩
  obtain ⟨d0,d1⟩ := KC w2 (Below.refl _ _)
  obtain ⟨e0,e1⟩ := KC _ hz
  have hwr : IntKind.i64.wrap (added + 1) = added + 1 := by rw [IntKind.wrap_i64]; omega
  have hl48 : (ints new.flatten).length = 48 := by rw [ints_length]; exact hfl
  have HST : Hid (∀ (X : World) (T : Nat),X.heap[T]? = some (.cells zl 119 (0, 0)) → (storeCells ⟨T, 0,none⟩ (ints new.flatten) 0).run Tryz.prog X = .ok () (X.setRow T (ints new.flatten).toArray)) := fun X T h => RBox.store (rows := zrows) h zrows_len hfl
  have HC : Hid (∀ (X : World) (T : Nat),Below w2.heap.size w2 X → w2.heap.size ≤ T → (X.setRow T (ints new.flatten).toArray).cell? ⟨w.heap.size, 1,none⟩ = some (.int .i64 added)) := fun X T h hT => (World.cell?_of_block (setRow_other X T w.heap.size _ (by omega))).trans (KC X h).2
  have hla : -9223372036854775808 ≤ added + 1 ∧ added + 1 ≤ 9223372036854775807 := by omega
  clear cR cW hA1 hA2 ht1 ht2 hB1 hR1 hbw1 hb2 KC hB2
  have kz : ∀ (W W' : World),Below W.heap.size W W' → ∀ T o,W.heap[T]? = some o → W'.heap[T]? = some o := fun W W' h T o hT => (h.block T (Array.getElem?_eq_some_iff.1 hT).1).trans hT
  go_upto_region 3 with fail
  go_cut [5, 6] (fun p n wc => ∃ T,p = .pointer (some ⟨T, 0,none⟩) ∧ n = .int .i64 (added + 1) ∧ RBox wc T new ∧ SkBox wc (w.heap.size + 1) (.slice none 0 0) (.int .i64 0) ∧ Below w.heap.size w wc ∧ w.heap.size + 2 ≤ T)
  case first =>
   go_region_law (first
    | (go_simp; go_at_call 74; (first | (refine (CR.out _ hdr).mono ?_; rintro e wA ⟨rfl,hbA⟩; have fA : Below w2.heap.size w2 wA := hdr.trans hbA) | (refine (CR.out _ hzd).mono ?_; rintro e wA ⟨rfl,hbA⟩; have fA : Below w2.heap.size w2 wA := hzd.trans (hbA.mono hzd.size); have oA := kz _ _ hbA _ _ (heap_alloc_new w2 (.cells zl 119)))); have A1 := (HKC.out _ fA).2; have fAz : Below w2.heap.size w2 (wA.alloc (.cells zl 119)) := fA.alloc fA.size _; have A2 := (HKC.out _ fAz).2)
    | (go_simp; go_at_call 75; (first | (refine (CW.out _ fA).mono ?_; rintro e wB ⟨rfl,hbB⟩; have fB : Below w2.heap.size w2 wB := fA.trans (hbB.mono fA.size); try (have oB := kz _ _ hbB _ _ oA; have S1 := HST.out _ _ oB; have C1 := HC.out _ _ fB (Nat.le_refl _))) | (refine (CW.out _ fAz).mono ?_; rintro e wB ⟨rfl,hbB⟩; have fB : Below w2.heap.size w2 wB := fAz.trans (hbB.mono fAz.size); have oB := kz _ _ hbB _ _ (heap_alloc_new wA (.cells zl 119)); have S1 := HST.out _ _ oB; have C1 := HC.out _ _ fB fA.size)); have B1 := (HKC.out _ fB).2; have fBz : Below w2.heap.size w2 (wB.alloc (.cells zl 119)) := fB.alloc fB.size _; have B2 := (HKC.out _ fBz).2; have S2 := HST.out _ _ (heap_alloc_new wB (.cells zl 119)); have C2 := HC.out _ _ fBz fB.size))
   all_goals go_wp2_with fail
   all_goals go_meet
   all_goals first | exact ⟨_,rfl,rfl,FIN.out _ _ oB (by first | exact Nat.le_refl _ | exact fA.size) fB⟩ | exact ⟨_,rfl,rfl,FIN.out _ _ (heap_alloc_new wB (.cells zl 119)) fB.size fBz⟩
  case rest =>
   obtain ⟨T,rfl,rfl,hT,hR,hbw,hTs⟩ := hcut
   clear HKC CR CW FIN HST HC hdr hz hzd d0 d1 e0 e1 hR2 hbw2 HW HS1 kz hla hwr
   obtain ⟨T1,hT1⟩ : ∃ T1,w.heap.size + 1 = T1 := ⟨_,rfl⟩
   have hT1l : w.heap.size ≤ T1 := by omega
   have hT1n : T1 ≠ T := by omega
   rw [hT1] at hR ⊢
   have HTs : Hid (w.heap.size ≤ T) := by show _ ≤ _; omega
   by_cases h63 : added = 63
   ·have HB2 : Hid (bumpS ⟨rows,added⟩ key = ⟨halfTo new 3, 0⟩) := by show _ = _; rw [HB.out,if_pos h63]
    have hnl : (halfTo new 3).length = 3 := by rw [halfTo_length]; exact hlb
    have hno := halfTo_ok hallb 3
    have hnf : (halfTo new 3).flatten.length = 48 := by rw [flat_len _ hno.all16,hnl]
    have hsz2 : (Tryz.prog.info? 119).map (·.size) = some (ints (halfTo new 3).flatten).toArray.size := by rw [show (ints (halfTo new 3).flatten).toArray.size = (ints (halfTo new 3).flatten).length from rfl,ints_length,hnf]; kernel_rfl
    have hol2 : (ints new.flatten).toArray.size = (ints (halfTo new 3).flatten).toArray.size := by rw [show (ints (halfTo new 3).flatten).toArray.size = (ints (halfTo new 3).flatten).length from rfl,ints_length,hnf]; exact hl48
    have cH := halved_any wc new hlb hallb
    subst h63
    clear HB
    go_wp2_with (refine wpList_loadR rfl (.tmp 5) 119 rfl T rfl 3 117 Tryz.underlying119 _ _ hT hsz ?_)
    refine cH.mono ?_
    rintro e w5 ⟨rfl,hb5⟩
    have hT5 := hT.on hb5
    have hR5 := hR.on hb5
    have hbw5 := hbw.trans (hb5.mono hbw.size)
    have hTE : RBox (w5.setRow T (ints (halfTo new 3).flatten).toArray) T (halfTo new 3) := hT5.stored _
    have hRE : SkBox (w5.setRow T (ints (halfTo new 3).flatten).toArray) T1 (.slice none 0 0) (.int .i64 0) := hR5.kept (setRow_other _ _ _ _ hT1n)
    have hbwE := below_setRow hbw5 HTs.out (ints (halfTo new 3).flatten).toArray
    have hszE := hsz2
    have hRl := hnl
    have hRo := hno
    clear cH hT hR hbw hR5 hbw5 hb5
    go_wp2_with (first | (refine wpList_storeR rfl (.tmp 5) (.tmp 22) 119 rfl T rfl _ rfl _ _ hT5 hsz2 hol2 (ints_all _) ?_) | (refine wpList_loadR rfl (.tmp 5) 119 rfl T rfl 3 117 Tryz.underlying119 _ _ hTE hszE ?_))
    obtain ⟨wE,hwE⟩ : ∃ x,w5.setRow T (ints (halfTo new 3).flatten).toArray = x := ⟨_,rfl⟩
    rw [hwE] at hTE hRE hbwE ⊢
    clear hwE hT5 hsz2 hol2 hsz hol
    have cL := lists_any wE (halfTo new 3) hRl hRo.all16
    refine cL.mono ?_
    rintro e w7 ⟨v7,rfl,ho7,hb7⟩
    obtain ⟨a7,c7,rfl,_⟩ := ho7.at
    have hR7 := hRE.on hb7
    have hbw7 := hbwE.trans (hb7.mono hbwE.size)
    obtain ⟨r0,r1⟩ := hR7.cells
    have f0 := hR7.thaw 0
    have f1 := hR7.thaw 1
    rw [hRl] at ho7 ⊢
    have HO : Hid (OwnSS w7 wE.heap.size w7.heap.size (.slice a7 3 c7) (halfTo new 3)) := ho7
    have hwsE := hbwE.size
    clear cL ho7 hTE hRE hb7
    go_wp2_with fail
    obtain ⟨q0,q1⟩ := (hR7.put (.slice a7 3 c7) (.int .i64 0)).cells
    refine bodyPost_ret (v := .agg #[.slice a7 3 c7,.int .i64 0]) (by simp [results,Tryz.results49,go_sem,q0,q1]) rfl ⟨_,rfl, ?_,Below.put2 hbw7 hT1l _ _⟩
    rw [HB2.out]
    exact ⟨_,rfl,(HO.out.put2 hR7 _ _).mono hwsE (by simp)⟩
   ·have HB2 : Hid (bumpS ⟨rows,added⟩ key = ⟨new,added + 1⟩) := by show _ = _; rw [HB.out,if_neg h63]
    have hne : ((added + 1 == 64) : Bool) = false := by simp; omega
    have hTE := hT
    have hRE := hR
    have hbwE := hbw
    have hszE := hsz
    have hRl := hlb
    have hRo := hallb
    clear hT hR hbw HB hsz hol
    have h64 : ¬ added + 1 = 64 := by omega
    have cL := lists_any wc new hRl hRo.all16
    go_wp2_with (refine wpList_loadR rfl (.tmp 5) 119 rfl T rfl 3 117 Tryz.underlying119 _ _ hTE hszE ?_)
    refine cL.mono ?_
    rintro e w7 ⟨v7,rfl,ho7,hb7⟩
    obtain ⟨a7,c7,rfl,_⟩ := ho7.at
    have hR7 := hRE.on hb7
    have hbw7 := hbwE.trans (hb7.mono hbwE.size)
    obtain ⟨r0,r1⟩ := hR7.cells
    have f0 := hR7.thaw 0
    have f1 := hR7.thaw 1
    rw [hRl] at ho7 ⊢
    have HO : Hid (OwnSS w7 wc.heap.size w7.heap.size (.slice a7 3 c7) new) := ho7
    have hwsE := hbwE.size
    clear cL ho7 hTE hRE hb7
    go_wp2_with fail
    obtain ⟨q0,q1⟩ := (hR7.put (.slice a7 3 c7) (.int .i64 (added + 1))).cells
    refine bodyPost_ret (v := .agg #[.slice a7 3 c7,.int .i64 (added + 1)]) (by simp [results,Tryz.results49,go_sem,q0,q1]) rfl ⟨_,rfl, ?_,Below.put2 hbw7 hT1l _ _⟩
    rw [HB2.out]
    exact ⟨_,rfl,(HO.out.put2 hR7 _ _).mono hwsE (by simp)⟩
theorem PHold.inWin {w w' : World} {V lo : Nat} {ty : TypeId} {ext : List Value} {v1 v2 v3 : Value} {P : Pol} {W' : List ByteArray} (h : PHold w V ty ext lo v1 v2 v3 P) (ht : tyOk ty) (hg : w.grownBy w' v1.ownBlock) (ho : OwnV w' lo 9 v1 (strs W')) :
  PHold w' V ty ext lo v1 v2 v3 ⟨W',P.main,P.sk⟩ := by
 obtain ⟨hV,h1,h2,h3,h4⟩ := h
 have hVn : v1.ownBlock ≠ some V := fun e => by
  obtain ⟨cs,hc⟩ := ownV_type h1 V e
  exact ty_ne hc hV ht.1 rfl
 refine ⟨(hg.block V (Array.getElem?_eq_some_iff.1 hV).1 (fun e => hVn e.symm)).trans hV,ho,h2.grown hg (fun k hk e => h3 k e hk),h3, ?_⟩
 refine OwnSS.apart (h4.mono (Nat.le_refl _) hg.size) fun k cs t hc htt => ?_
 refine hg.block k (Array.getElem?_eq_some_iff.1 hc).1 fun e => ?_
 obtain ⟨cs',hc'⟩ := ownV_type h1 k e.symm
 rw [hc] at hc'
 simp only [Option.some.injEq,Obj.cells.injEq] at hc'
 rcases htt with rfl | rfl
 ·exact absurd hc'.2.1 (by decide)
 ·exact absurd hc'.2.1 (by decide)
theorem PHold.inMain {w w' : World} {V lo : Nat} {ty : TypeId} {ext : List Value} {v1 v2 v3 : Value} {P : Pol} {W' : List ByteArray} (h : PHold w V ty ext lo v1 v2 v3 P) (ht : tyOk ty) (hg : w.grownBy w' v2.ownBlock) (ho : OwnV w' lo 9 v2 (strs W')) :
  PHold w' V ty ext lo v1 v2 v3 ⟨P.win,W',P.sk⟩ := by
 obtain ⟨hV,h1,h2,h3,h4⟩ := h
 have hVn : v2.ownBlock ≠ some V := fun e => by
  obtain ⟨cs,hc⟩ := ownV_type h2 V e
  exact ty_ne hc hV ht.1 rfl
 refine ⟨(hg.block V (Array.getElem?_eq_some_iff.1 hV).1 (fun e => hVn e.symm)).trans hV,h1.grown hg (fun k hk e => h3 k hk e),ho,h3, ?_⟩
 refine OwnSS.apart (h4.mono (Nat.le_refl _) hg.size) fun k cs t hc htt => ?_
 refine hg.block k (Array.getElem?_eq_some_iff.1 hc).1 fun e => ?_
 obtain ⟨cs',hc'⟩ := ownV_type h2 k e.symm
 rw [hc] at hc'
 simp only [Option.some.injEq,Obj.cells.injEq] at hc'
 rcases htt with rfl | rfl
 ·exact absurd hc'.2.1 (by decide)
 ·exact absurd hc'.2.1 (by decide)
theorem Seats.inWin {w w' : World} {V G lo : Nat} {v1 v2 v3 : Value} {P : Pol} {o : ByteArray} {W' : List ByteArray} (h : Seats w V G lo v1 v2 v3 P o) (hg : w.grownBy w' v1.ownBlock) (ho : OwnV w' lo 9 v1 (strs W')) : Seats w' V G lo v1 v2 v3 ⟨W',P.main,P.sk⟩ o ∧ Below G w w' := by
 have h3 := h.2.2.1
 have h5 := h.lo
 refine ⟨⟨h.1.inWin seats_ty hg ho,(hg.block G (Array.getElem?_eq_some_iff.1 h.2.1).1 (fun e => by have := (h.1.2.1.lt G e.symm).1; omega)).trans h.2.1,h.2.2⟩, ?_⟩
 exact (Below.refl G w).grown hg (by omega) (fun k e => by have := (h.1.2.1.lt k e).1; omega)
theorem Seats.inMain {w w' : World} {V G lo : Nat} {v1 v2 v3 : Value} {P : Pol} {o : ByteArray} {W' : List ByteArray} (h : Seats w V G lo v1 v2 v3 P o) (hg : w.grownBy w' v2.ownBlock) (ho : OwnV w' lo 9 v2 (strs W')) : Seats w' V G lo v1 v2 v3 ⟨P.win,W',P.sk⟩ o ∧ Below G w w' := by
 have h3 := h.2.2.1
 have h5 := h.lo
 refine ⟨⟨h.1.inMain seats_ty hg ho,(hg.block G (Array.getElem?_eq_some_iff.1 h.2.1).1 (fun e => by have := (h.1.2.2.1.lt G e.symm).1; omega)).trans h.2.1,h.2.2⟩, ?_⟩
 exact (Below.refl G w).grown hg (by omega) (fun k e => by have := (h.1.2.2.1.lt k e).1; omega)
theorem Seats.sk {w w' : World} {V G lo : Nat} {v1 v2 v3 v3' : Value} {P : Pol} {o : ByteArray} {S : Sk} (h : Seats w V G lo v1 v2 v3 P o) (hb : Below w.heap.size w w') (ho : OwnSS w' w.heap.size w'.heap.size v3' S.rows) :
  Seats ((w'.setCell ⟨V, 2,none⟩ v3').setCell ⟨V, 3,none⟩ (.int .i64 S.added)) V G lo v1 v2 v3' ⟨P.win,P.main,S⟩ o ∧ Below G w ((w'.setCell ⟨V, 2,none⟩ v3').setCell ⟨V, 3,none⟩ (.int .i64 S.added)) := by
 have h3 := h.2.2.1
 have h4 := h.2.2.2
 have h5 := h.lo
 refine ⟨⟨h.1.setSk seats_ty hb h5 ho, ?_,h.2.2⟩,((hb.mono (by omega)).setCell (by show G ≤ V; omega) _).setCell (by show G ≤ V; omega) _⟩
 rw [Below.heap_setCell _ _ _ _ (by show G ≠ V; omega),Below.heap_setCell _ _ _ _ (by show G ≠ V; omega)]
 exact (hb.block G (Array.getElem?_eq_some_iff.1 h.2.1).1).trans h.2.1
theorem touchP_ok {P : Pol} {key : ByteArray} (hP : okP P = true) (hk : keyOk key = true) : touchP P key = if inL P.win key = true then (⟨without P.win key ++ [key],P.main,bumpS P.sk key⟩,noKey) else if inL P.main key = true then (⟨P.win,without P.main key ++ [key],bumpS P.sk key⟩,noKey) else enterP ⟨P.win,P.main,bumpS P.sk key⟩ key := by
 unfold touchP enterP
 rw [hP,hk]
 rfl
set_option maxRecDepth 100000 in
set_option maxHeartbeats 4000000 in
theorem touch_any (w : World) (V G lo : Nat) (v1 v2 v3 : Value) (P : Pol) (key : ByteArray) (h : Seats w V G lo v1 v2 v3 P noKey) (hP : okP P = true) (hkk : keyOk key = true) (ht : ∀ W,Below G w W → Tab W) :
  Calls Tryz.prog 68 #[.pointer (some ⟨V, 0,none⟩),.string key] w fun e w' => e = .returned (.tuple #[]) ∧ Below G w w' ∧ ∃ v1' v2' v3',Seats w' V G lo v1' v2' v3' (touchP P key).1 (touchP P key).2 := by
 obtain ⟨_,_,b2,b3,_⟩ := h.1.cells
 obtain ⟨a3,k3,rfl,hL3⟩ := h.1.2.2.2.2.at
 have hsz := okP_sz hP
 obtain ⟨l1,l2,l3⟩ := hsz.parts
 obtain ⟨p1,p2,p3,p4,p5,p6,p7,p8⟩ := okP_iff.1 hP
 have hks : key.size ≤ 30 := by simp only [keyOk,decide_eq_true_eq] at hkk; exact hkk.2
 have hz : ∀ z ∈ P.win ++ P.main,z.size ≤ 1048576 := fun z hz => by
  rcases List.mem_append.1 hz with hz | hz
  ·have := p1 z hz; simp only [keyOk,decide_eq_true_eq] at this; omega
  ·have := p2 z hz; simp only [keyOk,decide_eq_true_eq] at this; omega
 have hsl : (bumpS P.sk key).rows.length ≤ 1048576 := by
  obtain ⟨a,b,c,e,_⟩ := okK_parts (bumpS_ok key p8)
  rw [e]; simp
 have HTP := touchP_ok hP hkk
 have HQ : Hid (touchP P key = if inL P.win key = true then (⟨without P.win key ++ [key],P.main,bumpS P.sk key⟩,noKey) else if inL P.main key = true then (⟨P.win,without P.main key ++ [key],bumpS P.sk key⟩,noKey) else enterP ⟨P.win,P.main,bumpS P.sk key⟩ key) := HTP
 have hlo := h.lo
 have hGl := h.2.2.1
 have c1 := implSketchBump_any w a3 k3 P.sk key hL3 l3 (by omega) (ht w (Below.refl _ _))
 have HS : Hid (Seats w V G lo v1 v2 (.slice a3 P.sk.rows.length k3) P noKey) := h
 have HX : Hid (P.win.Nodup ∧ P.main.Nodup ∧ P.win.length ≤ 2 ∧ P.main.length ≤ 4 ∧ key.size ≤ 1048576 ∧ (bumpS P.sk key).rows.length ≤ 1048576 ∧ (∀ z ∈ P.win ++ P.main,z.size ≤ 1048576) ∧ ∀ W,Below G w W → Tab W) := ⟨p3,p4,p6,p7,by omega,hsl,hz,ht⟩
 clear h hP hkk ht hL3 hsz l1 l2 l3 p1 p2 p3 p4 p5 p6 p7 p8 hks hz hsl HTP hlo hGl
 go_enter Tryz.func68,Tryz.ntmps68
 go_wp2_with fail
 refine c1.mono ?_
 rintro e w2 ⟨v,rfl,⟨u,rfl,ho2⟩,hb2⟩
 obtain ⟨a4,k4,rfl,_⟩ := ho2.at
 have S1 : Seats w V G lo v1 v2 (.slice a3 P.sk.rows.length k3) P noKey := HS.out
 have S2 := S1.on hb2
 obtain ⟨_,_,c2,c3,_⟩ := S2.1.cells
 have f2 := S2.1.thaw 2
 have f3 := S2.1.thaw 3
 obtain ⟨S3,B3⟩ := S1.sk (S := bumpS P.sk key) hb2 ho2
 obtain ⟨w3,hw3⟩ : ∃ x,(w2.setCell ⟨V, 2,none⟩ (.slice a4 (bumpS P.sk key).rows.length k4)).setCell ⟨V, 3,none⟩ (.int .i64 (bumpS P.sk key).added) = x := ⟨_,rfl⟩
 have HW3 : Hid ((w2.setCell ⟨V, 2,none⟩ (.slice a4 (bumpS P.sk key).rows.length k4)).setCell ⟨V, 3,none⟩ (.int .i64 (bumpS P.sk key).added) = w3) := hw3
 rw [hw3] at S3 B3
 obtain ⟨B,hB⟩ : ∃ B,bumpS P.sk key = B := ⟨_,rfl⟩
 rw [hB] at S3 HW3 HX HQ ⊢
 obtain ⟨d0,d1,_,_,_⟩ := S3.1.cells
 have cW := toEnd_any w3 lo v1 P.win key S3.1.2.1 (by have := HX.out.2.2.1; omega) HX.out.1
 have cM := toEnd_any w3 lo v2 P.main key S3.1.2.2.1 (by have := HX.out.2.2.2.1; omega) HX.out.2.1
 have HS3 : Hid (Seats w3 V G lo v1 v2 (.slice a4 B.rows.length k4) ⟨P.win,P.main,B⟩ noKey) := S3
 have HB3 : Hid (Below G w w3) := B3
 rw [← HW3.out] at d0 d1
 clear S1 S2 S3 B3 hw3 hB ho2 hb2 c1 b2 b3
 go_wp2_with fail
 rw [HW3.out] at d0 d1 ⊢
 refine cW.mono ?_
 rintro e w' (⟨hI,rfl,hw'⟩ | ⟨hI,rfl,hoW,hgW⟩)
 ·rw [hw']
  clear hw' cW
  have HI : Hid (inL P.win key = false) := hI
  clear hI
  go_wp2_with fail
  refine cM.mono ?_
  rintro e w' (⟨hI,rfl,hw'⟩ | ⟨hI,rfl,hoM,hgM⟩)
  ·rw [hw']
   clear hw' cM
   have HQ' : Hid (touchP P key = enterP ⟨P.win,P.main,B⟩ key) := by show _ = _; rw [HQ.out,HI.out,hI]; rfl
   have S3 : Seats w3 V G lo v1 v2 (.slice a4 B.rows.length k4) ⟨P.win,P.main,B⟩ noKey := HS3.out
   obtain ⟨_,_,l1,l2,l3,l4,l5,l6⟩ := HX.out
   have cE := enter_any w3 V G lo v1 v2 _ ⟨P.win,P.main,B⟩ key S3 l1 l2 l4 l3 l5 (fun W hW => l6 W (HB3.out.trans hW))
   clear hI S3 HX l1 l2 l3 l4 l5 l6 d0 d1
   go_wp2_with fail
   refine cE.mono ?_
   rintro e w8 ⟨rfl,hb8',v1',v2',v3',hS8⟩
   have hb8 := HB3.out.trans hb8'
   have HF : Hid _ := hS8
   clear hS8 cE hb8'
   go_wp2_with fail
   go_end0
   refine ⟨rfl,hb8,v1',v2',v3', ?_⟩
   rw [HQ'.out]
   exact HF.out
  ·have HQ' : Hid (touchP P key = (⟨P.win,without P.main key ++ [key],B⟩,noKey)) := by show _ = _; rw [HQ.out,HI.out,hI]; rfl
   have S3 : Seats w3 V G lo v1 v2 (.slice a4 B.rows.length k4) ⟨P.win,P.main,B⟩ noKey := HS3.out
   obtain ⟨S4,B4⟩ := S3.inMain hgM hoM
   have HF : Hid (Seats w' V G lo v1 v2 (.slice a4 B.rows.length k4) ⟨P.win,without P.main key ++ [key],B⟩ noKey ∧ Below G w w') := ⟨S4,HB3.out.trans B4⟩
   clear hI S3 S4 B4 hoM hgM cM
   go_wp2_with fail
   go_end0
   refine ⟨rfl,HF.out.2,v1,v2,.slice a4 B.rows.length k4, ?_⟩
   rw [HQ'.out]
   exact HF.out.1
 ·have HQ' : Hid (touchP P key = (⟨without P.win key ++ [key],P.main,B⟩,noKey)) := by show _ = _; rw [HQ.out,hI]; rfl
  have S3 : Seats w3 V G lo v1 v2 (.slice a4 B.rows.length k4) ⟨P.win,P.main,B⟩ noKey := HS3.out
  obtain ⟨S4,B4⟩ := S3.inWin hgW hoW
  have HF : Hid (Seats w' V G lo v1 v2 (.slice a4 B.rows.length k4) ⟨without P.win key ++ [key],P.main,B⟩ noKey ∧ Below G w w') := ⟨S4,HB3.out.trans B4⟩
  clear hI S3 S4 B4 hoW hgW cM cW
  go_wp2_with fail
  go_end0
  refine ⟨rfl,HF.out.2,v1,v2,.slice a4 B.rows.length k4, ?_⟩
  rw [HQ'.out]
  exact HF.out.1
theorem PHold.ext4 {w : World} {V lo : Nat} {ty : TypeId} {x y v1 v2 v3 : Value} {P : Pol} (h : PHold w V ty [x] lo v1 v2 v3 P) (ht : tyOk ty) : PHold (w.setCell ⟨V, 4,none⟩ y) V ty [y] lo v1 v2 v3 P := by
 obtain ⟨hV,h1,h2,h3,h4⟩ := h
 have far : ∀ k,k ≠ V → (w.setCell ⟨V, 4,none⟩ y).heap[k]? = w.heap[k]? := fun k hk => Below.heap_setCell _ _ _ _ (by exact hk)
 refine ⟨?_,h1.kept fun k hk => ?_,h2.kept fun k hk => ?_,h3, ?_⟩
 ·rw [heap_put hV]; simp
 ·obtain ⟨cs,hc⟩ := ownV_type h1 k hk
  exact far k (ty_ne hc hV ht.1)
 ·obtain ⟨cs,hc⟩ := ownV_type h2 k hk
  exact far k (ty_ne hc hV ht.1)
 ·rw [show (w.setCell ⟨V, 4,none⟩ y).heap.size = w.heap.size by simp [World.setCell]]
  refine OwnSS.apart h4 fun k cs t hc htt => ?_
  exact far k (ty_ne hc hV (by rcases htt with rfl | rfl; exact ht.2.1; exact ht.2.2))
set_option maxRecDepth 100000 in
set_option maxHeartbeats 8000000 in
theorem implPolicyTouch_any (w : World) (aw am ak : Option Addr) (cw cm ck : Nat) (P : Pol) (key : ByteArray) (hA : PolAt w aw am ak P w.heap.size) (hsz : PolSz P) (hk : key.size ≤ 1048576) (ht : Tab w) :
  Calls Tryz.prog 43 #[.agg #[.slice aw P.win.length cw,.slice am P.main.length cm,.slice ak P.sk.rows.length ck,.int .i64 P.sk.added],.string key] w fun e w' => ∃ v,e = .returned (.tuple #[v,.string (touchP P key).2]) ∧ POwn w' w.heap.size w'.heap.size v (touchP P key).1 ∧ Below w.heap.size w w' := by
 obtain ⟨w1,hw1⟩ : ∃ x,((w.alloc (.cells #[.slice aw P.win.length cw,.slice am P.main.length cm,.slice ak P.sk.rows.length ck,.int .i64 P.sk.added] 32)).alloc (.cells #[.slice none 0 0,.slice none 0 0,.slice none 0 0,.int .i64 0] 32)).alloc (.cells #[.string ⟨#[]⟩] 9) = x := ⟨_,rfl⟩
 have hb1 : Below w.heap.size w w1 := by rw [← hw1]; exact (((Below.refl _ _).alloc (Nat.le_refl _) _).alloc (by simp) _).alloc (by simp; omega) _
 have s1 : w1.heap.size = w.heap.size + 3 := by rw [← hw1]; simp
 have hG : w1.heap[w.heap.size + 2]? = some (.cells #[.string noKey] 9 (0, 0)) := by
  have h := heap_alloc_new ((w.alloc (.cells #[.slice aw P.win.length cw,.slice am P.main.length cm,.slice ak P.sk.rows.length ck,.int .i64 P.sk.added] 32)).alloc (.cells #[.slice none 0 0,.slice none 0 0,.slice none 0 0,.int .i64 0] 32)) (.cells #[.string noKey] 9)
  rw [show ((w.alloc (.cells #[.slice aw P.win.length cw,.slice am P.main.length cm,.slice ak P.sk.rows.length ck,.int .i64 P.sk.added] 32)).alloc (.cells #[.slice none 0 0,.slice none 0 0,.slice none 0 0,.int .i64 0] 32)).heap.size = w.heap.size + 2 by simp] at h
  rw [← hw1]
  exact h
 have hR : PBox w1 (w.heap.size + 1) (.slice none 0 0) (.slice none 0 0) (.slice none 0 0) (.int .i64 0) := by
  have h := PBox.new (w.alloc (.cells #[.slice aw P.win.length cw,.slice am P.main.length cm,.slice ak P.sk.rows.length ck,.int .i64 P.sk.added] 32)) (.slice none 0 0) (.slice none 0 0) (.slice none 0 0) (.int .i64 0)
  have h2 := h.on ((Below.refl _ _).alloc (Nat.le_refl _) (.cells #[.string ⟨#[]⟩] 9))
  rw [hw1] at h2
  simpa using h2
 have hB : PBox w1 w.heap.size (.slice aw P.win.length cw) (.slice am P.main.length cm) (.slice ak P.sk.rows.length ck) (.int .i64 P.sk.added) := by
  have h := PBox.new w (.slice aw P.win.length cw) (.slice am P.main.length cm) (.slice ak P.sk.rows.length ck) (.int .i64 P.sk.added)
  have h2 := h.on (((Below.refl _ _).alloc (Nat.le_refl _) (.cells #[.slice none 0 0,.slice none 0 0,.slice none 0 0,.int .i64 0] 32)).alloc (by simp) (.cells #[.string ⟨#[]⟩] 9))
  rw [hw1] at h2
  exact h2
 have c1 := policyCopy_any w1 aw am ak cw cm ck P (hA.on hb1) hsz
 have HW : Hid (((w.alloc (.cells #[.slice aw P.win.length cw,.slice am P.main.length cm,.slice ak P.sk.rows.length ck,.int .i64 P.sk.added] 32)).alloc (.cells #[.slice none 0 0,.slice none 0 0,.slice none 0 0,.int .i64 0] 32)).alloc (.cells #[.string ⟨#[]⟩] 9) = w1) := hw1
 have HB1 : Hid (Below w.heap.size w w1 ∧ w1.heap.size = w.heap.size + 3) := ⟨hb1,s1⟩
 have HA1 : Hid (PolAt w1 aw am ak P w1.heap.size ∧ PolSz P) := ⟨hA.on hb1,hsz⟩
 have HTB : Hid (∀ W,Below (w.heap.size + 2) w1 W → Tab W) := fun W h => ht.below (hb1.trans (h.mono (by omega))) (Nat.le_refl _)
 obtain ⟨b0,b1,b2,b3⟩ := hB.cells
 rw [← hw1] at b0 b1 b2 b3
 clear hw1 hb1 s1 hA hsz ht
 go_enter Tryz.func43,Tryz.ntmps43
 go_wp2_with fail
 rw [HW.out] at b0 b1 b2 b3 ⊢
 refine c1.mono ?_
 rintro e w2 ⟨v,rfl,hO,hb2⟩
 have hO0 := hO
 obtain ⟨v1,v2,v3,rfl,o1,o2,d1,d2,o3⟩ := hO
 obtain ⟨a2,k2,rfl,_⟩ := o1.strsAt
 obtain ⟨a3,k3,rfl,_⟩ := o2.strsAt
 obtain ⟨a4,k4,rfl,_⟩ := o3.at
 obtain ⟨hb1,s1⟩ := HB1.out
 have H3 := (hO0.hold 124 [.nilFunc]).ext4 (y := outF (w.heap.size + 2)) seats_ty
 obtain ⟨X,hX⟩ : ∃ x,w2.alloc (.cells #[.slice a2 P.win.length k2,.slice a3 P.main.length k3,.slice a4 P.sk.rows.length k4,.int .i64 P.sk.added,.nilFunc] 124) = x := ⟨_,rfl⟩
 have hbX : Below w1.heap.size w1 X := by
  rw [← hX]
  exact hb2.alloc hb2.size _
 have hXV : X.heap[w2.heap.size]? = some (.cells #[.slice a2 P.win.length k2,.slice a3 P.main.length k3,.slice a4 P.sk.rows.length k4,.int .i64 P.sk.added,.nilFunc] 124 (0, 0)) := by rw [← hX]; exact heap_alloc_new _ _
 obtain ⟨w3,hw3⟩ : ∃ x,X.setCell ⟨w2.heap.size, 4,none⟩ (.func (.func 67) #[] #[.pointer (some ⟨w.heap.size + 1 + 1, 0,none⟩)]) = x := ⟨_,rfl⟩
 have hst : (store ⟨w2.heap.size, 4,none⟩ (.func (.func 67) #[] #[.pointer (some ⟨w.heap.size + 1 + 1, 0,none⟩)])).run Tryz.prog X = .ok () w3 := by
  have hc0 : X.cell? ⟨w2.heap.size, 4,none⟩ = some .nilFunc := by rw [cell_of_row X _ 4 _ _ (0, 0) hXV]; rfl
  have hfz : X.frozen? ⟨w2.heap.size, 4,none⟩ = false := by simp [World.frozen?,hXV]
  rw [run_store Tryz.prog _ _ _ _ rfl,hc0]
  simp [hfz,hw3]
 have hb3 : Below w1.heap.size w1 w3 := by
  rw [← hw3]
  exact hbX.setCell hb2.size _
 obtain ⟨V,hV⟩ : ∃ V,w2.heap.size = V := ⟨_,rfl⟩
 obtain ⟨G,hGe⟩ : ∃ G,w.heap.size + 2 = G := ⟨_,rfl⟩
 have S3 : Seats w3 V G w1.heap.size (.slice a2 P.win.length k2) (.slice a3 P.main.length k3) (.slice a4 P.sk.rows.length k4) P noKey := by
  rw [← hV, ← hGe]
  refine ⟨by rw [← hw3, ← hX]; exact H3,(hb3.block _ (by omega)).trans hG,by omega,hb2.size⟩
 rw [← hX] at hst
 have cO := implPolicyOk_sz w3 aw am ak cw cm ck P (HA1.out.1.on hb3) HA1.out.2
 obtain ⟨x0,x1,x2,x3⟩ := (hB.on hb3).cells
 have HV : Hid (w2.heap.size = V) := hV
 have HS3 : Hid (Seats w3 V G w1.heap.size (.slice a2 P.win.length k2) (.slice a3 P.main.length k3) (.slice a4 P.sk.rows.length k4) P noKey) := S3
 have HQ3 : Hid (Below w1.heap.size w1 w3 ∧ Below w.heap.size w w1 ∧ w1.heap.size = w.heap.size + 3 ∧ PBox w1 (w.heap.size + 1) (.slice none 0 0) (.slice none 0 0) (.slice none 0 0) (.int .i64 0) ∧ ∀ W,Below G w1 W → Tab W) := ⟨hb3,hb1,s1,hR,by rw [← hGe]; exact HTB.out⟩
 have HGE : Hid (w.heap.size + 1 + 1 = G) := hGe
 have cKK := fun W => implKeyOk_any W key (by omega)
 have HKK : Hid _ := cKK
 clear c1 hO0 o1 o2 d1 d2 o3 hw3 hX hXV hbX hV hb2 hb3 hb1 s1 H3 S3 hR hG hB HB1 HTB HA1 cKK b0 b1 b2 b3 hGe
 go_wp2_with fail
 refine cO.mono ?_
 rintro e w4 ⟨rfl,hb4⟩
 obtain ⟨hb3,hb1,s1,hR,hTB⟩ := HQ3.out
 have S3 : Seats w3 V G w1.heap.size (.slice a2 P.win.length k2) (.slice a3 P.main.length k3) (.slice a4 P.sk.rows.length k4) P noKey := HS3.out
 have S4 := S3.on hb4
 have hs3 := hb3.size
 have hbw4 : Below w1.heap.size w1 w4 := hb3.trans (hb4.mono hs3)
 have hTB4 : Hid (∀ W,Below G w4 W → Tab W) := fun W h => hTB W ((hbw4.mono (by have := S3.2.2.1; omega)).trans h)
 have hGle : G < w1.heap.size := S3.2.2.1
 have HGW : Hid (w.heap.size + 2 ≤ G ∧ G < w1.heap.size) := ⟨by have := HGE.out; omega,hGle⟩
 rw [HV.out,HGE.out]
 clear cO S3 x0 x1 x2 x3 hb4 HS3 HQ3 hs3 hTB hb3 HW
 cases hok : okP P with
 | false =>
  have HQ : Hid (touchP P key = (P,noKey)) := by show _ = _; unfold touchP; rw [hok]; rfl
  obtain ⟨Q,hQ⟩ : ∃ Q,P = Q := ⟨_,rfl⟩
  have S5 : Seats w4 V G w1.heap.size (.slice a2 P.win.length k2) (.slice a3 P.main.length k3) (.slice a4 P.sk.rows.length k4) Q noKey := hQ ▸ S4
  rw [show (P,noKey) = (Q,noKey) by rw [hQ]] at HQ
  obtain ⟨o,ho⟩ : ∃ o,noKey = o := ⟨_,rfl⟩
  rw [ho] at HQ S5
  obtain ⟨w5,hw5⟩ : ∃ x,w4 = x := ⟨_,rfl⟩
  have hbw5 : Below w.heap.size w w5 := by rw [← hw5]; exact hb1.trans (hbw4.mono (by omega))
  have hR5 : PBox w5 (w.heap.size + 1) (.slice none 0 0) (.slice none 0 0) (.slice none 0 0) (.int .i64 0) := by rw [← hw5]; exact hR.on hbw4
  rw [hw5] at S5 ⊢
  obtain ⟨u1,hu1⟩ : ∃ u : Value,.slice a2 P.win.length k2 = u := ⟨_,rfl⟩
  obtain ⟨u2,hu2⟩ : ∃ u : Value,.slice a3 P.main.length k3 = u := ⟨_,rfl⟩
  obtain ⟨u3,hu3⟩ : ∃ u : Value,.slice a4 P.sk.rows.length k4 = u := ⟨_,rfl⟩
  rw [hu1,hu2,hu3] at S5
  clear S4 hw5 hbw4 hTB4 hok hR hb1 ho hQ hu1 hu2 hu3 HKK
  obtain ⟨e1,j1,rfl,_⟩ := S5.1.2.1.strsAt
  obtain ⟨e2,j2,rfl,_⟩ := S5.1.2.2.1.strsAt
  obtain ⟨e3,j3,rfl,_⟩ := S5.1.2.2.2.2.at
  have HF : Hid (∀ X,((((w5.setCell ⟨w.heap.size + 1, 0,none⟩ (.slice e1 Q.win.length j1)).setCell ⟨w.heap.size + 1, 1,none⟩ (.slice e2 Q.main.length j2)).setCell ⟨w.heap.size + 1, 2,none⟩ (.slice e3 Q.sk.rows.length j3)).setCell ⟨w.heap.size + 1, 3,none⟩ (.int .i64 Q.sk.added)) = X → POwn X.drew w.heap.size X.drew.heap.size (.agg #[.slice e1 Q.win.length j1,.slice e2 Q.main.length j2,.slice e3 Q.sk.rows.length j3,.int .i64 Q.sk.added]) Q ∧ Below w.heap.size w X.drew ∧ (X.cell? ⟨w.heap.size + 1, 0,none⟩ = some (.slice e1 Q.win.length j1) ∧ X.cell? ⟨w.heap.size + 1, 1,none⟩ = some (.slice e2 Q.main.length j2) ∧ X.cell? ⟨w.heap.size + 1, 2,none⟩ = some (.slice e3 Q.sk.rows.length j3) ∧ X.cell? ⟨w.heap.size + 1, 3,none⟩ = some (.int .i64 Q.sk.added))) := fun X hX => by
   have p1 := POwn.mono (POwn.put4 (w := w5) S5.1.own hR5 (.slice e1 Q.win.length j1) (.slice e2 Q.main.length j2) (.slice e3 Q.sk.rows.length j3) (.int .i64 Q.sk.added)) (show w.heap.size ≤ w1.heap.size by omega) (Nat.le_refl _)
   have p2 := Below.put4 (T := w.heap.size + 1) hbw5 (by omega) (.slice e1 Q.win.length j1) (.slice e2 Q.main.length j2) (.slice e3 Q.sk.rows.length j3) (.int .i64 Q.sk.added)
   have p3 := (hR5.put (.slice e1 Q.win.length j1) (.slice e2 Q.main.length j2) (.slice e3 Q.sk.rows.length j3) (.int .i64 Q.sk.added)).cells
   rw [hX] at p1 p2 p3
   have p4 : Below X.heap.size X X.drew := ⟨rfl,rfl,rfl,Nat.le_refl _,fun _ _ => rfl⟩
   exact ⟨(p1.below p4 (Nat.le_refl _)).up,p2.trans (p4.mono p2.size),p3⟩
  obtain ⟨y0,y1,y2,y3,_⟩ := S5.1.cells
  obtain ⟨y4,_⟩ := one_cell S5.2.1
  have y4' : (w5.setCell ⟨w.heap.size + 1, 0,none⟩ (.slice e1 Q.win.length j1)).cell? ⟨G, 0,none⟩ = some (.string o) := (one_cell (t := 9) (by rw [Below.heap_setCell _ _ _ _ (by show G ≠ w.heap.size + 1; have := HGW.out; omega)]; exact S5.2.1)).1
  obtain ⟨r0,r1,r2,r3⟩ := hR5.cells
  have f0 := hR5.thaw 0
  have f1 := hR5.thaw 1
  have f2 := hR5.thaw 2
  have f3 := hR5.thaw 3
  clear S5 hR5 hbw5
  go_wp2_with fail
  go_region_law (fail)
  all_goals (
   go_wp2_with fail
   obtain ⟨X,hX⟩ : ∃ X,((((w5.setCell ⟨w.heap.size + 1, 0,none⟩ (.slice e1 Q.win.length j1)).setCell ⟨w.heap.size + 1, 1,none⟩ (.slice e2 Q.main.length j2)).setCell ⟨w.heap.size + 1, 2,none⟩ (.slice e3 Q.sk.rows.length j3)).setCell ⟨w.heap.size + 1, 3,none⟩ (.int .i64 Q.sk.added)) = X := ⟨_,rfl⟩
   obtain ⟨hPO,hBF,q0,q1,q2,q3⟩ := HF.out X hX
   rw [hX]
   clear hX
   refine bodyPost_ret (v := .tuple #[.agg #[.slice e1 Q.win.length j1,.slice e2 Q.main.length j2,.slice e3 Q.sk.rows.length j3,.int .i64 Q.sk.added],.string o]) (by simp [results,Tryz.results43,go_sem,q0,q1,q2,q3]) rfl ⟨.agg #[.slice e1 Q.win.length j1,.slice e2 Q.main.length j2,.slice e3 Q.sk.rows.length j3,.int .i64 Q.sk.added], ?_, ?_,hBF⟩
   ·rw [HQ.out]
   ·rw [HQ.out]
    exact hPO)
 | true =>
  have cK := HKK.out w4
  obtain ⟨kk,hkk⟩ : ∃ kk,keyOk key = kk := ⟨_,rfl⟩
  rw [hkk] at cK
  cases kk with
  | false =>
   have HQ : Hid (touchP P key = (P,noKey)) := by show _ = _; unfold touchP; rw [hok,hkk]; rfl
   obtain ⟨Q,hQ⟩ : ∃ Q,P = Q := ⟨_,rfl⟩
   have S5 : Seats w4 V G w1.heap.size (.slice a2 P.win.length k2) (.slice a3 P.main.length k3) (.slice a4 P.sk.rows.length k4) Q noKey := hQ ▸ S4
   rw [show (P,noKey) = (Q,noKey) by rw [hQ]] at HQ
   obtain ⟨o,ho⟩ : ∃ o,noKey = o := ⟨_,rfl⟩
   rw [ho] at HQ S5
   clear hok hkk
   go_wp2_with fail
   refine cK.mono ?_
   rintro e w5 ⟨rfl,hw5⟩
   rw [hw5]
   obtain ⟨w5',hw5'⟩ : ∃ x,w4 = x := ⟨_,rfl⟩
   have hbw5 : Below w.heap.size w w4 := hb1.trans (hbw4.mono (by omega))
   have hR5 : PBox w4 (w.heap.size + 1) (.slice none 0 0) (.slice none 0 0) (.slice none 0 0) (.int .i64 0) := hR.on hbw4
   obtain ⟨u1,hu1⟩ : ∃ u : Value,.slice a2 P.win.length k2 = u := ⟨_,rfl⟩
   obtain ⟨u2,hu2⟩ : ∃ u : Value,.slice a3 P.main.length k3 = u := ⟨_,rfl⟩
   obtain ⟨u3,hu3⟩ : ∃ u : Value,.slice a4 P.sk.rows.length k4 = u := ⟨_,rfl⟩
   rw [hu1,hu2,hu3] at S5
   clear S4 hw5 hw5' hbw4 hTB4 hR hb1 ho hQ hu1 hu2 hu3 HKK cK
   obtain ⟨e1,j1,rfl,_⟩ := S5.1.2.1.strsAt
   obtain ⟨e2,j2,rfl,_⟩ := S5.1.2.2.1.strsAt
   obtain ⟨e3,j3,rfl,_⟩ := S5.1.2.2.2.2.at
   have HF : Hid (∀ X,((((w4.setCell ⟨w.heap.size + 1, 0,none⟩ (.slice e1 Q.win.length j1)).setCell ⟨w.heap.size + 1, 1,none⟩ (.slice e2 Q.main.length j2)).setCell ⟨w.heap.size + 1, 2,none⟩ (.slice e3 Q.sk.rows.length j3)).setCell ⟨w.heap.size + 1, 3,none⟩ (.int .i64 Q.sk.added)) = X → POwn X.drew w.heap.size X.drew.heap.size (.agg #[.slice e1 Q.win.length j1,.slice e2 Q.main.length j2,.slice e3 Q.sk.rows.length j3,.int .i64 Q.sk.added]) Q ∧ Below w.heap.size w X.drew ∧ (X.cell? ⟨w.heap.size + 1, 0,none⟩ = some (.slice e1 Q.win.length j1) ∧ X.cell? ⟨w.heap.size + 1, 1,none⟩ = some (.slice e2 Q.main.length j2) ∧ X.cell? ⟨w.heap.size + 1, 2,none⟩ = some (.slice e3 Q.sk.rows.length j3) ∧ X.cell? ⟨w.heap.size + 1, 3,none⟩ = some (.int .i64 Q.sk.added))) := fun X hX => by
    have p1 := POwn.mono (POwn.put4 (w := w4) S5.1.own hR5 (.slice e1 Q.win.length j1) (.slice e2 Q.main.length j2) (.slice e3 Q.sk.rows.length j3) (.int .i64 Q.sk.added)) (show w.heap.size ≤ w1.heap.size by omega) (Nat.le_refl _)
    have p2 := Below.put4 (T := w.heap.size + 1) hbw5 (by omega) (.slice e1 Q.win.length j1) (.slice e2 Q.main.length j2) (.slice e3 Q.sk.rows.length j3) (.int .i64 Q.sk.added)
    have p3 := (hR5.put (.slice e1 Q.win.length j1) (.slice e2 Q.main.length j2) (.slice e3 Q.sk.rows.length j3) (.int .i64 Q.sk.added)).cells
    rw [hX] at p1 p2 p3
    have p4 : Below X.heap.size X X.drew := ⟨rfl,rfl,rfl,Nat.le_refl _,fun _ _ => rfl⟩
    exact ⟨(p1.below p4 (Nat.le_refl _)).up,p2.trans (p4.mono p2.size),p3⟩
   obtain ⟨y0,y1,y2,y3,_⟩ := S5.1.cells
   obtain ⟨y4,_⟩ := one_cell S5.2.1
   have y4' : (w4.setCell ⟨w.heap.size + 1, 0,none⟩ (.slice e1 Q.win.length j1)).cell? ⟨G, 0,none⟩ = some (.string o) := (one_cell (t := 9) (by rw [Below.heap_setCell _ _ _ _ (by show G ≠ w.heap.size + 1; have := HGW.out; omega)]; exact S5.2.1)).1
   obtain ⟨r0,r1,r2,r3⟩ := hR5.cells
   have f0 := hR5.thaw 0
   have f1 := hR5.thaw 1
   have f2 := hR5.thaw 2
   have f3 := hR5.thaw 3
   clear S5 hR5 hbw5
   go_wp2_with fail
   go_region_law (fail)
   all_goals (
    go_wp2_with fail
    obtain ⟨X,hX⟩ : ∃ X,((((w4.setCell ⟨w.heap.size + 1, 0,none⟩ (.slice e1 Q.win.length j1)).setCell ⟨w.heap.size + 1, 1,none⟩ (.slice e2 Q.main.length j2)).setCell ⟨w.heap.size + 1, 2,none⟩ (.slice e3 Q.sk.rows.length j3)).setCell ⟨w.heap.size + 1, 3,none⟩ (.int .i64 Q.sk.added)) = X := ⟨_,rfl⟩
    obtain ⟨hPO,hBF,q0,q1,q2,q3⟩ := HF.out X hX
    rw [hX]
    clear hX
    refine bodyPost_ret (v := .tuple #[.agg #[.slice e1 Q.win.length j1,.slice e2 Q.main.length j2,.slice e3 Q.sk.rows.length j3,.int .i64 Q.sk.added],.string o]) (by simp [results,Tryz.results43,go_sem,q0,q1,q2,q3]) rfl ⟨.agg #[.slice e1 Q.win.length j1,.slice e2 Q.main.length j2,.slice e3 Q.sk.rows.length j3,.int .i64 Q.sk.added], ?_, ?_,hBF⟩
    ·rw [HQ.out]
    ·rw [HQ.out]
     exact hPO)
  | true =>
   have cT := touch_any w4 V G w1.heap.size (.slice a2 P.win.length k2) (.slice a3 P.main.length k3) (.slice a4 P.sk.rows.length k4) P key S4 hok hkk hTB4.out
   obtain ⟨QQ,hQQ⟩ : ∃ Q,touchP P key = Q := ⟨_,rfl⟩
   obtain ⟨Q,o⟩ := QQ
   rw [hQQ] at cT
   have HQ : Hid (touchP P key = (Q,o)) := hQQ
   clear hok hkk hQQ
   go_wp2_with fail
   refine cK.mono ?_
   rintro e w5 ⟨rfl,hw5⟩
   rw [hw5]
   clear hw5 cK
   go_wp2_with fail
   refine cT.mono ?_
   rintro e w5 ⟨rfl,hb5,u1,u2,u3,S5⟩
   have hbw4' : Below (w.heap.size + 2) w1 w5 := (hbw4.mono (by omega)).trans (hb5.mono HGW.out.1)
   have hbw5 : Below w.heap.size w w5 := hb1.trans (hbw4'.mono (by omega))
   have hR5 : PBox w5 (w.heap.size + 1) (.slice none 0 0) (.slice none 0 0) (.slice none 0 0) (.int .i64 0) := hR.kept (hbw4'.block _ (by omega))
   clear S4 hb5 hbw4 hbw4' hTB4 hR hb1 HKK cT
   obtain ⟨e1,j1,rfl,_⟩ := S5.1.2.1.strsAt
   obtain ⟨e2,j2,rfl,_⟩ := S5.1.2.2.1.strsAt
   obtain ⟨e3,j3,rfl,_⟩ := S5.1.2.2.2.2.at
   have HF : Hid (∀ X,((((w5.setCell ⟨w.heap.size + 1, 0,none⟩ (.slice e1 Q.win.length j1)).setCell ⟨w.heap.size + 1, 1,none⟩ (.slice e2 Q.main.length j2)).setCell ⟨w.heap.size + 1, 2,none⟩ (.slice e3 Q.sk.rows.length j3)).setCell ⟨w.heap.size + 1, 3,none⟩ (.int .i64 Q.sk.added)) = X → POwn X.drew w.heap.size X.drew.heap.size (.agg #[.slice e1 Q.win.length j1,.slice e2 Q.main.length j2,.slice e3 Q.sk.rows.length j3,.int .i64 Q.sk.added]) Q ∧ Below w.heap.size w X.drew ∧ (X.cell? ⟨w.heap.size + 1, 0,none⟩ = some (.slice e1 Q.win.length j1) ∧ X.cell? ⟨w.heap.size + 1, 1,none⟩ = some (.slice e2 Q.main.length j2) ∧ X.cell? ⟨w.heap.size + 1, 2,none⟩ = some (.slice e3 Q.sk.rows.length j3) ∧ X.cell? ⟨w.heap.size + 1, 3,none⟩ = some (.int .i64 Q.sk.added))) := fun X hX => by
    have p1 := POwn.mono (POwn.put4 (w := w5) S5.1.own hR5 (.slice e1 Q.win.length j1) (.slice e2 Q.main.length j2) (.slice e3 Q.sk.rows.length j3) (.int .i64 Q.sk.added)) (show w.heap.size ≤ w1.heap.size by omega) (Nat.le_refl _)
    have p2 := Below.put4 (T := w.heap.size + 1) hbw5 (by omega) (.slice e1 Q.win.length j1) (.slice e2 Q.main.length j2) (.slice e3 Q.sk.rows.length j3) (.int .i64 Q.sk.added)
    have p3 := (hR5.put (.slice e1 Q.win.length j1) (.slice e2 Q.main.length j2) (.slice e3 Q.sk.rows.length j3) (.int .i64 Q.sk.added)).cells
    rw [hX] at p1 p2 p3
    have p4 : Below X.heap.size X X.drew := ⟨rfl,rfl,rfl,Nat.le_refl _,fun _ _ => rfl⟩
    exact ⟨(p1.below p4 (Nat.le_refl _)).up,p2.trans (p4.mono p2.size),p3⟩
   obtain ⟨y0,y1,y2,y3,_⟩ := S5.1.cells
   obtain ⟨y4,_⟩ := one_cell S5.2.1
   have y4' : (w5.setCell ⟨w.heap.size + 1, 0,none⟩ (.slice e1 Q.win.length j1)).cell? ⟨G, 0,none⟩ = some (.string o) := (one_cell (t := 9) (by rw [Below.heap_setCell _ _ _ _ (by show G ≠ w.heap.size + 1; have := HGW.out; omega)]; exact S5.2.1)).1
   obtain ⟨r0,r1,r2,r3⟩ := hR5.cells
   have f0 := hR5.thaw 0
   have f1 := hR5.thaw 1
   have f2 := hR5.thaw 2
   have f3 := hR5.thaw 3
   clear S5 hR5 hbw5
   go_wp2_with fail
   go_region_law (fail)
   all_goals (
    go_wp2_with fail
    obtain ⟨X,hX⟩ : ∃ X,((((w5.setCell ⟨w.heap.size + 1, 0,none⟩ (.slice e1 Q.win.length j1)).setCell ⟨w.heap.size + 1, 1,none⟩ (.slice e2 Q.main.length j2)).setCell ⟨w.heap.size + 1, 2,none⟩ (.slice e3 Q.sk.rows.length j3)).setCell ⟨w.heap.size + 1, 3,none⟩ (.int .i64 Q.sk.added)) = X := ⟨_,rfl⟩
    obtain ⟨hPO,hBF,q0,q1,q2,q3⟩ := HF.out X hX
    rw [hX]
    clear hX
    refine bodyPost_ret (v := .tuple #[.agg #[.slice e1 Q.win.length j1,.slice e2 Q.main.length j2,.slice e3 Q.sk.rows.length j3,.int .i64 Q.sk.added],.string o]) (by simp [results,Tryz.results43,go_sem,q0,q1,q2,q3]) rfl ⟨.agg #[.slice e1 Q.win.length j1,.slice e2 Q.main.length j2,.slice e3 Q.sk.rows.length j3,.int .i64 Q.sk.added], ?_, ?_,hBF⟩
    ·rw [HQ.out]
    ·rw [HQ.out]
     exact hPO)
end Go.Proofs.YtaahjcljanckaaaGreatDoor
