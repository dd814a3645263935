/- A key is asked for: the program's. -/
import Derived.Test.YtbcjkinalghokafDoorSkCopyImpl
import Derived.Test.YtbcjkinalghokafDoorSamePolJ
import Derived.Test.YtbcjkinalghokafDoorSkArr3J
namespace Go.Proofs.YtbcjkinalghokafDoor
open Go.RowKit Go.Sort

@[reducible] def zl : Array Value := #[.int .i64 0, .int .i64 0, .int .i64 0, .int .i64 0, .int .i64 0, .int .i64 0, .int .i64 0, .int .i64 0, .int .i64 0, .int .i64 0, .int .i64 0, .int .i64 0, .int .i64 0, .int .i64 0, .int .i64 0, .int .i64 0, .int .i64 0, .int .i64 0, .int .i64 0, .int .i64 0, .int .i64 0, .int .i64 0, .int .i64 0, .int .i64 0, .int .i64 0, .int .i64 0, .int .i64 0, .int .i64 0, .int .i64 0, .int .i64 0, .int .i64 0, .int .i64 0, .int .i64 0, .int .i64 0, .int .i64 0, .int .i64 0, .int .i64 0, .int .i64 0, .int .i64 0, .int .i64 0, .int .i64 0, .int .i64 0, .int .i64 0, .int .i64 0, .int .i64 0, .int .i64 0, .int .i64 0, .int .i64 0]
theorem zl_eq : (#[.int .i64 0, .int .i64 0, .int .i64 0, .int .i64 0, .int .i64 0, .int .i64 0, .int .i64 0, .int .i64 0, .int .i64 0, .int .i64 0, .int .i64 0, .int .i64 0, .int .i64 0, .int .i64 0, .int .i64 0, .int .i64 0, .int .i64 0, .int .i64 0, .int .i64 0, .int .i64 0, .int .i64 0, .int .i64 0, .int .i64 0, .int .i64 0, .int .i64 0, .int .i64 0, .int .i64 0, .int .i64 0, .int .i64 0, .int .i64 0, .int .i64 0, .int .i64 0, .int .i64 0, .int .i64 0, .int .i64 0, .int .i64 0, .int .i64 0, .int .i64 0, .int .i64 0, .int .i64 0, .int .i64 0, .int .i64 0, .int .i64 0, .int .i64 0, .int .i64 0, .int .i64 0, .int .i64 0, .int .i64 0] : Array Value) = zl := rfl
theorem okK_all {S : Sk} (h : okK S = true) : S.rows.length = 3 ∧ AllOk S.rows ∧ 0 ≤ S.added ∧ S.added ≤ 63 := by
  obtain ⟨r0, r1, r2, hrows, o0, o1, o2, h0, h1⟩ := okK_parts h
  refine ⟨by rw [hrows]; rfl, ?_, h0, h1⟩
  rw [hrows]
  intro r hr
  simp only [List.mem_cons, List.not_mem_nil, or_false] at hr
  rcases hr with rfl | rfl | rfl
  · exact o0
  · exact o1
  · exact o2
set_option maxRecDepth 100000 in
set_option maxHeartbeats 8000000 in
theorem implSketchBump_any (w : World) (a : Option Addr) (c : Nat) (S : Sk) (key : ByteArray) (hA : SSAt w a S.rows w.heap.size) (hm : SkSz S) (hk : key.size ≤ 1048576) (ht : Tab w) :
    Calls Tryd.prog 60 #[.agg #[.slice a S.rows.length c, .int .i64 S.added], .string key] w fun e w' => ∃ v, e = .returned v ∧ SkOwn w' w.heap.size w'.heap.size v (bumpS S key) ∧ Below w.heap.size w w' := by
  obtain ⟨w0, hw0⟩ : ∃ x, w.alloc (.cells #[.slice a S.rows.length c, .int .i64 S.added] 27) = x := ⟨_, rfl⟩
  obtain ⟨w1, hw1⟩ : ∃ x, w0.alloc (.cells #[.slice none 0 0, .int .i64 0] 27) = x := ⟨_, rfl⟩
  have hb0 : Below w.heap.size w w0 := by rw [← hw0]; exact (Below.refl _ _).alloc (Nat.le_refl _) _
  have hb1 : Below w0.heap.size w0 w1 := by rw [← hw1]; exact (Below.refl _ _).alloc (Nat.le_refl _) _
  have s0 : w0.heap.size = w.heap.size + 1 := by rw [← hw0]; simp
  have s1 : w1.heap.size = w.heap.size + 2 := by rw [← hw1]; simp; omega
  have hbw1 : Below w.heap.size w w1 := hb0.trans (hb1.mono hb0.size)
  have hB1 : SkBox w1 w.heap.size (.slice a S.rows.length c) (.int .i64 S.added) := by
    have h : SkBox w0 w.heap.size (.slice a S.rows.length c) (.int .i64 S.added) := by rw [← hw0]; exact SkBox.new _ _ _
    exact h.on hb1
  have hR1 : SkBox w1 (w.heap.size + 1) (.slice none 0 0) (.int .i64 0) := by rw [← hw1, ← s0]; exact SkBox.new _ _ _
  have HW : Hid ((w.alloc (.cells #[.slice a S.rows.length c, .int .i64 S.added] 27)).alloc (.cells #[.slice none 0 0, .int .i64 0] 27) = w1) := by rw [hw0]; exact hw1
  have hA1 := hA.on hbw1
  have hm1 : S.rows.length ≤ 1048576 := by unfold SkSz at hm; omega
  have c0 := implSketchOk_any w1 a c S hA1 hm1
  obtain ⟨b0, b1⟩ := hB1.cells
  rw [← HW.out] at b0 b1
  have HS1 : Hid (w1.heap.size = w.heap.size + 2) := s1
  clear hw0 hw1 s0 s1 hb0 hb1
  cases hok : okK S with
  | false =>
    rw [hok] at c0
    have HB : Hid (bumpS S key = S) := by show _ = _; unfold bumpS; rw [hok]; rfl
    clear hok
    go_enter Tryd.func60, Tryd.ntmps60
    go_wp2_with fail
    rw [HW.out] at b0 b1 ⊢
    refine c0.mono ?_
    rintro e w2 ⟨rfl, hb2⟩
    clear c0 b0 b1
    obtain ⟨b0, b1⟩ := (hB1.on hb2).cells
    have hbw2 := hbw1.trans (hb2.mono hbw1.size)
    have c1 := sketchCopy_any w2 a c S (hA1.on hb2) hm
    go_wp2_with fail
    refine c1.mono ?_
    rintro e w3 ⟨v3, rfl, ho3, hb3⟩
    have hbw3 := hbw2.trans (hb3.mono hbw2.size)
    have hR3 := (hR1.on hb2).on hb3
    obtain ⟨a3, c3, rfl, _⟩ := ho3.at
    obtain ⟨v1, ev, ho⟩ := ho3
    simp only [Value.agg.injEq, Array.mk.injEq, List.cons.injEq, and_true] at ev
    subst ev
    obtain ⟨r0, r1⟩ := hR3.cells
    have f0 := hR3.thaw 0
    have f1 := hR3.thaw 1
    have HO : Hid (OwnSS w3 w2.heap.size w3.heap.size (.slice a3 S.rows.length c3) S.rows) := ho
    have hws := hbw2.size
    clear c1 ho hR1 hB1 hA1 hA b0 b1 hb2 hb3
    go_wp2_with fail
    obtain ⟨q0, q1⟩ := (hR3.put (.slice a3 S.rows.length c3) (.int .i64 S.added)).cells
    refine bodyPost_ret (v := .agg #[.slice a3 S.rows.length c3, .int .i64 S.added]) (by simp [results, Tryd.results60, go_sem, q0, q1]) rfl ⟨_, rfl, ?_, Below.put2 hbw3 (by omega) _ _⟩
    rw [HB.out]
    exact ⟨_, rfl, (HO.out.put2 hR3 _ _).mono (by omega) (by simp)⟩
  | true =>
    rw [hok] at c0
    obtain ⟨h3, hall, ha0, ha1⟩ := okK_all hok
    have HB : Hid (bumpS S key = if S.added = 63 then ⟨halfTo (bumpTo key S.rows 3) 3, 0⟩ else ⟨bumpTo key S.rows 3, S.added + 1⟩) := by show _ = _; unfold bumpS; rw [if_pos hok]
    obtain ⟨rows, added⟩ := S
    dsimp only at *
    rw [h3] at c0 b0 b1 hB1 HW
    have hallb := bumpTo_ok (key := key) hall 3
    have hlb : (bumpTo key rows 3).length = 3 := by rw [bumpTo_length, h3]
    have hfl : (bumpTo key rows 3).flatten.length = 48 := by rw [flat_len _ hallb.all16, hlb]
    obtain ⟨new, hnew⟩ : ∃ new, bumpTo key rows 3 = new := ⟨_, rfl⟩
    have cR := fun wi (h : SSAt wi a rows wi.heap.size) => rowsOf_any wi a c rows added h3 hall.all16 h
    have cW := fun wi (h : Tab wi) => with_any wi rows key h3 hall hk h
    rw [hnew] at hallb hlb hfl HB cW
    have hsz : (Tryd.prog.info? 70).map (·.size) = some (ints new.flatten).toArray.size := by rw [List.size_toArray, ints_length, hfl]; kernel_rfl
    have hol : zl.size = (ints new.flatten).toArray.size := by rw [show (ints new.flatten).toArray.size = (ints new.flatten).length from rfl, ints_length, hfl]; rfl
    have ht1 := ht.below hbw1 (Nat.le_refl _)
    clear hok hnew hA hm hm1 ht
    go_enter Tryd.func60, Tryd.ntmps60
    rw [h3]
    clear h3
    go_wp2_with fail
    rw [HW.out] at b0 b1 ⊢
    refine c0.mono ?_
    rintro e w2 ⟨rfl, hb2⟩
    clear c0 b0 b1
    have hbw2 : Below w.heap.size w w2 := hbw1.trans (hb2.mono hbw1.size)
    have hs2 : w.heap.size + 2 ≤ w2.heap.size := by have := hb2.size; have := HS1.out; omega
    have hB2 := hB1.on hb2
    have hR2 := hR1.on hb2
    have hA2 := hA1.on hb2
    have ht2 := ht1.below hb2 (Nat.le_refl _)
    have KC : ∀ W, Below w2.heap.size w2 W → W.cell? ⟨w.heap.size, 0, none⟩ = some (.slice a 3 c) ∧ W.cell? ⟨w.heap.size, 1, none⟩ = some (.int .i64 added) := fun W h => (hB2.on h).cells
    have HKC : Hid (∀ W, Below w2.heap.size w2 W → W.cell? ⟨w.heap.size, 0, none⟩ = some (.slice a 3 c) ∧ W.cell? ⟨w.heap.size, 1, none⟩ = some (.int .i64 added)) := KC
    have CR : Hid (∀ W, Below w2.heap.size w2 W → Calls Tryd.prog 54 #[.agg #[.slice a 3 c, .int .i64 added]] W fun e w' => e = .returned (.agg (ints rows.flatten).toArray) ∧ Below W.heap.size W w') := fun W h => cR W (hA2.on h)
    have CW : Hid (∀ W, Below w2.heap.size w2 W → Calls Tryd.prog 76 #[.agg (ints rows.flatten).toArray, .string key] W fun e w' => e = .returned (.agg (ints new.flatten).toArray) ∧ Below W.heap.size W w') := fun W h => cW W (ht2.below h (Nat.le_refl _))
    have FIN : Hid (∀ (X : World) (T : Nat), X.heap[T]? = some (.cells zl 70 (0, 0)) → w2.heap.size ≤ T → Below w2.heap.size w2 X → RBox (X.setRow T (ints new.flatten).toArray) T new ∧ SkBox (X.setRow T (ints new.flatten).toArray) (w.heap.size + 1) (.slice none 0 0) (.int .i64 0) ∧ Below w.heap.size w (X.setRow T (ints new.flatten).toArray) ∧ w.heap.size + 2 ≤ T) := by
      intro X T hT hTs hX
      refine ⟨setRow_heap X T _ _ _ _ hT, (hR2.on hX).kept (setRow_other _ _ _ _ (by omega)), below_setRow (hbw2.trans (hX.mono hbw2.size)) (by have := hbw2.size; omega) _, by omega⟩
    have hdr : Below w2.heap.size w2 w2.drew := bdrewS w2
    have hz : Below w2.heap.size w2 (w2.alloc (.cells zl 70)) := (Below.refl _ _).alloc (Nat.le_refl _) _
    have hzd : Below w2.heap.size w2 (w2.alloc (.cells zl 70)).drew := hz.trans ⟨rfl, rfl, rfl, Nat.le_refl _, fun _ _ => rfl⟩
    obtain ⟨d0, d1⟩ := KC w2 (Below.refl _ _)
    obtain ⟨e0, e1⟩ := KC _ hz
    have hwr : IntKind.i64.wrap (added + 1) = added + 1 := by rw [IntKind.wrap_i64]; omega
    have hl48 : (ints new.flatten).length = 48 := by rw [ints_length]; exact hfl
    have HST : Hid (∀ (X : World) (T : Nat), X.heap[T]? = some (.cells zl 70 (0, 0)) → (storeCells ⟨T, 0, none⟩ (ints new.flatten) 0).run Tryd.prog X = .ok () (X.setRow T (ints new.flatten).toArray)) := fun X T h => RBox.store (rows := zrows) h zrows_len hfl
    have HC : Hid (∀ (X : World) (T : Nat), Below w2.heap.size w2 X → w2.heap.size ≤ T → (X.setRow T (ints new.flatten).toArray).cell? ⟨w.heap.size, 1, none⟩ = some (.int .i64 added)) := fun X T h hT => (World.cell?_of_block (setRow_other X T w.heap.size _ (by omega))).trans (KC X h).2
    have hla : -9223372036854775808 ≤ added + 1 ∧ added + 1 ≤ 9223372036854775807 := by omega
    clear cR cW hA1 hA2 ht1 ht2 hB1 hR1 hbw1 hb2 KC hB2
    have kz : ∀ (W W' : World), Below W.heap.size W W' → ∀ T o, W.heap[T]? = some o → W'.heap[T]? = some o := fun W W' h T o hT => (h.block T (Array.getElem?_eq_some_iff.1 hT).1).trans hT
    go_upto_region 3 with fail
    go_cut [5, 6] (fun p n wc => ∃ T, p = .pointer (some ⟨T, 0, none⟩) ∧ n = .int .i64 (added + 1) ∧ RBox wc T new ∧ SkBox wc (w.heap.size + 1) (.slice none 0 0) (.int .i64 0) ∧ Below w.heap.size w wc ∧ w.heap.size + 2 ≤ T)
    case first =>
      go_region_law (first
        | (go_simp; go_at_call 54; (first | (refine (CR.out _ hdr).mono ?_; rintro e wA ⟨rfl, hbA⟩; have fA : Below w2.heap.size w2 wA := hdr.trans hbA) | (refine (CR.out _ hzd).mono ?_; rintro e wA ⟨rfl, hbA⟩; have fA : Below w2.heap.size w2 wA := hzd.trans (hbA.mono hzd.size); have oA := kz _ _ hbA _ _ (heap_alloc_new w2 (.cells zl 70)))); have A1 := (HKC.out _ fA).2; have fAz : Below w2.heap.size w2 (wA.alloc (.cells zl 70)) := fA.alloc fA.size _; have A2 := (HKC.out _ fAz).2)
        | (go_simp; go_at_call 76; (first | (refine (CW.out _ fA).mono ?_; rintro e wB ⟨rfl, hbB⟩; have fB : Below w2.heap.size w2 wB := fA.trans (hbB.mono fA.size); try (have oB := kz _ _ hbB _ _ oA; have S1 := HST.out _ _ oB; have C1 := HC.out _ _ fB (Nat.le_refl _))) | (refine (CW.out _ fAz).mono ?_; rintro e wB ⟨rfl, hbB⟩; have fB : Below w2.heap.size w2 wB := fAz.trans (hbB.mono fAz.size); have oB := kz _ _ hbB _ _ (heap_alloc_new wA (.cells zl 70)); have S1 := HST.out _ _ oB; have C1 := HC.out _ _ fB fA.size)); have B1 := (HKC.out _ fB).2; have fBz : Below w2.heap.size w2 (wB.alloc (.cells zl 70)) := fB.alloc fB.size _; have B2 := (HKC.out _ fBz).2; have S2 := HST.out _ _ (heap_alloc_new wB (.cells zl 70)); have C2 := HC.out _ _ fBz fB.size))
      all_goals go_wp2_with fail
      all_goals go_meet
      all_goals first | exact ⟨_, rfl, rfl, FIN.out _ _ oB (by first | exact Nat.le_refl _ | exact fA.size) fB⟩ | exact ⟨_, rfl, rfl, FIN.out _ _ (heap_alloc_new wB (.cells zl 70)) fB.size fBz⟩
    case rest =>
      obtain ⟨T, rfl, rfl, hT, hR, hbw, hTs⟩ := hcut
      clear HKC CR CW FIN HST HC hdr hz hzd d0 d1 e0 e1 hR2 hbw2 HW HS1 kz hla hwr
      obtain ⟨T1, hT1⟩ : ∃ T1, w.heap.size + 1 = T1 := ⟨_, rfl⟩
      have hT1l : w.heap.size ≤ T1 := by omega
      have hT1n : T1 ≠ T := by omega
      rw [hT1] at hR ⊢
      have HTs : Hid (w.heap.size ≤ T) := by show _ ≤ _; omega
      by_cases h63 : added = 63
      · have HB2 : Hid (bumpS ⟨rows, added⟩ key = ⟨halfTo new 3, 0⟩) := by show _ = _; rw [HB.out, if_pos h63]
        have hnl : (halfTo new 3).length = 3 := by rw [halfTo_length]; exact hlb
        have hno := halfTo_ok hallb 3
        have hnf : (halfTo new 3).flatten.length = 48 := by rw [flat_len _ hno.all16, hnl]
        have hsz2 : (Tryd.prog.info? 70).map (·.size) = some (ints (halfTo new 3).flatten).toArray.size := by rw [show (ints (halfTo new 3).flatten).toArray.size = (ints (halfTo new 3).flatten).length from rfl, ints_length, hnf]; kernel_rfl
        have hol2 : (ints new.flatten).toArray.size = (ints (halfTo new 3).flatten).toArray.size := by rw [show (ints (halfTo new 3).flatten).toArray.size = (ints (halfTo new 3).flatten).length from rfl, ints_length, hnf]; exact hl48
        have cH := halved_any wc new hlb hallb
        subst h63
        clear HB
        go_wp2_with (refine wpList_loadR rfl (.tmp 5) 70 rfl T rfl 3 68 Tryd.underlying70 _ _ hT hsz ?_)
        refine cH.mono ?_
        rintro e w5 ⟨rfl, hb5⟩
        have hT5 := hT.on hb5
        have hR5 := hR.on hb5
        have hbw5 := hbw.trans (hb5.mono hbw.size)
        have hTE : RBox (w5.setRow T (ints (halfTo new 3).flatten).toArray) T (halfTo new 3) := hT5.stored _
        have hRE : SkBox (w5.setRow T (ints (halfTo new 3).flatten).toArray) T1 (.slice none 0 0) (.int .i64 0) := hR5.kept (setRow_other _ _ _ _ hT1n)
        have hbwE := below_setRow hbw5 HTs.out (ints (halfTo new 3).flatten).toArray
        have hszE := hsz2
        have hRl := hnl
        have hRo := hno
        clear cH hT hR hbw hR5 hbw5 hb5
        go_wp2_with (first | (refine wpList_storeR rfl (.tmp 5) (.tmp 22) 70 rfl T rfl _ rfl _ _ hT5 hsz2 hol2 (ints_all _) ?_) | (refine wpList_loadR rfl (.tmp 5) 70 rfl T rfl 3 68 Tryd.underlying70 _ _ hTE hszE ?_))
        obtain ⟨wE, hwE⟩ : ∃ x, w5.setRow T (ints (halfTo new 3).flatten).toArray = x := ⟨_, rfl⟩
        rw [hwE] at hTE hRE hbwE ⊢
        clear hwE hT5 hsz2 hol2 hsz hol
        have cL := lists_any wE (halfTo new 3) hRl hRo.all16
        refine cL.mono ?_
        rintro e w7 ⟨v7, rfl, ho7, hb7⟩
        obtain ⟨a7, c7, rfl, _⟩ := ho7.at
        have hR7 := hRE.on hb7
        have hbw7 := hbwE.trans (hb7.mono hbwE.size)
        obtain ⟨r0, r1⟩ := hR7.cells
        have f0 := hR7.thaw 0
        have f1 := hR7.thaw 1
        rw [hRl] at ho7 ⊢
        have HO : Hid (OwnSS w7 wE.heap.size w7.heap.size (.slice a7 3 c7) (halfTo new 3)) := ho7
        have hwsE := hbwE.size
        clear cL ho7 hTE hRE hb7
        go_wp2_with fail
        obtain ⟨q0, q1⟩ := (hR7.put (.slice a7 3 c7) (.int .i64 0)).cells
        refine bodyPost_ret (v := .agg #[.slice a7 3 c7, .int .i64 0]) (by simp [results, Tryd.results60, go_sem, q0, q1]) rfl ⟨_, rfl, ?_, Below.put2 hbw7 hT1l _ _⟩
        rw [HB2.out]
        exact ⟨_, rfl, (HO.out.put2 hR7 _ _).mono hwsE (by simp)⟩
      · have HB2 : Hid (bumpS ⟨rows, added⟩ key = ⟨new, added + 1⟩) := by show _ = _; rw [HB.out, if_neg h63]
        have hne : ((added + 1 == 64) : Bool) = false := by simp; omega
        have hTE := hT
        have hRE := hR
        have hbwE := hbw
        have hszE := hsz
        have hRl := hlb
        have hRo := hallb
        clear hT hR hbw HB hsz hol
        have h64 : ¬ added + 1 = 64 := by omega
        have cL := lists_any wc new hRl hRo.all16
        go_wp2_with (refine wpList_loadR rfl (.tmp 5) 70 rfl T rfl 3 68 Tryd.underlying70 _ _ hTE hszE ?_)
        refine cL.mono ?_
        rintro e w7 ⟨v7, rfl, ho7, hb7⟩
        obtain ⟨a7, c7, rfl, _⟩ := ho7.at
        have hR7 := hRE.on hb7
        have hbw7 := hbwE.trans (hb7.mono hbwE.size)
        obtain ⟨r0, r1⟩ := hR7.cells
        have f0 := hR7.thaw 0
        have f1 := hR7.thaw 1
        rw [hRl] at ho7 ⊢
        have HO : Hid (OwnSS w7 wc.heap.size w7.heap.size (.slice a7 3 c7) new) := ho7
        have hwsE := hbwE.size
        clear cL ho7 hTE hRE hb7
        go_wp2_with fail
        obtain ⟨q0, q1⟩ := (hR7.put (.slice a7 3 c7) (.int .i64 (added + 1))).cells
        refine bodyPost_ret (v := .agg #[.slice a7 3 c7, .int .i64 (added + 1)]) (by simp [results, Tryd.results60, go_sem, q0, q1]) rfl ⟨_, rfl, ?_, Below.put2 hbw7 hT1l _ _⟩
        rw [HB2.out]
        exact ⟨_, rfl, (HO.out.put2 hR7 _ _).mono hwsE (by simp)⟩
end Go.Proofs.YtbcjkinalghokafDoor
