/- What is told, written by the program. -/
import Derived.Test.YtnnaphfeeobeladDoorCtBox
import Derived.Test.YtnnaphfeeobeladDoorDecimalImpl
import Derived.Test.YtnnaphfeeobeladDoorRowed
import Derived.Test.YtnnaphfeeobeladDoorControlBack
import Derived.Lib.Join
namespace Go.Proofs.YtnnaphfeeobeladDoor
open Go.RowKit Go.Sort
theorem joinW_join (P : List (List UInt8)) : joinW P = Lib.join P [44, 32] := by
  cases P with
  | nil => rfl
  | cons x r => rw [Lib.join_cons]; rfl
theorem joinK_join (P : List ByteArray) : joinK P P.length = ⟨(Lib.join (P.map (·.data.toList)) [44, 32]).toArray⟩ := by
  have h := joinK_list P P.length (Nat.le_refl _)
  rw [List.take_length, joinW_join] at h
  rw [← h]
theorem Tryd.infoT10I : (Tryd.prog.info? 9).map (fun i => (i.zero, i.size, i.bytes)) = some (some (.string ⟨#[]⟩), 1, 16) := by kernel_rfl
set_option maxHeartbeats 2000000 in
theorem implLife_any (x : Int) (w : World) :
    Calls Tryd.prog 63 #[.int .i64 x] w fun e w' => e = .returned (.bool (inN x 0 999999)) ∧ w' = w := by
  unfold inN
  by_cases h1 : (0 : Int) ≤ x
  · by_cases h2 : x ≤ 999999
    · rw [decide_eq_true (show 0 ≤ x ∧ x ≤ 999999 from ⟨h1, h2⟩)]
      go_enter Tryd.func63, Tryd.ntmps63
      go_wp2
      go_ret
      exact ⟨rfl, rfl⟩
    · rw [decide_eq_false (show ¬ (0 ≤ x ∧ x ≤ 999999) by omega)]
      have h3 : decide (x ≤ 999999) = false := by simpa using h2
      go_enter Tryd.func63, Tryd.ntmps63
      go_wp2
      go_ret
      exact ⟨rfl, rfl⟩
  · rw [decide_eq_false (show ¬ (0 ≤ x ∧ x ≤ 999999) by omega)]
    have h3 : decide (0 ≤ x) = false := by simpa using h1
    go_enter Tryd.func63, Tryd.ntmps63
    go_wp2
    go_ret
    exact ⟨rfl, rfl⟩
/-- 'strings.Join' of an own row of words. -/
theorem join_own (v : Value) (w : World) (base : Nat) (P : List ByteArray) (h0 : P ≠ []) (h4 : P.length ≤ 4) (hz : ∀ p ∈ P, p.size ≤ 48) (h : OwnV w base 9 v (strs P)) :
    ∃ g cap, v = .slice (some ⟨g, 0, none⟩) P.length cap ∧ Calls Tryd.prog 65 #[.slice (some ⟨g, 0, none⟩) P.length cap, .string ⟨#[44, 32]⟩] w fun e w' => e = .returned (.string (joinK P P.length)) ∧ Below w.heap.size w w' := by
  have hsh := h.shape
  rcases h.2 with ⟨rfl, hn⟩ | ⟨g, cap, cur, hv, hb, hg, hc1, hc2, hc3, hc4⟩
  · rw [strs_length] at hn
    exact absurd (List.length_eq_zero_iff.1 hn) h0
  · rw [strs_length] at hv hc1
    refine ⟨g, cap, hv, ?_⟩
    have hcells : ∀ (j : Nat) x, P[j]? = some x → w.cell? ⟨g, 0 + j, none⟩ = some (.string x) := by
      intro j x hx
      obtain ⟨a, c, e, hh⟩ := hsh
      have hj : j < P.length := (List.getElem?_eq_some_iff.1 hx).1
      obtain ⟨g', e1, e2, _⟩ := hh j (by rw [strs_length]; exact hj)
      rw [hv] at e
      injection e with e3 _ _
      rw [← e3] at e1
      simp only [Option.some.injEq, Addr.mk.injEq, and_true] at e1
      rw [strs_at hj] at e2
      rw [Nat.zero_add, e1, e2]
      congr 2
      have := List.getElem?_eq_getElem hj
      rw [hx] at this
      exact (Option.some.inj this).symm
    have hk := joinK_size hz P.length
    rw [joinK_join] at hk
    have hsz : (Lib.join (P.map (·.data.toList)) [44, 32]).length ≤ 50 * P.length := by
      have e : ∀ l : List UInt8, (⟨l.toArray⟩ : ByteArray).size = l.length := fun l => by show l.toArray.size = _; simp
      rw [e] at hk
      exact hk
    have c := Tryd.strings_Join g 0 cap P ⟨#[44, 32]⟩ w hcells (Array.getElem?_eq_some_iff.1 hg).1 (by omega) hc1 (by show (Lib.join (P.map (·.data.toList)) [44, 32]).length ≤ _; omega)
    rw [joinK_join]
    exact c
set_option maxRecDepth 100000 in
set_option maxHeartbeats 8000000 in
theorem implControlText_any (w : World) (c : Ct) (htab : Lib.TabIs Tryd.prog w "internal/strconv.uint64pow10" .u64 Lib.pow10Tab) :
    Calls Tryd.prog 27 #[.agg #[.bool c.ns, .bool c.nc, .int .i64 c.ma, .int .i64 c.sh]] w fun e w' => e = .returned (.string (textC c)) ∧ Below w.heap.size w w' := by
  obtain ⟨wb, hwb⟩ : ∃ wb, w.alloc (.cells #[.bool c.ns, .bool c.nc, .int .i64 c.ma, .int .i64 c.sh] 47) = wb := ⟨_, rfl⟩
  have hb : Below w.heap.size w wb := by rw [← hwb]; exact (Below.refl _ _).alloc (Nat.le_refl _) _
  have hX : CtB wb w.heap.size c := by rw [← hwb]; exact heap_alloc_new w _
  have HB : Hid (Below w.heap.size w wb ∧ CtB wb w.heap.size c) := ⟨hb, hX⟩
  have HTB : Hid (∀ wi, Below wb.heap.size wb wi → Lib.TabIs Tryd.prog wi "internal/strconv.uint64pow10" .u64 Lib.pow10Tab) := fun wi hi => tab_below gPow htab (hb.trans (hi.mono hb.size))
  have HS : Hid (OwnV wb wb.heap.size 9 (.slice none 0 0) (strs []) ∧ Below wb.heap.size wb wb) := ⟨OwnV.nil wb wb.heap.size 9, Below.refl _ _⟩
  obtain ⟨c0, hc0⟩ : ∃ c0, c = c0 := ⟨_, rfl⟩
  have HC0 : Hid (c = c0) := hc0
  rw [show textC c = textC c0 by rw [hc0]]
  clear hb hX hc0 htab
  obtain ⟨b0, b1, b2, b3⟩ := (HB.out.2.on HS.out.2).cells
  obtain ⟨ns, nc, ma, sh⟩ := c
  dsimp only at b0 b1 b2 b3 hwb ⊢
  cases ns with
  | false =>
    cases nc with
    | false =>
      cases e2 : inN ma 0 999999 with
      | false =>
        have E2 : Hid (inN ma 0 999999 = false) := e2
        clear e2
        cases e3 : inN sh 0 999999 with
        | false =>
          have E3 : Hid (inN sh 0 999999 = false) := e3
          clear e3
          go_enter Tryd.func27, Tryd.ntmps27
          go_wp2_with fail
          refine (implLife_any ma _).mono ?_
          rintro e wi ⟨rfl, hwi⟩
          rw [hwi, E2.out]
          clear hwi wi
          go_wp2_with fail
          refine (implLife_any sh _).mono ?_
          rintro e wi ⟨rfl, hwi⟩
          rw [hwi, E3.out]
          clear hwi wi
          go_wp2_with fail
          have HP : Hid (wordsC ⟨false, false, ma, sh⟩ = []) := by show _ = _; unfold wordsC; simp [E2.out, E3.out]
          have HE : Hid (textC c0 = ⟨#[]⟩) := by show _ = _; rw [← HC0.out]; unfold textC; rw [HP.out]; rfl
          refine (Tryd.strings_Join_none none 0 ⟨#[44, 32]⟩ _).mono ?_
          rintro e wj ⟨rfl, hwj⟩
          rw [hwj]
          clear hwj wj
          go_wp2_with fail
          go_ret
          exact ⟨by rw [HE.out]; rfl, HB.out.1⟩
        | true =>
          have E3 : Hid (inN sh 0 999999 = true) := e3
          obtain ⟨ds, hds⟩ : ∃ d : ByteArray, ⟨(decOf sh).toArray⟩ = d := ⟨_, rfl⟩
          have HH : Hid (∀ wi, Below wb.heap.size wb wi → Calls Tryd.prog 64 #[.int .i64 sh] wi fun e w2 => e = .returned (.string ds) ∧ Below wi.heap.size wi w2) := by intro wi hi; have h0 := of_decide_eq_true e3; rw [← hds]; exact implDecimal_any sh wi (by omega) (by omega) (HTB.out wi hi)
          have hzds : ds.size ≤ 32 := by rw [← hds]; exact decOf_short (of_decide_eq_true e3)
          have HDds : Hid ((⟨(decOf sh).toArray⟩ : ByteArray) = ds) := hds
          clear hds
          clear e3
          go_enter Tryd.func27, Tryd.ntmps27
          go_wp2_with fail
          refine (implLife_any ma _).mono ?_
          rintro e wi ⟨rfl, hwi⟩
          rw [hwi, E2.out]
          clear hwi wi
          go_wp2_with fail
          refine (implLife_any sh _).mono ?_
          rintro e wi ⟨rfl, hwi⟩
          rw [hwi, E3.out]
          clear hwi wi
          go_wp2_with fail
          refine (HH.out _ HS.out.2).mono ?_
          rintro e wd ⟨rfl, hbd⟩
          have HS : Hid (OwnV wd wb.heap.size 9 _ (strs []) ∧ Below wb.heap.size wb wd) := ⟨HS.out.1.below hbd (Nat.le_refl _), HS.out.2.trans (hbd.mono HS.out.2.size)⟩
          obtain ⟨b0, b1, b2, b3⟩ := (HB.out.2.on HS.out.2).cells
          dsimp only at b0 b1 b2 b3
          clear hbd
          go_wp2_with (at_builtin; (refine wpList_snocV rfl (.tmp 27) (.tmp 32) 44 rfl wb.heap.size 9 Tryd.underlying44 (.string ⟨#[]⟩) 16 Tryd.infoT10I rfl _ (strs []) rfl HS.out.1 (.string ((⟨sMaxL.toArray⟩ : ByteArray) ++ ds)) rfl rfl (by simp [strs]) (by simp [strs]) HS.out.2.size ?_; intro v1 w1 ho1 hn1 hb1 hz1; have HS : Hid (OwnV w1 wb.heap.size 9 v1 (strs [((⟨sMaxL.toArray⟩ : ByteArray) ++ ds)]) ∧ Below wb.heap.size wb w1) := ⟨ho1, hb1 _ HS.out.2⟩; obtain ⟨b0, b1, b2, b3⟩ := (HB.out.2.on HS.out.2).cells; dsimp only at b0 b1 b2 b3; clear ho1 hn1 hb1 hz1))
          have HP : Hid (wordsC ⟨false, false, ma, sh⟩ = [((⟨sMaxL.toArray⟩ : ByteArray) ++ ds)]) := by show _ = _; unfold wordsC; simp [E2.out, E3.out, HDds.out]
          obtain ⟨P, hP⟩ : ∃ P : List ByteArray, [((⟨sMaxL.toArray⟩ : ByteArray) ++ ds)] = P := ⟨_, rfl⟩
          rw [hP] at HS HP
          have HP0 : Hid (P ≠ []) := by show P ≠ []; rw [← hP]; simp
          have HPL : Hid (P.length ≤ 4) := by show _ ≤ _; rw [← hP]; simp
          have HPZ : Hid (∀ p ∈ P, p.size ≤ 48) := by rw [← hP]; intro p hp; simp only [List.mem_cons, List.not_mem_nil, or_false] at hp; rcases hp with hp <;> rw [hp] <;> first | decide | (rw [ByteArray.size_append, show (⟨maxAgeL.toArray⟩ : ByteArray).size = 8 from rfl]; omega) | (rw [ByteArray.size_append, show (⟨sMaxL.toArray⟩ : ByteArray).size = 9 from rfl]; omega)
          clear hP
          obtain ⟨w9, hw9⟩ : ∃ w9, w1 = w9 := ⟨_, rfl⟩
          rw [hw9] at HS ⊢
          clear b0 b1 b2 b3 hw9
          obtain ⟨g, cv, hv, CJ⟩ := join_own v1 w9 wb.heap.size P HP0.out HPL.out HPZ.out HS.out.1
          have HE : Hid (textC c0 = joinK P P.length) := by show _ = _; rw [← HC0.out]; unfold textC; rw [HP.out]
          have HBL : Hid (Below w.heap.size w w9) := HB.out.1.trans (HS.out.2.mono HB.out.1.size)
          subst hv
          generalize joinK P P.length = u at HE CJ
          clear HS HB HP0 HPL HPZ HP
          refine CJ.mono ?_
          rintro e wj ⟨rfl, hbj⟩
          clear CJ
          go_wp2_with fail
          go_ret
          exact ⟨by rw [HE.out]; rfl, HBL.out.trans (hbj.mono HBL.out.size)⟩
      | true =>
        have E2 : Hid (inN ma 0 999999 = true) := e2
        obtain ⟨dm, hdm⟩ : ∃ d : ByteArray, ⟨(decOf ma).toArray⟩ = d := ⟨_, rfl⟩
        have HM : Hid (∀ wi, Below wb.heap.size wb wi → Calls Tryd.prog 64 #[.int .i64 ma] wi fun e w2 => e = .returned (.string dm) ∧ Below wi.heap.size wi w2) := by intro wi hi; have h0 := of_decide_eq_true e2; rw [← hdm]; exact implDecimal_any ma wi (by omega) (by omega) (HTB.out wi hi)
        have hzdm : dm.size ≤ 32 := by rw [← hdm]; exact decOf_short (of_decide_eq_true e2)
        have HDdm : Hid ((⟨(decOf ma).toArray⟩ : ByteArray) = dm) := hdm
        clear hdm
        clear e2
        cases e3 : inN sh 0 999999 with
        | false =>
          have E3 : Hid (inN sh 0 999999 = false) := e3
          clear e3
          go_enter Tryd.func27, Tryd.ntmps27
          go_wp2_with fail
          refine (implLife_any ma _).mono ?_
          rintro e wi ⟨rfl, hwi⟩
          rw [hwi, E2.out]
          clear hwi wi
          go_wp2_with fail
          refine (HM.out _ HS.out.2).mono ?_
          rintro e wd ⟨rfl, hbd⟩
          have HS : Hid (OwnV wd wb.heap.size 9 _ (strs []) ∧ Below wb.heap.size wb wd) := ⟨HS.out.1.below hbd (Nat.le_refl _), HS.out.2.trans (hbd.mono HS.out.2.size)⟩
          obtain ⟨b0, b1, b2, b3⟩ := (HB.out.2.on HS.out.2).cells
          dsimp only at b0 b1 b2 b3
          clear hbd
          go_wp2_with (at_builtin; (refine wpList_snocV rfl (.tmp 17) (.tmp 22) 44 rfl wb.heap.size 9 Tryd.underlying44 (.string ⟨#[]⟩) 16 Tryd.infoT10I rfl _ (strs []) rfl HS.out.1 (.string ((⟨maxAgeL.toArray⟩ : ByteArray) ++ dm)) rfl rfl (by simp [strs]) (by simp [strs]) HS.out.2.size ?_; intro v1 w1 ho1 hn1 hb1 hz1; have HS : Hid (OwnV w1 wb.heap.size 9 v1 (strs [((⟨maxAgeL.toArray⟩ : ByteArray) ++ dm)]) ∧ Below wb.heap.size wb w1) := ⟨ho1, hb1 _ HS.out.2⟩; obtain ⟨b0, b1, b2, b3⟩ := (HB.out.2.on HS.out.2).cells; dsimp only at b0 b1 b2 b3; clear ho1 hn1 hb1 hz1))
          refine (implLife_any sh _).mono ?_
          rintro e wi ⟨rfl, hwi⟩
          rw [hwi, E3.out]
          clear hwi wi
          go_wp2_with fail
          have HP : Hid (wordsC ⟨false, false, ma, sh⟩ = [((⟨maxAgeL.toArray⟩ : ByteArray) ++ dm)]) := by show _ = _; unfold wordsC; simp [E2.out, E3.out, HDdm.out]
          obtain ⟨P, hP⟩ : ∃ P : List ByteArray, [((⟨maxAgeL.toArray⟩ : ByteArray) ++ dm)] = P := ⟨_, rfl⟩
          rw [hP] at HS HP
          have HP0 : Hid (P ≠ []) := by show P ≠ []; rw [← hP]; simp
          have HPL : Hid (P.length ≤ 4) := by show _ ≤ _; rw [← hP]; simp
          have HPZ : Hid (∀ p ∈ P, p.size ≤ 48) := by rw [← hP]; intro p hp; simp only [List.mem_cons, List.not_mem_nil, or_false] at hp; rcases hp with hp <;> rw [hp] <;> first | decide | (rw [ByteArray.size_append, show (⟨maxAgeL.toArray⟩ : ByteArray).size = 8 from rfl]; omega) | (rw [ByteArray.size_append, show (⟨sMaxL.toArray⟩ : ByteArray).size = 9 from rfl]; omega)
          clear hP
          obtain ⟨w9, hw9⟩ : ∃ w9, w1 = w9 := ⟨_, rfl⟩
          rw [hw9] at HS ⊢
          clear b0 b1 b2 b3 hw9
          obtain ⟨g, cv, hv, CJ⟩ := join_own v1 w9 wb.heap.size P HP0.out HPL.out HPZ.out HS.out.1
          have HE : Hid (textC c0 = joinK P P.length) := by show _ = _; rw [← HC0.out]; unfold textC; rw [HP.out]
          have HBL : Hid (Below w.heap.size w w9) := HB.out.1.trans (HS.out.2.mono HB.out.1.size)
          subst hv
          generalize joinK P P.length = u at HE CJ
          clear HS HB HP0 HPL HPZ HP
          refine CJ.mono ?_
          rintro e wj ⟨rfl, hbj⟩
          clear CJ
          go_wp2_with fail
          go_ret
          exact ⟨by rw [HE.out]; rfl, HBL.out.trans (hbj.mono HBL.out.size)⟩
        | true =>
          have E3 : Hid (inN sh 0 999999 = true) := e3
          obtain ⟨ds, hds⟩ : ∃ d : ByteArray, ⟨(decOf sh).toArray⟩ = d := ⟨_, rfl⟩
          have HH : Hid (∀ wi, Below wb.heap.size wb wi → Calls Tryd.prog 64 #[.int .i64 sh] wi fun e w2 => e = .returned (.string ds) ∧ Below wi.heap.size wi w2) := by intro wi hi; have h0 := of_decide_eq_true e3; rw [← hds]; exact implDecimal_any sh wi (by omega) (by omega) (HTB.out wi hi)
          have hzds : ds.size ≤ 32 := by rw [← hds]; exact decOf_short (of_decide_eq_true e3)
          have HDds : Hid ((⟨(decOf sh).toArray⟩ : ByteArray) = ds) := hds
          clear hds
          clear e3
          go_enter Tryd.func27, Tryd.ntmps27
          go_wp2_with fail
          refine (implLife_any ma _).mono ?_
          rintro e wi ⟨rfl, hwi⟩
          rw [hwi, E2.out]
          clear hwi wi
          go_wp2_with fail
          refine (HM.out _ HS.out.2).mono ?_
          rintro e wd ⟨rfl, hbd⟩
          have HS : Hid (OwnV wd wb.heap.size 9 _ (strs []) ∧ Below wb.heap.size wb wd) := ⟨HS.out.1.below hbd (Nat.le_refl _), HS.out.2.trans (hbd.mono HS.out.2.size)⟩
          obtain ⟨b0, b1, b2, b3⟩ := (HB.out.2.on HS.out.2).cells
          dsimp only at b0 b1 b2 b3
          clear hbd
          go_wp2_with (at_builtin; (refine wpList_snocV rfl (.tmp 17) (.tmp 22) 44 rfl wb.heap.size 9 Tryd.underlying44 (.string ⟨#[]⟩) 16 Tryd.infoT10I rfl _ (strs []) rfl HS.out.1 (.string ((⟨maxAgeL.toArray⟩ : ByteArray) ++ dm)) rfl rfl (by simp [strs]) (by simp [strs]) HS.out.2.size ?_; intro v1 w1 ho1 hn1 hb1 hz1; have HS : Hid (OwnV w1 wb.heap.size 9 v1 (strs [((⟨maxAgeL.toArray⟩ : ByteArray) ++ dm)]) ∧ Below wb.heap.size wb w1) := ⟨ho1, hb1 _ HS.out.2⟩; obtain ⟨b0, b1, b2, b3⟩ := (HB.out.2.on HS.out.2).cells; dsimp only at b0 b1 b2 b3; clear ho1 hn1 hb1 hz1))
          refine (implLife_any sh _).mono ?_
          rintro e wi ⟨rfl, hwi⟩
          rw [hwi, E3.out]
          clear hwi wi
          go_wp2_with fail
          refine (HH.out _ HS.out.2).mono ?_
          rintro e wd ⟨rfl, hbd⟩
          have HS : Hid (OwnV wd wb.heap.size 9 _ (strs [((⟨maxAgeL.toArray⟩ : ByteArray) ++ dm)]) ∧ Below wb.heap.size wb wd) := ⟨HS.out.1.below hbd (Nat.le_refl _), HS.out.2.trans (hbd.mono HS.out.2.size)⟩
          obtain ⟨b0, b1, b2, b3⟩ := (HB.out.2.on HS.out.2).cells
          dsimp only at b0 b1 b2 b3
          clear hbd
          go_wp2_with (at_builtin; (refine wpList_snocV rfl (.tmp 27) (.tmp 32) 44 rfl wb.heap.size 9 Tryd.underlying44 (.string ⟨#[]⟩) 16 Tryd.infoT10I rfl _ (strs [((⟨maxAgeL.toArray⟩ : ByteArray) ++ dm)]) rfl HS.out.1 (.string ((⟨sMaxL.toArray⟩ : ByteArray) ++ ds)) rfl rfl (by simp [strs]) (by simp [strs]) HS.out.2.size ?_; intro v1 w1 ho1 hn1 hb1 hz1; have HS : Hid (OwnV w1 wb.heap.size 9 v1 (strs [((⟨maxAgeL.toArray⟩ : ByteArray) ++ dm), ((⟨sMaxL.toArray⟩ : ByteArray) ++ ds)]) ∧ Below wb.heap.size wb w1) := ⟨ho1, hb1 _ HS.out.2⟩; obtain ⟨b0, b1, b2, b3⟩ := (HB.out.2.on HS.out.2).cells; dsimp only at b0 b1 b2 b3; clear ho1 hn1 hb1 hz1))
          have HP : Hid (wordsC ⟨false, false, ma, sh⟩ = [((⟨maxAgeL.toArray⟩ : ByteArray) ++ dm), ((⟨sMaxL.toArray⟩ : ByteArray) ++ ds)]) := by show _ = _; unfold wordsC; simp [E2.out, E3.out, HDdm.out, HDds.out]
          obtain ⟨P, hP⟩ : ∃ P : List ByteArray, [((⟨maxAgeL.toArray⟩ : ByteArray) ++ dm), ((⟨sMaxL.toArray⟩ : ByteArray) ++ ds)] = P := ⟨_, rfl⟩
          rw [hP] at HS HP
          have HP0 : Hid (P ≠ []) := by show P ≠ []; rw [← hP]; simp
          have HPL : Hid (P.length ≤ 4) := by show _ ≤ _; rw [← hP]; simp
          have HPZ : Hid (∀ p ∈ P, p.size ≤ 48) := by rw [← hP]; intro p hp; simp only [List.mem_cons, List.not_mem_nil, or_false] at hp; rcases hp with hp | hp <;> rw [hp] <;> first | decide | (rw [ByteArray.size_append, show (⟨maxAgeL.toArray⟩ : ByteArray).size = 8 from rfl]; omega) | (rw [ByteArray.size_append, show (⟨sMaxL.toArray⟩ : ByteArray).size = 9 from rfl]; omega)
          clear hP
          obtain ⟨w9, hw9⟩ : ∃ w9, w1 = w9 := ⟨_, rfl⟩
          rw [hw9] at HS ⊢
          clear b0 b1 b2 b3 hw9
          obtain ⟨g, cv, hv, CJ⟩ := join_own v1 w9 wb.heap.size P HP0.out HPL.out HPZ.out HS.out.1
          have HE : Hid (textC c0 = joinK P P.length) := by show _ = _; rw [← HC0.out]; unfold textC; rw [HP.out]
          have HBL : Hid (Below w.heap.size w w9) := HB.out.1.trans (HS.out.2.mono HB.out.1.size)
          subst hv
          generalize joinK P P.length = u at HE CJ
          clear HS HB HP0 HPL HPZ HP
          refine CJ.mono ?_
          rintro e wj ⟨rfl, hbj⟩
          clear CJ
          go_wp2_with fail
          go_ret
          exact ⟨by rw [HE.out]; rfl, HBL.out.trans (hbj.mono HBL.out.size)⟩
    | true =>
      cases e2 : inN ma 0 999999 with
      | false =>
        have E2 : Hid (inN ma 0 999999 = false) := e2
        clear e2
        cases e3 : inN sh 0 999999 with
        | false =>
          have E3 : Hid (inN sh 0 999999 = false) := e3
          clear e3
          go_enter Tryd.func27, Tryd.ntmps27
          go_wp2_with (at_builtin; first | (refine wpList_snocV rfl (.tmp 11) (.tmp 12) 44 rfl wb.heap.size 9 Tryd.underlying44 (.string ⟨#[]⟩) 16 Tryd.infoT10I rfl _ (strs []) rfl HS.out.1 (.string (⟨noCacheL.toArray⟩ : ByteArray)) rfl rfl (by simp [strs]) (by simp [strs]) HS.out.2.size ?_; intro v1 w1 ho1 hn1 hb1 hz1; have HS : Hid (OwnV w1 wb.heap.size 9 v1 (strs [(⟨noCacheL.toArray⟩ : ByteArray)]) ∧ Below wb.heap.size wb w1) := ⟨ho1, hb1 _ HS.out.2⟩; obtain ⟨b0, b1, b2, b3⟩ := (HB.out.2.on HS.out.2).cells; dsimp only at b0 b1 b2 b3; clear ho1 hn1 hb1 hz1))
          refine (implLife_any ma _).mono ?_
          rintro e wi ⟨rfl, hwi⟩
          rw [hwi, E2.out]
          clear hwi wi
          go_wp2_with fail
          refine (implLife_any sh _).mono ?_
          rintro e wi ⟨rfl, hwi⟩
          rw [hwi, E3.out]
          clear hwi wi
          go_wp2_with fail
          have HP : Hid (wordsC ⟨false, true, ma, sh⟩ = [(⟨noCacheL.toArray⟩ : ByteArray)]) := by show _ = _; unfold wordsC; simp [E2.out, E3.out]
          obtain ⟨P, hP⟩ : ∃ P : List ByteArray, [(⟨noCacheL.toArray⟩ : ByteArray)] = P := ⟨_, rfl⟩
          rw [hP] at HS HP
          have HP0 : Hid (P ≠ []) := by show P ≠ []; rw [← hP]; simp
          have HPL : Hid (P.length ≤ 4) := by show _ ≤ _; rw [← hP]; simp
          have HPZ : Hid (∀ p ∈ P, p.size ≤ 48) := by rw [← hP]; intro p hp; simp only [List.mem_cons, List.not_mem_nil, or_false] at hp; rcases hp with hp <;> rw [hp] <;> first | decide | (rw [ByteArray.size_append, show (⟨maxAgeL.toArray⟩ : ByteArray).size = 8 from rfl]; omega) | (rw [ByteArray.size_append, show (⟨sMaxL.toArray⟩ : ByteArray).size = 9 from rfl]; omega)
          clear hP
          obtain ⟨w9, hw9⟩ : ∃ w9, w1 = w9 := ⟨_, rfl⟩
          rw [hw9] at HS ⊢
          clear b0 b1 b2 b3 hw9
          obtain ⟨g, cv, hv, CJ⟩ := join_own v1 w9 wb.heap.size P HP0.out HPL.out HPZ.out HS.out.1
          have HE : Hid (textC c0 = joinK P P.length) := by show _ = _; rw [← HC0.out]; unfold textC; rw [HP.out]
          have HBL : Hid (Below w.heap.size w w9) := HB.out.1.trans (HS.out.2.mono HB.out.1.size)
          subst hv
          generalize joinK P P.length = u at HE CJ
          clear HS HB HP0 HPL HPZ HP
          refine CJ.mono ?_
          rintro e wj ⟨rfl, hbj⟩
          clear CJ
          go_wp2_with fail
          go_ret
          exact ⟨by rw [HE.out]; rfl, HBL.out.trans (hbj.mono HBL.out.size)⟩
        | true =>
          have E3 : Hid (inN sh 0 999999 = true) := e3
          obtain ⟨ds, hds⟩ : ∃ d : ByteArray, ⟨(decOf sh).toArray⟩ = d := ⟨_, rfl⟩
          have HH : Hid (∀ wi, Below wb.heap.size wb wi → Calls Tryd.prog 64 #[.int .i64 sh] wi fun e w2 => e = .returned (.string ds) ∧ Below wi.heap.size wi w2) := by intro wi hi; have h0 := of_decide_eq_true e3; rw [← hds]; exact implDecimal_any sh wi (by omega) (by omega) (HTB.out wi hi)
          have hzds : ds.size ≤ 32 := by rw [← hds]; exact decOf_short (of_decide_eq_true e3)
          have HDds : Hid ((⟨(decOf sh).toArray⟩ : ByteArray) = ds) := hds
          clear hds
          clear e3
          go_enter Tryd.func27, Tryd.ntmps27
          go_wp2_with (at_builtin; first | (refine wpList_snocV rfl (.tmp 11) (.tmp 12) 44 rfl wb.heap.size 9 Tryd.underlying44 (.string ⟨#[]⟩) 16 Tryd.infoT10I rfl _ (strs []) rfl HS.out.1 (.string (⟨noCacheL.toArray⟩ : ByteArray)) rfl rfl (by simp [strs]) (by simp [strs]) HS.out.2.size ?_; intro v1 w1 ho1 hn1 hb1 hz1; have HS : Hid (OwnV w1 wb.heap.size 9 v1 (strs [(⟨noCacheL.toArray⟩ : ByteArray)]) ∧ Below wb.heap.size wb w1) := ⟨ho1, hb1 _ HS.out.2⟩; obtain ⟨b0, b1, b2, b3⟩ := (HB.out.2.on HS.out.2).cells; dsimp only at b0 b1 b2 b3; clear ho1 hn1 hb1 hz1))
          refine (implLife_any ma _).mono ?_
          rintro e wi ⟨rfl, hwi⟩
          rw [hwi, E2.out]
          clear hwi wi
          go_wp2_with fail
          refine (implLife_any sh _).mono ?_
          rintro e wi ⟨rfl, hwi⟩
          rw [hwi, E3.out]
          clear hwi wi
          go_wp2_with fail
          refine (HH.out _ HS.out.2).mono ?_
          rintro e wd ⟨rfl, hbd⟩
          have HS : Hid (OwnV wd wb.heap.size 9 _ (strs [(⟨noCacheL.toArray⟩ : ByteArray)]) ∧ Below wb.heap.size wb wd) := ⟨HS.out.1.below hbd (Nat.le_refl _), HS.out.2.trans (hbd.mono HS.out.2.size)⟩
          obtain ⟨b0, b1, b2, b3⟩ := (HB.out.2.on HS.out.2).cells
          dsimp only at b0 b1 b2 b3
          clear hbd
          go_wp2_with (at_builtin; (refine wpList_snocV rfl (.tmp 27) (.tmp 32) 44 rfl wb.heap.size 9 Tryd.underlying44 (.string ⟨#[]⟩) 16 Tryd.infoT10I rfl _ (strs [(⟨noCacheL.toArray⟩ : ByteArray)]) rfl HS.out.1 (.string ((⟨sMaxL.toArray⟩ : ByteArray) ++ ds)) rfl rfl (by simp [strs]) (by simp [strs]) HS.out.2.size ?_; intro v1 w1 ho1 hn1 hb1 hz1; have HS : Hid (OwnV w1 wb.heap.size 9 v1 (strs [(⟨noCacheL.toArray⟩ : ByteArray), ((⟨sMaxL.toArray⟩ : ByteArray) ++ ds)]) ∧ Below wb.heap.size wb w1) := ⟨ho1, hb1 _ HS.out.2⟩; obtain ⟨b0, b1, b2, b3⟩ := (HB.out.2.on HS.out.2).cells; dsimp only at b0 b1 b2 b3; clear ho1 hn1 hb1 hz1))
          have HP : Hid (wordsC ⟨false, true, ma, sh⟩ = [(⟨noCacheL.toArray⟩ : ByteArray), ((⟨sMaxL.toArray⟩ : ByteArray) ++ ds)]) := by show _ = _; unfold wordsC; simp [E2.out, E3.out, HDds.out]
          obtain ⟨P, hP⟩ : ∃ P : List ByteArray, [(⟨noCacheL.toArray⟩ : ByteArray), ((⟨sMaxL.toArray⟩ : ByteArray) ++ ds)] = P := ⟨_, rfl⟩
          rw [hP] at HS HP
          have HP0 : Hid (P ≠ []) := by show P ≠ []; rw [← hP]; simp
          have HPL : Hid (P.length ≤ 4) := by show _ ≤ _; rw [← hP]; simp
          have HPZ : Hid (∀ p ∈ P, p.size ≤ 48) := by rw [← hP]; intro p hp; simp only [List.mem_cons, List.not_mem_nil, or_false] at hp; rcases hp with hp | hp <;> rw [hp] <;> first | decide | (rw [ByteArray.size_append, show (⟨maxAgeL.toArray⟩ : ByteArray).size = 8 from rfl]; omega) | (rw [ByteArray.size_append, show (⟨sMaxL.toArray⟩ : ByteArray).size = 9 from rfl]; omega)
          clear hP
          obtain ⟨w9, hw9⟩ : ∃ w9, w1 = w9 := ⟨_, rfl⟩
          rw [hw9] at HS ⊢
          clear b0 b1 b2 b3 hw9
          obtain ⟨g, cv, hv, CJ⟩ := join_own v1 w9 wb.heap.size P HP0.out HPL.out HPZ.out HS.out.1
          have HE : Hid (textC c0 = joinK P P.length) := by show _ = _; rw [← HC0.out]; unfold textC; rw [HP.out]
          have HBL : Hid (Below w.heap.size w w9) := HB.out.1.trans (HS.out.2.mono HB.out.1.size)
          subst hv
          generalize joinK P P.length = u at HE CJ
          clear HS HB HP0 HPL HPZ HP
          refine CJ.mono ?_
          rintro e wj ⟨rfl, hbj⟩
          clear CJ
          go_wp2_with fail
          go_ret
          exact ⟨by rw [HE.out]; rfl, HBL.out.trans (hbj.mono HBL.out.size)⟩
      | true =>
        have E2 : Hid (inN ma 0 999999 = true) := e2
        obtain ⟨dm, hdm⟩ : ∃ d : ByteArray, ⟨(decOf ma).toArray⟩ = d := ⟨_, rfl⟩
        have HM : Hid (∀ wi, Below wb.heap.size wb wi → Calls Tryd.prog 64 #[.int .i64 ma] wi fun e w2 => e = .returned (.string dm) ∧ Below wi.heap.size wi w2) := by intro wi hi; have h0 := of_decide_eq_true e2; rw [← hdm]; exact implDecimal_any ma wi (by omega) (by omega) (HTB.out wi hi)
        have hzdm : dm.size ≤ 32 := by rw [← hdm]; exact decOf_short (of_decide_eq_true e2)
        have HDdm : Hid ((⟨(decOf ma).toArray⟩ : ByteArray) = dm) := hdm
        clear hdm
        clear e2
        cases e3 : inN sh 0 999999 with
        | false =>
          have E3 : Hid (inN sh 0 999999 = false) := e3
          clear e3
          go_enter Tryd.func27, Tryd.ntmps27
          go_wp2_with (at_builtin; first | (refine wpList_snocV rfl (.tmp 11) (.tmp 12) 44 rfl wb.heap.size 9 Tryd.underlying44 (.string ⟨#[]⟩) 16 Tryd.infoT10I rfl _ (strs []) rfl HS.out.1 (.string (⟨noCacheL.toArray⟩ : ByteArray)) rfl rfl (by simp [strs]) (by simp [strs]) HS.out.2.size ?_; intro v1 w1 ho1 hn1 hb1 hz1; have HS : Hid (OwnV w1 wb.heap.size 9 v1 (strs [(⟨noCacheL.toArray⟩ : ByteArray)]) ∧ Below wb.heap.size wb w1) := ⟨ho1, hb1 _ HS.out.2⟩; obtain ⟨b0, b1, b2, b3⟩ := (HB.out.2.on HS.out.2).cells; dsimp only at b0 b1 b2 b3; clear ho1 hn1 hb1 hz1))
          refine (implLife_any ma _).mono ?_
          rintro e wi ⟨rfl, hwi⟩
          rw [hwi, E2.out]
          clear hwi wi
          go_wp2_with fail
          refine (HM.out _ HS.out.2).mono ?_
          rintro e wd ⟨rfl, hbd⟩
          have HS : Hid (OwnV wd wb.heap.size 9 _ (strs [(⟨noCacheL.toArray⟩ : ByteArray)]) ∧ Below wb.heap.size wb wd) := ⟨HS.out.1.below hbd (Nat.le_refl _), HS.out.2.trans (hbd.mono HS.out.2.size)⟩
          obtain ⟨b0, b1, b2, b3⟩ := (HB.out.2.on HS.out.2).cells
          dsimp only at b0 b1 b2 b3
          clear hbd
          go_wp2_with (at_builtin; (refine wpList_snocV rfl (.tmp 17) (.tmp 22) 44 rfl wb.heap.size 9 Tryd.underlying44 (.string ⟨#[]⟩) 16 Tryd.infoT10I rfl _ (strs [(⟨noCacheL.toArray⟩ : ByteArray)]) rfl HS.out.1 (.string ((⟨maxAgeL.toArray⟩ : ByteArray) ++ dm)) rfl rfl (by simp [strs]) (by simp [strs]) HS.out.2.size ?_; intro v1 w1 ho1 hn1 hb1 hz1; have HS : Hid (OwnV w1 wb.heap.size 9 v1 (strs [(⟨noCacheL.toArray⟩ : ByteArray), ((⟨maxAgeL.toArray⟩ : ByteArray) ++ dm)]) ∧ Below wb.heap.size wb w1) := ⟨ho1, hb1 _ HS.out.2⟩; obtain ⟨b0, b1, b2, b3⟩ := (HB.out.2.on HS.out.2).cells; dsimp only at b0 b1 b2 b3; clear ho1 hn1 hb1 hz1))
          refine (implLife_any sh _).mono ?_
          rintro e wi ⟨rfl, hwi⟩
          rw [hwi, E3.out]
          clear hwi wi
          go_wp2_with fail
          have HP : Hid (wordsC ⟨false, true, ma, sh⟩ = [(⟨noCacheL.toArray⟩ : ByteArray), ((⟨maxAgeL.toArray⟩ : ByteArray) ++ dm)]) := by show _ = _; unfold wordsC; simp [E2.out, E3.out, HDdm.out]
          obtain ⟨P, hP⟩ : ∃ P : List ByteArray, [(⟨noCacheL.toArray⟩ : ByteArray), ((⟨maxAgeL.toArray⟩ : ByteArray) ++ dm)] = P := ⟨_, rfl⟩
          rw [hP] at HS HP
          have HP0 : Hid (P ≠ []) := by show P ≠ []; rw [← hP]; simp
          have HPL : Hid (P.length ≤ 4) := by show _ ≤ _; rw [← hP]; simp
          have HPZ : Hid (∀ p ∈ P, p.size ≤ 48) := by rw [← hP]; intro p hp; simp only [List.mem_cons, List.not_mem_nil, or_false] at hp; rcases hp with hp | hp <;> rw [hp] <;> first | decide | (rw [ByteArray.size_append, show (⟨maxAgeL.toArray⟩ : ByteArray).size = 8 from rfl]; omega) | (rw [ByteArray.size_append, show (⟨sMaxL.toArray⟩ : ByteArray).size = 9 from rfl]; omega)
          clear hP
          obtain ⟨w9, hw9⟩ : ∃ w9, w1 = w9 := ⟨_, rfl⟩
          rw [hw9] at HS ⊢
          clear b0 b1 b2 b3 hw9
          obtain ⟨g, cv, hv, CJ⟩ := join_own v1 w9 wb.heap.size P HP0.out HPL.out HPZ.out HS.out.1
          have HE : Hid (textC c0 = joinK P P.length) := by show _ = _; rw [← HC0.out]; unfold textC; rw [HP.out]
          have HBL : Hid (Below w.heap.size w w9) := HB.out.1.trans (HS.out.2.mono HB.out.1.size)
          subst hv
          generalize joinK P P.length = u at HE CJ
          clear HS HB HP0 HPL HPZ HP
          refine CJ.mono ?_
          rintro e wj ⟨rfl, hbj⟩
          clear CJ
          go_wp2_with fail
          go_ret
          exact ⟨by rw [HE.out]; rfl, HBL.out.trans (hbj.mono HBL.out.size)⟩
        | true =>
          have E3 : Hid (inN sh 0 999999 = true) := e3
          obtain ⟨ds, hds⟩ : ∃ d : ByteArray, ⟨(decOf sh).toArray⟩ = d := ⟨_, rfl⟩
          have HH : Hid (∀ wi, Below wb.heap.size wb wi → Calls Tryd.prog 64 #[.int .i64 sh] wi fun e w2 => e = .returned (.string ds) ∧ Below wi.heap.size wi w2) := by intro wi hi; have h0 := of_decide_eq_true e3; rw [← hds]; exact implDecimal_any sh wi (by omega) (by omega) (HTB.out wi hi)
          have hzds : ds.size ≤ 32 := by rw [← hds]; exact decOf_short (of_decide_eq_true e3)
          have HDds : Hid ((⟨(decOf sh).toArray⟩ : ByteArray) = ds) := hds
          clear hds
          clear e3
          go_enter Tryd.func27, Tryd.ntmps27
          go_wp2_with (at_builtin; first | (refine wpList_snocV rfl (.tmp 11) (.tmp 12) 44 rfl wb.heap.size 9 Tryd.underlying44 (.string ⟨#[]⟩) 16 Tryd.infoT10I rfl _ (strs []) rfl HS.out.1 (.string (⟨noCacheL.toArray⟩ : ByteArray)) rfl rfl (by simp [strs]) (by simp [strs]) HS.out.2.size ?_; intro v1 w1 ho1 hn1 hb1 hz1; have HS : Hid (OwnV w1 wb.heap.size 9 v1 (strs [(⟨noCacheL.toArray⟩ : ByteArray)]) ∧ Below wb.heap.size wb w1) := ⟨ho1, hb1 _ HS.out.2⟩; obtain ⟨b0, b1, b2, b3⟩ := (HB.out.2.on HS.out.2).cells; dsimp only at b0 b1 b2 b3; clear ho1 hn1 hb1 hz1))
          refine (implLife_any ma _).mono ?_
          rintro e wi ⟨rfl, hwi⟩
          rw [hwi, E2.out]
          clear hwi wi
          go_wp2_with fail
          refine (HM.out _ HS.out.2).mono ?_
          rintro e wd ⟨rfl, hbd⟩
          have HS : Hid (OwnV wd wb.heap.size 9 _ (strs [(⟨noCacheL.toArray⟩ : ByteArray)]) ∧ Below wb.heap.size wb wd) := ⟨HS.out.1.below hbd (Nat.le_refl _), HS.out.2.trans (hbd.mono HS.out.2.size)⟩
          obtain ⟨b0, b1, b2, b3⟩ := (HB.out.2.on HS.out.2).cells
          dsimp only at b0 b1 b2 b3
          clear hbd
          go_wp2_with (at_builtin; (refine wpList_snocV rfl (.tmp 17) (.tmp 22) 44 rfl wb.heap.size 9 Tryd.underlying44 (.string ⟨#[]⟩) 16 Tryd.infoT10I rfl _ (strs [(⟨noCacheL.toArray⟩ : ByteArray)]) rfl HS.out.1 (.string ((⟨maxAgeL.toArray⟩ : ByteArray) ++ dm)) rfl rfl (by simp [strs]) (by simp [strs]) HS.out.2.size ?_; intro v1 w1 ho1 hn1 hb1 hz1; have HS : Hid (OwnV w1 wb.heap.size 9 v1 (strs [(⟨noCacheL.toArray⟩ : ByteArray), ((⟨maxAgeL.toArray⟩ : ByteArray) ++ dm)]) ∧ Below wb.heap.size wb w1) := ⟨ho1, hb1 _ HS.out.2⟩; obtain ⟨b0, b1, b2, b3⟩ := (HB.out.2.on HS.out.2).cells; dsimp only at b0 b1 b2 b3; clear ho1 hn1 hb1 hz1))
          refine (implLife_any sh _).mono ?_
          rintro e wi ⟨rfl, hwi⟩
          rw [hwi, E3.out]
          clear hwi wi
          go_wp2_with fail
          refine (HH.out _ HS.out.2).mono ?_
          rintro e wd ⟨rfl, hbd⟩
          have HS : Hid (OwnV wd wb.heap.size 9 _ (strs [(⟨noCacheL.toArray⟩ : ByteArray), ((⟨maxAgeL.toArray⟩ : ByteArray) ++ dm)]) ∧ Below wb.heap.size wb wd) := ⟨HS.out.1.below hbd (Nat.le_refl _), HS.out.2.trans (hbd.mono HS.out.2.size)⟩
          obtain ⟨b0, b1, b2, b3⟩ := (HB.out.2.on HS.out.2).cells
          dsimp only at b0 b1 b2 b3
          clear hbd
          go_wp2_with (at_builtin; (refine wpList_snocV rfl (.tmp 27) (.tmp 32) 44 rfl wb.heap.size 9 Tryd.underlying44 (.string ⟨#[]⟩) 16 Tryd.infoT10I rfl _ (strs [(⟨noCacheL.toArray⟩ : ByteArray), ((⟨maxAgeL.toArray⟩ : ByteArray) ++ dm)]) rfl HS.out.1 (.string ((⟨sMaxL.toArray⟩ : ByteArray) ++ ds)) rfl rfl (by simp [strs]) (by simp [strs]) HS.out.2.size ?_; intro v1 w1 ho1 hn1 hb1 hz1; have HS : Hid (OwnV w1 wb.heap.size 9 v1 (strs [(⟨noCacheL.toArray⟩ : ByteArray), ((⟨maxAgeL.toArray⟩ : ByteArray) ++ dm), ((⟨sMaxL.toArray⟩ : ByteArray) ++ ds)]) ∧ Below wb.heap.size wb w1) := ⟨ho1, hb1 _ HS.out.2⟩; obtain ⟨b0, b1, b2, b3⟩ := (HB.out.2.on HS.out.2).cells; dsimp only at b0 b1 b2 b3; clear ho1 hn1 hb1 hz1))
          have HP : Hid (wordsC ⟨false, true, ma, sh⟩ = [(⟨noCacheL.toArray⟩ : ByteArray), ((⟨maxAgeL.toArray⟩ : ByteArray) ++ dm), ((⟨sMaxL.toArray⟩ : ByteArray) ++ ds)]) := by show _ = _; unfold wordsC; simp [E2.out, E3.out, HDdm.out, HDds.out]
          obtain ⟨P, hP⟩ : ∃ P : List ByteArray, [(⟨noCacheL.toArray⟩ : ByteArray), ((⟨maxAgeL.toArray⟩ : ByteArray) ++ dm), ((⟨sMaxL.toArray⟩ : ByteArray) ++ ds)] = P := ⟨_, rfl⟩
          rw [hP] at HS HP
          have HP0 : Hid (P ≠ []) := by show P ≠ []; rw [← hP]; simp
          have HPL : Hid (P.length ≤ 4) := by show _ ≤ _; rw [← hP]; simp
          have HPZ : Hid (∀ p ∈ P, p.size ≤ 48) := by rw [← hP]; intro p hp; simp only [List.mem_cons, List.not_mem_nil, or_false] at hp; rcases hp with hp | hp | hp <;> rw [hp] <;> first | decide | (rw [ByteArray.size_append, show (⟨maxAgeL.toArray⟩ : ByteArray).size = 8 from rfl]; omega) | (rw [ByteArray.size_append, show (⟨sMaxL.toArray⟩ : ByteArray).size = 9 from rfl]; omega)
          clear hP
          obtain ⟨w9, hw9⟩ : ∃ w9, w1 = w9 := ⟨_, rfl⟩
          rw [hw9] at HS ⊢
          clear b0 b1 b2 b3 hw9
          obtain ⟨g, cv, hv, CJ⟩ := join_own v1 w9 wb.heap.size P HP0.out HPL.out HPZ.out HS.out.1
          have HE : Hid (textC c0 = joinK P P.length) := by show _ = _; rw [← HC0.out]; unfold textC; rw [HP.out]
          have HBL : Hid (Below w.heap.size w w9) := HB.out.1.trans (HS.out.2.mono HB.out.1.size)
          subst hv
          generalize joinK P P.length = u at HE CJ
          clear HS HB HP0 HPL HPZ HP
          refine CJ.mono ?_
          rintro e wj ⟨rfl, hbj⟩
          clear CJ
          go_wp2_with fail
          go_ret
          exact ⟨by rw [HE.out]; rfl, HBL.out.trans (hbj.mono HBL.out.size)⟩
  | true =>
    cases nc with
    | false =>
      cases e2 : inN ma 0 999999 with
      | false =>
        have E2 : Hid (inN ma 0 999999 = false) := e2
        clear e2
        cases e3 : inN sh 0 999999 with
        | false =>
          have E3 : Hid (inN sh 0 999999 = false) := e3
          clear e3
          go_enter Tryd.func27, Tryd.ntmps27
          go_wp2_with (at_builtin; first | (refine wpList_snocV rfl (.tmp 6) (.tmp 7) 44 rfl wb.heap.size 9 Tryd.underlying44 (.string ⟨#[]⟩) 16 Tryd.infoT10I rfl _ (strs []) rfl HS.out.1 (.string (⟨noStoreL.toArray⟩ : ByteArray)) rfl rfl (by simp [strs]) (by simp [strs]) HS.out.2.size ?_; intro v1 w1 ho1 hn1 hb1 hz1; have HS : Hid (OwnV w1 wb.heap.size 9 v1 (strs [(⟨noStoreL.toArray⟩ : ByteArray)]) ∧ Below wb.heap.size wb w1) := ⟨ho1, hb1 _ HS.out.2⟩; obtain ⟨b0, b1, b2, b3⟩ := (HB.out.2.on HS.out.2).cells; dsimp only at b0 b1 b2 b3; clear ho1 hn1 hb1 hz1))
          refine (implLife_any ma _).mono ?_
          rintro e wi ⟨rfl, hwi⟩
          rw [hwi, E2.out]
          clear hwi wi
          go_wp2_with fail
          refine (implLife_any sh _).mono ?_
          rintro e wi ⟨rfl, hwi⟩
          rw [hwi, E3.out]
          clear hwi wi
          go_wp2_with fail
          have HP : Hid (wordsC ⟨true, false, ma, sh⟩ = [(⟨noStoreL.toArray⟩ : ByteArray)]) := by show _ = _; unfold wordsC; simp [E2.out, E3.out]
          obtain ⟨P, hP⟩ : ∃ P : List ByteArray, [(⟨noStoreL.toArray⟩ : ByteArray)] = P := ⟨_, rfl⟩
          rw [hP] at HS HP
          have HP0 : Hid (P ≠ []) := by show P ≠ []; rw [← hP]; simp
          have HPL : Hid (P.length ≤ 4) := by show _ ≤ _; rw [← hP]; simp
          have HPZ : Hid (∀ p ∈ P, p.size ≤ 48) := by rw [← hP]; intro p hp; simp only [List.mem_cons, List.not_mem_nil, or_false] at hp; rcases hp with hp <;> rw [hp] <;> first | decide | (rw [ByteArray.size_append, show (⟨maxAgeL.toArray⟩ : ByteArray).size = 8 from rfl]; omega) | (rw [ByteArray.size_append, show (⟨sMaxL.toArray⟩ : ByteArray).size = 9 from rfl]; omega)
          clear hP
          obtain ⟨w9, hw9⟩ : ∃ w9, w1 = w9 := ⟨_, rfl⟩
          rw [hw9] at HS ⊢
          clear b0 b1 b2 b3 hw9
          obtain ⟨g, cv, hv, CJ⟩ := join_own v1 w9 wb.heap.size P HP0.out HPL.out HPZ.out HS.out.1
          have HE : Hid (textC c0 = joinK P P.length) := by show _ = _; rw [← HC0.out]; unfold textC; rw [HP.out]
          have HBL : Hid (Below w.heap.size w w9) := HB.out.1.trans (HS.out.2.mono HB.out.1.size)
          subst hv
          generalize joinK P P.length = u at HE CJ
          clear HS HB HP0 HPL HPZ HP
          refine CJ.mono ?_
          rintro e wj ⟨rfl, hbj⟩
          clear CJ
          go_wp2_with fail
          go_ret
          exact ⟨by rw [HE.out]; rfl, HBL.out.trans (hbj.mono HBL.out.size)⟩
        | true =>
          have E3 : Hid (inN sh 0 999999 = true) := e3
          obtain ⟨ds, hds⟩ : ∃ d : ByteArray, ⟨(decOf sh).toArray⟩ = d := ⟨_, rfl⟩
          have HH : Hid (∀ wi, Below wb.heap.size wb wi → Calls Tryd.prog 64 #[.int .i64 sh] wi fun e w2 => e = .returned (.string ds) ∧ Below wi.heap.size wi w2) := by intro wi hi; have h0 := of_decide_eq_true e3; rw [← hds]; exact implDecimal_any sh wi (by omega) (by omega) (HTB.out wi hi)
          have hzds : ds.size ≤ 32 := by rw [← hds]; exact decOf_short (of_decide_eq_true e3)
          have HDds : Hid ((⟨(decOf sh).toArray⟩ : ByteArray) = ds) := hds
          clear hds
          clear e3
          go_enter Tryd.func27, Tryd.ntmps27
          go_wp2_with (at_builtin; first | (refine wpList_snocV rfl (.tmp 6) (.tmp 7) 44 rfl wb.heap.size 9 Tryd.underlying44 (.string ⟨#[]⟩) 16 Tryd.infoT10I rfl _ (strs []) rfl HS.out.1 (.string (⟨noStoreL.toArray⟩ : ByteArray)) rfl rfl (by simp [strs]) (by simp [strs]) HS.out.2.size ?_; intro v1 w1 ho1 hn1 hb1 hz1; have HS : Hid (OwnV w1 wb.heap.size 9 v1 (strs [(⟨noStoreL.toArray⟩ : ByteArray)]) ∧ Below wb.heap.size wb w1) := ⟨ho1, hb1 _ HS.out.2⟩; obtain ⟨b0, b1, b2, b3⟩ := (HB.out.2.on HS.out.2).cells; dsimp only at b0 b1 b2 b3; clear ho1 hn1 hb1 hz1))
          refine (implLife_any ma _).mono ?_
          rintro e wi ⟨rfl, hwi⟩
          rw [hwi, E2.out]
          clear hwi wi
          go_wp2_with fail
          refine (implLife_any sh _).mono ?_
          rintro e wi ⟨rfl, hwi⟩
          rw [hwi, E3.out]
          clear hwi wi
          go_wp2_with fail
          refine (HH.out _ HS.out.2).mono ?_
          rintro e wd ⟨rfl, hbd⟩
          have HS : Hid (OwnV wd wb.heap.size 9 _ (strs [(⟨noStoreL.toArray⟩ : ByteArray)]) ∧ Below wb.heap.size wb wd) := ⟨HS.out.1.below hbd (Nat.le_refl _), HS.out.2.trans (hbd.mono HS.out.2.size)⟩
          obtain ⟨b0, b1, b2, b3⟩ := (HB.out.2.on HS.out.2).cells
          dsimp only at b0 b1 b2 b3
          clear hbd
          go_wp2_with (at_builtin; (refine wpList_snocV rfl (.tmp 27) (.tmp 32) 44 rfl wb.heap.size 9 Tryd.underlying44 (.string ⟨#[]⟩) 16 Tryd.infoT10I rfl _ (strs [(⟨noStoreL.toArray⟩ : ByteArray)]) rfl HS.out.1 (.string ((⟨sMaxL.toArray⟩ : ByteArray) ++ ds)) rfl rfl (by simp [strs]) (by simp [strs]) HS.out.2.size ?_; intro v1 w1 ho1 hn1 hb1 hz1; have HS : Hid (OwnV w1 wb.heap.size 9 v1 (strs [(⟨noStoreL.toArray⟩ : ByteArray), ((⟨sMaxL.toArray⟩ : ByteArray) ++ ds)]) ∧ Below wb.heap.size wb w1) := ⟨ho1, hb1 _ HS.out.2⟩; obtain ⟨b0, b1, b2, b3⟩ := (HB.out.2.on HS.out.2).cells; dsimp only at b0 b1 b2 b3; clear ho1 hn1 hb1 hz1))
          have HP : Hid (wordsC ⟨true, false, ma, sh⟩ = [(⟨noStoreL.toArray⟩ : ByteArray), ((⟨sMaxL.toArray⟩ : ByteArray) ++ ds)]) := by show _ = _; unfold wordsC; simp [E2.out, E3.out, HDds.out]
          obtain ⟨P, hP⟩ : ∃ P : List ByteArray, [(⟨noStoreL.toArray⟩ : ByteArray), ((⟨sMaxL.toArray⟩ : ByteArray) ++ ds)] = P := ⟨_, rfl⟩
          rw [hP] at HS HP
          have HP0 : Hid (P ≠ []) := by show P ≠ []; rw [← hP]; simp
          have HPL : Hid (P.length ≤ 4) := by show _ ≤ _; rw [← hP]; simp
          have HPZ : Hid (∀ p ∈ P, p.size ≤ 48) := by rw [← hP]; intro p hp; simp only [List.mem_cons, List.not_mem_nil, or_false] at hp; rcases hp with hp | hp <;> rw [hp] <;> first | decide | (rw [ByteArray.size_append, show (⟨maxAgeL.toArray⟩ : ByteArray).size = 8 from rfl]; omega) | (rw [ByteArray.size_append, show (⟨sMaxL.toArray⟩ : ByteArray).size = 9 from rfl]; omega)
          clear hP
          obtain ⟨w9, hw9⟩ : ∃ w9, w1 = w9 := ⟨_, rfl⟩
          rw [hw9] at HS ⊢
          clear b0 b1 b2 b3 hw9
          obtain ⟨g, cv, hv, CJ⟩ := join_own v1 w9 wb.heap.size P HP0.out HPL.out HPZ.out HS.out.1
          have HE : Hid (textC c0 = joinK P P.length) := by show _ = _; rw [← HC0.out]; unfold textC; rw [HP.out]
          have HBL : Hid (Below w.heap.size w w9) := HB.out.1.trans (HS.out.2.mono HB.out.1.size)
          subst hv
          generalize joinK P P.length = u at HE CJ
          clear HS HB HP0 HPL HPZ HP
          refine CJ.mono ?_
          rintro e wj ⟨rfl, hbj⟩
          clear CJ
          go_wp2_with fail
          go_ret
          exact ⟨by rw [HE.out]; rfl, HBL.out.trans (hbj.mono HBL.out.size)⟩
      | true =>
        have E2 : Hid (inN ma 0 999999 = true) := e2
        obtain ⟨dm, hdm⟩ : ∃ d : ByteArray, ⟨(decOf ma).toArray⟩ = d := ⟨_, rfl⟩
        have HM : Hid (∀ wi, Below wb.heap.size wb wi → Calls Tryd.prog 64 #[.int .i64 ma] wi fun e w2 => e = .returned (.string dm) ∧ Below wi.heap.size wi w2) := by intro wi hi; have h0 := of_decide_eq_true e2; rw [← hdm]; exact implDecimal_any ma wi (by omega) (by omega) (HTB.out wi hi)
        have hzdm : dm.size ≤ 32 := by rw [← hdm]; exact decOf_short (of_decide_eq_true e2)
        have HDdm : Hid ((⟨(decOf ma).toArray⟩ : ByteArray) = dm) := hdm
        clear hdm
        clear e2
        cases e3 : inN sh 0 999999 with
        | false =>
          have E3 : Hid (inN sh 0 999999 = false) := e3
          clear e3
          go_enter Tryd.func27, Tryd.ntmps27
          go_wp2_with (at_builtin; first | (refine wpList_snocV rfl (.tmp 6) (.tmp 7) 44 rfl wb.heap.size 9 Tryd.underlying44 (.string ⟨#[]⟩) 16 Tryd.infoT10I rfl _ (strs []) rfl HS.out.1 (.string (⟨noStoreL.toArray⟩ : ByteArray)) rfl rfl (by simp [strs]) (by simp [strs]) HS.out.2.size ?_; intro v1 w1 ho1 hn1 hb1 hz1; have HS : Hid (OwnV w1 wb.heap.size 9 v1 (strs [(⟨noStoreL.toArray⟩ : ByteArray)]) ∧ Below wb.heap.size wb w1) := ⟨ho1, hb1 _ HS.out.2⟩; obtain ⟨b0, b1, b2, b3⟩ := (HB.out.2.on HS.out.2).cells; dsimp only at b0 b1 b2 b3; clear ho1 hn1 hb1 hz1))
          refine (implLife_any ma _).mono ?_
          rintro e wi ⟨rfl, hwi⟩
          rw [hwi, E2.out]
          clear hwi wi
          go_wp2_with fail
          refine (HM.out _ HS.out.2).mono ?_
          rintro e wd ⟨rfl, hbd⟩
          have HS : Hid (OwnV wd wb.heap.size 9 _ (strs [(⟨noStoreL.toArray⟩ : ByteArray)]) ∧ Below wb.heap.size wb wd) := ⟨HS.out.1.below hbd (Nat.le_refl _), HS.out.2.trans (hbd.mono HS.out.2.size)⟩
          obtain ⟨b0, b1, b2, b3⟩ := (HB.out.2.on HS.out.2).cells
          dsimp only at b0 b1 b2 b3
          clear hbd
          go_wp2_with (at_builtin; (refine wpList_snocV rfl (.tmp 17) (.tmp 22) 44 rfl wb.heap.size 9 Tryd.underlying44 (.string ⟨#[]⟩) 16 Tryd.infoT10I rfl _ (strs [(⟨noStoreL.toArray⟩ : ByteArray)]) rfl HS.out.1 (.string ((⟨maxAgeL.toArray⟩ : ByteArray) ++ dm)) rfl rfl (by simp [strs]) (by simp [strs]) HS.out.2.size ?_; intro v1 w1 ho1 hn1 hb1 hz1; have HS : Hid (OwnV w1 wb.heap.size 9 v1 (strs [(⟨noStoreL.toArray⟩ : ByteArray), ((⟨maxAgeL.toArray⟩ : ByteArray) ++ dm)]) ∧ Below wb.heap.size wb w1) := ⟨ho1, hb1 _ HS.out.2⟩; obtain ⟨b0, b1, b2, b3⟩ := (HB.out.2.on HS.out.2).cells; dsimp only at b0 b1 b2 b3; clear ho1 hn1 hb1 hz1))
          refine (implLife_any sh _).mono ?_
          rintro e wi ⟨rfl, hwi⟩
          rw [hwi, E3.out]
          clear hwi wi
          go_wp2_with fail
          have HP : Hid (wordsC ⟨true, false, ma, sh⟩ = [(⟨noStoreL.toArray⟩ : ByteArray), ((⟨maxAgeL.toArray⟩ : ByteArray) ++ dm)]) := by show _ = _; unfold wordsC; simp [E2.out, E3.out, HDdm.out]
          obtain ⟨P, hP⟩ : ∃ P : List ByteArray, [(⟨noStoreL.toArray⟩ : ByteArray), ((⟨maxAgeL.toArray⟩ : ByteArray) ++ dm)] = P := ⟨_, rfl⟩
          rw [hP] at HS HP
          have HP0 : Hid (P ≠ []) := by show P ≠ []; rw [← hP]; simp
          have HPL : Hid (P.length ≤ 4) := by show _ ≤ _; rw [← hP]; simp
          have HPZ : Hid (∀ p ∈ P, p.size ≤ 48) := by rw [← hP]; intro p hp; simp only [List.mem_cons, List.not_mem_nil, or_false] at hp; rcases hp with hp | hp <;> rw [hp] <;> first | decide | (rw [ByteArray.size_append, show (⟨maxAgeL.toArray⟩ : ByteArray).size = 8 from rfl]; omega) | (rw [ByteArray.size_append, show (⟨sMaxL.toArray⟩ : ByteArray).size = 9 from rfl]; omega)
          clear hP
          obtain ⟨w9, hw9⟩ : ∃ w9, w1 = w9 := ⟨_, rfl⟩
          rw [hw9] at HS ⊢
          clear b0 b1 b2 b3 hw9
          obtain ⟨g, cv, hv, CJ⟩ := join_own v1 w9 wb.heap.size P HP0.out HPL.out HPZ.out HS.out.1
          have HE : Hid (textC c0 = joinK P P.length) := by show _ = _; rw [← HC0.out]; unfold textC; rw [HP.out]
          have HBL : Hid (Below w.heap.size w w9) := HB.out.1.trans (HS.out.2.mono HB.out.1.size)
          subst hv
          generalize joinK P P.length = u at HE CJ
          clear HS HB HP0 HPL HPZ HP
          refine CJ.mono ?_
          rintro e wj ⟨rfl, hbj⟩
          clear CJ
          go_wp2_with fail
          go_ret
          exact ⟨by rw [HE.out]; rfl, HBL.out.trans (hbj.mono HBL.out.size)⟩
        | true =>
          have E3 : Hid (inN sh 0 999999 = true) := e3
          obtain ⟨ds, hds⟩ : ∃ d : ByteArray, ⟨(decOf sh).toArray⟩ = d := ⟨_, rfl⟩
          have HH : Hid (∀ wi, Below wb.heap.size wb wi → Calls Tryd.prog 64 #[.int .i64 sh] wi fun e w2 => e = .returned (.string ds) ∧ Below wi.heap.size wi w2) := by intro wi hi; have h0 := of_decide_eq_true e3; rw [← hds]; exact implDecimal_any sh wi (by omega) (by omega) (HTB.out wi hi)
          have hzds : ds.size ≤ 32 := by rw [← hds]; exact decOf_short (of_decide_eq_true e3)
          have HDds : Hid ((⟨(decOf sh).toArray⟩ : ByteArray) = ds) := hds
          clear hds
          clear e3
          go_enter Tryd.func27, Tryd.ntmps27
          go_wp2_with (at_builtin; first | (refine wpList_snocV rfl (.tmp 6) (.tmp 7) 44 rfl wb.heap.size 9 Tryd.underlying44 (.string ⟨#[]⟩) 16 Tryd.infoT10I rfl _ (strs []) rfl HS.out.1 (.string (⟨noStoreL.toArray⟩ : ByteArray)) rfl rfl (by simp [strs]) (by simp [strs]) HS.out.2.size ?_; intro v1 w1 ho1 hn1 hb1 hz1; have HS : Hid (OwnV w1 wb.heap.size 9 v1 (strs [(⟨noStoreL.toArray⟩ : ByteArray)]) ∧ Below wb.heap.size wb w1) := ⟨ho1, hb1 _ HS.out.2⟩; obtain ⟨b0, b1, b2, b3⟩ := (HB.out.2.on HS.out.2).cells; dsimp only at b0 b1 b2 b3; clear ho1 hn1 hb1 hz1))
          refine (implLife_any ma _).mono ?_
          rintro e wi ⟨rfl, hwi⟩
          rw [hwi, E2.out]
          clear hwi wi
          go_wp2_with fail
          refine (HM.out _ HS.out.2).mono ?_
          rintro e wd ⟨rfl, hbd⟩
          have HS : Hid (OwnV wd wb.heap.size 9 _ (strs [(⟨noStoreL.toArray⟩ : ByteArray)]) ∧ Below wb.heap.size wb wd) := ⟨HS.out.1.below hbd (Nat.le_refl _), HS.out.2.trans (hbd.mono HS.out.2.size)⟩
          obtain ⟨b0, b1, b2, b3⟩ := (HB.out.2.on HS.out.2).cells
          dsimp only at b0 b1 b2 b3
          clear hbd
          go_wp2_with (at_builtin; (refine wpList_snocV rfl (.tmp 17) (.tmp 22) 44 rfl wb.heap.size 9 Tryd.underlying44 (.string ⟨#[]⟩) 16 Tryd.infoT10I rfl _ (strs [(⟨noStoreL.toArray⟩ : ByteArray)]) rfl HS.out.1 (.string ((⟨maxAgeL.toArray⟩ : ByteArray) ++ dm)) rfl rfl (by simp [strs]) (by simp [strs]) HS.out.2.size ?_; intro v1 w1 ho1 hn1 hb1 hz1; have HS : Hid (OwnV w1 wb.heap.size 9 v1 (strs [(⟨noStoreL.toArray⟩ : ByteArray), ((⟨maxAgeL.toArray⟩ : ByteArray) ++ dm)]) ∧ Below wb.heap.size wb w1) := ⟨ho1, hb1 _ HS.out.2⟩; obtain ⟨b0, b1, b2, b3⟩ := (HB.out.2.on HS.out.2).cells; dsimp only at b0 b1 b2 b3; clear ho1 hn1 hb1 hz1))
          refine (implLife_any sh _).mono ?_
          rintro e wi ⟨rfl, hwi⟩
          rw [hwi, E3.out]
          clear hwi wi
          go_wp2_with fail
          refine (HH.out _ HS.out.2).mono ?_
          rintro e wd ⟨rfl, hbd⟩
          have HS : Hid (OwnV wd wb.heap.size 9 _ (strs [(⟨noStoreL.toArray⟩ : ByteArray), ((⟨maxAgeL.toArray⟩ : ByteArray) ++ dm)]) ∧ Below wb.heap.size wb wd) := ⟨HS.out.1.below hbd (Nat.le_refl _), HS.out.2.trans (hbd.mono HS.out.2.size)⟩
          obtain ⟨b0, b1, b2, b3⟩ := (HB.out.2.on HS.out.2).cells
          dsimp only at b0 b1 b2 b3
          clear hbd
          go_wp2_with (at_builtin; (refine wpList_snocV rfl (.tmp 27) (.tmp 32) 44 rfl wb.heap.size 9 Tryd.underlying44 (.string ⟨#[]⟩) 16 Tryd.infoT10I rfl _ (strs [(⟨noStoreL.toArray⟩ : ByteArray), ((⟨maxAgeL.toArray⟩ : ByteArray) ++ dm)]) rfl HS.out.1 (.string ((⟨sMaxL.toArray⟩ : ByteArray) ++ ds)) rfl rfl (by simp [strs]) (by simp [strs]) HS.out.2.size ?_; intro v1 w1 ho1 hn1 hb1 hz1; have HS : Hid (OwnV w1 wb.heap.size 9 v1 (strs [(⟨noStoreL.toArray⟩ : ByteArray), ((⟨maxAgeL.toArray⟩ : ByteArray) ++ dm), ((⟨sMaxL.toArray⟩ : ByteArray) ++ ds)]) ∧ Below wb.heap.size wb w1) := ⟨ho1, hb1 _ HS.out.2⟩; obtain ⟨b0, b1, b2, b3⟩ := (HB.out.2.on HS.out.2).cells; dsimp only at b0 b1 b2 b3; clear ho1 hn1 hb1 hz1))
          have HP : Hid (wordsC ⟨true, false, ma, sh⟩ = [(⟨noStoreL.toArray⟩ : ByteArray), ((⟨maxAgeL.toArray⟩ : ByteArray) ++ dm), ((⟨sMaxL.toArray⟩ : ByteArray) ++ ds)]) := by show _ = _; unfold wordsC; simp [E2.out, E3.out, HDdm.out, HDds.out]
          obtain ⟨P, hP⟩ : ∃ P : List ByteArray, [(⟨noStoreL.toArray⟩ : ByteArray), ((⟨maxAgeL.toArray⟩ : ByteArray) ++ dm), ((⟨sMaxL.toArray⟩ : ByteArray) ++ ds)] = P := ⟨_, rfl⟩
          rw [hP] at HS HP
          have HP0 : Hid (P ≠ []) := by show P ≠ []; rw [← hP]; simp
          have HPL : Hid (P.length ≤ 4) := by show _ ≤ _; rw [← hP]; simp
          have HPZ : Hid (∀ p ∈ P, p.size ≤ 48) := by rw [← hP]; intro p hp; simp only [List.mem_cons, List.not_mem_nil, or_false] at hp; rcases hp with hp | hp | hp <;> rw [hp] <;> first | decide | (rw [ByteArray.size_append, show (⟨maxAgeL.toArray⟩ : ByteArray).size = 8 from rfl]; omega) | (rw [ByteArray.size_append, show (⟨sMaxL.toArray⟩ : ByteArray).size = 9 from rfl]; omega)
          clear hP
          obtain ⟨w9, hw9⟩ : ∃ w9, w1 = w9 := ⟨_, rfl⟩
          rw [hw9] at HS ⊢
          clear b0 b1 b2 b3 hw9
          obtain ⟨g, cv, hv, CJ⟩ := join_own v1 w9 wb.heap.size P HP0.out HPL.out HPZ.out HS.out.1
          have HE : Hid (textC c0 = joinK P P.length) := by show _ = _; rw [← HC0.out]; unfold textC; rw [HP.out]
          have HBL : Hid (Below w.heap.size w w9) := HB.out.1.trans (HS.out.2.mono HB.out.1.size)
          subst hv
          generalize joinK P P.length = u at HE CJ
          clear HS HB HP0 HPL HPZ HP
          refine CJ.mono ?_
          rintro e wj ⟨rfl, hbj⟩
          clear CJ
          go_wp2_with fail
          go_ret
          exact ⟨by rw [HE.out]; rfl, HBL.out.trans (hbj.mono HBL.out.size)⟩
    | true =>
      cases e2 : inN ma 0 999999 with
      | false =>
        have E2 : Hid (inN ma 0 999999 = false) := e2
        clear e2
        cases e3 : inN sh 0 999999 with
        | false =>
          have E3 : Hid (inN sh 0 999999 = false) := e3
          clear e3
          go_enter Tryd.func27, Tryd.ntmps27
          go_wp2_with (at_builtin; first | (refine wpList_snocV rfl (.tmp 6) (.tmp 7) 44 rfl wb.heap.size 9 Tryd.underlying44 (.string ⟨#[]⟩) 16 Tryd.infoT10I rfl _ (strs []) rfl HS.out.1 (.string (⟨noStoreL.toArray⟩ : ByteArray)) rfl rfl (by simp [strs]) (by simp [strs]) HS.out.2.size ?_; intro v1 w1 ho1 hn1 hb1 hz1; have HS : Hid (OwnV w1 wb.heap.size 9 v1 (strs [(⟨noStoreL.toArray⟩ : ByteArray)]) ∧ Below wb.heap.size wb w1) := ⟨ho1, hb1 _ HS.out.2⟩; obtain ⟨b0, b1, b2, b3⟩ := (HB.out.2.on HS.out.2).cells; dsimp only at b0 b1 b2 b3; clear ho1 hn1 hb1 hz1) | (refine wpList_snocV rfl (.tmp 11) (.tmp 12) 44 rfl wb.heap.size 9 Tryd.underlying44 (.string ⟨#[]⟩) 16 Tryd.infoT10I rfl _ (strs [(⟨noStoreL.toArray⟩ : ByteArray)]) rfl HS.out.1 (.string (⟨noCacheL.toArray⟩ : ByteArray)) rfl rfl (by simp [strs]) (by simp [strs]) HS.out.2.size ?_; intro v1 w1 ho1 hn1 hb1 hz1; have HS : Hid (OwnV w1 wb.heap.size 9 v1 (strs [(⟨noStoreL.toArray⟩ : ByteArray), (⟨noCacheL.toArray⟩ : ByteArray)]) ∧ Below wb.heap.size wb w1) := ⟨ho1, hb1 _ HS.out.2⟩; obtain ⟨b0, b1, b2, b3⟩ := (HB.out.2.on HS.out.2).cells; dsimp only at b0 b1 b2 b3; clear ho1 hn1 hb1 hz1))
          refine (implLife_any ma _).mono ?_
          rintro e wi ⟨rfl, hwi⟩
          rw [hwi, E2.out]
          clear hwi wi
          go_wp2_with fail
          refine (implLife_any sh _).mono ?_
          rintro e wi ⟨rfl, hwi⟩
          rw [hwi, E3.out]
          clear hwi wi
          go_wp2_with fail
          have HP : Hid (wordsC ⟨true, true, ma, sh⟩ = [(⟨noStoreL.toArray⟩ : ByteArray), (⟨noCacheL.toArray⟩ : ByteArray)]) := by show _ = _; unfold wordsC; simp [E2.out, E3.out]
          obtain ⟨P, hP⟩ : ∃ P : List ByteArray, [(⟨noStoreL.toArray⟩ : ByteArray), (⟨noCacheL.toArray⟩ : ByteArray)] = P := ⟨_, rfl⟩
          rw [hP] at HS HP
          have HP0 : Hid (P ≠ []) := by show P ≠ []; rw [← hP]; simp
          have HPL : Hid (P.length ≤ 4) := by show _ ≤ _; rw [← hP]; simp
          have HPZ : Hid (∀ p ∈ P, p.size ≤ 48) := by rw [← hP]; intro p hp; simp only [List.mem_cons, List.not_mem_nil, or_false] at hp; rcases hp with hp | hp <;> rw [hp] <;> first | decide | (rw [ByteArray.size_append, show (⟨maxAgeL.toArray⟩ : ByteArray).size = 8 from rfl]; omega) | (rw [ByteArray.size_append, show (⟨sMaxL.toArray⟩ : ByteArray).size = 9 from rfl]; omega)
          clear hP
          obtain ⟨w9, hw9⟩ : ∃ w9, w1 = w9 := ⟨_, rfl⟩
          rw [hw9] at HS ⊢
          clear b0 b1 b2 b3 hw9
          obtain ⟨g, cv, hv, CJ⟩ := join_own v1 w9 wb.heap.size P HP0.out HPL.out HPZ.out HS.out.1
          have HE : Hid (textC c0 = joinK P P.length) := by show _ = _; rw [← HC0.out]; unfold textC; rw [HP.out]
          have HBL : Hid (Below w.heap.size w w9) := HB.out.1.trans (HS.out.2.mono HB.out.1.size)
          subst hv
          generalize joinK P P.length = u at HE CJ
          clear HS HB HP0 HPL HPZ HP
          refine CJ.mono ?_
          rintro e wj ⟨rfl, hbj⟩
          clear CJ
          go_wp2_with fail
          go_ret
          exact ⟨by rw [HE.out]; rfl, HBL.out.trans (hbj.mono HBL.out.size)⟩
        | true =>
          have E3 : Hid (inN sh 0 999999 = true) := e3
          obtain ⟨ds, hds⟩ : ∃ d : ByteArray, ⟨(decOf sh).toArray⟩ = d := ⟨_, rfl⟩
          have HH : Hid (∀ wi, Below wb.heap.size wb wi → Calls Tryd.prog 64 #[.int .i64 sh] wi fun e w2 => e = .returned (.string ds) ∧ Below wi.heap.size wi w2) := by intro wi hi; have h0 := of_decide_eq_true e3; rw [← hds]; exact implDecimal_any sh wi (by omega) (by omega) (HTB.out wi hi)
          have hzds : ds.size ≤ 32 := by rw [← hds]; exact decOf_short (of_decide_eq_true e3)
          have HDds : Hid ((⟨(decOf sh).toArray⟩ : ByteArray) = ds) := hds
          clear hds
          clear e3
          go_enter Tryd.func27, Tryd.ntmps27
          go_wp2_with (at_builtin; first | (refine wpList_snocV rfl (.tmp 6) (.tmp 7) 44 rfl wb.heap.size 9 Tryd.underlying44 (.string ⟨#[]⟩) 16 Tryd.infoT10I rfl _ (strs []) rfl HS.out.1 (.string (⟨noStoreL.toArray⟩ : ByteArray)) rfl rfl (by simp [strs]) (by simp [strs]) HS.out.2.size ?_; intro v1 w1 ho1 hn1 hb1 hz1; have HS : Hid (OwnV w1 wb.heap.size 9 v1 (strs [(⟨noStoreL.toArray⟩ : ByteArray)]) ∧ Below wb.heap.size wb w1) := ⟨ho1, hb1 _ HS.out.2⟩; obtain ⟨b0, b1, b2, b3⟩ := (HB.out.2.on HS.out.2).cells; dsimp only at b0 b1 b2 b3; clear ho1 hn1 hb1 hz1) | (refine wpList_snocV rfl (.tmp 11) (.tmp 12) 44 rfl wb.heap.size 9 Tryd.underlying44 (.string ⟨#[]⟩) 16 Tryd.infoT10I rfl _ (strs [(⟨noStoreL.toArray⟩ : ByteArray)]) rfl HS.out.1 (.string (⟨noCacheL.toArray⟩ : ByteArray)) rfl rfl (by simp [strs]) (by simp [strs]) HS.out.2.size ?_; intro v1 w1 ho1 hn1 hb1 hz1; have HS : Hid (OwnV w1 wb.heap.size 9 v1 (strs [(⟨noStoreL.toArray⟩ : ByteArray), (⟨noCacheL.toArray⟩ : ByteArray)]) ∧ Below wb.heap.size wb w1) := ⟨ho1, hb1 _ HS.out.2⟩; obtain ⟨b0, b1, b2, b3⟩ := (HB.out.2.on HS.out.2).cells; dsimp only at b0 b1 b2 b3; clear ho1 hn1 hb1 hz1))
          refine (implLife_any ma _).mono ?_
          rintro e wi ⟨rfl, hwi⟩
          rw [hwi, E2.out]
          clear hwi wi
          go_wp2_with fail
          refine (implLife_any sh _).mono ?_
          rintro e wi ⟨rfl, hwi⟩
          rw [hwi, E3.out]
          clear hwi wi
          go_wp2_with fail
          refine (HH.out _ HS.out.2).mono ?_
          rintro e wd ⟨rfl, hbd⟩
          have HS : Hid (OwnV wd wb.heap.size 9 _ (strs [(⟨noStoreL.toArray⟩ : ByteArray), (⟨noCacheL.toArray⟩ : ByteArray)]) ∧ Below wb.heap.size wb wd) := ⟨HS.out.1.below hbd (Nat.le_refl _), HS.out.2.trans (hbd.mono HS.out.2.size)⟩
          obtain ⟨b0, b1, b2, b3⟩ := (HB.out.2.on HS.out.2).cells
          dsimp only at b0 b1 b2 b3
          clear hbd
          go_wp2_with (at_builtin; (refine wpList_snocV rfl (.tmp 27) (.tmp 32) 44 rfl wb.heap.size 9 Tryd.underlying44 (.string ⟨#[]⟩) 16 Tryd.infoT10I rfl _ (strs [(⟨noStoreL.toArray⟩ : ByteArray), (⟨noCacheL.toArray⟩ : ByteArray)]) rfl HS.out.1 (.string ((⟨sMaxL.toArray⟩ : ByteArray) ++ ds)) rfl rfl (by simp [strs]) (by simp [strs]) HS.out.2.size ?_; intro v1 w1 ho1 hn1 hb1 hz1; have HS : Hid (OwnV w1 wb.heap.size 9 v1 (strs [(⟨noStoreL.toArray⟩ : ByteArray), (⟨noCacheL.toArray⟩ : ByteArray), ((⟨sMaxL.toArray⟩ : ByteArray) ++ ds)]) ∧ Below wb.heap.size wb w1) := ⟨ho1, hb1 _ HS.out.2⟩; obtain ⟨b0, b1, b2, b3⟩ := (HB.out.2.on HS.out.2).cells; dsimp only at b0 b1 b2 b3; clear ho1 hn1 hb1 hz1))
          have HP : Hid (wordsC ⟨true, true, ma, sh⟩ = [(⟨noStoreL.toArray⟩ : ByteArray), (⟨noCacheL.toArray⟩ : ByteArray), ((⟨sMaxL.toArray⟩ : ByteArray) ++ ds)]) := by show _ = _; unfold wordsC; simp [E2.out, E3.out, HDds.out]
          obtain ⟨P, hP⟩ : ∃ P : List ByteArray, [(⟨noStoreL.toArray⟩ : ByteArray), (⟨noCacheL.toArray⟩ : ByteArray), ((⟨sMaxL.toArray⟩ : ByteArray) ++ ds)] = P := ⟨_, rfl⟩
          rw [hP] at HS HP
          have HP0 : Hid (P ≠ []) := by show P ≠ []; rw [← hP]; simp
          have HPL : Hid (P.length ≤ 4) := by show _ ≤ _; rw [← hP]; simp
          have HPZ : Hid (∀ p ∈ P, p.size ≤ 48) := by rw [← hP]; intro p hp; simp only [List.mem_cons, List.not_mem_nil, or_false] at hp; rcases hp with hp | hp | hp <;> rw [hp] <;> first | decide | (rw [ByteArray.size_append, show (⟨maxAgeL.toArray⟩ : ByteArray).size = 8 from rfl]; omega) | (rw [ByteArray.size_append, show (⟨sMaxL.toArray⟩ : ByteArray).size = 9 from rfl]; omega)
          clear hP
          obtain ⟨w9, hw9⟩ : ∃ w9, w1 = w9 := ⟨_, rfl⟩
          rw [hw9] at HS ⊢
          clear b0 b1 b2 b3 hw9
          obtain ⟨g, cv, hv, CJ⟩ := join_own v1 w9 wb.heap.size P HP0.out HPL.out HPZ.out HS.out.1
          have HE : Hid (textC c0 = joinK P P.length) := by show _ = _; rw [← HC0.out]; unfold textC; rw [HP.out]
          have HBL : Hid (Below w.heap.size w w9) := HB.out.1.trans (HS.out.2.mono HB.out.1.size)
          subst hv
          generalize joinK P P.length = u at HE CJ
          clear HS HB HP0 HPL HPZ HP
          refine CJ.mono ?_
          rintro e wj ⟨rfl, hbj⟩
          clear CJ
          go_wp2_with fail
          go_ret
          exact ⟨by rw [HE.out]; rfl, HBL.out.trans (hbj.mono HBL.out.size)⟩
      | true =>
        have E2 : Hid (inN ma 0 999999 = true) := e2
        obtain ⟨dm, hdm⟩ : ∃ d : ByteArray, ⟨(decOf ma).toArray⟩ = d := ⟨_, rfl⟩
        have HM : Hid (∀ wi, Below wb.heap.size wb wi → Calls Tryd.prog 64 #[.int .i64 ma] wi fun e w2 => e = .returned (.string dm) ∧ Below wi.heap.size wi w2) := by intro wi hi; have h0 := of_decide_eq_true e2; rw [← hdm]; exact implDecimal_any ma wi (by omega) (by omega) (HTB.out wi hi)
        have hzdm : dm.size ≤ 32 := by rw [← hdm]; exact decOf_short (of_decide_eq_true e2)
        have HDdm : Hid ((⟨(decOf ma).toArray⟩ : ByteArray) = dm) := hdm
        clear hdm
        clear e2
        cases e3 : inN sh 0 999999 with
        | false =>
          have E3 : Hid (inN sh 0 999999 = false) := e3
          clear e3
          go_enter Tryd.func27, Tryd.ntmps27
          go_wp2_with (at_builtin; first | (refine wpList_snocV rfl (.tmp 6) (.tmp 7) 44 rfl wb.heap.size 9 Tryd.underlying44 (.string ⟨#[]⟩) 16 Tryd.infoT10I rfl _ (strs []) rfl HS.out.1 (.string (⟨noStoreL.toArray⟩ : ByteArray)) rfl rfl (by simp [strs]) (by simp [strs]) HS.out.2.size ?_; intro v1 w1 ho1 hn1 hb1 hz1; have HS : Hid (OwnV w1 wb.heap.size 9 v1 (strs [(⟨noStoreL.toArray⟩ : ByteArray)]) ∧ Below wb.heap.size wb w1) := ⟨ho1, hb1 _ HS.out.2⟩; obtain ⟨b0, b1, b2, b3⟩ := (HB.out.2.on HS.out.2).cells; dsimp only at b0 b1 b2 b3; clear ho1 hn1 hb1 hz1) | (refine wpList_snocV rfl (.tmp 11) (.tmp 12) 44 rfl wb.heap.size 9 Tryd.underlying44 (.string ⟨#[]⟩) 16 Tryd.infoT10I rfl _ (strs [(⟨noStoreL.toArray⟩ : ByteArray)]) rfl HS.out.1 (.string (⟨noCacheL.toArray⟩ : ByteArray)) rfl rfl (by simp [strs]) (by simp [strs]) HS.out.2.size ?_; intro v1 w1 ho1 hn1 hb1 hz1; have HS : Hid (OwnV w1 wb.heap.size 9 v1 (strs [(⟨noStoreL.toArray⟩ : ByteArray), (⟨noCacheL.toArray⟩ : ByteArray)]) ∧ Below wb.heap.size wb w1) := ⟨ho1, hb1 _ HS.out.2⟩; obtain ⟨b0, b1, b2, b3⟩ := (HB.out.2.on HS.out.2).cells; dsimp only at b0 b1 b2 b3; clear ho1 hn1 hb1 hz1))
          refine (implLife_any ma _).mono ?_
          rintro e wi ⟨rfl, hwi⟩
          rw [hwi, E2.out]
          clear hwi wi
          go_wp2_with fail
          refine (HM.out _ HS.out.2).mono ?_
          rintro e wd ⟨rfl, hbd⟩
          have HS : Hid (OwnV wd wb.heap.size 9 _ (strs [(⟨noStoreL.toArray⟩ : ByteArray), (⟨noCacheL.toArray⟩ : ByteArray)]) ∧ Below wb.heap.size wb wd) := ⟨HS.out.1.below hbd (Nat.le_refl _), HS.out.2.trans (hbd.mono HS.out.2.size)⟩
          obtain ⟨b0, b1, b2, b3⟩ := (HB.out.2.on HS.out.2).cells
          dsimp only at b0 b1 b2 b3
          clear hbd
          go_wp2_with (at_builtin; (refine wpList_snocV rfl (.tmp 17) (.tmp 22) 44 rfl wb.heap.size 9 Tryd.underlying44 (.string ⟨#[]⟩) 16 Tryd.infoT10I rfl _ (strs [(⟨noStoreL.toArray⟩ : ByteArray), (⟨noCacheL.toArray⟩ : ByteArray)]) rfl HS.out.1 (.string ((⟨maxAgeL.toArray⟩ : ByteArray) ++ dm)) rfl rfl (by simp [strs]) (by simp [strs]) HS.out.2.size ?_; intro v1 w1 ho1 hn1 hb1 hz1; have HS : Hid (OwnV w1 wb.heap.size 9 v1 (strs [(⟨noStoreL.toArray⟩ : ByteArray), (⟨noCacheL.toArray⟩ : ByteArray), ((⟨maxAgeL.toArray⟩ : ByteArray) ++ dm)]) ∧ Below wb.heap.size wb w1) := ⟨ho1, hb1 _ HS.out.2⟩; obtain ⟨b0, b1, b2, b3⟩ := (HB.out.2.on HS.out.2).cells; dsimp only at b0 b1 b2 b3; clear ho1 hn1 hb1 hz1))
          refine (implLife_any sh _).mono ?_
          rintro e wi ⟨rfl, hwi⟩
          rw [hwi, E3.out]
          clear hwi wi
          go_wp2_with fail
          have HP : Hid (wordsC ⟨true, true, ma, sh⟩ = [(⟨noStoreL.toArray⟩ : ByteArray), (⟨noCacheL.toArray⟩ : ByteArray), ((⟨maxAgeL.toArray⟩ : ByteArray) ++ dm)]) := by show _ = _; unfold wordsC; simp [E2.out, E3.out, HDdm.out]
          obtain ⟨P, hP⟩ : ∃ P : List ByteArray, [(⟨noStoreL.toArray⟩ : ByteArray), (⟨noCacheL.toArray⟩ : ByteArray), ((⟨maxAgeL.toArray⟩ : ByteArray) ++ dm)] = P := ⟨_, rfl⟩
          rw [hP] at HS HP
          have HP0 : Hid (P ≠ []) := by show P ≠ []; rw [← hP]; simp
          have HPL : Hid (P.length ≤ 4) := by show _ ≤ _; rw [← hP]; simp
          have HPZ : Hid (∀ p ∈ P, p.size ≤ 48) := by rw [← hP]; intro p hp; simp only [List.mem_cons, List.not_mem_nil, or_false] at hp; rcases hp with hp | hp | hp <;> rw [hp] <;> first | decide | (rw [ByteArray.size_append, show (⟨maxAgeL.toArray⟩ : ByteArray).size = 8 from rfl]; omega) | (rw [ByteArray.size_append, show (⟨sMaxL.toArray⟩ : ByteArray).size = 9 from rfl]; omega)
          clear hP
          obtain ⟨w9, hw9⟩ : ∃ w9, w1 = w9 := ⟨_, rfl⟩
          rw [hw9] at HS ⊢
          clear b0 b1 b2 b3 hw9
          obtain ⟨g, cv, hv, CJ⟩ := join_own v1 w9 wb.heap.size P HP0.out HPL.out HPZ.out HS.out.1
          have HE : Hid (textC c0 = joinK P P.length) := by show _ = _; rw [← HC0.out]; unfold textC; rw [HP.out]
          have HBL : Hid (Below w.heap.size w w9) := HB.out.1.trans (HS.out.2.mono HB.out.1.size)
          subst hv
          generalize joinK P P.length = u at HE CJ
          clear HS HB HP0 HPL HPZ HP
          refine CJ.mono ?_
          rintro e wj ⟨rfl, hbj⟩
          clear CJ
          go_wp2_with fail
          go_ret
          exact ⟨by rw [HE.out]; rfl, HBL.out.trans (hbj.mono HBL.out.size)⟩
        | true =>
          have E3 : Hid (inN sh 0 999999 = true) := e3
          obtain ⟨ds, hds⟩ : ∃ d : ByteArray, ⟨(decOf sh).toArray⟩ = d := ⟨_, rfl⟩
          have HH : Hid (∀ wi, Below wb.heap.size wb wi → Calls Tryd.prog 64 #[.int .i64 sh] wi fun e w2 => e = .returned (.string ds) ∧ Below wi.heap.size wi w2) := by intro wi hi; have h0 := of_decide_eq_true e3; rw [← hds]; exact implDecimal_any sh wi (by omega) (by omega) (HTB.out wi hi)
          have hzds : ds.size ≤ 32 := by rw [← hds]; exact decOf_short (of_decide_eq_true e3)
          have HDds : Hid ((⟨(decOf sh).toArray⟩ : ByteArray) = ds) := hds
          clear hds
          clear e3
          go_enter Tryd.func27, Tryd.ntmps27
          go_wp2_with (at_builtin; first | (refine wpList_snocV rfl (.tmp 6) (.tmp 7) 44 rfl wb.heap.size 9 Tryd.underlying44 (.string ⟨#[]⟩) 16 Tryd.infoT10I rfl _ (strs []) rfl HS.out.1 (.string (⟨noStoreL.toArray⟩ : ByteArray)) rfl rfl (by simp [strs]) (by simp [strs]) HS.out.2.size ?_; intro v1 w1 ho1 hn1 hb1 hz1; have HS : Hid (OwnV w1 wb.heap.size 9 v1 (strs [(⟨noStoreL.toArray⟩ : ByteArray)]) ∧ Below wb.heap.size wb w1) := ⟨ho1, hb1 _ HS.out.2⟩; obtain ⟨b0, b1, b2, b3⟩ := (HB.out.2.on HS.out.2).cells; dsimp only at b0 b1 b2 b3; clear ho1 hn1 hb1 hz1) | (refine wpList_snocV rfl (.tmp 11) (.tmp 12) 44 rfl wb.heap.size 9 Tryd.underlying44 (.string ⟨#[]⟩) 16 Tryd.infoT10I rfl _ (strs [(⟨noStoreL.toArray⟩ : ByteArray)]) rfl HS.out.1 (.string (⟨noCacheL.toArray⟩ : ByteArray)) rfl rfl (by simp [strs]) (by simp [strs]) HS.out.2.size ?_; intro v1 w1 ho1 hn1 hb1 hz1; have HS : Hid (OwnV w1 wb.heap.size 9 v1 (strs [(⟨noStoreL.toArray⟩ : ByteArray), (⟨noCacheL.toArray⟩ : ByteArray)]) ∧ Below wb.heap.size wb w1) := ⟨ho1, hb1 _ HS.out.2⟩; obtain ⟨b0, b1, b2, b3⟩ := (HB.out.2.on HS.out.2).cells; dsimp only at b0 b1 b2 b3; clear ho1 hn1 hb1 hz1))
          refine (implLife_any ma _).mono ?_
          rintro e wi ⟨rfl, hwi⟩
          rw [hwi, E2.out]
          clear hwi wi
          go_wp2_with fail
          refine (HM.out _ HS.out.2).mono ?_
          rintro e wd ⟨rfl, hbd⟩
          have HS : Hid (OwnV wd wb.heap.size 9 _ (strs [(⟨noStoreL.toArray⟩ : ByteArray), (⟨noCacheL.toArray⟩ : ByteArray)]) ∧ Below wb.heap.size wb wd) := ⟨HS.out.1.below hbd (Nat.le_refl _), HS.out.2.trans (hbd.mono HS.out.2.size)⟩
          obtain ⟨b0, b1, b2, b3⟩ := (HB.out.2.on HS.out.2).cells
          dsimp only at b0 b1 b2 b3
          clear hbd
          go_wp2_with (at_builtin; (refine wpList_snocV rfl (.tmp 17) (.tmp 22) 44 rfl wb.heap.size 9 Tryd.underlying44 (.string ⟨#[]⟩) 16 Tryd.infoT10I rfl _ (strs [(⟨noStoreL.toArray⟩ : ByteArray), (⟨noCacheL.toArray⟩ : ByteArray)]) rfl HS.out.1 (.string ((⟨maxAgeL.toArray⟩ : ByteArray) ++ dm)) rfl rfl (by simp [strs]) (by simp [strs]) HS.out.2.size ?_; intro v1 w1 ho1 hn1 hb1 hz1; have HS : Hid (OwnV w1 wb.heap.size 9 v1 (strs [(⟨noStoreL.toArray⟩ : ByteArray), (⟨noCacheL.toArray⟩ : ByteArray), ((⟨maxAgeL.toArray⟩ : ByteArray) ++ dm)]) ∧ Below wb.heap.size wb w1) := ⟨ho1, hb1 _ HS.out.2⟩; obtain ⟨b0, b1, b2, b3⟩ := (HB.out.2.on HS.out.2).cells; dsimp only at b0 b1 b2 b3; clear ho1 hn1 hb1 hz1))
          refine (implLife_any sh _).mono ?_
          rintro e wi ⟨rfl, hwi⟩
          rw [hwi, E3.out]
          clear hwi wi
          go_wp2_with fail
          refine (HH.out _ HS.out.2).mono ?_
          rintro e wd ⟨rfl, hbd⟩
          have HS : Hid (OwnV wd wb.heap.size 9 _ (strs [(⟨noStoreL.toArray⟩ : ByteArray), (⟨noCacheL.toArray⟩ : ByteArray), ((⟨maxAgeL.toArray⟩ : ByteArray) ++ dm)]) ∧ Below wb.heap.size wb wd) := ⟨HS.out.1.below hbd (Nat.le_refl _), HS.out.2.trans (hbd.mono HS.out.2.size)⟩
          obtain ⟨b0, b1, b2, b3⟩ := (HB.out.2.on HS.out.2).cells
          dsimp only at b0 b1 b2 b3
          clear hbd
          go_wp2_with (at_builtin; (refine wpList_snocV rfl (.tmp 27) (.tmp 32) 44 rfl wb.heap.size 9 Tryd.underlying44 (.string ⟨#[]⟩) 16 Tryd.infoT10I rfl _ (strs [(⟨noStoreL.toArray⟩ : ByteArray), (⟨noCacheL.toArray⟩ : ByteArray), ((⟨maxAgeL.toArray⟩ : ByteArray) ++ dm)]) rfl HS.out.1 (.string ((⟨sMaxL.toArray⟩ : ByteArray) ++ ds)) rfl rfl (by simp [strs]) (by simp [strs]) HS.out.2.size ?_; intro v1 w1 ho1 hn1 hb1 hz1; have HS : Hid (OwnV w1 wb.heap.size 9 v1 (strs [(⟨noStoreL.toArray⟩ : ByteArray), (⟨noCacheL.toArray⟩ : ByteArray), ((⟨maxAgeL.toArray⟩ : ByteArray) ++ dm), ((⟨sMaxL.toArray⟩ : ByteArray) ++ ds)]) ∧ Below wb.heap.size wb w1) := ⟨ho1, hb1 _ HS.out.2⟩; obtain ⟨b0, b1, b2, b3⟩ := (HB.out.2.on HS.out.2).cells; dsimp only at b0 b1 b2 b3; clear ho1 hn1 hb1 hz1))
          have HP : Hid (wordsC ⟨true, true, ma, sh⟩ = [(⟨noStoreL.toArray⟩ : ByteArray), (⟨noCacheL.toArray⟩ : ByteArray), ((⟨maxAgeL.toArray⟩ : ByteArray) ++ dm), ((⟨sMaxL.toArray⟩ : ByteArray) ++ ds)]) := by show _ = _; unfold wordsC; simp [E2.out, E3.out, HDdm.out, HDds.out]
          obtain ⟨P, hP⟩ : ∃ P : List ByteArray, [(⟨noStoreL.toArray⟩ : ByteArray), (⟨noCacheL.toArray⟩ : ByteArray), ((⟨maxAgeL.toArray⟩ : ByteArray) ++ dm), ((⟨sMaxL.toArray⟩ : ByteArray) ++ ds)] = P := ⟨_, rfl⟩
          rw [hP] at HS HP
          have HP0 : Hid (P ≠ []) := by show P ≠ []; rw [← hP]; simp
          have HPL : Hid (P.length ≤ 4) := by show _ ≤ _; rw [← hP]; simp
          have HPZ : Hid (∀ p ∈ P, p.size ≤ 48) := by rw [← hP]; intro p hp; simp only [List.mem_cons, List.not_mem_nil, or_false] at hp; rcases hp with hp | hp | hp | hp <;> rw [hp] <;> first | decide | (rw [ByteArray.size_append, show (⟨maxAgeL.toArray⟩ : ByteArray).size = 8 from rfl]; omega) | (rw [ByteArray.size_append, show (⟨sMaxL.toArray⟩ : ByteArray).size = 9 from rfl]; omega)
          clear hP
          obtain ⟨w9, hw9⟩ : ∃ w9, w1 = w9 := ⟨_, rfl⟩
          rw [hw9] at HS ⊢
          clear b0 b1 b2 b3 hw9
          obtain ⟨g, cv, hv, CJ⟩ := join_own v1 w9 wb.heap.size P HP0.out HPL.out HPZ.out HS.out.1
          have HE : Hid (textC c0 = joinK P P.length) := by show _ = _; rw [← HC0.out]; unfold textC; rw [HP.out]
          have HBL : Hid (Below w.heap.size w w9) := HB.out.1.trans (HS.out.2.mono HB.out.1.size)
          subst hv
          generalize joinK P P.length = u at HE CJ
          clear HS HB HP0 HPL HPZ HP
          refine CJ.mono ?_
          rintro e wj ⟨rfl, hbj⟩
          clear CJ
          go_wp2_with fail
          go_ret
          exact ⟨by rw [HE.out]; rfl, HBL.out.trans (hbj.mono HBL.out.size)⟩
end Go.Proofs.YtnnaphfeeobeladDoor
