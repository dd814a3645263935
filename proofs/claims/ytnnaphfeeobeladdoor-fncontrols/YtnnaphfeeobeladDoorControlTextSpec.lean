/- What is told, written by the other text. -/
import Derived.Test.YtnnaphfeeobeladDoorPartSpec
import Derived.Test.YtnnaphfeeobeladDoorDecimal
import Derived.Test.YtnnaphfeeobeladDoorRowed
import Derived.Test.YtnnaphfeeobeladDoorControlTextPlain
import Derived.Test.YtnnaphfeeobeladDoorBase
namespace Go.Proofs.YtnnaphfeeobeladDoor
open Go.RowKit Go.Sort
theorem Tryd.infoT10 : (Tryd.prog.info? 9).map (fun i => (i.zero, i.size, i.bytes)) = some (some (.string ⟨#[]⟩), 1, 16) := by kernel_rfl
set_option maxRecDepth 100000 in
set_option maxHeartbeats 8000000 in
theorem specControlText_any (w : World) (c : Ct) :
    Calls Tryd.prog 31 #[.agg #[.bool c.ns, .bool c.nc, .int .i64 c.ma, .int .i64 c.sh]] w fun e w' => e = .returned (.string (textC c)) ∧ Below w.heap.size w w' := by
  obtain ⟨wb, hwb⟩ : ∃ wb, w.alloc (.cells #[.bool c.ns, .bool c.nc, .int .i64 c.ma, .int .i64 c.sh] 47) = wb := ⟨_, rfl⟩
  have hb : Below w.heap.size w wb := by rw [← hwb]; exact (Below.refl _ _).alloc (Nat.le_refl _) _
  have hX : CtB wb w.heap.size c := by rw [← hwb]; exact heap_alloc_new w _
  have HB : Hid (Below w.heap.size w wb ∧ CtB wb w.heap.size c) := ⟨hb, hX⟩
  obtain ⟨wc, hwc⟩ : ∃ wc, wb.alloc (.cells #[] 9) = wc := ⟨_, rfl⟩
  have HS : Hid (OwnV wc wb.heap.size 9 (.slice (some ⟨wb.heap.size, 0, none⟩) 0 0) (strs []) ∧ Below wb.heap.size wb wc) := by
    rw [← hwc]
    exact ⟨World.ownsRow_made wb #[] 0 (Nat.le_refl _) (by simp [maxLen]) (by simp), (Below.refl _ _).alloc (Nat.le_refl _) _⟩
  obtain ⟨c0, hc0⟩ : ∃ c0, c = c0 := ⟨_, rfl⟩
  have HC0 : Hid (c = c0) := hc0
  rw [show textC c = textC c0 by rw [hc0]]
  clear hb hX hc0
  obtain ⟨b0, b1, b2, b3⟩ := (HB.out.2.on HS.out.2).cells
  obtain ⟨ns, nc, ma, sh⟩ := c
  dsimp only at b0 b1 b2 b3 hwb ⊢
  cases ns with
  | false =>
    cases nc with
    | false =>
      cases e2 : inN ma 0 999999 with
      | false =>
        have E2 : Hid (inN ma 0 999999 = false) := e2
        clear e2
        cases e3 : inN sh 0 999999 with
        | false =>
          have E3 : Hid (inN sh 0 999999 = false) := e3
          clear e3
          go_enter Tryd.func31, Tryd.ntmps31
          go_wp2_with fail
          refine (in_any ma 0 999999 _).mono ?_
          rintro e wi ⟨rfl, hwi⟩
          rw [hwi, E2.out]
          clear hwi wi
          go_wp2_with fail
          refine (in_any sh 0 999999 _).mono ?_
          rintro e wi ⟨rfl, hwi⟩
          rw [hwi, E3.out]
          clear hwi wi
          go_wp2_with fail
          have HP : Hid (wordsC ⟨false, false, ma, sh⟩ = []) := by show _ = _; unfold wordsC; simp [E2.out, E3.out]
          obtain ⟨P, hP⟩ : ∃ P : List ByteArray, [] = P := ⟨_, rfl⟩
          rw [hP] at HS HP
          have HPL : Hid (P.length ≤ 4) := by show _ ≤ _; rw [← hP]; simp
          have HPZ : Hid (∀ p ∈ P, p.size ≤ 48) := by rw [← hP]; intro p hp; exact absurd hp List.not_mem_nil
          clear hP
          generalize Value.slice (some ⟨wb.heap.size, 0, none⟩) 0 0 = v1 at HS ⊢
          obtain ⟨w9, hw9⟩ : ∃ w9, wc = w9 := ⟨_, rfl⟩
          rw [hw9] at HS ⊢
          clear b0 b1 b2 b3 hw9
          obtain ⟨av, cv, hv, hcell⟩ := HS.out.1.shape
          rw [strs_length] at hv
          have HCL : Hid (∀ j (hj : j < P.length), ∃ g, av = some ⟨g, 0, none⟩ ∧ w9.cell? ⟨g, j, none⟩ = some (.string P[j])) := by
            intro j hj
            obtain ⟨g, h1, h2, _⟩ := hcell j (by rw [strs_length]; exact hj)
            rw [strs_at hj] at h2
            exact ⟨g, h1, h2⟩
          have HBL : Hid (Below w.heap.size w w9) := HB.out.1.trans (HS.out.2.mono HB.out.1.size)
          clear hcell HS HB
          subst hv
          go_loopw [4, 5] (fun s i wr => Box (∃ k : Nat, k ≤ P.length ∧ i = .int .i64 k ∧ s = .string (joinK P k) ∧ wr = w9))
            (fun _ i _ => P.length - (intOf i).toNat)
          case atStart => exact ⟨⟨0, by omega, rfl, rfl, rfl⟩⟩
          case round =>
            obtain ⟨k, hk, rfl, rfl, hwr⟩ := hrel.out
            rw [hwr]
            clear hwr hrel
            have hpl := HPL.out
            have hju := joinK_size HPZ.out k
            by_cases hlt : k < P.length
            · obtain ⟨g, hav, hc⟩ := HCL.out k hlt
              clear HCL
              obtain ⟨t, ht⟩ : ∃ t, P[k] = t := ⟨_, rfl⟩
              rw [ht] at hc
              have htz : t.size ≤ 48 := by rw [← ht]; exact HPZ.out _ (List.getElem_mem hlt)
              have HT : Hid (P.getD k ⟨#[]⟩ = t) := by show _ = _; rw [List.getD_eq_getElem?_getD, List.getElem?_eq_getElem hlt, ht]; rfl
              clear ht
              subst hav
              have hi : (k : Int) < (P.length : Int) := by omega
              have hi0 : (0 : Int) ≤ (k : Int) := by omega
              by_cases h0 : 0 < k
              · have h0i : (0 : Int) < (k : Int) := by omega
                have HJ : Hid (joinK P (k + 1) = joinK P k ++ ⟨#[44, 32]⟩ ++ t) := by show _ = _; rw [joinK, if_pos h0, HT.out]
                generalize joinK P k = u at HJ hju ⊢
                go_wp2
                go_roundw
                case rel =>
                  try ((repeat apply Exists.intro); refine ⟨?_, rfl⟩)
                  exact ⟨⟨k + 1, by omega, by go_num, by rw [HJ.out], by first | rfl | trivial⟩⟩
                case measure => simp [intOf]; omega
              · have h0i : ¬ (0 : Int) < (k : Int) := by omega
                have HJ : Hid (joinK P (k + 1) = joinK P k ++ t) := by show _ = _; rw [joinK, if_neg h0, HT.out]
                generalize joinK P k = u at HJ hju ⊢
                go_wp2
                go_roundw
                case rel =>
                  try ((repeat apply Exists.intro); refine ⟨?_, rfl⟩)
                  exact ⟨⟨k + 1, by omega, by go_num, by rw [HJ.out], by first | rfl | trivial⟩⟩
                case measure => simp [intOf]; omega
            · have hke : k = P.length := by omega
              have hi : ¬ (k : Int) < (P.length : Int) := by omega
              have HE : Hid (textC c0 = joinK P k) := by show _ = _; rw [← HC0.out]; unfold textC; rw [HP.out, hke]
              generalize joinK P k = u at HE hju ⊢
              clear hke
              go_wp2
              go_ret
              exact ⟨by rw [HE.out]; rfl, HBL.out⟩
        | true =>
          have E3 : Hid (inN sh 0 999999 = true) := e3
          obtain ⟨ds, hds⟩ : ∃ d : ByteArray, ⟨(decOf sh).toArray⟩ = d := ⟨_, rfl⟩
          have HH : Hid (∀ wi, Calls Tryd.prog 34 #[.int .i64 sh] wi fun e w2 => e = .returned (.string ds) ∧ Below wi.heap.size wi w2) := by intro wi; have h0 := of_decide_eq_true e3; rw [← hds]; exact specDecimal_any sh wi (by omega) (by omega)
          have hzds : ds.size ≤ 32 := by rw [← hds]; exact decOf_short (of_decide_eq_true e3)
          have HDds : Hid ((⟨(decOf sh).toArray⟩ : ByteArray) = ds) := hds
          clear hds
          clear e3
          go_enter Tryd.func31, Tryd.ntmps31
          go_wp2_with fail
          refine (in_any ma 0 999999 _).mono ?_
          rintro e wi ⟨rfl, hwi⟩
          rw [hwi, E2.out]
          clear hwi wi
          go_wp2_with fail
          refine (in_any sh 0 999999 _).mono ?_
          rintro e wi ⟨rfl, hwi⟩
          rw [hwi, E3.out]
          clear hwi wi
          go_wp2_with fail
          refine (HH.out _).mono ?_
          rintro e wd ⟨rfl, hbd⟩
          have HS : Hid (OwnV wd wb.heap.size 9 _ (strs []) ∧ Below wb.heap.size wb wd) := ⟨HS.out.1.below hbd (Nat.le_refl _), HS.out.2.trans (hbd.mono HS.out.2.size)⟩
          obtain ⟨b0, b1, b2, b3⟩ := (HB.out.2.on HS.out.2).cells
          dsimp only at b0 b1 b2 b3
          clear hbd
          go_wp2_with (at_builtin; (refine wpList_snocV rfl (.tmp 30) (.tmp 35) 44 rfl wb.heap.size 9 Tryd.underlying44 (.string ⟨#[]⟩) 16 Tryd.infoT10 rfl _ (strs []) rfl HS.out.1 (.string ((⟨sMaxL.toArray⟩ : ByteArray) ++ ds)) rfl rfl (by simp [strs]) (by simp [strs]) HS.out.2.size ?_; intro v1 w1 ho1 hn1 hb1 hz1; have HS : Hid (OwnV w1 wb.heap.size 9 v1 (strs [((⟨sMaxL.toArray⟩ : ByteArray) ++ ds)]) ∧ Below wb.heap.size wb w1) := ⟨ho1, hb1 _ HS.out.2⟩; obtain ⟨b0, b1, b2, b3⟩ := (HB.out.2.on HS.out.2).cells; dsimp only at b0 b1 b2 b3; clear ho1 hn1 hb1 hz1))
          have HP : Hid (wordsC ⟨false, false, ma, sh⟩ = [((⟨sMaxL.toArray⟩ : ByteArray) ++ ds)]) := by show _ = _; unfold wordsC; simp [E2.out, E3.out, HDds.out]
          obtain ⟨P, hP⟩ : ∃ P : List ByteArray, [((⟨sMaxL.toArray⟩ : ByteArray) ++ ds)] = P := ⟨_, rfl⟩
          rw [hP] at HS HP
          have HPL : Hid (P.length ≤ 4) := by show _ ≤ _; rw [← hP]; simp
          have HPZ : Hid (∀ p ∈ P, p.size ≤ 48) := by rw [← hP]; intro p hp; simp only [List.mem_cons, List.not_mem_nil, or_false] at hp; rcases hp with hp <;> rw [hp] <;> first | decide | (rw [ByteArray.size_append, show (⟨maxAgeL.toArray⟩ : ByteArray).size = 8 from rfl]; omega) | (rw [ByteArray.size_append, show (⟨sMaxL.toArray⟩ : ByteArray).size = 9 from rfl]; omega)
          clear hP
          obtain ⟨w9, hw9⟩ : ∃ w9, w1 = w9 := ⟨_, rfl⟩
          rw [hw9] at HS ⊢
          clear b0 b1 b2 b3 hw9
          obtain ⟨av, cv, hv, hcell⟩ := HS.out.1.shape
          rw [strs_length] at hv
          have HCL : Hid (∀ j (hj : j < P.length), ∃ g, av = some ⟨g, 0, none⟩ ∧ w9.cell? ⟨g, j, none⟩ = some (.string P[j])) := by
            intro j hj
            obtain ⟨g, h1, h2, _⟩ := hcell j (by rw [strs_length]; exact hj)
            rw [strs_at hj] at h2
            exact ⟨g, h1, h2⟩
          have HBL : Hid (Below w.heap.size w w9) := HB.out.1.trans (HS.out.2.mono HB.out.1.size)
          clear hcell HS HB
          subst hv
          go_loopw [4, 5] (fun s i wr => Box (∃ k : Nat, k ≤ P.length ∧ i = .int .i64 k ∧ s = .string (joinK P k) ∧ wr = w9))
            (fun _ i _ => P.length - (intOf i).toNat)
          case atStart => exact ⟨⟨0, by omega, rfl, rfl, rfl⟩⟩
          case round =>
            obtain ⟨k, hk, rfl, rfl, hwr⟩ := hrel.out
            rw [hwr]
            clear hwr hrel
            have hpl := HPL.out
            have hju := joinK_size HPZ.out k
            by_cases hlt : k < P.length
            · obtain ⟨g, hav, hc⟩ := HCL.out k hlt
              clear HCL
              obtain ⟨t, ht⟩ : ∃ t, P[k] = t := ⟨_, rfl⟩
              rw [ht] at hc
              have htz : t.size ≤ 48 := by rw [← ht]; exact HPZ.out _ (List.getElem_mem hlt)
              have HT : Hid (P.getD k ⟨#[]⟩ = t) := by show _ = _; rw [List.getD_eq_getElem?_getD, List.getElem?_eq_getElem hlt, ht]; rfl
              clear ht
              subst hav
              have hi : (k : Int) < (P.length : Int) := by omega
              have hi0 : (0 : Int) ≤ (k : Int) := by omega
              by_cases h0 : 0 < k
              · have h0i : (0 : Int) < (k : Int) := by omega
                have HJ : Hid (joinK P (k + 1) = joinK P k ++ ⟨#[44, 32]⟩ ++ t) := by show _ = _; rw [joinK, if_pos h0, HT.out]
                generalize joinK P k = u at HJ hju ⊢
                go_wp2
                go_roundw
                case rel =>
                  try ((repeat apply Exists.intro); refine ⟨?_, rfl⟩)
                  exact ⟨⟨k + 1, by omega, by go_num, by rw [HJ.out], by first | rfl | trivial⟩⟩
                case measure => simp [intOf]; omega
              · have h0i : ¬ (0 : Int) < (k : Int) := by omega
                have HJ : Hid (joinK P (k + 1) = joinK P k ++ t) := by show _ = _; rw [joinK, if_neg h0, HT.out]
                generalize joinK P k = u at HJ hju ⊢
                go_wp2
                go_roundw
                case rel =>
                  try ((repeat apply Exists.intro); refine ⟨?_, rfl⟩)
                  exact ⟨⟨k + 1, by omega, by go_num, by rw [HJ.out], by first | rfl | trivial⟩⟩
                case measure => simp [intOf]; omega
            · have hke : k = P.length := by omega
              have hi : ¬ (k : Int) < (P.length : Int) := by omega
              have HE : Hid (textC c0 = joinK P k) := by show _ = _; rw [← HC0.out]; unfold textC; rw [HP.out, hke]
              generalize joinK P k = u at HE hju ⊢
              clear hke
              go_wp2
              go_ret
              exact ⟨by rw [HE.out]; rfl, HBL.out⟩
      | true =>
        have E2 : Hid (inN ma 0 999999 = true) := e2
        obtain ⟨dm, hdm⟩ : ∃ d : ByteArray, ⟨(decOf ma).toArray⟩ = d := ⟨_, rfl⟩
        have HM : Hid (∀ wi, Calls Tryd.prog 34 #[.int .i64 ma] wi fun e w2 => e = .returned (.string dm) ∧ Below wi.heap.size wi w2) := by intro wi; have h0 := of_decide_eq_true e2; rw [← hdm]; exact specDecimal_any ma wi (by omega) (by omega)
        have hzdm : dm.size ≤ 32 := by rw [← hdm]; exact decOf_short (of_decide_eq_true e2)
        have HDdm : Hid ((⟨(decOf ma).toArray⟩ : ByteArray) = dm) := hdm
        clear hdm
        clear e2
        cases e3 : inN sh 0 999999 with
        | false =>
          have E3 : Hid (inN sh 0 999999 = false) := e3
          clear e3
          go_enter Tryd.func31, Tryd.ntmps31
          go_wp2_with fail
          refine (in_any ma 0 999999 _).mono ?_
          rintro e wi ⟨rfl, hwi⟩
          rw [hwi, E2.out]
          clear hwi wi
          go_wp2_with fail
          refine (HM.out _).mono ?_
          rintro e wd ⟨rfl, hbd⟩
          have HS : Hid (OwnV wd wb.heap.size 9 _ (strs []) ∧ Below wb.heap.size wb wd) := ⟨HS.out.1.below hbd (Nat.le_refl _), HS.out.2.trans (hbd.mono HS.out.2.size)⟩
          obtain ⟨b0, b1, b2, b3⟩ := (HB.out.2.on HS.out.2).cells
          dsimp only at b0 b1 b2 b3
          clear hbd
          go_wp2_with (at_builtin; (refine wpList_snocV rfl (.tmp 20) (.tmp 25) 44 rfl wb.heap.size 9 Tryd.underlying44 (.string ⟨#[]⟩) 16 Tryd.infoT10 rfl _ (strs []) rfl HS.out.1 (.string ((⟨maxAgeL.toArray⟩ : ByteArray) ++ dm)) rfl rfl (by simp [strs]) (by simp [strs]) HS.out.2.size ?_; intro v1 w1 ho1 hn1 hb1 hz1; have HS : Hid (OwnV w1 wb.heap.size 9 v1 (strs [((⟨maxAgeL.toArray⟩ : ByteArray) ++ dm)]) ∧ Below wb.heap.size wb w1) := ⟨ho1, hb1 _ HS.out.2⟩; obtain ⟨b0, b1, b2, b3⟩ := (HB.out.2.on HS.out.2).cells; dsimp only at b0 b1 b2 b3; clear ho1 hn1 hb1 hz1))
          refine (in_any sh 0 999999 _).mono ?_
          rintro e wi ⟨rfl, hwi⟩
          rw [hwi, E3.out]
          clear hwi wi
          go_wp2_with fail
          have HP : Hid (wordsC ⟨false, false, ma, sh⟩ = [((⟨maxAgeL.toArray⟩ : ByteArray) ++ dm)]) := by show _ = _; unfold wordsC; simp [E2.out, E3.out, HDdm.out]
          obtain ⟨P, hP⟩ : ∃ P : List ByteArray, [((⟨maxAgeL.toArray⟩ : ByteArray) ++ dm)] = P := ⟨_, rfl⟩
          rw [hP] at HS HP
          have HPL : Hid (P.length ≤ 4) := by show _ ≤ _; rw [← hP]; simp
          have HPZ : Hid (∀ p ∈ P, p.size ≤ 48) := by rw [← hP]; intro p hp; simp only [List.mem_cons, List.not_mem_nil, or_false] at hp; rcases hp with hp <;> rw [hp] <;> first | decide | (rw [ByteArray.size_append, show (⟨maxAgeL.toArray⟩ : ByteArray).size = 8 from rfl]; omega) | (rw [ByteArray.size_append, show (⟨sMaxL.toArray⟩ : ByteArray).size = 9 from rfl]; omega)
          clear hP
          obtain ⟨w9, hw9⟩ : ∃ w9, w1 = w9 := ⟨_, rfl⟩
          rw [hw9] at HS ⊢
          clear b0 b1 b2 b3 hw9
          obtain ⟨av, cv, hv, hcell⟩ := HS.out.1.shape
          rw [strs_length] at hv
          have HCL : Hid (∀ j (hj : j < P.length), ∃ g, av = some ⟨g, 0, none⟩ ∧ w9.cell? ⟨g, j, none⟩ = some (.string P[j])) := by
            intro j hj
            obtain ⟨g, h1, h2, _⟩ := hcell j (by rw [strs_length]; exact hj)
            rw [strs_at hj] at h2
            exact ⟨g, h1, h2⟩
          have HBL : Hid (Below w.heap.size w w9) := HB.out.1.trans (HS.out.2.mono HB.out.1.size)
          clear hcell HS HB
          subst hv
          go_loopw [4, 5] (fun s i wr => Box (∃ k : Nat, k ≤ P.length ∧ i = .int .i64 k ∧ s = .string (joinK P k) ∧ wr = w9))
            (fun _ i _ => P.length - (intOf i).toNat)
          case atStart => exact ⟨⟨0, by omega, rfl, rfl, rfl⟩⟩
          case round =>
            obtain ⟨k, hk, rfl, rfl, hwr⟩ := hrel.out
            rw [hwr]
            clear hwr hrel
            have hpl := HPL.out
            have hju := joinK_size HPZ.out k
            by_cases hlt : k < P.length
            · obtain ⟨g, hav, hc⟩ := HCL.out k hlt
              clear HCL
              obtain ⟨t, ht⟩ : ∃ t, P[k] = t := ⟨_, rfl⟩
              rw [ht] at hc
              have htz : t.size ≤ 48 := by rw [← ht]; exact HPZ.out _ (List.getElem_mem hlt)
              have HT : Hid (P.getD k ⟨#[]⟩ = t) := by show _ = _; rw [List.getD_eq_getElem?_getD, List.getElem?_eq_getElem hlt, ht]; rfl
              clear ht
              subst hav
              have hi : (k : Int) < (P.length : Int) := by omega
              have hi0 : (0 : Int) ≤ (k : Int) := by omega
              by_cases h0 : 0 < k
              · have h0i : (0 : Int) < (k : Int) := by omega
                have HJ : Hid (joinK P (k + 1) = joinK P k ++ ⟨#[44, 32]⟩ ++ t) := by show _ = _; rw [joinK, if_pos h0, HT.out]
                generalize joinK P k = u at HJ hju ⊢
                go_wp2
                go_roundw
                case rel =>
                  try ((repeat apply Exists.intro); refine ⟨?_, rfl⟩)
                  exact ⟨⟨k + 1, by omega, by go_num, by rw [HJ.out], by first | rfl | trivial⟩⟩
                case measure => simp [intOf]; omega
              · have h0i : ¬ (0 : Int) < (k : Int) := by omega
                have HJ : Hid (joinK P (k + 1) = joinK P k ++ t) := by show _ = _; rw [joinK, if_neg h0, HT.out]
                generalize joinK P k = u at HJ hju ⊢
                go_wp2
                go_roundw
                case rel =>
                  try ((repeat apply Exists.intro); refine ⟨?_, rfl⟩)
                  exact ⟨⟨k + 1, by omega, by go_num, by rw [HJ.out], by first | rfl | trivial⟩⟩
                case measure => simp [intOf]; omega
            · have hke : k = P.length := by omega
              have hi : ¬ (k : Int) < (P.length : Int) := by omega
              have HE : Hid (textC c0 = joinK P k) := by show _ = _; rw [← HC0.out]; unfold textC; rw [HP.out, hke]
              generalize joinK P k = u at HE hju ⊢
              clear hke
              go_wp2
              go_ret
              exact ⟨by rw [HE.out]; rfl, HBL.out⟩
        | true =>
          have E3 : Hid (inN sh 0 999999 = true) := e3
          obtain ⟨ds, hds⟩ : ∃ d : ByteArray, ⟨(decOf sh).toArray⟩ = d := ⟨_, rfl⟩
          have HH : Hid (∀ wi, Calls Tryd.prog 34 #[.int .i64 sh] wi fun e w2 => e = .returned (.string ds) ∧ Below wi.heap.size wi w2) := by intro wi; have h0 := of_decide_eq_true e3; rw [← hds]; exact specDecimal_any sh wi (by omega) (by omega)
          have hzds : ds.size ≤ 32 := by rw [← hds]; exact decOf_short (of_decide_eq_true e3)
          have HDds : Hid ((⟨(decOf sh).toArray⟩ : ByteArray) = ds) := hds
          clear hds
          clear e3
          go_enter Tryd.func31, Tryd.ntmps31
          go_wp2_with fail
          refine (in_any ma 0 999999 _).mono ?_
          rintro e wi ⟨rfl, hwi⟩
          rw [hwi, E2.out]
          clear hwi wi
          go_wp2_with fail
          refine (HM.out _).mono ?_
          rintro e wd ⟨rfl, hbd⟩
          have HS : Hid (OwnV wd wb.heap.size 9 _ (strs []) ∧ Below wb.heap.size wb wd) := ⟨HS.out.1.below hbd (Nat.le_refl _), HS.out.2.trans (hbd.mono HS.out.2.size)⟩
          obtain ⟨b0, b1, b2, b3⟩ := (HB.out.2.on HS.out.2).cells
          dsimp only at b0 b1 b2 b3
          clear hbd
          go_wp2_with (at_builtin; (refine wpList_snocV rfl (.tmp 20) (.tmp 25) 44 rfl wb.heap.size 9 Tryd.underlying44 (.string ⟨#[]⟩) 16 Tryd.infoT10 rfl _ (strs []) rfl HS.out.1 (.string ((⟨maxAgeL.toArray⟩ : ByteArray) ++ dm)) rfl rfl (by simp [strs]) (by simp [strs]) HS.out.2.size ?_; intro v1 w1 ho1 hn1 hb1 hz1; have HS : Hid (OwnV w1 wb.heap.size 9 v1 (strs [((⟨maxAgeL.toArray⟩ : ByteArray) ++ dm)]) ∧ Below wb.heap.size wb w1) := ⟨ho1, hb1 _ HS.out.2⟩; obtain ⟨b0, b1, b2, b3⟩ := (HB.out.2.on HS.out.2).cells; dsimp only at b0 b1 b2 b3; clear ho1 hn1 hb1 hz1))
          refine (in_any sh 0 999999 _).mono ?_
          rintro e wi ⟨rfl, hwi⟩
          rw [hwi, E3.out]
          clear hwi wi
          go_wp2_with fail
          refine (HH.out _).mono ?_
          rintro e wd ⟨rfl, hbd⟩
          have HS : Hid (OwnV wd wb.heap.size 9 _ (strs [((⟨maxAgeL.toArray⟩ : ByteArray) ++ dm)]) ∧ Below wb.heap.size wb wd) := ⟨HS.out.1.below hbd (Nat.le_refl _), HS.out.2.trans (hbd.mono HS.out.2.size)⟩
          obtain ⟨b0, b1, b2, b3⟩ := (HB.out.2.on HS.out.2).cells
          dsimp only at b0 b1 b2 b3
          clear hbd
          go_wp2_with (at_builtin; (refine wpList_snocV rfl (.tmp 30) (.tmp 35) 44 rfl wb.heap.size 9 Tryd.underlying44 (.string ⟨#[]⟩) 16 Tryd.infoT10 rfl _ (strs [((⟨maxAgeL.toArray⟩ : ByteArray) ++ dm)]) rfl HS.out.1 (.string ((⟨sMaxL.toArray⟩ : ByteArray) ++ ds)) rfl rfl (by simp [strs]) (by simp [strs]) HS.out.2.size ?_; intro v1 w1 ho1 hn1 hb1 hz1; have HS : Hid (OwnV w1 wb.heap.size 9 v1 (strs [((⟨maxAgeL.toArray⟩ : ByteArray) ++ dm), ((⟨sMaxL.toArray⟩ : ByteArray) ++ ds)]) ∧ Below wb.heap.size wb w1) := ⟨ho1, hb1 _ HS.out.2⟩; obtain ⟨b0, b1, b2, b3⟩ := (HB.out.2.on HS.out.2).cells; dsimp only at b0 b1 b2 b3; clear ho1 hn1 hb1 hz1))
          have HP : Hid (wordsC ⟨false, false, ma, sh⟩ = [((⟨maxAgeL.toArray⟩ : ByteArray) ++ dm), ((⟨sMaxL.toArray⟩ : ByteArray) ++ ds)]) := by show _ = _; unfold wordsC; simp [E2.out, E3.out, HDdm.out, HDds.out]
          obtain ⟨P, hP⟩ : ∃ P : List ByteArray, [((⟨maxAgeL.toArray⟩ : ByteArray) ++ dm), ((⟨sMaxL.toArray⟩ : ByteArray) ++ ds)] = P := ⟨_, rfl⟩
          rw [hP] at HS HP
          have HPL : Hid (P.length ≤ 4) := by show _ ≤ _; rw [← hP]; simp
          have HPZ : Hid (∀ p ∈ P, p.size ≤ 48) := by rw [← hP]; intro p hp; simp only [List.mem_cons, List.not_mem_nil, or_false] at hp; rcases hp with hp | hp <;> rw [hp] <;> first | decide | (rw [ByteArray.size_append, show (⟨maxAgeL.toArray⟩ : ByteArray).size = 8 from rfl]; omega) | (rw [ByteArray.size_append, show (⟨sMaxL.toArray⟩ : ByteArray).size = 9 from rfl]; omega)
          clear hP
          obtain ⟨w9, hw9⟩ : ∃ w9, w1 = w9 := ⟨_, rfl⟩
          rw [hw9] at HS ⊢
          clear b0 b1 b2 b3 hw9
          obtain ⟨av, cv, hv, hcell⟩ := HS.out.1.shape
          rw [strs_length] at hv
          have HCL : Hid (∀ j (hj : j < P.length), ∃ g, av = some ⟨g, 0, none⟩ ∧ w9.cell? ⟨g, j, none⟩ = some (.string P[j])) := by
            intro j hj
            obtain ⟨g, h1, h2, _⟩ := hcell j (by rw [strs_length]; exact hj)
            rw [strs_at hj] at h2
            exact ⟨g, h1, h2⟩
          have HBL : Hid (Below w.heap.size w w9) := HB.out.1.trans (HS.out.2.mono HB.out.1.size)
          clear hcell HS HB
          subst hv
          go_loopw [4, 5] (fun s i wr => Box (∃ k : Nat, k ≤ P.length ∧ i = .int .i64 k ∧ s = .string (joinK P k) ∧ wr = w9))
            (fun _ i _ => P.length - (intOf i).toNat)
          case atStart => exact ⟨⟨0, by omega, rfl, rfl, rfl⟩⟩
          case round =>
            obtain ⟨k, hk, rfl, rfl, hwr⟩ := hrel.out
            rw [hwr]
            clear hwr hrel
            have hpl := HPL.out
            have hju := joinK_size HPZ.out k
            by_cases hlt : k < P.length
            · obtain ⟨g, hav, hc⟩ := HCL.out k hlt
              clear HCL
              obtain ⟨t, ht⟩ : ∃ t, P[k] = t := ⟨_, rfl⟩
              rw [ht] at hc
              have htz : t.size ≤ 48 := by rw [← ht]; exact HPZ.out _ (List.getElem_mem hlt)
              have HT : Hid (P.getD k ⟨#[]⟩ = t) := by show _ = _; rw [List.getD_eq_getElem?_getD, List.getElem?_eq_getElem hlt, ht]; rfl
              clear ht
              subst hav
              have hi : (k : Int) < (P.length : Int) := by omega
              have hi0 : (0 : Int) ≤ (k : Int) := by omega
              by_cases h0 : 0 < k
              · have h0i : (0 : Int) < (k : Int) := by omega
                have HJ : Hid (joinK P (k + 1) = joinK P k ++ ⟨#[44, 32]⟩ ++ t) := by show _ = _; rw [joinK, if_pos h0, HT.out]
                generalize joinK P k = u at HJ hju ⊢
                go_wp2
                go_roundw
                case rel =>
                  try ((repeat apply Exists.intro); refine ⟨?_, rfl⟩)
                  exact ⟨⟨k + 1, by omega, by go_num, by rw [HJ.out], by first | rfl | trivial⟩⟩
                case measure => simp [intOf]; omega
              · have h0i : ¬ (0 : Int) < (k : Int) := by omega
                have HJ : Hid (joinK P (k + 1) = joinK P k ++ t) := by show _ = _; rw [joinK, if_neg h0, HT.out]
                generalize joinK P k = u at HJ hju ⊢
                go_wp2
                go_roundw
                case rel =>
                  try ((repeat apply Exists.intro); refine ⟨?_, rfl⟩)
                  exact ⟨⟨k + 1, by omega, by go_num, by rw [HJ.out], by first | rfl | trivial⟩⟩
                case measure => simp [intOf]; omega
            · have hke : k = P.length := by omega
              have hi : ¬ (k : Int) < (P.length : Int) := by omega
              have HE : Hid (textC c0 = joinK P k) := by show _ = _; rw [← HC0.out]; unfold textC; rw [HP.out, hke]
              generalize joinK P k = u at HE hju ⊢
              clear hke
              go_wp2
              go_ret
              exact ⟨by rw [HE.out]; rfl, HBL.out⟩
    | true =>
      cases e2 : inN ma 0 999999 with
      | false =>
        have E2 : Hid (inN ma 0 999999 = false) := e2
        clear e2
        cases e3 : inN sh 0 999999 with
        | false =>
          have E3 : Hid (inN sh 0 999999 = false) := e3
          clear e3
          go_enter Tryd.func31, Tryd.ntmps31
          go_wp2_with (at_builtin; first | (refine wpList_snocV rfl (.tmp 14) (.tmp 15) 44 rfl wb.heap.size 9 Tryd.underlying44 (.string ⟨#[]⟩) 16 Tryd.infoT10 rfl _ (strs []) rfl HS.out.1 (.string (⟨noCacheL.toArray⟩ : ByteArray)) rfl rfl (by simp [strs]) (by simp [strs]) HS.out.2.size ?_; intro v1 w1 ho1 hn1 hb1 hz1; have HS : Hid (OwnV w1 wb.heap.size 9 v1 (strs [(⟨noCacheL.toArray⟩ : ByteArray)]) ∧ Below wb.heap.size wb w1) := ⟨ho1, hb1 _ HS.out.2⟩; obtain ⟨b0, b1, b2, b3⟩ := (HB.out.2.on HS.out.2).cells; dsimp only at b0 b1 b2 b3; clear ho1 hn1 hb1 hz1))
          refine (in_any ma 0 999999 _).mono ?_
          rintro e wi ⟨rfl, hwi⟩
          rw [hwi, E2.out]
          clear hwi wi
          go_wp2_with fail
          refine (in_any sh 0 999999 _).mono ?_
          rintro e wi ⟨rfl, hwi⟩
          rw [hwi, E3.out]
          clear hwi wi
          go_wp2_with fail
          have HP : Hid (wordsC ⟨false, true, ma, sh⟩ = [(⟨noCacheL.toArray⟩ : ByteArray)]) := by show _ = _; unfold wordsC; simp [E2.out, E3.out]
          obtain ⟨P, hP⟩ : ∃ P : List ByteArray, [(⟨noCacheL.toArray⟩ : ByteArray)] = P := ⟨_, rfl⟩
          rw [hP] at HS HP
          have HPL : Hid (P.length ≤ 4) := by show _ ≤ _; rw [← hP]; simp
          have HPZ : Hid (∀ p ∈ P, p.size ≤ 48) := by rw [← hP]; intro p hp; simp only [List.mem_cons, List.not_mem_nil, or_false] at hp; rcases hp with hp <;> rw [hp] <;> first | decide | (rw [ByteArray.size_append, show (⟨maxAgeL.toArray⟩ : ByteArray).size = 8 from rfl]; omega) | (rw [ByteArray.size_append, show (⟨sMaxL.toArray⟩ : ByteArray).size = 9 from rfl]; omega)
          clear hP
          obtain ⟨w9, hw9⟩ : ∃ w9, w1 = w9 := ⟨_, rfl⟩
          rw [hw9] at HS ⊢
          clear b0 b1 b2 b3 hw9
          obtain ⟨av, cv, hv, hcell⟩ := HS.out.1.shape
          rw [strs_length] at hv
          have HCL : Hid (∀ j (hj : j < P.length), ∃ g, av = some ⟨g, 0, none⟩ ∧ w9.cell? ⟨g, j, none⟩ = some (.string P[j])) := by
            intro j hj
            obtain ⟨g, h1, h2, _⟩ := hcell j (by rw [strs_length]; exact hj)
            rw [strs_at hj] at h2
            exact ⟨g, h1, h2⟩
          have HBL : Hid (Below w.heap.size w w9) := HB.out.1.trans (HS.out.2.mono HB.out.1.size)
          clear hcell HS HB
          subst hv
          go_loopw [4, 5] (fun s i wr => Box (∃ k : Nat, k ≤ P.length ∧ i = .int .i64 k ∧ s = .string (joinK P k) ∧ wr = w9))
            (fun _ i _ => P.length - (intOf i).toNat)
          case atStart => exact ⟨⟨0, by omega, rfl, rfl, rfl⟩⟩
          case round =>
            obtain ⟨k, hk, rfl, rfl, hwr⟩ := hrel.out
            rw [hwr]
            clear hwr hrel
            have hpl := HPL.out
            have hju := joinK_size HPZ.out k
            by_cases hlt : k < P.length
            · obtain ⟨g, hav, hc⟩ := HCL.out k hlt
              clear HCL
              obtain ⟨t, ht⟩ : ∃ t, P[k] = t := ⟨_, rfl⟩
              rw [ht] at hc
              have htz : t.size ≤ 48 := by rw [← ht]; exact HPZ.out _ (List.getElem_mem hlt)
              have HT : Hid (P.getD k ⟨#[]⟩ = t) := by show _ = _; rw [List.getD_eq_getElem?_getD, List.getElem?_eq_getElem hlt, ht]; rfl
              clear ht
              subst hav
              have hi : (k : Int) < (P.length : Int) := by omega
              have hi0 : (0 : Int) ≤ (k : Int) := by omega
              by_cases h0 : 0 < k
              · have h0i : (0 : Int) < (k : Int) := by omega
                have HJ : Hid (joinK P (k + 1) = joinK P k ++ ⟨#[44, 32]⟩ ++ t) := by show _ = _; rw [joinK, if_pos h0, HT.out]
                generalize joinK P k = u at HJ hju ⊢
                go_wp2
                go_roundw
                case rel =>
                  try ((repeat apply Exists.intro); refine ⟨?_, rfl⟩)
                  exact ⟨⟨k + 1, by omega, by go_num, by rw [HJ.out], by first | rfl | trivial⟩⟩
                case measure => simp [intOf]; omega
              · have h0i : ¬ (0 : Int) < (k : Int) := by omega
                have HJ : Hid (joinK P (k + 1) = joinK P k ++ t) := by show _ = _; rw [joinK, if_neg h0, HT.out]
                generalize joinK P k = u at HJ hju ⊢
                go_wp2
                go_roundw
                case rel =>
                  try ((repeat apply Exists.intro); refine ⟨?_, rfl⟩)
                  exact ⟨⟨k + 1, by omega, by go_num, by rw [HJ.out], by first | rfl | trivial⟩⟩
                case measure => simp [intOf]; omega
            · have hke : k = P.length := by omega
              have hi : ¬ (k : Int) < (P.length : Int) := by omega
              have HE : Hid (textC c0 = joinK P k) := by show _ = _; rw [← HC0.out]; unfold textC; rw [HP.out, hke]
              generalize joinK P k = u at HE hju ⊢
              clear hke
              go_wp2
              go_ret
              exact ⟨by rw [HE.out]; rfl, HBL.out⟩
        | true =>
          have E3 : Hid (inN sh 0 999999 = true) := e3
          obtain ⟨ds, hds⟩ : ∃ d : ByteArray, ⟨(decOf sh).toArray⟩ = d := ⟨_, rfl⟩
          have HH : Hid (∀ wi, Calls Tryd.prog 34 #[.int .i64 sh] wi fun e w2 => e = .returned (.string ds) ∧ Below wi.heap.size wi w2) := by intro wi; have h0 := of_decide_eq_true e3; rw [← hds]; exact specDecimal_any sh wi (by omega) (by omega)
          have hzds : ds.size ≤ 32 := by rw [← hds]; exact decOf_short (of_decide_eq_true e3)
          have HDds : Hid ((⟨(decOf sh).toArray⟩ : ByteArray) = ds) := hds
          clear hds
          clear e3
          go_enter Tryd.func31, Tryd.ntmps31
          go_wp2_with (at_builtin; first | (refine wpList_snocV rfl (.tmp 14) (.tmp 15) 44 rfl wb.heap.size 9 Tryd.underlying44 (.string ⟨#[]⟩) 16 Tryd.infoT10 rfl _ (strs []) rfl HS.out.1 (.string (⟨noCacheL.toArray⟩ : ByteArray)) rfl rfl (by simp [strs]) (by simp [strs]) HS.out.2.size ?_; intro v1 w1 ho1 hn1 hb1 hz1; have HS : Hid (OwnV w1 wb.heap.size 9 v1 (strs [(⟨noCacheL.toArray⟩ : ByteArray)]) ∧ Below wb.heap.size wb w1) := ⟨ho1, hb1 _ HS.out.2⟩; obtain ⟨b0, b1, b2, b3⟩ := (HB.out.2.on HS.out.2).cells; dsimp only at b0 b1 b2 b3; clear ho1 hn1 hb1 hz1))
          refine (in_any ma 0 999999 _).mono ?_
          rintro e wi ⟨rfl, hwi⟩
          rw [hwi, E2.out]
          clear hwi wi
          go_wp2_with fail
          refine (in_any sh 0 999999 _).mono ?_
          rintro e wi ⟨rfl, hwi⟩
          rw [hwi, E3.out]
          clear hwi wi
          go_wp2_with fail
          refine (HH.out _).mono ?_
          rintro e wd ⟨rfl, hbd⟩
          have HS : Hid (OwnV wd wb.heap.size 9 _ (strs [(⟨noCacheL.toArray⟩ : ByteArray)]) ∧ Below wb.heap.size wb wd) := ⟨HS.out.1.below hbd (Nat.le_refl _), HS.out.2.trans (hbd.mono HS.out.2.size)⟩
          obtain ⟨b0, b1, b2, b3⟩ := (HB.out.2.on HS.out.2).cells
          dsimp only at b0 b1 b2 b3
          clear hbd
          go_wp2_with (at_builtin; (refine wpList_snocV rfl (.tmp 30) (.tmp 35) 44 rfl wb.heap.size 9 Tryd.underlying44 (.string ⟨#[]⟩) 16 Tryd.infoT10 rfl _ (strs [(⟨noCacheL.toArray⟩ : ByteArray)]) rfl HS.out.1 (.string ((⟨sMaxL.toArray⟩ : ByteArray) ++ ds)) rfl rfl (by simp [strs]) (by simp [strs]) HS.out.2.size ?_; intro v1 w1 ho1 hn1 hb1 hz1; have HS : Hid (OwnV w1 wb.heap.size 9 v1 (strs [(⟨noCacheL.toArray⟩ : ByteArray), ((⟨sMaxL.toArray⟩ : ByteArray) ++ ds)]) ∧ Below wb.heap.size wb w1) := ⟨ho1, hb1 _ HS.out.2⟩; obtain ⟨b0, b1, b2, b3⟩ := (HB.out.2.on HS.out.2).cells; dsimp only at b0 b1 b2 b3; clear ho1 hn1 hb1 hz1))
          have HP : Hid (wordsC ⟨false, true, ma, sh⟩ = [(⟨noCacheL.toArray⟩ : ByteArray), ((⟨sMaxL.toArray⟩ : ByteArray) ++ ds)]) := by show _ = _; unfold wordsC; simp [E2.out, E3.out, HDds.out]
          obtain ⟨P, hP⟩ : ∃ P : List ByteArray, [(⟨noCacheL.toArray⟩ : ByteArray), ((⟨sMaxL.toArray⟩ : ByteArray) ++ ds)] = P := ⟨_, rfl⟩
          rw [hP] at HS HP
          have HPL : Hid (P.length ≤ 4) := by show _ ≤ _; rw [← hP]; simp
          have HPZ : Hid (∀ p ∈ P, p.size ≤ 48) := by rw [← hP]; intro p hp; simp only [List.mem_cons, List.not_mem_nil, or_false] at hp; rcases hp with hp | hp <;> rw [hp] <;> first | decide | (rw [ByteArray.size_append, show (⟨maxAgeL.toArray⟩ : ByteArray).size = 8 from rfl]; omega) | (rw [ByteArray.size_append, show (⟨sMaxL.toArray⟩ : ByteArray).size = 9 from rfl]; omega)
          clear hP
          obtain ⟨w9, hw9⟩ : ∃ w9, w1 = w9 := ⟨_, rfl⟩
          rw [hw9] at HS ⊢
          clear b0 b1 b2 b3 hw9
          obtain ⟨av, cv, hv, hcell⟩ := HS.out.1.shape
          rw [strs_length] at hv
          have HCL : Hid (∀ j (hj : j < P.length), ∃ g, av = some ⟨g, 0, none⟩ ∧ w9.cell? ⟨g, j, none⟩ = some (.string P[j])) := by
            intro j hj
            obtain ⟨g, h1, h2, _⟩ := hcell j (by rw [strs_length]; exact hj)
            rw [strs_at hj] at h2
            exact ⟨g, h1, h2⟩
          have HBL : Hid (Below w.heap.size w w9) := HB.out.1.trans (HS.out.2.mono HB.out.1.size)
          clear hcell HS HB
          subst hv
          go_loopw [4, 5] (fun s i wr => Box (∃ k : Nat, k ≤ P.length ∧ i = .int .i64 k ∧ s = .string (joinK P k) ∧ wr = w9))
            (fun _ i _ => P.length - (intOf i).toNat)
          case atStart => exact ⟨⟨0, by omega, rfl, rfl, rfl⟩⟩
          case round =>
            obtain ⟨k, hk, rfl, rfl, hwr⟩ := hrel.out
            rw [hwr]
            clear hwr hrel
            have hpl := HPL.out
            have hju := joinK_size HPZ.out k
            by_cases hlt : k < P.length
            · obtain ⟨g, hav, hc⟩ := HCL.out k hlt
              clear HCL
              obtain ⟨t, ht⟩ : ∃ t, P[k] = t := ⟨_, rfl⟩
              rw [ht] at hc
              have htz : t.size ≤ 48 := by rw [← ht]; exact HPZ.out _ (List.getElem_mem hlt)
              have HT : Hid (P.getD k ⟨#[]⟩ = t) := by show _ = _; rw [List.getD_eq_getElem?_getD, List.getElem?_eq_getElem hlt, ht]; rfl
              clear ht
              subst hav
              have hi : (k : Int) < (P.length : Int) := by omega
              have hi0 : (0 : Int) ≤ (k : Int) := by omega
              by_cases h0 : 0 < k
              · have h0i : (0 : Int) < (k : Int) := by omega
                have HJ : Hid (joinK P (k + 1) = joinK P k ++ ⟨#[44, 32]⟩ ++ t) := by show _ = _; rw [joinK, if_pos h0, HT.out]
                generalize joinK P k = u at HJ hju ⊢
                go_wp2
                go_roundw
                case rel =>
                  try ((repeat apply Exists.intro); refine ⟨?_, rfl⟩)
                  exact ⟨⟨k + 1, by omega, by go_num, by rw [HJ.out], by first | rfl | trivial⟩⟩
                case measure => simp [intOf]; omega
              · have h0i : ¬ (0 : Int) < (k : Int) := by omega
                have HJ : Hid (joinK P (k + 1) = joinK P k ++ t) := by show _ = _; rw [joinK, if_neg h0, HT.out]
                generalize joinK P k = u at HJ hju ⊢
                go_wp2
                go_roundw
                case rel =>
                  try ((repeat apply Exists.intro); refine ⟨?_, rfl⟩)
                  exact ⟨⟨k + 1, by omega, by go_num, by rw [HJ.out], by first | rfl | trivial⟩⟩
                case measure => simp [intOf]; omega
            · have hke : k = P.length := by omega
              have hi : ¬ (k : Int) < (P.length : Int) := by omega
              have HE : Hid (textC c0 = joinK P k) := by show _ = _; rw [← HC0.out]; unfold textC; rw [HP.out, hke]
              generalize joinK P k = u at HE hju ⊢
              clear hke
              go_wp2
              go_ret
              exact ⟨by rw [HE.out]; rfl, HBL.out⟩
      | true =>
        have E2 : Hid (inN ma 0 999999 = true) := e2
        obtain ⟨dm, hdm⟩ : ∃ d : ByteArray, ⟨(decOf ma).toArray⟩ = d := ⟨_, rfl⟩
        have HM : Hid (∀ wi, Calls Tryd.prog 34 #[.int .i64 ma] wi fun e w2 => e = .returned (.string dm) ∧ Below wi.heap.size wi w2) := by intro wi; have h0 := of_decide_eq_true e2; rw [← hdm]; exact specDecimal_any ma wi (by omega) (by omega)
        have hzdm : dm.size ≤ 32 := by rw [← hdm]; exact decOf_short (of_decide_eq_true e2)
        have HDdm : Hid ((⟨(decOf ma).toArray⟩ : ByteArray) = dm) := hdm
        clear hdm
        clear e2
        cases e3 : inN sh 0 999999 with
        | false =>
          have E3 : Hid (inN sh 0 999999 = false) := e3
          clear e3
          go_enter Tryd.func31, Tryd.ntmps31
          go_wp2_with (at_builtin; first | (refine wpList_snocV rfl (.tmp 14) (.tmp 15) 44 rfl wb.heap.size 9 Tryd.underlying44 (.string ⟨#[]⟩) 16 Tryd.infoT10 rfl _ (strs []) rfl HS.out.1 (.string (⟨noCacheL.toArray⟩ : ByteArray)) rfl rfl (by simp [strs]) (by simp [strs]) HS.out.2.size ?_; intro v1 w1 ho1 hn1 hb1 hz1; have HS : Hid (OwnV w1 wb.heap.size 9 v1 (strs [(⟨noCacheL.toArray⟩ : ByteArray)]) ∧ Below wb.heap.size wb w1) := ⟨ho1, hb1 _ HS.out.2⟩; obtain ⟨b0, b1, b2, b3⟩ := (HB.out.2.on HS.out.2).cells; dsimp only at b0 b1 b2 b3; clear ho1 hn1 hb1 hz1))
          refine (in_any ma 0 999999 _).mono ?_
          rintro e wi ⟨rfl, hwi⟩
          rw [hwi, E2.out]
          clear hwi wi
          go_wp2_with fail
          refine (HM.out _).mono ?_
          rintro e wd ⟨rfl, hbd⟩
          have HS : Hid (OwnV wd wb.heap.size 9 _ (strs [(⟨noCacheL.toArray⟩ : ByteArray)]) ∧ Below wb.heap.size wb wd) := ⟨HS.out.1.below hbd (Nat.le_refl _), HS.out.2.trans (hbd.mono HS.out.2.size)⟩
          obtain ⟨b0, b1, b2, b3⟩ := (HB.out.2.on HS.out.2).cells
          dsimp only at b0 b1 b2 b3
          clear hbd
          go_wp2_with (at_builtin; (refine wpList_snocV rfl (.tmp 20) (.tmp 25) 44 rfl wb.heap.size 9 Tryd.underlying44 (.string ⟨#[]⟩) 16 Tryd.infoT10 rfl _ (strs [(⟨noCacheL.toArray⟩ : ByteArray)]) rfl HS.out.1 (.string ((⟨maxAgeL.toArray⟩ : ByteArray) ++ dm)) rfl rfl (by simp [strs]) (by simp [strs]) HS.out.2.size ?_; intro v1 w1 ho1 hn1 hb1 hz1; have HS : Hid (OwnV w1 wb.heap.size 9 v1 (strs [(⟨noCacheL.toArray⟩ : ByteArray), ((⟨maxAgeL.toArray⟩ : ByteArray) ++ dm)]) ∧ Below wb.heap.size wb w1) := ⟨ho1, hb1 _ HS.out.2⟩; obtain ⟨b0, b1, b2, b3⟩ := (HB.out.2.on HS.out.2).cells; dsimp only at b0 b1 b2 b3; clear ho1 hn1 hb1 hz1))
          refine (in_any sh 0 999999 _).mono ?_
          rintro e wi ⟨rfl, hwi⟩
          rw [hwi, E3.out]
          clear hwi wi
          go_wp2_with fail
          have HP : Hid (wordsC ⟨false, true, ma, sh⟩ = [(⟨noCacheL.toArray⟩ : ByteArray), ((⟨maxAgeL.toArray⟩ : ByteArray) ++ dm)]) := by show _ = _; unfold wordsC; simp [E2.out, E3.out, HDdm.out]
          obtain ⟨P, hP⟩ : ∃ P : List ByteArray, [(⟨noCacheL.toArray⟩ : ByteArray), ((⟨maxAgeL.toArray⟩ : ByteArray) ++ dm)] = P := ⟨_, rfl⟩
          rw [hP] at HS HP
          have HPL : Hid (P.length ≤ 4) := by show _ ≤ _; rw [← hP]; simp
          have HPZ : Hid (∀ p ∈ P, p.size ≤ 48) := by rw [← hP]; intro p hp; simp only [List.mem_cons, List.not_mem_nil, or_false] at hp; rcases hp with hp | hp <;> rw [hp] <;> first | decide | (rw [ByteArray.size_append, show (⟨maxAgeL.toArray⟩ : ByteArray).size = 8 from rfl]; omega) | (rw [ByteArray.size_append, show (⟨sMaxL.toArray⟩ : ByteArray).size = 9 from rfl]; omega)
          clear hP
          obtain ⟨w9, hw9⟩ : ∃ w9, w1 = w9 := ⟨_, rfl⟩
          rw [hw9] at HS ⊢
          clear b0 b1 b2 b3 hw9
          obtain ⟨av, cv, hv, hcell⟩ := HS.out.1.shape
          rw [strs_length] at hv
          have HCL : Hid (∀ j (hj : j < P.length), ∃ g, av = some ⟨g, 0, none⟩ ∧ w9.cell? ⟨g, j, none⟩ = some (.string P[j])) := by
            intro j hj
            obtain ⟨g, h1, h2, _⟩ := hcell j (by rw [strs_length]; exact hj)
            rw [strs_at hj] at h2
            exact ⟨g, h1, h2⟩
          have HBL : Hid (Below w.heap.size w w9) := HB.out.1.trans (HS.out.2.mono HB.out.1.size)
          clear hcell HS HB
          subst hv
          go_loopw [4, 5] (fun s i wr => Box (∃ k : Nat, k ≤ P.length ∧ i = .int .i64 k ∧ s = .string (joinK P k) ∧ wr = w9))
            (fun _ i _ => P.length - (intOf i).toNat)
          case atStart => exact ⟨⟨0, by omega, rfl, rfl, rfl⟩⟩
          case round =>
            obtain ⟨k, hk, rfl, rfl, hwr⟩ := hrel.out
            rw [hwr]
            clear hwr hrel
            have hpl := HPL.out
            have hju := joinK_size HPZ.out k
            by_cases hlt : k < P.length
            · obtain ⟨g, hav, hc⟩ := HCL.out k hlt
              clear HCL
              obtain ⟨t, ht⟩ : ∃ t, P[k] = t := ⟨_, rfl⟩
              rw [ht] at hc
              have htz : t.size ≤ 48 := by rw [← ht]; exact HPZ.out _ (List.getElem_mem hlt)
              have HT : Hid (P.getD k ⟨#[]⟩ = t) := by show _ = _; rw [List.getD_eq_getElem?_getD, List.getElem?_eq_getElem hlt, ht]; rfl
              clear ht
              subst hav
              have hi : (k : Int) < (P.length : Int) := by omega
              have hi0 : (0 : Int) ≤ (k : Int) := by omega
              by_cases h0 : 0 < k
              · have h0i : (0 : Int) < (k : Int) := by omega
                have HJ : Hid (joinK P (k + 1) = joinK P k ++ ⟨#[44, 32]⟩ ++ t) := by show _ = _; rw [joinK, if_pos h0, HT.out]
                generalize joinK P k = u at HJ hju ⊢
                go_wp2
                go_roundw
                case rel =>
                  try ((repeat apply Exists.intro); refine ⟨?_, rfl⟩)
                  exact ⟨⟨k + 1, by omega, by go_num, by rw [HJ.out], by first | rfl | trivial⟩⟩
                case measure => simp [intOf]; omega
              · have h0i : ¬ (0 : Int) < (k : Int) := by omega
                have HJ : Hid (joinK P (k + 1) = joinK P k ++ t) := by show _ = _; rw [joinK, if_neg h0, HT.out]
                generalize joinK P k = u at HJ hju ⊢
                go_wp2
                go_roundw
                case rel =>
                  try ((repeat apply Exists.intro); refine ⟨?_, rfl⟩)
                  exact ⟨⟨k + 1, by omega, by go_num, by rw [HJ.out], by first | rfl | trivial⟩⟩
                case measure => simp [intOf]; omega
            · have hke : k = P.length := by omega
              have hi : ¬ (k : Int) < (P.length : Int) := by omega
              have HE : Hid (textC c0 = joinK P k) := by show _ = _; rw [← HC0.out]; unfold textC; rw [HP.out, hke]
              generalize joinK P k = u at HE hju ⊢
              clear hke
              go_wp2
              go_ret
              exact ⟨by rw [HE.out]; rfl, HBL.out⟩
        | true =>
          have E3 : Hid (inN sh 0 999999 = true) := e3
          obtain ⟨ds, hds⟩ : ∃ d : ByteArray, ⟨(decOf sh).toArray⟩ = d := ⟨_, rfl⟩
          have HH : Hid (∀ wi, Calls Tryd.prog 34 #[.int .i64 sh] wi fun e w2 => e = .returned (.string ds) ∧ Below wi.heap.size wi w2) := by intro wi; have h0 := of_decide_eq_true e3; rw [← hds]; exact specDecimal_any sh wi (by omega) (by omega)
          have hzds : ds.size ≤ 32 := by rw [← hds]; exact decOf_short (of_decide_eq_true e3)
          have HDds : Hid ((⟨(decOf sh).toArray⟩ : ByteArray) = ds) := hds
          clear hds
          clear e3
          go_enter Tryd.func31, Tryd.ntmps31
          go_wp2_with (at_builtin; first | (refine wpList_snocV rfl (.tmp 14) (.tmp 15) 44 rfl wb.heap.size 9 Tryd.underlying44 (.string ⟨#[]⟩) 16 Tryd.infoT10 rfl _ (strs []) rfl HS.out.1 (.string (⟨noCacheL.toArray⟩ : ByteArray)) rfl rfl (by simp [strs]) (by simp [strs]) HS.out.2.size ?_; intro v1 w1 ho1 hn1 hb1 hz1; have HS : Hid (OwnV w1 wb.heap.size 9 v1 (strs [(⟨noCacheL.toArray⟩ : ByteArray)]) ∧ Below wb.heap.size wb w1) := ⟨ho1, hb1 _ HS.out.2⟩; obtain ⟨b0, b1, b2, b3⟩ := (HB.out.2.on HS.out.2).cells; dsimp only at b0 b1 b2 b3; clear ho1 hn1 hb1 hz1))
          refine (in_any ma 0 999999 _).mono ?_
          rintro e wi ⟨rfl, hwi⟩
          rw [hwi, E2.out]
          clear hwi wi
          go_wp2_with fail
          refine (HM.out _).mono ?_
          rintro e wd ⟨rfl, hbd⟩
          have HS : Hid (OwnV wd wb.heap.size 9 _ (strs [(⟨noCacheL.toArray⟩ : ByteArray)]) ∧ Below wb.heap.size wb wd) := ⟨HS.out.1.below hbd (Nat.le_refl _), HS.out.2.trans (hbd.mono HS.out.2.size)⟩
          obtain ⟨b0, b1, b2, b3⟩ := (HB.out.2.on HS.out.2).cells
          dsimp only at b0 b1 b2 b3
          clear hbd
          go_wp2_with (at_builtin; (refine wpList_snocV rfl (.tmp 20) (.tmp 25) 44 rfl wb.heap.size 9 Tryd.underlying44 (.string ⟨#[]⟩) 16 Tryd.infoT10 rfl _ (strs [(⟨noCacheL.toArray⟩ : ByteArray)]) rfl HS.out.1 (.string ((⟨maxAgeL.toArray⟩ : ByteArray) ++ dm)) rfl rfl (by simp [strs]) (by simp [strs]) HS.out.2.size ?_; intro v1 w1 ho1 hn1 hb1 hz1; have HS : Hid (OwnV w1 wb.heap.size 9 v1 (strs [(⟨noCacheL.toArray⟩ : ByteArray), ((⟨maxAgeL.toArray⟩ : ByteArray) ++ dm)]) ∧ Below wb.heap.size wb w1) := ⟨ho1, hb1 _ HS.out.2⟩; obtain ⟨b0, b1, b2, b3⟩ := (HB.out.2.on HS.out.2).cells; dsimp only at b0 b1 b2 b3; clear ho1 hn1 hb1 hz1))
          refine (in_any sh 0 999999 _).mono ?_
          rintro e wi ⟨rfl, hwi⟩
          rw [hwi, E3.out]
          clear hwi wi
          go_wp2_with fail
          refine (HH.out _).mono ?_
          rintro e wd ⟨rfl, hbd⟩
          have HS : Hid (OwnV wd wb.heap.size 9 _ (strs [(⟨noCacheL.toArray⟩ : ByteArray), ((⟨maxAgeL.toArray⟩ : ByteArray) ++ dm)]) ∧ Below wb.heap.size wb wd) := ⟨HS.out.1.below hbd (Nat.le_refl _), HS.out.2.trans (hbd.mono HS.out.2.size)⟩
          obtain ⟨b0, b1, b2, b3⟩ := (HB.out.2.on HS.out.2).cells
          dsimp only at b0 b1 b2 b3
          clear hbd
          go_wp2_with (at_builtin; (refine wpList_snocV rfl (.tmp 30) (.tmp 35) 44 rfl wb.heap.size 9 Tryd.underlying44 (.string ⟨#[]⟩) 16 Tryd.infoT10 rfl _ (strs [(⟨noCacheL.toArray⟩ : ByteArray), ((⟨maxAgeL.toArray⟩ : ByteArray) ++ dm)]) rfl HS.out.1 (.string ((⟨sMaxL.toArray⟩ : ByteArray) ++ ds)) rfl rfl (by simp [strs]) (by simp [strs]) HS.out.2.size ?_; intro v1 w1 ho1 hn1 hb1 hz1; have HS : Hid (OwnV w1 wb.heap.size 9 v1 (strs [(⟨noCacheL.toArray⟩ : ByteArray), ((⟨maxAgeL.toArray⟩ : ByteArray) ++ dm), ((⟨sMaxL.toArray⟩ : ByteArray) ++ ds)]) ∧ Below wb.heap.size wb w1) := ⟨ho1, hb1 _ HS.out.2⟩; obtain ⟨b0, b1, b2, b3⟩ := (HB.out.2.on HS.out.2).cells; dsimp only at b0 b1 b2 b3; clear ho1 hn1 hb1 hz1))
          have HP : Hid (wordsC ⟨false, true, ma, sh⟩ = [(⟨noCacheL.toArray⟩ : ByteArray), ((⟨maxAgeL.toArray⟩ : ByteArray) ++ dm), ((⟨sMaxL.toArray⟩ : ByteArray) ++ ds)]) := by show _ = _; unfold wordsC; simp [E2.out, E3.out, HDdm.out, HDds.out]
          obtain ⟨P, hP⟩ : ∃ P : List ByteArray, [(⟨noCacheL.toArray⟩ : ByteArray), ((⟨maxAgeL.toArray⟩ : ByteArray) ++ dm), ((⟨sMaxL.toArray⟩ : ByteArray) ++ ds)] = P := ⟨_, rfl⟩
          rw [hP] at HS HP
          have HPL : Hid (P.length ≤ 4) := by show _ ≤ _; rw [← hP]; simp
          have HPZ : Hid (∀ p ∈ P, p.size ≤ 48) := by rw [← hP]; intro p hp; simp only [List.mem_cons, List.not_mem_nil, or_false] at hp; rcases hp with hp | hp | hp <;> rw [hp] <;> first | decide | (rw [ByteArray.size_append, show (⟨maxAgeL.toArray⟩ : ByteArray).size = 8 from rfl]; omega) | (rw [ByteArray.size_append, show (⟨sMaxL.toArray⟩ : ByteArray).size = 9 from rfl]; omega)
          clear hP
          obtain ⟨w9, hw9⟩ : ∃ w9, w1 = w9 := ⟨_, rfl⟩
          rw [hw9] at HS ⊢
          clear b0 b1 b2 b3 hw9
          obtain ⟨av, cv, hv, hcell⟩ := HS.out.1.shape
          rw [strs_length] at hv
          have HCL : Hid (∀ j (hj : j < P.length), ∃ g, av = some ⟨g, 0, none⟩ ∧ w9.cell? ⟨g, j, none⟩ = some (.string P[j])) := by
            intro j hj
            obtain ⟨g, h1, h2, _⟩ := hcell j (by rw [strs_length]; exact hj)
            rw [strs_at hj] at h2
            exact ⟨g, h1, h2⟩
          have HBL : Hid (Below w.heap.size w w9) := HB.out.1.trans (HS.out.2.mono HB.out.1.size)
          clear hcell HS HB
          subst hv
          go_loopw [4, 5] (fun s i wr => Box (∃ k : Nat, k ≤ P.length ∧ i = .int .i64 k ∧ s = .string (joinK P k) ∧ wr = w9))
            (fun _ i _ => P.length - (intOf i).toNat)
          case atStart => exact ⟨⟨0, by omega, rfl, rfl, rfl⟩⟩
          case round =>
            obtain ⟨k, hk, rfl, rfl, hwr⟩ := hrel.out
            rw [hwr]
            clear hwr hrel
            have hpl := HPL.out
            have hju := joinK_size HPZ.out k
            by_cases hlt : k < P.length
            · obtain ⟨g, hav, hc⟩ := HCL.out k hlt
              clear HCL
              obtain ⟨t, ht⟩ : ∃ t, P[k] = t := ⟨_, rfl⟩
              rw [ht] at hc
              have htz : t.size ≤ 48 := by rw [← ht]; exact HPZ.out _ (List.getElem_mem hlt)
              have HT : Hid (P.getD k ⟨#[]⟩ = t) := by show _ = _; rw [List.getD_eq_getElem?_getD, List.getElem?_eq_getElem hlt, ht]; rfl
              clear ht
              subst hav
              have hi : (k : Int) < (P.length : Int) := by omega
              have hi0 : (0 : Int) ≤ (k : Int) := by omega
              by_cases h0 : 0 < k
              · have h0i : (0 : Int) < (k : Int) := by omega
                have HJ : Hid (joinK P (k + 1) = joinK P k ++ ⟨#[44, 32]⟩ ++ t) := by show _ = _; rw [joinK, if_pos h0, HT.out]
                generalize joinK P k = u at HJ hju ⊢
                go_wp2
                go_roundw
                case rel =>
                  try ((repeat apply Exists.intro); refine ⟨?_, rfl⟩)
                  exact ⟨⟨k + 1, by omega, by go_num, by rw [HJ.out], by first | rfl | trivial⟩⟩
                case measure => simp [intOf]; omega
              · have h0i : ¬ (0 : Int) < (k : Int) := by omega
                have HJ : Hid (joinK P (k + 1) = joinK P k ++ t) := by show _ = _; rw [joinK, if_neg h0, HT.out]
                generalize joinK P k = u at HJ hju ⊢
                go_wp2
                go_roundw
                case rel =>
                  try ((repeat apply Exists.intro); refine ⟨?_, rfl⟩)
                  exact ⟨⟨k + 1, by omega, by go_num, by rw [HJ.out], by first | rfl | trivial⟩⟩
                case measure => simp [intOf]; omega
            · have hke : k = P.length := by omega
              have hi : ¬ (k : Int) < (P.length : Int) := by omega
              have HE : Hid (textC c0 = joinK P k) := by show _ = _; rw [← HC0.out]; unfold textC; rw [HP.out, hke]
              generalize joinK P k = u at HE hju ⊢
              clear hke
              go_wp2
              go_ret
              exact ⟨by rw [HE.out]; rfl, HBL.out⟩
  | true =>
    cases nc with
    | false =>
      cases e2 : inN ma 0 999999 with
      | false =>
        have E2 : Hid (inN ma 0 999999 = false) := e2
        clear e2
        cases e3 : inN sh 0 999999 with
        | false =>
          have E3 : Hid (inN sh 0 999999 = false) := e3
          clear e3
          go_enter Tryd.func31, Tryd.ntmps31
          go_wp2_with (at_builtin; first | (refine wpList_snocV rfl (.tmp 9) (.tmp 10) 44 rfl wb.heap.size 9 Tryd.underlying44 (.string ⟨#[]⟩) 16 Tryd.infoT10 rfl _ (strs []) rfl HS.out.1 (.string (⟨noStoreL.toArray⟩ : ByteArray)) rfl rfl (by simp [strs]) (by simp [strs]) HS.out.2.size ?_; intro v1 w1 ho1 hn1 hb1 hz1; have HS : Hid (OwnV w1 wb.heap.size 9 v1 (strs [(⟨noStoreL.toArray⟩ : ByteArray)]) ∧ Below wb.heap.size wb w1) := ⟨ho1, hb1 _ HS.out.2⟩; obtain ⟨b0, b1, b2, b3⟩ := (HB.out.2.on HS.out.2).cells; dsimp only at b0 b1 b2 b3; clear ho1 hn1 hb1 hz1))
          refine (in_any ma 0 999999 _).mono ?_
          rintro e wi ⟨rfl, hwi⟩
          rw [hwi, E2.out]
          clear hwi wi
          go_wp2_with fail
          refine (in_any sh 0 999999 _).mono ?_
          rintro e wi ⟨rfl, hwi⟩
          rw [hwi, E3.out]
          clear hwi wi
          go_wp2_with fail
          have HP : Hid (wordsC ⟨true, false, ma, sh⟩ = [(⟨noStoreL.toArray⟩ : ByteArray)]) := by show _ = _; unfold wordsC; simp [E2.out, E3.out]
          obtain ⟨P, hP⟩ : ∃ P : List ByteArray, [(⟨noStoreL.toArray⟩ : ByteArray)] = P := ⟨_, rfl⟩
          rw [hP] at HS HP
          have HPL : Hid (P.length ≤ 4) := by show _ ≤ _; rw [← hP]; simp
          have HPZ : Hid (∀ p ∈ P, p.size ≤ 48) := by rw [← hP]; intro p hp; simp only [List.mem_cons, List.not_mem_nil, or_false] at hp; rcases hp with hp <;> rw [hp] <;> first | decide | (rw [ByteArray.size_append, show (⟨maxAgeL.toArray⟩ : ByteArray).size = 8 from rfl]; omega) | (rw [ByteArray.size_append, show (⟨sMaxL.toArray⟩ : ByteArray).size = 9 from rfl]; omega)
          clear hP
          obtain ⟨w9, hw9⟩ : ∃ w9, w1 = w9 := ⟨_, rfl⟩
          rw [hw9] at HS ⊢
          clear b0 b1 b2 b3 hw9
          obtain ⟨av, cv, hv, hcell⟩ := HS.out.1.shape
          rw [strs_length] at hv
          have HCL : Hid (∀ j (hj : j < P.length), ∃ g, av = some ⟨g, 0, none⟩ ∧ w9.cell? ⟨g, j, none⟩ = some (.string P[j])) := by
            intro j hj
            obtain ⟨g, h1, h2, _⟩ := hcell j (by rw [strs_length]; exact hj)
            rw [strs_at hj] at h2
            exact ⟨g, h1, h2⟩
          have HBL : Hid (Below w.heap.size w w9) := HB.out.1.trans (HS.out.2.mono HB.out.1.size)
          clear hcell HS HB
          subst hv
          go_loopw [4, 5] (fun s i wr => Box (∃ k : Nat, k ≤ P.length ∧ i = .int .i64 k ∧ s = .string (joinK P k) ∧ wr = w9))
            (fun _ i _ => P.length - (intOf i).toNat)
          case atStart => exact ⟨⟨0, by omega, rfl, rfl, rfl⟩⟩
          case round =>
            obtain ⟨k, hk, rfl, rfl, hwr⟩ := hrel.out
            rw [hwr]
            clear hwr hrel
            have hpl := HPL.out
            have hju := joinK_size HPZ.out k
            by_cases hlt : k < P.length
            · obtain ⟨g, hav, hc⟩ := HCL.out k hlt
              clear HCL
              obtain ⟨t, ht⟩ : ∃ t, P[k] = t := ⟨_, rfl⟩
              rw [ht] at hc
              have htz : t.size ≤ 48 := by rw [← ht]; exact HPZ.out _ (List.getElem_mem hlt)
              have HT : Hid (P.getD k ⟨#[]⟩ = t) := by show _ = _; rw [List.getD_eq_getElem?_getD, List.getElem?_eq_getElem hlt, ht]; rfl
              clear ht
              subst hav
              have hi : (k : Int) < (P.length : Int) := by omega
              have hi0 : (0 : Int) ≤ (k : Int) := by omega
              by_cases h0 : 0 < k
              · have h0i : (0 : Int) < (k : Int) := by omega
                have HJ : Hid (joinK P (k + 1) = joinK P k ++ ⟨#[44, 32]⟩ ++ t) := by show _ = _; rw [joinK, if_pos h0, HT.out]
                generalize joinK P k = u at HJ hju ⊢
                go_wp2
                go_roundw
                case rel =>
                  try ((repeat apply Exists.intro); refine ⟨?_, rfl⟩)
                  exact ⟨⟨k + 1, by omega, by go_num, by rw [HJ.out], by first | rfl | trivial⟩⟩
                case measure => simp [intOf]; omega
              · have h0i : ¬ (0 : Int) < (k : Int) := by omega
                have HJ : Hid (joinK P (k + 1) = joinK P k ++ t) := by show _ = _; rw [joinK, if_neg h0, HT.out]
                generalize joinK P k = u at HJ hju ⊢
                go_wp2
                go_roundw
                case rel =>
                  try ((repeat apply Exists.intro); refine ⟨?_, rfl⟩)
                  exact ⟨⟨k + 1, by omega, by go_num, by rw [HJ.out], by first | rfl | trivial⟩⟩
                case measure => simp [intOf]; omega
            · have hke : k = P.length := by omega
              have hi : ¬ (k : Int) < (P.length : Int) := by omega
              have HE : Hid (textC c0 = joinK P k) := by show _ = _; rw [← HC0.out]; unfold textC; rw [HP.out, hke]
              generalize joinK P k = u at HE hju ⊢
              clear hke
              go_wp2
              go_ret
              exact ⟨by rw [HE.out]; rfl, HBL.out⟩
        | true =>
          have E3 : Hid (inN sh 0 999999 = true) := e3
          obtain ⟨ds, hds⟩ : ∃ d : ByteArray, ⟨(decOf sh).toArray⟩ = d := ⟨_, rfl⟩
          have HH : Hid (∀ wi, Calls Tryd.prog 34 #[.int .i64 sh] wi fun e w2 => e = .returned (.string ds) ∧ Below wi.heap.size wi w2) := by intro wi; have h0 := of_decide_eq_true e3; rw [← hds]; exact specDecimal_any sh wi (by omega) (by omega)
          have hzds : ds.size ≤ 32 := by rw [← hds]; exact decOf_short (of_decide_eq_true e3)
          have HDds : Hid ((⟨(decOf sh).toArray⟩ : ByteArray) = ds) := hds
          clear hds
          clear e3
          go_enter Tryd.func31, Tryd.ntmps31
          go_wp2_with (at_builtin; first | (refine wpList_snocV rfl (.tmp 9) (.tmp 10) 44 rfl wb.heap.size 9 Tryd.underlying44 (.string ⟨#[]⟩) 16 Tryd.infoT10 rfl _ (strs []) rfl HS.out.1 (.string (⟨noStoreL.toArray⟩ : ByteArray)) rfl rfl (by simp [strs]) (by simp [strs]) HS.out.2.size ?_; intro v1 w1 ho1 hn1 hb1 hz1; have HS : Hid (OwnV w1 wb.heap.size 9 v1 (strs [(⟨noStoreL.toArray⟩ : ByteArray)]) ∧ Below wb.heap.size wb w1) := ⟨ho1, hb1 _ HS.out.2⟩; obtain ⟨b0, b1, b2, b3⟩ := (HB.out.2.on HS.out.2).cells; dsimp only at b0 b1 b2 b3; clear ho1 hn1 hb1 hz1))
          refine (in_any ma 0 999999 _).mono ?_
          rintro e wi ⟨rfl, hwi⟩
          rw [hwi, E2.out]
          clear hwi wi
          go_wp2_with fail
          refine (in_any sh 0 999999 _).mono ?_
          rintro e wi ⟨rfl, hwi⟩
          rw [hwi, E3.out]
          clear hwi wi
          go_wp2_with fail
          refine (HH.out _).mono ?_
          rintro e wd ⟨rfl, hbd⟩
          have HS : Hid (OwnV wd wb.heap.size 9 _ (strs [(⟨noStoreL.toArray⟩ : ByteArray)]) ∧ Below wb.heap.size wb wd) := ⟨HS.out.1.below hbd (Nat.le_refl _), HS.out.2.trans (hbd.mono HS.out.2.size)⟩
          obtain ⟨b0, b1, b2, b3⟩ := (HB.out.2.on HS.out.2).cells
          dsimp only at b0 b1 b2 b3
          clear hbd
          go_wp2_with (at_builtin; (refine wpList_snocV rfl (.tmp 30) (.tmp 35) 44 rfl wb.heap.size 9 Tryd.underlying44 (.string ⟨#[]⟩) 16 Tryd.infoT10 rfl _ (strs [(⟨noStoreL.toArray⟩ : ByteArray)]) rfl HS.out.1 (.string ((⟨sMaxL.toArray⟩ : ByteArray) ++ ds)) rfl rfl (by simp [strs]) (by simp [strs]) HS.out.2.size ?_; intro v1 w1 ho1 hn1 hb1 hz1; have HS : Hid (OwnV w1 wb.heap.size 9 v1 (strs [(⟨noStoreL.toArray⟩ : ByteArray), ((⟨sMaxL.toArray⟩ : ByteArray) ++ ds)]) ∧ Below wb.heap.size wb w1) := ⟨ho1, hb1 _ HS.out.2⟩; obtain ⟨b0, b1, b2, b3⟩ := (HB.out.2.on HS.out.2).cells; dsimp only at b0 b1 b2 b3; clear ho1 hn1 hb1 hz1))
          have HP : Hid (wordsC ⟨true, false, ma, sh⟩ = [(⟨noStoreL.toArray⟩ : ByteArray), ((⟨sMaxL.toArray⟩ : ByteArray) ++ ds)]) := by show _ = _; unfold wordsC; simp [E2.out, E3.out, HDds.out]
          obtain ⟨P, hP⟩ : ∃ P : List ByteArray, [(⟨noStoreL.toArray⟩ : ByteArray), ((⟨sMaxL.toArray⟩ : ByteArray) ++ ds)] = P := ⟨_, rfl⟩
          rw [hP] at HS HP
          have HPL : Hid (P.length ≤ 4) := by show _ ≤ _; rw [← hP]; simp
          have HPZ : Hid (∀ p ∈ P, p.size ≤ 48) := by rw [← hP]; intro p hp; simp only [List.mem_cons, List.not_mem_nil, or_false] at hp; rcases hp with hp | hp <;> rw [hp] <;> first | decide | (rw [ByteArray.size_append, show (⟨maxAgeL.toArray⟩ : ByteArray).size = 8 from rfl]; omega) | (rw [ByteArray.size_append, show (⟨sMaxL.toArray⟩ : ByteArray).size = 9 from rfl]; omega)
          clear hP
          obtain ⟨w9, hw9⟩ : ∃ w9, w1 = w9 := ⟨_, rfl⟩
          rw [hw9] at HS ⊢
          clear b0 b1 b2 b3 hw9
          obtain ⟨av, cv, hv, hcell⟩ := HS.out.1.shape
          rw [strs_length] at hv
          have HCL : Hid (∀ j (hj : j < P.length), ∃ g, av = some ⟨g, 0, none⟩ ∧ w9.cell? ⟨g, j, none⟩ = some (.string P[j])) := by
            intro j hj
            obtain ⟨g, h1, h2, _⟩ := hcell j (by rw [strs_length]; exact hj)
            rw [strs_at hj] at h2
            exact ⟨g, h1, h2⟩
          have HBL : Hid (Below w.heap.size w w9) := HB.out.1.trans (HS.out.2.mono HB.out.1.size)
          clear hcell HS HB
          subst hv
          go_loopw [4, 5] (fun s i wr => Box (∃ k : Nat, k ≤ P.length ∧ i = .int .i64 k ∧ s = .string (joinK P k) ∧ wr = w9))
            (fun _ i _ => P.length - (intOf i).toNat)
          case atStart => exact ⟨⟨0, by omega, rfl, rfl, rfl⟩⟩
          case round =>
            obtain ⟨k, hk, rfl, rfl, hwr⟩ := hrel.out
            rw [hwr]
            clear hwr hrel
            have hpl := HPL.out
            have hju := joinK_size HPZ.out k
            by_cases hlt : k < P.length
            · obtain ⟨g, hav, hc⟩ := HCL.out k hlt
              clear HCL
              obtain ⟨t, ht⟩ : ∃ t, P[k] = t := ⟨_, rfl⟩
              rw [ht] at hc
              have htz : t.size ≤ 48 := by rw [← ht]; exact HPZ.out _ (List.getElem_mem hlt)
              have HT : Hid (P.getD k ⟨#[]⟩ = t) := by show _ = _; rw [List.getD_eq_getElem?_getD, List.getElem?_eq_getElem hlt, ht]; rfl
              clear ht
              subst hav
              have hi : (k : Int) < (P.length : Int) := by omega
              have hi0 : (0 : Int) ≤ (k : Int) := by omega
              by_cases h0 : 0 < k
              · have h0i : (0 : Int) < (k : Int) := by omega
                have HJ : Hid (joinK P (k + 1) = joinK P k ++ ⟨#[44, 32]⟩ ++ t) := by show _ = _; rw [joinK, if_pos h0, HT.out]
                generalize joinK P k = u at HJ hju ⊢
                go_wp2
                go_roundw
                case rel =>
                  try ((repeat apply Exists.intro); refine ⟨?_, rfl⟩)
                  exact ⟨⟨k + 1, by omega, by go_num, by rw [HJ.out], by first | rfl | trivial⟩⟩
                case measure => simp [intOf]; omega
              · have h0i : ¬ (0 : Int) < (k : Int) := by omega
                have HJ : Hid (joinK P (k + 1) = joinK P k ++ t) := by show _ = _; rw [joinK, if_neg h0, HT.out]
                generalize joinK P k = u at HJ hju ⊢
                go_wp2
                go_roundw
                case rel =>
                  try ((repeat apply Exists.intro); refine ⟨?_, rfl⟩)
                  exact ⟨⟨k + 1, by omega, by go_num, by rw [HJ.out], by first | rfl | trivial⟩⟩
                case measure => simp [intOf]; omega
            · have hke : k = P.length := by omega
              have hi : ¬ (k : Int) < (P.length : Int) := by omega
              have HE : Hid (textC c0 = joinK P k) := by show _ = _; rw [← HC0.out]; unfold textC; rw [HP.out, hke]
              generalize joinK P k = u at HE hju ⊢
              clear hke
              go_wp2
              go_ret
              exact ⟨by rw [HE.out]; rfl, HBL.out⟩
      | true =>
        have E2 : Hid (inN ma 0 999999 = true) := e2
        obtain ⟨dm, hdm⟩ : ∃ d : ByteArray, ⟨(decOf ma).toArray⟩ = d := ⟨_, rfl⟩
        have HM : Hid (∀ wi, Calls Tryd.prog 34 #[.int .i64 ma] wi fun e w2 => e = .returned (.string dm) ∧ Below wi.heap.size wi w2) := by intro wi; have h0 := of_decide_eq_true e2; rw [← hdm]; exact specDecimal_any ma wi (by omega) (by omega)
        have hzdm : dm.size ≤ 32 := by rw [← hdm]; exact decOf_short (of_decide_eq_true e2)
        have HDdm : Hid ((⟨(decOf ma).toArray⟩ : ByteArray) = dm) := hdm
        clear hdm
        clear e2
        cases e3 : inN sh 0 999999 with
        | false =>
          have E3 : Hid (inN sh 0 999999 = false) := e3
          clear e3
          go_enter Tryd.func31, Tryd.ntmps31
          go_wp2_with (at_builtin; first | (refine wpList_snocV rfl (.tmp 9) (.tmp 10) 44 rfl wb.heap.size 9 Tryd.underlying44 (.string ⟨#[]⟩) 16 Tryd.infoT10 rfl _ (strs []) rfl HS.out.1 (.string (⟨noStoreL.toArray⟩ : ByteArray)) rfl rfl (by simp [strs]) (by simp [strs]) HS.out.2.size ?_; intro v1 w1 ho1 hn1 hb1 hz1; have HS : Hid (OwnV w1 wb.heap.size 9 v1 (strs [(⟨noStoreL.toArray⟩ : ByteArray)]) ∧ Below wb.heap.size wb w1) := ⟨ho1, hb1 _ HS.out.2⟩; obtain ⟨b0, b1, b2, b3⟩ := (HB.out.2.on HS.out.2).cells; dsimp only at b0 b1 b2 b3; clear ho1 hn1 hb1 hz1))
          refine (in_any ma 0 999999 _).mono ?_
          rintro e wi ⟨rfl, hwi⟩
          rw [hwi, E2.out]
          clear hwi wi
          go_wp2_with fail
          refine (HM.out _).mono ?_
          rintro e wd ⟨rfl, hbd⟩
          have HS : Hid (OwnV wd wb.heap.size 9 _ (strs [(⟨noStoreL.toArray⟩ : ByteArray)]) ∧ Below wb.heap.size wb wd) := ⟨HS.out.1.below hbd (Nat.le_refl _), HS.out.2.trans (hbd.mono HS.out.2.size)⟩
          obtain ⟨b0, b1, b2, b3⟩ := (HB.out.2.on HS.out.2).cells
          dsimp only at b0 b1 b2 b3
          clear hbd
          go_wp2_with (at_builtin; (refine wpList_snocV rfl (.tmp 20) (.tmp 25) 44 rfl wb.heap.size 9 Tryd.underlying44 (.string ⟨#[]⟩) 16 Tryd.infoT10 rfl _ (strs [(⟨noStoreL.toArray⟩ : ByteArray)]) rfl HS.out.1 (.string ((⟨maxAgeL.toArray⟩ : ByteArray) ++ dm)) rfl rfl (by simp [strs]) (by simp [strs]) HS.out.2.size ?_; intro v1 w1 ho1 hn1 hb1 hz1; have HS : Hid (OwnV w1 wb.heap.size 9 v1 (strs [(⟨noStoreL.toArray⟩ : ByteArray), ((⟨maxAgeL.toArray⟩ : ByteArray) ++ dm)]) ∧ Below wb.heap.size wb w1) := ⟨ho1, hb1 _ HS.out.2⟩; obtain ⟨b0, b1, b2, b3⟩ := (HB.out.2.on HS.out.2).cells; dsimp only at b0 b1 b2 b3; clear ho1 hn1 hb1 hz1))
          refine (in_any sh 0 999999 _).mono ?_
          rintro e wi ⟨rfl, hwi⟩
          rw [hwi, E3.out]
          clear hwi wi
          go_wp2_with fail
          have HP : Hid (wordsC ⟨true, false, ma, sh⟩ = [(⟨noStoreL.toArray⟩ : ByteArray), ((⟨maxAgeL.toArray⟩ : ByteArray) ++ dm)]) := by show _ = _; unfold wordsC; simp [E2.out, E3.out, HDdm.out]
          obtain ⟨P, hP⟩ : ∃ P : List ByteArray, [(⟨noStoreL.toArray⟩ : ByteArray), ((⟨maxAgeL.toArray⟩ : ByteArray) ++ dm)] = P := ⟨_, rfl⟩
          rw [hP] at HS HP
          have HPL : Hid (P.length ≤ 4) := by show _ ≤ _; rw [← hP]; simp
          have HPZ : Hid (∀ p ∈ P, p.size ≤ 48) := by rw [← hP]; intro p hp; simp only [List.mem_cons, List.not_mem_nil, or_false] at hp; rcases hp with hp | hp <;> rw [hp] <;> first | decide | (rw [ByteArray.size_append, show (⟨maxAgeL.toArray⟩ : ByteArray).size = 8 from rfl]; omega) | (rw [ByteArray.size_append, show (⟨sMaxL.toArray⟩ : ByteArray).size = 9 from rfl]; omega)
          clear hP
          obtain ⟨w9, hw9⟩ : ∃ w9, w1 = w9 := ⟨_, rfl⟩
          rw [hw9] at HS ⊢
          clear b0 b1 b2 b3 hw9
          obtain ⟨av, cv, hv, hcell⟩ := HS.out.1.shape
          rw [strs_length] at hv
          have HCL : Hid (∀ j (hj : j < P.length), ∃ g, av = some ⟨g, 0, none⟩ ∧ w9.cell? ⟨g, j, none⟩ = some (.string P[j])) := by
            intro j hj
            obtain ⟨g, h1, h2, _⟩ := hcell j (by rw [strs_length]; exact hj)
            rw [strs_at hj] at h2
            exact ⟨g, h1, h2⟩
          have HBL : Hid (Below w.heap.size w w9) := HB.out.1.trans (HS.out.2.mono HB.out.1.size)
          clear hcell HS HB
          subst hv
          go_loopw [4, 5] (fun s i wr => Box (∃ k : Nat, k ≤ P.length ∧ i = .int .i64 k ∧ s = .string (joinK P k) ∧ wr = w9))
            (fun _ i _ => P.length - (intOf i).toNat)
          case atStart => exact ⟨⟨0, by omega, rfl, rfl, rfl⟩⟩
          case round =>
            obtain ⟨k, hk, rfl, rfl, hwr⟩ := hrel.out
            rw [hwr]
            clear hwr hrel
            have hpl := HPL.out
            have hju := joinK_size HPZ.out k
            by_cases hlt : k < P.length
            · obtain ⟨g, hav, hc⟩ := HCL.out k hlt
              clear HCL
              obtain ⟨t, ht⟩ : ∃ t, P[k] = t := ⟨_, rfl⟩
              rw [ht] at hc
              have htz : t.size ≤ 48 := by rw [← ht]; exact HPZ.out _ (List.getElem_mem hlt)
              have HT : Hid (P.getD k ⟨#[]⟩ = t) := by show _ = _; rw [List.getD_eq_getElem?_getD, List.getElem?_eq_getElem hlt, ht]; rfl
              clear ht
              subst hav
              have hi : (k : Int) < (P.length : Int) := by omega
              have hi0 : (0 : Int) ≤ (k : Int) := by omega
              by_cases h0 : 0 < k
              · have h0i : (0 : Int) < (k : Int) := by omega
                have HJ : Hid (joinK P (k + 1) = joinK P k ++ ⟨#[44, 32]⟩ ++ t) := by show _ = _; rw [joinK, if_pos h0, HT.out]
                generalize joinK P k = u at HJ hju ⊢
                go_wp2
                go_roundw
                case rel =>
                  try ((repeat apply Exists.intro); refine ⟨?_, rfl⟩)
                  exact ⟨⟨k + 1, by omega, by go_num, by rw [HJ.out], by first | rfl | trivial⟩⟩
                case measure => simp [intOf]; omega
              · have h0i : ¬ (0 : Int) < (k : Int) := by omega
                have HJ : Hid (joinK P (k + 1) = joinK P k ++ t) := by show _ = _; rw [joinK, if_neg h0, HT.out]
                generalize joinK P k = u at HJ hju ⊢
                go_wp2
                go_roundw
                case rel =>
                  try ((repeat apply Exists.intro); refine ⟨?_, rfl⟩)
                  exact ⟨⟨k + 1, by omega, by go_num, by rw [HJ.out], by first | rfl | trivial⟩⟩
                case measure => simp [intOf]; omega
            · have hke : k = P.length := by omega
              have hi : ¬ (k : Int) < (P.length : Int) := by omega
              have HE : Hid (textC c0 = joinK P k) := by show _ = _; rw [← HC0.out]; unfold textC; rw [HP.out, hke]
              generalize joinK P k = u at HE hju ⊢
              clear hke
              go_wp2
              go_ret
              exact ⟨by rw [HE.out]; rfl, HBL.out⟩
        | true =>
          have E3 : Hid (inN sh 0 999999 = true) := e3
          obtain ⟨ds, hds⟩ : ∃ d : ByteArray, ⟨(decOf sh).toArray⟩ = d := ⟨_, rfl⟩
          have HH : Hid (∀ wi, Calls Tryd.prog 34 #[.int .i64 sh] wi fun e w2 => e = .returned (.string ds) ∧ Below wi.heap.size wi w2) := by intro wi; have h0 := of_decide_eq_true e3; rw [← hds]; exact specDecimal_any sh wi (by omega) (by omega)
          have hzds : ds.size ≤ 32 := by rw [← hds]; exact decOf_short (of_decide_eq_true e3)
          have HDds : Hid ((⟨(decOf sh).toArray⟩ : ByteArray) = ds) := hds
          clear hds
          clear e3
          go_enter Tryd.func31, Tryd.ntmps31
          go_wp2_with (at_builtin; first | (refine wpList_snocV rfl (.tmp 9) (.tmp 10) 44 rfl wb.heap.size 9 Tryd.underlying44 (.string ⟨#[]⟩) 16 Tryd.infoT10 rfl _ (strs []) rfl HS.out.1 (.string (⟨noStoreL.toArray⟩ : ByteArray)) rfl rfl (by simp [strs]) (by simp [strs]) HS.out.2.size ?_; intro v1 w1 ho1 hn1 hb1 hz1; have HS : Hid (OwnV w1 wb.heap.size 9 v1 (strs [(⟨noStoreL.toArray⟩ : ByteArray)]) ∧ Below wb.heap.size wb w1) := ⟨ho1, hb1 _ HS.out.2⟩; obtain ⟨b0, b1, b2, b3⟩ := (HB.out.2.on HS.out.2).cells; dsimp only at b0 b1 b2 b3; clear ho1 hn1 hb1 hz1))
          refine (in_any ma 0 999999 _).mono ?_
          rintro e wi ⟨rfl, hwi⟩
          rw [hwi, E2.out]
          clear hwi wi
          go_wp2_with fail
          refine (HM.out _).mono ?_
          rintro e wd ⟨rfl, hbd⟩
          have HS : Hid (OwnV wd wb.heap.size 9 _ (strs [(⟨noStoreL.toArray⟩ : ByteArray)]) ∧ Below wb.heap.size wb wd) := ⟨HS.out.1.below hbd (Nat.le_refl _), HS.out.2.trans (hbd.mono HS.out.2.size)⟩
          obtain ⟨b0, b1, b2, b3⟩ := (HB.out.2.on HS.out.2).cells
          dsimp only at b0 b1 b2 b3
          clear hbd
          go_wp2_with (at_builtin; (refine wpList_snocV rfl (.tmp 20) (.tmp 25) 44 rfl wb.heap.size 9 Tryd.underlying44 (.string ⟨#[]⟩) 16 Tryd.infoT10 rfl _ (strs [(⟨noStoreL.toArray⟩ : ByteArray)]) rfl HS.out.1 (.string ((⟨maxAgeL.toArray⟩ : ByteArray) ++ dm)) rfl rfl (by simp [strs]) (by simp [strs]) HS.out.2.size ?_; intro v1 w1 ho1 hn1 hb1 hz1; have HS : Hid (OwnV w1 wb.heap.size 9 v1 (strs [(⟨noStoreL.toArray⟩ : ByteArray), ((⟨maxAgeL.toArray⟩ : ByteArray) ++ dm)]) ∧ Below wb.heap.size wb w1) := ⟨ho1, hb1 _ HS.out.2⟩; obtain ⟨b0, b1, b2, b3⟩ := (HB.out.2.on HS.out.2).cells; dsimp only at b0 b1 b2 b3; clear ho1 hn1 hb1 hz1))
          refine (in_any sh 0 999999 _).mono ?_
          rintro e wi ⟨rfl, hwi⟩
          rw [hwi, E3.out]
          clear hwi wi
          go_wp2_with fail
          refine (HH.out _).mono ?_
          rintro e wd ⟨rfl, hbd⟩
          have HS : Hid (OwnV wd wb.heap.size 9 _ (strs [(⟨noStoreL.toArray⟩ : ByteArray), ((⟨maxAgeL.toArray⟩ : ByteArray) ++ dm)]) ∧ Below wb.heap.size wb wd) := ⟨HS.out.1.below hbd (Nat.le_refl _), HS.out.2.trans (hbd.mono HS.out.2.size)⟩
          obtain ⟨b0, b1, b2, b3⟩ := (HB.out.2.on HS.out.2).cells
          dsimp only at b0 b1 b2 b3
          clear hbd
          go_wp2_with (at_builtin; (refine wpList_snocV rfl (.tmp 30) (.tmp 35) 44 rfl wb.heap.size 9 Tryd.underlying44 (.string ⟨#[]⟩) 16 Tryd.infoT10 rfl _ (strs [(⟨noStoreL.toArray⟩ : ByteArray), ((⟨maxAgeL.toArray⟩ : ByteArray) ++ dm)]) rfl HS.out.1 (.string ((⟨sMaxL.toArray⟩ : ByteArray) ++ ds)) rfl rfl (by simp [strs]) (by simp [strs]) HS.out.2.size ?_; intro v1 w1 ho1 hn1 hb1 hz1; have HS : Hid (OwnV w1 wb.heap.size 9 v1 (strs [(⟨noStoreL.toArray⟩ : ByteArray), ((⟨maxAgeL.toArray⟩ : ByteArray) ++ dm), ((⟨sMaxL.toArray⟩ : ByteArray) ++ ds)]) ∧ Below wb.heap.size wb w1) := ⟨ho1, hb1 _ HS.out.2⟩; obtain ⟨b0, b1, b2, b3⟩ := (HB.out.2.on HS.out.2).cells; dsimp only at b0 b1 b2 b3; clear ho1 hn1 hb1 hz1))
          have HP : Hid (wordsC ⟨true, false, ma, sh⟩ = [(⟨noStoreL.toArray⟩ : ByteArray), ((⟨maxAgeL.toArray⟩ : ByteArray) ++ dm), ((⟨sMaxL.toArray⟩ : ByteArray) ++ ds)]) := by show _ = _; unfold wordsC; simp [E2.out, E3.out, HDdm.out, HDds.out]
          obtain ⟨P, hP⟩ : ∃ P : List ByteArray, [(⟨noStoreL.toArray⟩ : ByteArray), ((⟨maxAgeL.toArray⟩ : ByteArray) ++ dm), ((⟨sMaxL.toArray⟩ : ByteArray) ++ ds)] = P := ⟨_, rfl⟩
          rw [hP] at HS HP
          have HPL : Hid (P.length ≤ 4) := by show _ ≤ _; rw [← hP]; simp
          have HPZ : Hid (∀ p ∈ P, p.size ≤ 48) := by rw [← hP]; intro p hp; simp only [List.mem_cons, List.not_mem_nil, or_false] at hp; rcases hp with hp | hp | hp <;> rw [hp] <;> first | decide | (rw [ByteArray.size_append, show (⟨maxAgeL.toArray⟩ : ByteArray).size = 8 from rfl]; omega) | (rw [ByteArray.size_append, show (⟨sMaxL.toArray⟩ : ByteArray).size = 9 from rfl]; omega)
          clear hP
          obtain ⟨w9, hw9⟩ : ∃ w9, w1 = w9 := ⟨_, rfl⟩
          rw [hw9] at HS ⊢
          clear b0 b1 b2 b3 hw9
          obtain ⟨av, cv, hv, hcell⟩ := HS.out.1.shape
          rw [strs_length] at hv
          have HCL : Hid (∀ j (hj : j < P.length), ∃ g, av = some ⟨g, 0, none⟩ ∧ w9.cell? ⟨g, j, none⟩ = some (.string P[j])) := by
            intro j hj
            obtain ⟨g, h1, h2, _⟩ := hcell j (by rw [strs_length]; exact hj)
            rw [strs_at hj] at h2
            exact ⟨g, h1, h2⟩
          have HBL : Hid (Below w.heap.size w w9) := HB.out.1.trans (HS.out.2.mono HB.out.1.size)
          clear hcell HS HB
          subst hv
          go_loopw [4, 5] (fun s i wr => Box (∃ k : Nat, k ≤ P.length ∧ i = .int .i64 k ∧ s = .string (joinK P k) ∧ wr = w9))
            (fun _ i _ => P.length - (intOf i).toNat)
          case atStart => exact ⟨⟨0, by omega, rfl, rfl, rfl⟩⟩
          case round =>
            obtain ⟨k, hk, rfl, rfl, hwr⟩ := hrel.out
            rw [hwr]
            clear hwr hrel
            have hpl := HPL.out
            have hju := joinK_size HPZ.out k
            by_cases hlt : k < P.length
            · obtain ⟨g, hav, hc⟩ := HCL.out k hlt
              clear HCL
              obtain ⟨t, ht⟩ : ∃ t, P[k] = t := ⟨_, rfl⟩
              rw [ht] at hc
              have htz : t.size ≤ 48 := by rw [← ht]; exact HPZ.out _ (List.getElem_mem hlt)
              have HT : Hid (P.getD k ⟨#[]⟩ = t) := by show _ = _; rw [List.getD_eq_getElem?_getD, List.getElem?_eq_getElem hlt, ht]; rfl
              clear ht
              subst hav
              have hi : (k : Int) < (P.length : Int) := by omega
              have hi0 : (0 : Int) ≤ (k : Int) := by omega
              by_cases h0 : 0 < k
              · have h0i : (0 : Int) < (k : Int) := by omega
                have HJ : Hid (joinK P (k + 1) = joinK P k ++ ⟨#[44, 32]⟩ ++ t) := by show _ = _; rw [joinK, if_pos h0, HT.out]
                generalize joinK P k = u at HJ hju ⊢
                go_wp2
                go_roundw
                case rel =>
                  try ((repeat apply Exists.intro); refine ⟨?_, rfl⟩)
                  exact ⟨⟨k + 1, by omega, by go_num, by rw [HJ.out], by first | rfl | trivial⟩⟩
                case measure => simp [intOf]; omega
              · have h0i : ¬ (0 : Int) < (k : Int) := by omega
                have HJ : Hid (joinK P (k + 1) = joinK P k ++ t) := by show _ = _; rw [joinK, if_neg h0, HT.out]
                generalize joinK P k = u at HJ hju ⊢
                go_wp2
                go_roundw
                case rel =>
                  try ((repeat apply Exists.intro); refine ⟨?_, rfl⟩)
                  exact ⟨⟨k + 1, by omega, by go_num, by rw [HJ.out], by first | rfl | trivial⟩⟩
                case measure => simp [intOf]; omega
            · have hke : k = P.length := by omega
              have hi : ¬ (k : Int) < (P.length : Int) := by omega
              have HE : Hid (textC c0 = joinK P k) := by show _ = _; rw [← HC0.out]; unfold textC; rw [HP.out, hke]
              generalize joinK P k = u at HE hju ⊢
              clear hke
              go_wp2
              go_ret
              exact ⟨by rw [HE.out]; rfl, HBL.out⟩
    | true =>
      cases e2 : inN ma 0 999999 with
      | false =>
        have E2 : Hid (inN ma 0 999999 = false) := e2
        clear e2
        cases e3 : inN sh 0 999999 with
        | false =>
          have E3 : Hid (inN sh 0 999999 = false) := e3
          clear e3
          go_enter Tryd.func31, Tryd.ntmps31
          go_wp2_with (at_builtin; first | (refine wpList_snocV rfl (.tmp 9) (.tmp 10) 44 rfl wb.heap.size 9 Tryd.underlying44 (.string ⟨#[]⟩) 16 Tryd.infoT10 rfl _ (strs []) rfl HS.out.1 (.string (⟨noStoreL.toArray⟩ : ByteArray)) rfl rfl (by simp [strs]) (by simp [strs]) HS.out.2.size ?_; intro v1 w1 ho1 hn1 hb1 hz1; have HS : Hid (OwnV w1 wb.heap.size 9 v1 (strs [(⟨noStoreL.toArray⟩ : ByteArray)]) ∧ Below wb.heap.size wb w1) := ⟨ho1, hb1 _ HS.out.2⟩; obtain ⟨b0, b1, b2, b3⟩ := (HB.out.2.on HS.out.2).cells; dsimp only at b0 b1 b2 b3; clear ho1 hn1 hb1 hz1) | (refine wpList_snocV rfl (.tmp 14) (.tmp 15) 44 rfl wb.heap.size 9 Tryd.underlying44 (.string ⟨#[]⟩) 16 Tryd.infoT10 rfl _ (strs [(⟨noStoreL.toArray⟩ : ByteArray)]) rfl HS.out.1 (.string (⟨noCacheL.toArray⟩ : ByteArray)) rfl rfl (by simp [strs]) (by simp [strs]) HS.out.2.size ?_; intro v1 w1 ho1 hn1 hb1 hz1; have HS : Hid (OwnV w1 wb.heap.size 9 v1 (strs [(⟨noStoreL.toArray⟩ : ByteArray), (⟨noCacheL.toArray⟩ : ByteArray)]) ∧ Below wb.heap.size wb w1) := ⟨ho1, hb1 _ HS.out.2⟩; obtain ⟨b0, b1, b2, b3⟩ := (HB.out.2.on HS.out.2).cells; dsimp only at b0 b1 b2 b3; clear ho1 hn1 hb1 hz1))
          refine (in_any ma 0 999999 _).mono ?_
          rintro e wi ⟨rfl, hwi⟩
          rw [hwi, E2.out]
          clear hwi wi
          go_wp2_with fail
          refine (in_any sh 0 999999 _).mono ?_
          rintro e wi ⟨rfl, hwi⟩
          rw [hwi, E3.out]
          clear hwi wi
          go_wp2_with fail
          have HP : Hid (wordsC ⟨true, true, ma, sh⟩ = [(⟨noStoreL.toArray⟩ : ByteArray), (⟨noCacheL.toArray⟩ : ByteArray)]) := by show _ = _; unfold wordsC; simp [E2.out, E3.out]
          obtain ⟨P, hP⟩ : ∃ P : List ByteArray, [(⟨noStoreL.toArray⟩ : ByteArray), (⟨noCacheL.toArray⟩ : ByteArray)] = P := ⟨_, rfl⟩
          rw [hP] at HS HP
          have HPL : Hid (P.length ≤ 4) := by show _ ≤ _; rw [← hP]; simp
          have HPZ : Hid (∀ p ∈ P, p.size ≤ 48) := by rw [← hP]; intro p hp; simp only [List.mem_cons, List.not_mem_nil, or_false] at hp; rcases hp with hp | hp <;> rw [hp] <;> first | decide | (rw [ByteArray.size_append, show (⟨maxAgeL.toArray⟩ : ByteArray).size = 8 from rfl]; omega) | (rw [ByteArray.size_append, show (⟨sMaxL.toArray⟩ : ByteArray).size = 9 from rfl]; omega)
          clear hP
          obtain ⟨w9, hw9⟩ : ∃ w9, w1 = w9 := ⟨_, rfl⟩
          rw [hw9] at HS ⊢
          clear b0 b1 b2 b3 hw9
          obtain ⟨av, cv, hv, hcell⟩ := HS.out.1.shape
          rw [strs_length] at hv
          have HCL : Hid (∀ j (hj : j < P.length), ∃ g, av = some ⟨g, 0, none⟩ ∧ w9.cell? ⟨g, j, none⟩ = some (.string P[j])) := by
            intro j hj
            obtain ⟨g, h1, h2, _⟩ := hcell j (by rw [strs_length]; exact hj)
            rw [strs_at hj] at h2
            exact ⟨g, h1, h2⟩
          have HBL : Hid (Below w.heap.size w w9) := HB.out.1.trans (HS.out.2.mono HB.out.1.size)
          clear hcell HS HB
          subst hv
          go_loopw [4, 5] (fun s i wr => Box (∃ k : Nat, k ≤ P.length ∧ i = .int .i64 k ∧ s = .string (joinK P k) ∧ wr = w9))
            (fun _ i _ => P.length - (intOf i).toNat)
          case atStart => exact ⟨⟨0, by omega, rfl, rfl, rfl⟩⟩
          case round =>
            obtain ⟨k, hk, rfl, rfl, hwr⟩ := hrel.out
            rw [hwr]
            clear hwr hrel
            have hpl := HPL.out
            have hju := joinK_size HPZ.out k
            by_cases hlt : k < P.length
            · obtain ⟨g, hav, hc⟩ := HCL.out k hlt
              clear HCL
              obtain ⟨t, ht⟩ : ∃ t, P[k] = t := ⟨_, rfl⟩
              rw [ht] at hc
              have htz : t.size ≤ 48 := by rw [← ht]; exact HPZ.out _ (List.getElem_mem hlt)
              have HT : Hid (P.getD k ⟨#[]⟩ = t) := by show _ = _; rw [List.getD_eq_getElem?_getD, List.getElem?_eq_getElem hlt, ht]; rfl
              clear ht
              subst hav
              have hi : (k : Int) < (P.length : Int) := by omega
              have hi0 : (0 : Int) ≤ (k : Int) := by omega
              by_cases h0 : 0 < k
              · have h0i : (0 : Int) < (k : Int) := by omega
                have HJ : Hid (joinK P (k + 1) = joinK P k ++ ⟨#[44, 32]⟩ ++ t) := by show _ = _; rw [joinK, if_pos h0, HT.out]
                generalize joinK P k = u at HJ hju ⊢
                go_wp2
                go_roundw
                case rel =>
                  try ((repeat apply Exists.intro); refine ⟨?_, rfl⟩)
                  exact ⟨⟨k + 1, by omega, by go_num, by rw [HJ.out], by first | rfl | trivial⟩⟩
                case measure => simp [intOf]; omega
              · have h0i : ¬ (0 : Int) < (k : Int) := by omega
                have HJ : Hid (joinK P (k + 1) = joinK P k ++ t) := by show _ = _; rw [joinK, if_neg h0, HT.out]
                generalize joinK P k = u at HJ hju ⊢
                go_wp2
                go_roundw
                case rel =>
                  try ((repeat apply Exists.intro); refine ⟨?_, rfl⟩)
                  exact ⟨⟨k + 1, by omega, by go_num, by rw [HJ.out], by first | rfl | trivial⟩⟩
                case measure => simp [intOf]; omega
            · have hke : k = P.length := by omega
              have hi : ¬ (k : Int) < (P.length : Int) := by omega
              have HE : Hid (textC c0 = joinK P k) := by show _ = _; rw [← HC0.out]; unfold textC; rw [HP.out, hke]
              generalize joinK P k = u at HE hju ⊢
              clear hke
              go_wp2
              go_ret
              exact ⟨by rw [HE.out]; rfl, HBL.out⟩
        | true =>
          have E3 : Hid (inN sh 0 999999 = true) := e3
          obtain ⟨ds, hds⟩ : ∃ d : ByteArray, ⟨(decOf sh).toArray⟩ = d := ⟨_, rfl⟩
          have HH : Hid (∀ wi, Calls Tryd.prog 34 #[.int .i64 sh] wi fun e w2 => e = .returned (.string ds) ∧ Below wi.heap.size wi w2) := by intro wi; have h0 := of_decide_eq_true e3; rw [← hds]; exact specDecimal_any sh wi (by omega) (by omega)
          have hzds : ds.size ≤ 32 := by rw [← hds]; exact decOf_short (of_decide_eq_true e3)
          have HDds : Hid ((⟨(decOf sh).toArray⟩ : ByteArray) = ds) := hds
          clear hds
          clear e3
          go_enter Tryd.func31, Tryd.ntmps31
          go_wp2_with (at_builtin; first | (refine wpList_snocV rfl (.tmp 9) (.tmp 10) 44 rfl wb.heap.size 9 Tryd.underlying44 (.string ⟨#[]⟩) 16 Tryd.infoT10 rfl _ (strs []) rfl HS.out.1 (.string (⟨noStoreL.toArray⟩ : ByteArray)) rfl rfl (by simp [strs]) (by simp [strs]) HS.out.2.size ?_; intro v1 w1 ho1 hn1 hb1 hz1; have HS : Hid (OwnV w1 wb.heap.size 9 v1 (strs [(⟨noStoreL.toArray⟩ : ByteArray)]) ∧ Below wb.heap.size wb w1) := ⟨ho1, hb1 _ HS.out.2⟩; obtain ⟨b0, b1, b2, b3⟩ := (HB.out.2.on HS.out.2).cells; dsimp only at b0 b1 b2 b3; clear ho1 hn1 hb1 hz1) | (refine wpList_snocV rfl (.tmp 14) (.tmp 15) 44 rfl wb.heap.size 9 Tryd.underlying44 (.string ⟨#[]⟩) 16 Tryd.infoT10 rfl _ (strs [(⟨noStoreL.toArray⟩ : ByteArray)]) rfl HS.out.1 (.string (⟨noCacheL.toArray⟩ : ByteArray)) rfl rfl (by simp [strs]) (by simp [strs]) HS.out.2.size ?_; intro v1 w1 ho1 hn1 hb1 hz1; have HS : Hid (OwnV w1 wb.heap.size 9 v1 (strs [(⟨noStoreL.toArray⟩ : ByteArray), (⟨noCacheL.toArray⟩ : ByteArray)]) ∧ Below wb.heap.size wb w1) := ⟨ho1, hb1 _ HS.out.2⟩; obtain ⟨b0, b1, b2, b3⟩ := (HB.out.2.on HS.out.2).cells; dsimp only at b0 b1 b2 b3; clear ho1 hn1 hb1 hz1))
          refine (in_any ma 0 999999 _).mono ?_
          rintro e wi ⟨rfl, hwi⟩
          rw [hwi, E2.out]
          clear hwi wi
          go_wp2_with fail
          refine (in_any sh 0 999999 _).mono ?_
          rintro e wi ⟨rfl, hwi⟩
          rw [hwi, E3.out]
          clear hwi wi
          go_wp2_with fail
          refine (HH.out _).mono ?_
          rintro e wd ⟨rfl, hbd⟩
          have HS : Hid (OwnV wd wb.heap.size 9 _ (strs [(⟨noStoreL.toArray⟩ : ByteArray), (⟨noCacheL.toArray⟩ : ByteArray)]) ∧ Below wb.heap.size wb wd) := ⟨HS.out.1.below hbd (Nat.le_refl _), HS.out.2.trans (hbd.mono HS.out.2.size)⟩
          obtain ⟨b0, b1, b2, b3⟩ := (HB.out.2.on HS.out.2).cells
          dsimp only at b0 b1 b2 b3
          clear hbd
          go_wp2_with (at_builtin; (refine wpList_snocV rfl (.tmp 30) (.tmp 35) 44 rfl wb.heap.size 9 Tryd.underlying44 (.string ⟨#[]⟩) 16 Tryd.infoT10 rfl _ (strs [(⟨noStoreL.toArray⟩ : ByteArray), (⟨noCacheL.toArray⟩ : ByteArray)]) rfl HS.out.1 (.string ((⟨sMaxL.toArray⟩ : ByteArray) ++ ds)) rfl rfl (by simp [strs]) (by simp [strs]) HS.out.2.size ?_; intro v1 w1 ho1 hn1 hb1 hz1; have HS : Hid (OwnV w1 wb.heap.size 9 v1 (strs [(⟨noStoreL.toArray⟩ : ByteArray), (⟨noCacheL.toArray⟩ : ByteArray), ((⟨sMaxL.toArray⟩ : ByteArray) ++ ds)]) ∧ Below wb.heap.size wb w1) := ⟨ho1, hb1 _ HS.out.2⟩; obtain ⟨b0, b1, b2, b3⟩ := (HB.out.2.on HS.out.2).cells; dsimp only at b0 b1 b2 b3; clear ho1 hn1 hb1 hz1))
          have HP : Hid (wordsC ⟨true, true, ma, sh⟩ = [(⟨noStoreL.toArray⟩ : ByteArray), (⟨noCacheL.toArray⟩ : ByteArray), ((⟨sMaxL.toArray⟩ : ByteArray) ++ ds)]) := by show _ = _; unfold wordsC; simp [E2.out, E3.out, HDds.out]
          obtain ⟨P, hP⟩ : ∃ P : List ByteArray, [(⟨noStoreL.toArray⟩ : ByteArray), (⟨noCacheL.toArray⟩ : ByteArray), ((⟨sMaxL.toArray⟩ : ByteArray) ++ ds)] = P := ⟨_, rfl⟩
          rw [hP] at HS HP
          have HPL : Hid (P.length ≤ 4) := by show _ ≤ _; rw [← hP]; simp
          have HPZ : Hid (∀ p ∈ P, p.size ≤ 48) := by rw [← hP]; intro p hp; simp only [List.mem_cons, List.not_mem_nil, or_false] at hp; rcases hp with hp | hp | hp <;> rw [hp] <;> first | decide | (rw [ByteArray.size_append, show (⟨maxAgeL.toArray⟩ : ByteArray).size = 8 from rfl]; omega) | (rw [ByteArray.size_append, show (⟨sMaxL.toArray⟩ : ByteArray).size = 9 from rfl]; omega)
          clear hP
          obtain ⟨w9, hw9⟩ : ∃ w9, w1 = w9 := ⟨_, rfl⟩
          rw [hw9] at HS ⊢
          clear b0 b1 b2 b3 hw9
          obtain ⟨av, cv, hv, hcell⟩ := HS.out.1.shape
          rw [strs_length] at hv
          have HCL : Hid (∀ j (hj : j < P.length), ∃ g, av = some ⟨g, 0, none⟩ ∧ w9.cell? ⟨g, j, none⟩ = some (.string P[j])) := by
            intro j hj
            obtain ⟨g, h1, h2, _⟩ := hcell j (by rw [strs_length]; exact hj)
            rw [strs_at hj] at h2
            exact ⟨g, h1, h2⟩
          have HBL : Hid (Below w.heap.size w w9) := HB.out.1.trans (HS.out.2.mono HB.out.1.size)
          clear hcell HS HB
          subst hv
          go_loopw [4, 5] (fun s i wr => Box (∃ k : Nat, k ≤ P.length ∧ i = .int .i64 k ∧ s = .string (joinK P k) ∧ wr = w9))
            (fun _ i _ => P.length - (intOf i).toNat)
          case atStart => exact ⟨⟨0, by omega, rfl, rfl, rfl⟩⟩
          case round =>
            obtain ⟨k, hk, rfl, rfl, hwr⟩ := hrel.out
            rw [hwr]
            clear hwr hrel
            have hpl := HPL.out
            have hju := joinK_size HPZ.out k
            by_cases hlt : k < P.length
            · obtain ⟨g, hav, hc⟩ := HCL.out k hlt
              clear HCL
              obtain ⟨t, ht⟩ : ∃ t, P[k] = t := ⟨_, rfl⟩
              rw [ht] at hc
              have htz : t.size ≤ 48 := by rw [← ht]; exact HPZ.out _ (List.getElem_mem hlt)
              have HT : Hid (P.getD k ⟨#[]⟩ = t) := by show _ = _; rw [List.getD_eq_getElem?_getD, List.getElem?_eq_getElem hlt, ht]; rfl
              clear ht
              subst hav
              have hi : (k : Int) < (P.length : Int) := by omega
              have hi0 : (0 : Int) ≤ (k : Int) := by omega
              by_cases h0 : 0 < k
              · have h0i : (0 : Int) < (k : Int) := by omega
                have HJ : Hid (joinK P (k + 1) = joinK P k ++ ⟨#[44, 32]⟩ ++ t) := by show _ = _; rw [joinK, if_pos h0, HT.out]
                generalize joinK P k = u at HJ hju ⊢
                go_wp2
                go_roundw
                case rel =>
                  try ((repeat apply Exists.intro); refine ⟨?_, rfl⟩)
                  exact ⟨⟨k + 1, by omega, by go_num, by rw [HJ.out], by first | rfl | trivial⟩⟩
                case measure => simp [intOf]; omega
              · have h0i : ¬ (0 : Int) < (k : Int) := by omega
                have HJ : Hid (joinK P (k + 1) = joinK P k ++ t) := by show _ = _; rw [joinK, if_neg h0, HT.out]
                generalize joinK P k = u at HJ hju ⊢
                go_wp2
                go_roundw
                case rel =>
                  try ((repeat apply Exists.intro); refine ⟨?_, rfl⟩)
                  exact ⟨⟨k + 1, by omega, by go_num, by rw [HJ.out], by first | rfl | trivial⟩⟩
                case measure => simp [intOf]; omega
            · have hke : k = P.length := by omega
              have hi : ¬ (k : Int) < (P.length : Int) := by omega
              have HE : Hid (textC c0 = joinK P k) := by show _ = _; rw [← HC0.out]; unfold textC; rw [HP.out, hke]
              generalize joinK P k = u at HE hju ⊢
              clear hke
              go_wp2
              go_ret
              exact ⟨by rw [HE.out]; rfl, HBL.out⟩
      | true =>
        have E2 : Hid (inN ma 0 999999 = true) := e2
        obtain ⟨dm, hdm⟩ : ∃ d : ByteArray, ⟨(decOf ma).toArray⟩ = d := ⟨_, rfl⟩
        have HM : Hid (∀ wi, Calls Tryd.prog 34 #[.int .i64 ma] wi fun e w2 => e = .returned (.string dm) ∧ Below wi.heap.size wi w2) := by intro wi; have h0 := of_decide_eq_true e2; rw [← hdm]; exact specDecimal_any ma wi (by omega) (by omega)
        have hzdm : dm.size ≤ 32 := by rw [← hdm]; exact decOf_short (of_decide_eq_true e2)
        have HDdm : Hid ((⟨(decOf ma).toArray⟩ : ByteArray) = dm) := hdm
        clear hdm
        clear e2
        cases e3 : inN sh 0 999999 with
        | false =>
          have E3 : Hid (inN sh 0 999999 = false) := e3
          clear e3
          go_enter Tryd.func31, Tryd.ntmps31
          go_wp2_with (at_builtin; first | (refine wpList_snocV rfl (.tmp 9) (.tmp 10) 44 rfl wb.heap.size 9 Tryd.underlying44 (.string ⟨#[]⟩) 16 Tryd.infoT10 rfl _ (strs []) rfl HS.out.1 (.string (⟨noStoreL.toArray⟩ : ByteArray)) rfl rfl (by simp [strs]) (by simp [strs]) HS.out.2.size ?_; intro v1 w1 ho1 hn1 hb1 hz1; have HS : Hid (OwnV w1 wb.heap.size 9 v1 (strs [(⟨noStoreL.toArray⟩ : ByteArray)]) ∧ Below wb.heap.size wb w1) := ⟨ho1, hb1 _ HS.out.2⟩; obtain ⟨b0, b1, b2, b3⟩ := (HB.out.2.on HS.out.2).cells; dsimp only at b0 b1 b2 b3; clear ho1 hn1 hb1 hz1) | (refine wpList_snocV rfl (.tmp 14) (.tmp 15) 44 rfl wb.heap.size 9 Tryd.underlying44 (.string ⟨#[]⟩) 16 Tryd.infoT10 rfl _ (strs [(⟨noStoreL.toArray⟩ : ByteArray)]) rfl HS.out.1 (.string (⟨noCacheL.toArray⟩ : ByteArray)) rfl rfl (by simp [strs]) (by simp [strs]) HS.out.2.size ?_; intro v1 w1 ho1 hn1 hb1 hz1; have HS : Hid (OwnV w1 wb.heap.size 9 v1 (strs [(⟨noStoreL.toArray⟩ : ByteArray), (⟨noCacheL.toArray⟩ : ByteArray)]) ∧ Below wb.heap.size wb w1) := ⟨ho1, hb1 _ HS.out.2⟩; obtain ⟨b0, b1, b2, b3⟩ := (HB.out.2.on HS.out.2).cells; dsimp only at b0 b1 b2 b3; clear ho1 hn1 hb1 hz1))
          refine (in_any ma 0 999999 _).mono ?_
          rintro e wi ⟨rfl, hwi⟩
          rw [hwi, E2.out]
          clear hwi wi
          go_wp2_with fail
          refine (HM.out _).mono ?_
          rintro e wd ⟨rfl, hbd⟩
          have HS : Hid (OwnV wd wb.heap.size 9 _ (strs [(⟨noStoreL.toArray⟩ : ByteArray), (⟨noCacheL.toArray⟩ : ByteArray)]) ∧ Below wb.heap.size wb wd) := ⟨HS.out.1.below hbd (Nat.le_refl _), HS.out.2.trans (hbd.mono HS.out.2.size)⟩
          obtain ⟨b0, b1, b2, b3⟩ := (HB.out.2.on HS.out.2).cells
          dsimp only at b0 b1 b2 b3
          clear hbd
          go_wp2_with (at_builtin; (refine wpList_snocV rfl (.tmp 20) (.tmp 25) 44 rfl wb.heap.size 9 Tryd.underlying44 (.string ⟨#[]⟩) 16 Tryd.infoT10 rfl _ (strs [(⟨noStoreL.toArray⟩ : ByteArray), (⟨noCacheL.toArray⟩ : ByteArray)]) rfl HS.out.1 (.string ((⟨maxAgeL.toArray⟩ : ByteArray) ++ dm)) rfl rfl (by simp [strs]) (by simp [strs]) HS.out.2.size ?_; intro v1 w1 ho1 hn1 hb1 hz1; have HS : Hid (OwnV w1 wb.heap.size 9 v1 (strs [(⟨noStoreL.toArray⟩ : ByteArray), (⟨noCacheL.toArray⟩ : ByteArray), ((⟨maxAgeL.toArray⟩ : ByteArray) ++ dm)]) ∧ Below wb.heap.size wb w1) := ⟨ho1, hb1 _ HS.out.2⟩; obtain ⟨b0, b1, b2, b3⟩ := (HB.out.2.on HS.out.2).cells; dsimp only at b0 b1 b2 b3; clear ho1 hn1 hb1 hz1))
          refine (in_any sh 0 999999 _).mono ?_
          rintro e wi ⟨rfl, hwi⟩
          rw [hwi, E3.out]
          clear hwi wi
          go_wp2_with fail
          have HP : Hid (wordsC ⟨true, true, ma, sh⟩ = [(⟨noStoreL.toArray⟩ : ByteArray), (⟨noCacheL.toArray⟩ : ByteArray), ((⟨maxAgeL.toArray⟩ : ByteArray) ++ dm)]) := by show _ = _; unfold wordsC; simp [E2.out, E3.out, HDdm.out]
          obtain ⟨P, hP⟩ : ∃ P : List ByteArray, [(⟨noStoreL.toArray⟩ : ByteArray), (⟨noCacheL.toArray⟩ : ByteArray), ((⟨maxAgeL.toArray⟩ : ByteArray) ++ dm)] = P := ⟨_, rfl⟩
          rw [hP] at HS HP
          have HPL : Hid (P.length ≤ 4) := by show _ ≤ _; rw [← hP]; simp
          have HPZ : Hid (∀ p ∈ P, p.size ≤ 48) := by rw [← hP]; intro p hp; simp only [List.mem_cons, List.not_mem_nil, or_false] at hp; rcases hp with hp | hp | hp <;> rw [hp] <;> first | decide | (rw [ByteArray.size_append, show (⟨maxAgeL.toArray⟩ : ByteArray).size = 8 from rfl]; omega) | (rw [ByteArray.size_append, show (⟨sMaxL.toArray⟩ : ByteArray).size = 9 from rfl]; omega)
          clear hP
          obtain ⟨w9, hw9⟩ : ∃ w9, w1 = w9 := ⟨_, rfl⟩
          rw [hw9] at HS ⊢
          clear b0 b1 b2 b3 hw9
          obtain ⟨av, cv, hv, hcell⟩ := HS.out.1.shape
          rw [strs_length] at hv
          have HCL : Hid (∀ j (hj : j < P.length), ∃ g, av = some ⟨g, 0, none⟩ ∧ w9.cell? ⟨g, j, none⟩ = some (.string P[j])) := by
            intro j hj
            obtain ⟨g, h1, h2, _⟩ := hcell j (by rw [strs_length]; exact hj)
            rw [strs_at hj] at h2
            exact ⟨g, h1, h2⟩
          have HBL : Hid (Below w.heap.size w w9) := HB.out.1.trans (HS.out.2.mono HB.out.1.size)
          clear hcell HS HB
          subst hv
          go_loopw [4, 5] (fun s i wr => Box (∃ k : Nat, k ≤ P.length ∧ i = .int .i64 k ∧ s = .string (joinK P k) ∧ wr = w9))
            (fun _ i _ => P.length - (intOf i).toNat)
          case atStart => exact ⟨⟨0, by omega, rfl, rfl, rfl⟩⟩
          case round =>
            obtain ⟨k, hk, rfl, rfl, hwr⟩ := hrel.out
            rw [hwr]
            clear hwr hrel
            have hpl := HPL.out
            have hju := joinK_size HPZ.out k
            by_cases hlt : k < P.length
            · obtain ⟨g, hav, hc⟩ := HCL.out k hlt
              clear HCL
              obtain ⟨t, ht⟩ : ∃ t, P[k] = t := ⟨_, rfl⟩
              rw [ht] at hc
              have htz : t.size ≤ 48 := by rw [← ht]; exact HPZ.out _ (List.getElem_mem hlt)
              have HT : Hid (P.getD k ⟨#[]⟩ = t) := by show _ = _; rw [List.getD_eq_getElem?_getD, List.getElem?_eq_getElem hlt, ht]; rfl
              clear ht
              subst hav
              have hi : (k : Int) < (P.length : Int) := by omega
              have hi0 : (0 : Int) ≤ (k : Int) := by omega
              by_cases h0 : 0 < k
              · have h0i : (0 : Int) < (k : Int) := by omega
                have HJ : Hid (joinK P (k + 1) = joinK P k ++ ⟨#[44, 32]⟩ ++ t) := by show _ = _; rw [joinK, if_pos h0, HT.out]
                generalize joinK P k = u at HJ hju ⊢
                go_wp2
                go_roundw
                case rel =>
                  try ((repeat apply Exists.intro); refine ⟨?_, rfl⟩)
                  exact ⟨⟨k + 1, by omega, by go_num, by rw [HJ.out], by first | rfl | trivial⟩⟩
                case measure => simp [intOf]; omega
              · have h0i : ¬ (0 : Int) < (k : Int) := by omega
                have HJ : Hid (joinK P (k + 1) = joinK P k ++ t) := by show _ = _; rw [joinK, if_neg h0, HT.out]
                generalize joinK P k = u at HJ hju ⊢
                go_wp2
                go_roundw
                case rel =>
                  try ((repeat apply Exists.intro); refine ⟨?_, rfl⟩)
                  exact ⟨⟨k + 1, by omega, by go_num, by rw [HJ.out], by first | rfl | trivial⟩⟩
                case measure => simp [intOf]; omega
            · have hke : k = P.length := by omega
              have hi : ¬ (k : Int) < (P.length : Int) := by omega
              have HE : Hid (textC c0 = joinK P k) := by show _ = _; rw [← HC0.out]; unfold textC; rw [HP.out, hke]
              generalize joinK P k = u at HE hju ⊢
              clear hke
              go_wp2
              go_ret
              exact ⟨by rw [HE.out]; rfl, HBL.out⟩
        | true =>
          have E3 : Hid (inN sh 0 999999 = true) := e3
          obtain ⟨ds, hds⟩ : ∃ d : ByteArray, ⟨(decOf sh).toArray⟩ = d := ⟨_, rfl⟩
          have HH : Hid (∀ wi, Calls Tryd.prog 34 #[.int .i64 sh] wi fun e w2 => e = .returned (.string ds) ∧ Below wi.heap.size wi w2) := by intro wi; have h0 := of_decide_eq_true e3; rw [← hds]; exact specDecimal_any sh wi (by omega) (by omega)
          have hzds : ds.size ≤ 32 := by rw [← hds]; exact decOf_short (of_decide_eq_true e3)
          have HDds : Hid ((⟨(decOf sh).toArray⟩ : ByteArray) = ds) := hds
          clear hds
          clear e3
          go_enter Tryd.func31, Tryd.ntmps31
          go_wp2_with (at_builtin; first | (refine wpList_snocV rfl (.tmp 9) (.tmp 10) 44 rfl wb.heap.size 9 Tryd.underlying44 (.string ⟨#[]⟩) 16 Tryd.infoT10 rfl _ (strs []) rfl HS.out.1 (.string (⟨noStoreL.toArray⟩ : ByteArray)) rfl rfl (by simp [strs]) (by simp [strs]) HS.out.2.size ?_; intro v1 w1 ho1 hn1 hb1 hz1; have HS : Hid (OwnV w1 wb.heap.size 9 v1 (strs [(⟨noStoreL.toArray⟩ : ByteArray)]) ∧ Below wb.heap.size wb w1) := ⟨ho1, hb1 _ HS.out.2⟩; obtain ⟨b0, b1, b2, b3⟩ := (HB.out.2.on HS.out.2).cells; dsimp only at b0 b1 b2 b3; clear ho1 hn1 hb1 hz1) | (refine wpList_snocV rfl (.tmp 14) (.tmp 15) 44 rfl wb.heap.size 9 Tryd.underlying44 (.string ⟨#[]⟩) 16 Tryd.infoT10 rfl _ (strs [(⟨noStoreL.toArray⟩ : ByteArray)]) rfl HS.out.1 (.string (⟨noCacheL.toArray⟩ : ByteArray)) rfl rfl (by simp [strs]) (by simp [strs]) HS.out.2.size ?_; intro v1 w1 ho1 hn1 hb1 hz1; have HS : Hid (OwnV w1 wb.heap.size 9 v1 (strs [(⟨noStoreL.toArray⟩ : ByteArray), (⟨noCacheL.toArray⟩ : ByteArray)]) ∧ Below wb.heap.size wb w1) := ⟨ho1, hb1 _ HS.out.2⟩; obtain ⟨b0, b1, b2, b3⟩ := (HB.out.2.on HS.out.2).cells; dsimp only at b0 b1 b2 b3; clear ho1 hn1 hb1 hz1))
          refine (in_any ma 0 999999 _).mono ?_
          rintro e wi ⟨rfl, hwi⟩
          rw [hwi, E2.out]
          clear hwi wi
          go_wp2_with fail
          refine (HM.out _).mono ?_
          rintro e wd ⟨rfl, hbd⟩
          have HS : Hid (OwnV wd wb.heap.size 9 _ (strs [(⟨noStoreL.toArray⟩ : ByteArray), (⟨noCacheL.toArray⟩ : ByteArray)]) ∧ Below wb.heap.size wb wd) := ⟨HS.out.1.below hbd (Nat.le_refl _), HS.out.2.trans (hbd.mono HS.out.2.size)⟩
          obtain ⟨b0, b1, b2, b3⟩ := (HB.out.2.on HS.out.2).cells
          dsimp only at b0 b1 b2 b3
          clear hbd
          go_wp2_with (at_builtin; (refine wpList_snocV rfl (.tmp 20) (.tmp 25) 44 rfl wb.heap.size 9 Tryd.underlying44 (.string ⟨#[]⟩) 16 Tryd.infoT10 rfl _ (strs [(⟨noStoreL.toArray⟩ : ByteArray), (⟨noCacheL.toArray⟩ : ByteArray)]) rfl HS.out.1 (.string ((⟨maxAgeL.toArray⟩ : ByteArray) ++ dm)) rfl rfl (by simp [strs]) (by simp [strs]) HS.out.2.size ?_; intro v1 w1 ho1 hn1 hb1 hz1; have HS : Hid (OwnV w1 wb.heap.size 9 v1 (strs [(⟨noStoreL.toArray⟩ : ByteArray), (⟨noCacheL.toArray⟩ : ByteArray), ((⟨maxAgeL.toArray⟩ : ByteArray) ++ dm)]) ∧ Below wb.heap.size wb w1) := ⟨ho1, hb1 _ HS.out.2⟩; obtain ⟨b0, b1, b2, b3⟩ := (HB.out.2.on HS.out.2).cells; dsimp only at b0 b1 b2 b3; clear ho1 hn1 hb1 hz1))
          refine (in_any sh 0 999999 _).mono ?_
          rintro e wi ⟨rfl, hwi⟩
          rw [hwi, E3.out]
          clear hwi wi
          go_wp2_with fail
          refine (HH.out _).mono ?_
          rintro e wd ⟨rfl, hbd⟩
          have HS : Hid (OwnV wd wb.heap.size 9 _ (strs [(⟨noStoreL.toArray⟩ : ByteArray), (⟨noCacheL.toArray⟩ : ByteArray), ((⟨maxAgeL.toArray⟩ : ByteArray) ++ dm)]) ∧ Below wb.heap.size wb wd) := ⟨HS.out.1.below hbd (Nat.le_refl _), HS.out.2.trans (hbd.mono HS.out.2.size)⟩
          obtain ⟨b0, b1, b2, b3⟩ := (HB.out.2.on HS.out.2).cells
          dsimp only at b0 b1 b2 b3
          clear hbd
          go_wp2_with (at_builtin; (refine wpList_snocV rfl (.tmp 30) (.tmp 35) 44 rfl wb.heap.size 9 Tryd.underlying44 (.string ⟨#[]⟩) 16 Tryd.infoT10 rfl _ (strs [(⟨noStoreL.toArray⟩ : ByteArray), (⟨noCacheL.toArray⟩ : ByteArray), ((⟨maxAgeL.toArray⟩ : ByteArray) ++ dm)]) rfl HS.out.1 (.string ((⟨sMaxL.toArray⟩ : ByteArray) ++ ds)) rfl rfl (by simp [strs]) (by simp [strs]) HS.out.2.size ?_; intro v1 w1 ho1 hn1 hb1 hz1; have HS : Hid (OwnV w1 wb.heap.size 9 v1 (strs [(⟨noStoreL.toArray⟩ : ByteArray), (⟨noCacheL.toArray⟩ : ByteArray), ((⟨maxAgeL.toArray⟩ : ByteArray) ++ dm), ((⟨sMaxL.toArray⟩ : ByteArray) ++ ds)]) ∧ Below wb.heap.size wb w1) := ⟨ho1, hb1 _ HS.out.2⟩; obtain ⟨b0, b1, b2, b3⟩ := (HB.out.2.on HS.out.2).cells; dsimp only at b0 b1 b2 b3; clear ho1 hn1 hb1 hz1))
          have HP : Hid (wordsC ⟨true, true, ma, sh⟩ = [(⟨noStoreL.toArray⟩ : ByteArray), (⟨noCacheL.toArray⟩ : ByteArray), ((⟨maxAgeL.toArray⟩ : ByteArray) ++ dm), ((⟨sMaxL.toArray⟩ : ByteArray) ++ ds)]) := by show _ = _; unfold wordsC; simp [E2.out, E3.out, HDdm.out, HDds.out]
          obtain ⟨P, hP⟩ : ∃ P : List ByteArray, [(⟨noStoreL.toArray⟩ : ByteArray), (⟨noCacheL.toArray⟩ : ByteArray), ((⟨maxAgeL.toArray⟩ : ByteArray) ++ dm), ((⟨sMaxL.toArray⟩ : ByteArray) ++ ds)] = P := ⟨_, rfl⟩
          rw [hP] at HS HP
          have HPL : Hid (P.length ≤ 4) := by show _ ≤ _; rw [← hP]; simp
          have HPZ : Hid (∀ p ∈ P, p.size ≤ 48) := by rw [← hP]; intro p hp; simp only [List.mem_cons, List.not_mem_nil, or_false] at hp; rcases hp with hp | hp | hp | hp <;> rw [hp] <;> first | decide | (rw [ByteArray.size_append, show (⟨maxAgeL.toArray⟩ : ByteArray).size = 8 from rfl]; omega) | (rw [ByteArray.size_append, show (⟨sMaxL.toArray⟩ : ByteArray).size = 9 from rfl]; omega)
          clear hP
          obtain ⟨w9, hw9⟩ : ∃ w9, w1 = w9 := ⟨_, rfl⟩
          rw [hw9] at HS ⊢
          clear b0 b1 b2 b3 hw9
          obtain ⟨av, cv, hv, hcell⟩ := HS.out.1.shape
          rw [strs_length] at hv
          have HCL : Hid (∀ j (hj : j < P.length), ∃ g, av = some ⟨g, 0, none⟩ ∧ w9.cell? ⟨g, j, none⟩ = some (.string P[j])) := by
            intro j hj
            obtain ⟨g, h1, h2, _⟩ := hcell j (by rw [strs_length]; exact hj)
            rw [strs_at hj] at h2
            exact ⟨g, h1, h2⟩
          have HBL : Hid (Below w.heap.size w w9) := HB.out.1.trans (HS.out.2.mono HB.out.1.size)
          clear hcell HS HB
          subst hv
          go_loopw [4, 5] (fun s i wr => Box (∃ k : Nat, k ≤ P.length ∧ i = .int .i64 k ∧ s = .string (joinK P k) ∧ wr = w9))
            (fun _ i _ => P.length - (intOf i).toNat)
          case atStart => exact ⟨⟨0, by omega, rfl, rfl, rfl⟩⟩
          case round =>
            obtain ⟨k, hk, rfl, rfl, hwr⟩ := hrel.out
            rw [hwr]
            clear hwr hrel
            have hpl := HPL.out
            have hju := joinK_size HPZ.out k
            by_cases hlt : k < P.length
            · obtain ⟨g, hav, hc⟩ := HCL.out k hlt
              clear HCL
              obtain ⟨t, ht⟩ : ∃ t, P[k] = t := ⟨_, rfl⟩
              rw [ht] at hc
              have htz : t.size ≤ 48 := by rw [← ht]; exact HPZ.out _ (List.getElem_mem hlt)
              have HT : Hid (P.getD k ⟨#[]⟩ = t) := by show _ = _; rw [List.getD_eq_getElem?_getD, List.getElem?_eq_getElem hlt, ht]; rfl
              clear ht
              subst hav
              have hi : (k : Int) < (P.length : Int) := by omega
              have hi0 : (0 : Int) ≤ (k : Int) := by omega
              by_cases h0 : 0 < k
              · have h0i : (0 : Int) < (k : Int) := by omega
                have HJ : Hid (joinK P (k + 1) = joinK P k ++ ⟨#[44, 32]⟩ ++ t) := by show _ = _; rw [joinK, if_pos h0, HT.out]
                generalize joinK P k = u at HJ hju ⊢
                go_wp2
                go_roundw
                case rel =>
                  try ((repeat apply Exists.intro); refine ⟨?_, rfl⟩)
                  exact ⟨⟨k + 1, by omega, by go_num, by rw [HJ.out], by first | rfl | trivial⟩⟩
                case measure => simp [intOf]; omega
              · have h0i : ¬ (0 : Int) < (k : Int) := by omega
                have HJ : Hid (joinK P (k + 1) = joinK P k ++ t) := by show _ = _; rw [joinK, if_neg h0, HT.out]
                generalize joinK P k = u at HJ hju ⊢
                go_wp2
                go_roundw
                case rel =>
                  try ((repeat apply Exists.intro); refine ⟨?_, rfl⟩)
                  exact ⟨⟨k + 1, by omega, by go_num, by rw [HJ.out], by first | rfl | trivial⟩⟩
                case measure => simp [intOf]; omega
            · have hke : k = P.length := by omega
              have hi : ¬ (k : Int) < (P.length : Int) := by omega
              have HE : Hid (textC c0 = joinK P k) := by show _ = _; rw [← HC0.out]; unfold textC; rw [HP.out, hke]
              generalize joinK P k = u at HE hju ⊢
              clear hke
              go_wp2
              go_ret
              exact ⟨by rw [HE.out]; rfl, HBL.out⟩
end Go.Proofs.YtnnaphfeeobeladDoor
