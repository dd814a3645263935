/- What is found of a file: the other text's walk. -/
import Derived.Test.YtepfblabdibggabDoorFindPlain
import Derived.Test.YtepfblabdibggabDoorEnPlusJ
import Derived.Test.YtepfblabdibggabDoorEnsLaw
import Derived.Test.YtepfblabdibggabDoorReadEnSpec
import Derived.Test.YtepfblabdibggabDoorUnframeSpec
import Derived.Test.YtepfblabdibggabDoorDiskSpec
import Derived.Test.YtepfblabdibggabDoorAtSpec
import Derived.Test.YtepfblabdibggabDoorLawKitJ
import Derived.Test.YtepfblabdibggabDoorReadShortJ
import Derived.Test.YtepfblabdibggabDoorEntActsJ
namespace Go.Proofs.YtepfblabdibggabDoor
open Go.RowKit Go.Sort
theorem Tryd.infoEnS : (Tryd.prog.info? 28).map (fun i => (i.zero, i.size, i.bytes)) = some (some (.agg #[.string ⟨#[]⟩, .int .i64 0, .int .i64 0, .string ⟨#[]⟩]), 4, 48) := by kernel_rfl
theorem filterE_on {L : List En} {p : En → Bool} {k : Nat} (hk : k < L.length) {x : En} (hx : L[k] = x) (hp : p x = true) : (L.take (k + 1)).filter p = (L.take k).filter p ++ [x] := by
  rw [List.take_succ_eq_append_getElem hk, List.filter_append, hx]; simp [hp]
theorem filterE_off {L : List En} {p : En → Bool} {k : Nat} (hk : k < L.length) {x : En} (hx : L[k] = x) (hp : p x = false) : (L.take (k + 1)).filter p = (L.take k).filter p := by
  rw [List.take_succ_eq_append_getElem hk, List.filter_append, hx]; simp [hp]
theorem filterE_len (L : List En) (p : En → Bool) (k : Nat) : ((L.take k).filter p).length ≤ L.length := by
  have h1 := List.length_filter_le p (L.take k)
  have h2 : (L.take k).length ≤ L.length := by rw [List.length_take]; omega
  omega
set_option maxRecDepth 100000 in
set_option maxHeartbeats 4000000 in
theorem l15Put_any (w : World) (a : Option Addr) (c : Nat) (L : List En) (e : En) (hL : NAt w a L w.heap.size) (hm : L.length ≤ 100000) :
    Calls Tryd.prog 37 #[.slice a L.length c, .agg #[.string e.key, .int .i64 e.st, .int .i64 e.lf, .string e.bd]] w fun e' w' => ∃ v, e' = .returned v ∧ OwnN w' w.heap.size 28 v (insE L e) ∧ Below w.heap.size w w' := by
  obtain ⟨A, hA⟩ : ∃ A, w.heap.size = A := ⟨_, rfl⟩
  obtain ⟨wb, hwb⟩ : ∃ wb, w.alloc (.cells #[.string e.key, .int .i64 e.st, .int .i64 e.lf, .string e.bd] 28) = wb := ⟨_, rfl⟩
  have hb : Below A w wb := by rw [← hwb, ← hA]; exact (Below.refl _ _).alloc (Nat.le_refl _) _
  have hV : wb.heap.size = A + 1 := by rw [← hwb, ← hA]; simp
  have hx : EnB wb A 28 e := by rw [← hwb, ← hA]; exact EnB.new w _ e
  have HD : Hid (∀ wi, Below wb.heap.size wb wi → (wi.cell? ⟨A, 0, none⟩ = some (.string e.key) ∧ wi.cell? ⟨A, 1, none⟩ = some (.int .i64 e.st) ∧ wi.cell? ⟨A, 2, none⟩ = some (.int .i64 e.lf) ∧ wi.cell? ⟨A, 3, none⟩ = some (.string e.bd)) ∧ NAt wi a L wi.heap.size ∧ Below A w wi ∧ wb.heap.size ≤ wi.heap.size) := by
    intro wi hi
    exact ⟨(hx.on hi).cells, (hL.on (by rw [hA]; exact hb)).on hi, hb.trans (hi.mono (by omega)), hi.size⟩
  obtain ⟨wd, hwd⟩ : ∃ wd, wb.alloc (.cells #[] 28) = wd := ⟨_, rfl⟩
  have HBd : Hid (Below wb.heap.size wb wd) := by show Below _ _ _; rw [← hwd]; exact (Below.refl _ _).alloc (Nat.le_refl _) _
  have HO : Hid (OwnN wd wb.heap.size 28 (.slice (some ⟨A + 1, 0, none⟩) 0 0) []) := by
    show OwnN _ _ _ _ _
    rw [← hwd]
    have h := ownN_new wb 28 [] _ rfl (by simp [maxLen])
    rw [hV] at h ⊢
    exact h
  have HW : Hid (wb.alloc (.cells #[] 28) = wd ∧ w.alloc (.cells #[.string e.key, .int .i64 e.st, .int .i64 e.lf, .string e.bd] 28) = wb) := ⟨hwd, hwb⟩
  have HAV : Hid (A ≤ wb.heap.size) := by show _ ≤ _; omega
  rw [hA]
  clear hwb hb hV hx hwd hL
  go_enter Tryd.func37, Tryd.ntmps37
  go_wp2_with fail
  rw [HW.out.2, HW.out.1]
  go_loopw [5, 6] (fun s i wr => Box (∃ (k : Nat) (v : Value), k ≤ L.length ∧ i = .int .i64 k ∧ v = s ∧ Below wb.heap.size wb wr ∧ OwnN wr wb.heap.size 28 v ((L.take k).filter fun x => ltS x.key e.key)))
    (fun _ i _ => L.length - (intOf i).toNat)
  case atStart => exact ⟨⟨0, _, by omega, rfl, rfl, HBd.out, HO.out⟩⟩
  case round =>
    obtain ⟨k, v, hk, rfl, hsv, hbel, hown⟩ := hrel.out
    subst hsv
    obtain ⟨⟨b0, b1, b2, b3⟩, hLr, _⟩ := HD.out wr hbel
    have HB : Hid (Below wb.heap.size wb wr) := hbel
    by_cases hlt : k < L.length
    · obtain ⟨g, off, rfl, hg, hc0, hc1, hc2, hc3⟩ := hLr k hlt
      obtain ⟨x, hx⟩ : ∃ x, L[k] = x := ⟨_, rfl⟩
      rw [hx] at hc0 hc1 hc2 hc3
      have hi1 : (0 : Int) ≤ (k : Int) := by omega
      have hi2 : (k : Int) < (L.length : Int) := by omega
      have HF : Hid (L[k] = x) := hx
      have HOW : Hid (OwnN wr wb.heap.size 28 v ((L.take k).filter fun x => ltS x.key e.key)) := hown
      have hlenf := filterE_len L (fun x => ltS x.key e.key) k
      clear hx hown hLr hrel hbel
      cases he : Op.bytesLess x.key.toList e.key.toList with
      | false =>
        have hp : ltS x.key e.key = false := by simp [ltS, he]
        go_wp2
        go_quiet (fail)
        go_wp2
        go_roundw
        case rel =>
          try ((repeat apply Exists.intro); refine ⟨?_, rfl⟩)
          exact ⟨⟨k + 1, v, by omega, by go_num, rfl, HB.out.trans ⟨rfl, rfl, rfl, Nat.le_refl _, fun _ _ => rfl⟩, by rw [filterE_off (p := fun x => ltS x.key e.key) hlt HF.out hp]; exact HOW.out⟩⟩
        case measure => simp [intOf]; omega
      | true =>
        have hp : Hid (ltS x.key e.key = true) := by show _ = _; simp [ltS, he]
        go_wp2
        go_quiet (fail)
        obtain ⟨wq, hwq⟩ : ∃ wq, wr.drewN nq = wq := ⟨_, rfl⟩
        have HQ : Hid (Below wb.heap.size wb wq ∧ OwnN wq wb.heap.size 28 v ((L.take k).filter fun x => ltS x.key e.key)) := by
          rw [← hwq]
          exact ⟨HB.out.trans ⟨rfl, rfl, rfl, Nat.le_refl _, fun _ _ => rfl⟩, HOW.out⟩
        have d0 : wq.cell? ⟨g, off + k * 4, none⟩ = some (.string x.key) := by rw [← hwq]; exact hc0
        have d1 : wq.cell? ⟨g, off + k * 4 + 1, none⟩ = some (.int .i64 x.st) := by rw [← hwq]; exact hc1
        have d2 : wq.cell? ⟨g, off + k * 4 + 2, none⟩ = some (.int .i64 x.lf) := by rw [← hwq]; exact hc2
        have d3 : wq.cell? ⟨g, off + k * 4 + 3, none⟩ = some (.string x.bd) := by rw [← hwq]; exact hc3
        rw [hwq]
        clear hwq hc0 hc1 hc2 hc3 HOW HB b0 b1 b2 b3
        go_wp2_with (at_builtin; refine wpList_plusN rfl (.tmp 23) (.tmp 28) 37 rfl wb.heap.size 28 Tryd.underlying37 Tryd.infoEnS v ((L.take k).filter fun x => ltS x.key e.key) rfl HQ.out.2 [x] _ rfl rfl (by simp only [List.length_singleton]; omega) HQ.out.1.size ?_; intro v2 w2 ho2 hg2)
        have HB2 : Hid (Below wb.heap.size wb w2) := Below.grown HQ.out.1 hg2 HQ.out.1.size (fun j hj => (HQ.out.2.lt j hj).1)
        rw [← filterE_on (p := fun x => ltS x.key e.key) hlt HF.out hp.out] at ho2
        clear hg2 HQ
        go_roundw
        case rel =>
          try ((repeat apply Exists.intro); refine ⟨?_, rfl⟩)
          exact ⟨⟨k + 1, v2, by omega, by go_num, rfl, HB2.out, ho2⟩⟩
        case measure => simp [intOf]; omega
    · have hke : k = L.length := by omega
      rw [hke, List.take_length] at hown
      have HOW : Hid (OwnN wr wb.heap.size 28 v (L.filter fun x => ltS x.key e.key)) := hown
      have hlenf := List.length_filter_le (fun x : En => ltS x.key e.key) L
      clear hown hLr hrel hbel
      go_wp2_with (at_builtin; refine wpList_plusN rfl (.tmp 30) (.tmp 32) 37 rfl wb.heap.size 28 Tryd.underlying37 Tryd.infoEnS v (L.filter fun x => ltS x.key e.key) rfl HOW.out [e] _ rfl rfl (by simp only [List.length_singleton]; omega) HB.out.size ?_; intro v2 w2 ho2 hg2)
      have HB2 : Hid (Below wb.heap.size wb w2) := Below.grown HB.out hg2 HB.out.size (fun j hj => (HOW.out.lt j hj).1)
      have HO2 : Hid (OwnN w2 wb.heap.size 28 v2 ((L.filter fun x => ltS x.key e.key) ++ [e] ++ (L.take 0).filter fun x => ltS e.key x.key)) := by show OwnN _ _ _ _ _; simpa using ho2
      clear hg2 ho2 HOW HB b0 b1 b2 b3
      go_wp2
      go_loopw [5, 7] (fun s i wr => Box (∃ (k : Nat) (v : Value), k ≤ L.length ∧ i = .int .i64 k ∧ v = s ∧ Below wb.heap.size wb wr ∧ OwnN wr wb.heap.size 28 v ((L.filter fun x => ltS x.key e.key) ++ [e] ++ (L.take k).filter fun x => ltS e.key x.key)))
        (fun _ i _ => L.length - (intOf i).toNat)
      case atStart => exact ⟨⟨0, _, by omega, rfl, rfl, HB2.out, HO2.out⟩⟩
      case round =>
        obtain ⟨k, v, hk, rfl, hsv, hbel, hown⟩ := hrel.out
        subst hsv
        obtain ⟨⟨b0, b1, b2, b3⟩, hLr, hAw, _⟩ := HD.out wr hbel
        have HB : Hid (Below wb.heap.size wb wr ∧ Below A w wr) := ⟨hbel, hAw⟩
        by_cases hlt : k < L.length
        · obtain ⟨g, off, rfl, hg, hc0, hc1, hc2, hc3⟩ := hLr k hlt
          obtain ⟨x, hx⟩ : ∃ x, L[k] = x := ⟨_, rfl⟩
          rw [hx] at hc0 hc1 hc2 hc3
          have hi1 : (0 : Int) ≤ (k : Int) := by omega
          have hi2 : (k : Int) < (L.length : Int) := by omega
          have HF : Hid (L[k] = x) := hx
          have HOW : Hid (OwnN wr wb.heap.size 28 v ((L.filter fun x => ltS x.key e.key) ++ [e] ++ (L.take k).filter fun x => ltS e.key x.key)) := hown
          have hlen3 : ((L.filter fun x => ltS x.key e.key) ++ [e] ++ (L.take k).filter fun x => ltS e.key x.key).length ≤ 1999999 - 1 := by
            have := filterE_len L (fun x => ltS e.key x.key) k
            simp only [List.length_append, List.length_singleton]
            have := hm
            omega
          clear hx hown hLr hrel hbel hAw
          cases he : (Op.bytesLess x.key.toList e.key.toList || x.key.toList == e.key.toList) with
          | true =>
            have hp : ltS e.key x.key = false := by
              have h1 := gtS_iff (a := x.key) (b := e.key)
              rw [← h1]
              simp [ltS, eqS, he]
            go_wp2
            go_quiet (fail)
            go_wp2
            go_roundw
            case rel =>
              try ((repeat apply Exists.intro); refine ⟨?_, rfl⟩)
              exact ⟨⟨k + 1, v, by omega, by go_num, rfl, HB.out.1.trans ⟨rfl, rfl, rfl, Nat.le_refl _, fun _ _ => rfl⟩, by rw [filterE_off (p := fun x => ltS e.key x.key) hlt HF.out hp]; exact HOW.out⟩⟩
            case measure => simp [intOf]; omega
          | false =>
            have hp : Hid (ltS e.key x.key = true) := by
              have h1 := gtS_iff (a := x.key) (b := e.key)
              show _ = _
              rw [← h1]
              simp [ltS, eqS, he]
            go_wp2
            go_quiet (fail)
            obtain ⟨wq, hwq⟩ : ∃ wq, wr.drewN nq = wq := ⟨_, rfl⟩
            obtain ⟨F, hF⟩ : ∃ F, ((L.filter fun x => ltS x.key e.key) ++ [e] ++ (L.take k).filter fun x => ltS e.key x.key) = F := ⟨_, rfl⟩
            have HFF : Hid (((L.filter fun x => ltS x.key e.key) ++ [e] ++ (L.take (k + 1)).filter fun x => ltS e.key x.key) = F ++ [x]) := by
              show _ = _
              rw [← hF, filterE_on (p := fun x => ltS e.key x.key) hlt HF.out hp.out, List.append_assoc ((L.filter fun x => ltS x.key e.key) ++ [e])]
            rw [hF] at HOW hlen3
            have HQ : Hid (Below wb.heap.size wb wq ∧ OwnN wq wb.heap.size 28 v F) := by
              rw [← hwq]
              exact ⟨HB.out.1.trans ⟨rfl, rfl, rfl, Nat.le_refl _, fun _ _ => rfl⟩, HOW.out⟩
            have d0 : wq.cell? ⟨g, off + k * 4, none⟩ = some (.string x.key) := by rw [← hwq]; exact hc0
            have d1 : wq.cell? ⟨g, off + k * 4 + 1, none⟩ = some (.int .i64 x.st) := by rw [← hwq]; exact hc1
            have d2 : wq.cell? ⟨g, off + k * 4 + 2, none⟩ = some (.int .i64 x.lf) := by rw [← hwq]; exact hc2
            have d3 : wq.cell? ⟨g, off + k * 4 + 3, none⟩ = some (.string x.bd) := by rw [← hwq]; exact hc3
            rw [hwq]
            clear hwq hF hc0 hc1 hc2 hc3 HOW HB b0 b1 b2 b3
            go_wp2_with (at_builtin; refine wpList_plusN rfl (.tmp 48) (.tmp 53) 37 rfl wb.heap.size 28 Tryd.underlying37 Tryd.infoEnS v F rfl HQ.out.2 [x] _ rfl rfl (by simp only [List.length_singleton]; omega) HQ.out.1.size ?_; intro v2 w2 ho2 hg2)
            have HB2 : Hid (Below wb.heap.size wb w2) := Below.grown HQ.out.1 hg2 HQ.out.1.size (fun j hj => (HQ.out.2.lt j hj).1)
            rw [← HFF.out] at ho2
            clear hg2 HQ
            go_roundw
            case rel =>
              try ((repeat apply Exists.intro); refine ⟨?_, rfl⟩)
              exact ⟨⟨k + 1, v2, by omega, by go_num, rfl, HB2.out, ho2⟩⟩
            case measure => simp [intOf]; omega
        · have hke : k = L.length := by omega
          rw [hke, List.take_length] at hown
          have hfin : OwnN wr A 28 v (insE L e) := by
            have h := hown.mono HAV.out
            unfold insE
            simpa using h
          clear hown hLr hrel
          go_wp2
          go_ret
          exact ⟨v, rfl, hfin, HB.out.2⟩
set_option maxRecDepth 100000 in
set_option maxHeartbeats 8000000 in
theorem specFindKept_any (w : World) (a : Option Addr) (c : Nat) (L : List Fil) (hL : FAt w a L w.heap.size) (hm : L.length ≤ 1048576) (hz : ∀ j (hj : j < L.length), L[j].tx.size ≤ 1048576) :
    Calls Tryd.prog 14 #[.agg #[.slice a L.length c]] w fun e w' => ∃ v, e = .returned v ∧ OwnN w' w.heap.size 28 v (keptE L) ∧ Below w.heap.size w w' := by
  obtain ⟨A, hA⟩ : ∃ A, w.heap.size = A := ⟨_, rfl⟩
  obtain ⟨wb, hwb⟩ : ∃ wb, w.alloc (.cells #[.slice a L.length c] 41) = wb := ⟨_, rfl⟩
  have hb : Below A w wb := by rw [← hwb, ← hA]; exact (Below.refl _ _).alloc (Nat.le_refl _) _
  have hbs : A < wb.heap.size := by rw [← hwb, ← hA]; simp
  have hV : wb.heap.size = A + 1 := by rw [← hwb, ← hA]; simp
  have hbox : wb.cell? ⟨A, 0, none⟩ = some (.slice a L.length c) := by rw [← hwb, ← hA]; simp
  have HD : Hid (∀ wi, Below wb.heap.size wb wi → wi.cell? ⟨A, 0, none⟩ = some (.slice a L.length c) ∧ FAt wi a L wi.heap.size ∧ Below A w wi ∧ A ≤ wi.heap.size) := by
    intro wi hi
    exact ⟨(hi.cell hbs).trans hbox, FAt.on (FAt.on hL (by rw [hA]; exact hb)) hi, hb.trans (hi.mono (by omega)), by have := hi.size; omega⟩
  obtain ⟨wd, hwd⟩ : ∃ wd, wb.alloc (.cells #[] 28) = wd := ⟨_, rfl⟩
  have HBd : Hid (Below wb.heap.size wb wd) := by show Below _ _ _; rw [← hwd]; exact (Below.refl _ _).alloc (Nat.le_refl _) _
  have HO : Hid (OwnN wd A 28 (.slice (some ⟨A + 1, 0, none⟩) 0 0) []) := by
    show OwnN _ _ _ _ _
    rw [← hV, ← hwd]
    exact (ownN_new wb 28 [] _ rfl (by simp [maxLen])).mono (by omega)
  have HW : Hid (wb.alloc (.cells #[] 28) = wd ∧ w.alloc (.cells #[.slice a L.length c] 41) = wb) := ⟨hwd, hwb⟩
  have c0 := specDiskOk_any wd a c L (HD.out wd HBd.out).2.1 hm
  have HTX : Hid ((fileAt L nKept).1.size ≤ 1048576) := by
    show _ ≤ _
    unfold fileAt
    cases hf : L.find? (fun f => eqS f.nm nKept) with
    | none => exact Nat.zero_le _
    | some f =>
      obtain ⟨j, hj, rfl⟩ := List.getElem_of_mem (List.mem_of_find?_eq_some hf)
      exact hz j hj
  rw [hA]
  clear hwb hb hbs hV hbox hwd hL hz
  cases hd : dOk L
  case false =>
    rw [show keptE L = [] by unfold keptE; rw [hd]; rfl]
    rw [hd] at c0
    go_enter Tryd.func14, Tryd.ntmps14
    go_wp2_with fail
    rw [HW.out.2, HW.out.1]
    refine c0.mono ?_
    rintro e w1 ⟨rfl, hb1⟩
    have HB1 : Hid (Below wb.heap.size wb w1 ∧ OwnN w1 A 28 (.slice (some ⟨A + 1, 0, none⟩) 0 0) []) := ⟨HBd.out.trans (hb1.mono HBd.out.size), HO.out.below hb1 (Nat.le_refl _)⟩
    clear c0 hb1 HBd HO
    go_wp2_with fail
    go_ret
    exact ⟨.slice (some ⟨A + 1, 0, none⟩) 0 0, rfl, HB1.out.2, (HD.out w1 HB1.out.1).2.2.1⟩
  case true =>
    have HK : Hid (keptE L = findE (entsOf (ufL (fileAt L nKept).1))) := by show _ = _; unfold keptE; rw [hd]; rfl
    rw [HK.out]
    rw [hd] at c0
    clear hd
    have c2 := fun wi hi => specFileAt_any wi a c L nKept (HD.out wi hi).2.1 hm
    have hul := ufL_le (fileAt L nKept).1
    obtain ⟨tx, htx⟩ : ∃ x, (fileAt L nKept).1 = x := ⟨_, rfl⟩
    obtain ⟨th, hth⟩ : ∃ x, (fileAt L nKept).2 = x := ⟨_, rfl⟩
    have htxs : tx.size ≤ 1048576 := by rw [← htx]; exact HTX.out
    simp only [htx, hth] at c2
    rw [htx] at hul ⊢
    have c3 := fun w => specUnframe_any tx w htxs
    have HUS : Hid (∀ x ∈ ufL tx, x.size ≤ 1048576) := ufL_sizes htxs
    clear htx hth HK HTX
    generalize ufE tx = ue at c3
    generalize ufL tx = U at c3 hul HUS ⊢
    unfold nKept at c2
    go_enter Tryd.func14, Tryd.ntmps14
    go_wp2_with fail
    rw [HW.out.2, HW.out.1]
    refine c0.mono ?_
    rintro e w1 ⟨rfl, hb1⟩
    have HB1 : Hid (Below wb.heap.size wb w1 ∧ OwnN w1 A 28 (.slice (some ⟨A + 1, 0, none⟩) 0 0) []) := ⟨HBd.out.trans (hb1.mono HBd.out.size), HO.out.below hb1 (Nat.le_refl _)⟩
    have b0 := (HD.out w1 HB1.out.1).1
    clear c0 hb1 HBd HO
    go_wp2_with fail
    refine (c2 w1 HB1.out.1).mono ?_
    rintro e w2 ⟨rfl, hb2⟩
    have HB2 : Hid (Below wb.heap.size wb w2 ∧ OwnN w2 A 28 (.slice (some ⟨A + 1, 0, none⟩) 0 0) []) := ⟨HB1.out.1.trans (hb2.mono HB1.out.1.size), HB1.out.2.below hb2 (Nat.le_refl _)⟩
    clear c2 hb2 HB1 b0
    go_wp2_with fail
    refine (c3 _).mono ?_
    rintro e w3 ⟨vU, rfl, hoU, hb3⟩
    obtain ⟨aU, cU, hvU, hAU⟩ := hoU.strsAt
    subst hvU
    have HB3 : Hid (Below wb.heap.size wb w3 ∧ OwnN w3 A 28 (.slice (some ⟨A + 1, 0, none⟩) 0 0) (findE (entsOf (U.take 0))) ∧ LAt w3 aU U w3.heap.size) := ⟨HB2.out.1.trans (hb3.mono HB2.out.1.size), HB2.out.2.below hb3 (Nat.le_refl _), hAU⟩
    clear c3 hb3 HB2 hoU hAU
    go_wp2_with fail
    go_loopw [3, 8] (fun s i wr => Box (∃ (k : Nat) (v : Value), k ≤ U.length ∧ i = .int .i64 k ∧ v = s ∧ Below wb.heap.size wb wr ∧ OwnN wr A 28 v (findE (entsOf (U.take k))) ∧ LAt wr aU U wr.heap.size))
      (fun _ i _ => U.length - (intOf i).toNat)
    case atStart => exact ⟨⟨0, _, by omega, rfl, rfl, HB3.out.1, HB3.out.2.1, HB3.out.2.2⟩⟩
    case round =>
      obtain ⟨k, v, hk, rfl, hsv, hbel, hown, hAU⟩ := hrel.out
      subst hsv
      have HB4 : Hid (Below wb.heap.size wb wr ∧ OwnN wr A 28 v (findE (entsOf (U.take k))) ∧ LAt wr aU U wr.heap.size) := ⟨hbel, hown, hAU⟩
      by_cases hlt : k < U.length
      · obtain ⟨g, off, rfl, hg, hc0⟩ := hAU k hlt
        have hxs := HUS.out U[k] (List.getElem_mem hlt)
        have HY : Hid (reOk U[k] = true → findE (entsOf (U.take (k + 1))) = insE (findE (entsOf (U.take k))) (reE U[k])) := fun h => by
          rw [List.take_succ_eq_append_getElem hlt, ents_yes _ h, findE_snoc]
        have HN : Hid (reOk U[k] = false → findE (entsOf (U.take (k + 1))) = findE (entsOf (U.take k))) := fun h => by
          rw [List.take_succ_eq_append_getElem hlt, ents_no _ h]
        have hfl : (findE (entsOf (U.take k))).length ≤ 100000 := by
          have h1 := findE_len (entsOf (U.take k))
          have h2 := ents_len (U.take k)
          rw [List.length_take] at h2
          omega
        obtain ⟨x, hx⟩ : ∃ x, U[k] = x := ⟨_, rfl⟩
        rw [hx] at hc0 hxs HY HN
        have hi1 : (0 : Int) ≤ (k : Int) := by omega
        have hi2 : (k : Int) < (U.length : Int) := by omega
        have c5 := fun w => specReadEntry_any x w hxs
        clear hrel hbel hown hAU hx hxs
        obtain ⟨F, hF⟩ : ∃ F, rdEn x = F := ⟨_, rfl⟩
        have HRF : Hid (rdEn x = F) := hF
        rw [hF] at c5
        clear hF
        cases hok : reOk x
        case false =>
          have HN' := HN.out hok
          rw [hok] at c5
          clear hok HN HY
          go_wp2_with fail
          refine (c5 _).mono ?_
          rintro e w5 ⟨rfl, hb5⟩
          have HB5 : Hid (Below wb.heap.size wb w5 ∧ OwnN w5 A 28 v (findE (entsOf (U.take k))) ∧ LAt w5 (some ⟨g, off, none⟩) U w5.heap.size) := ⟨HB4.out.1.trans (hb5.mono HB4.out.1.size), HB4.out.2.1.below hb5 (Nat.le_refl _), HB4.out.2.2.on hb5⟩
          clear c5 hb5 HB4 hc0
          go_wp2_with fail
          go_roundw
          case rel =>
            try ((repeat apply Exists.intro); refine ⟨?_, rfl⟩)
            have hal := (Below.refl w5.heap.size w5).alloc (Nat.le_refl _) (.cells #[.string F.key, .int .i64 F.st, .int .i64 F.lf, .string F.bd] 28)
            exact ⟨⟨k + 1, v, by omega, by go_num, rfl, HB5.out.1.alloc HB5.out.1.size _, by rw [HN']; exact HB5.out.2.1.below hal (Nat.le_refl _), HB5.out.2.2.on hal⟩⟩
          case measure => simp [intOf]; omega
        case true =>
          have HY' := HY.out hok
          have hFE : reE x = F := by rw [← HRF.out, rdEn_in hok]
          rw [hFE] at HY'
          have HY2 : Hid (findE (entsOf (U.take (k + 1))) = insE (findE (entsOf (U.take k))) F) := HY'
          rw [hok] at c5
          clear hok HN HY HY' hFE HRF
          generalize findE (entsOf (U.take k)) = FE at HB4 HY2 hfl
          go_wp2_with fail
          refine (c5 _).mono ?_
          rintro e w5 ⟨rfl, hb5⟩
          have HB5 : Hid (Below wb.heap.size wb w5 ∧ OwnN w5 A 28 v FE ∧ LAt w5 (some ⟨g, off, none⟩) U w5.heap.size) := ⟨HB4.out.1.trans (hb5.mono HB4.out.1.size), HB4.out.2.1.below hb5 (Nat.le_refl _), HB4.out.2.2.on hb5⟩
          clear c5 hb5 HB4 hc0
          obtain ⟨w6, hw6⟩ : ∃ w6, w5.alloc (.cells #[.string F.key, .int .i64 F.st, .int .i64 F.lf, .string F.bd] 28) = w6 := ⟨_, rfl⟩
          have HB6 : Hid (Below wb.heap.size wb w6 ∧ OwnN w6 A 28 v FE ∧ LAt w6 (some ⟨g, off, none⟩) U w6.heap.size ∧ EnB w6 w5.heap.size 28 F) := by
            have hal : Below w5.heap.size w5 w6 := by rw [← hw6]; exact (Below.refl w5.heap.size w5).alloc (Nat.le_refl _) _
            exact ⟨HB5.out.1.trans (hal.mono HB5.out.1.size), HB5.out.2.1.below hal (Nat.le_refl _), HB5.out.2.2.on hal, by rw [← hw6]; exact EnB.new w5 _ F⟩
          have HW6 : Hid (w5.alloc (.cells #[.string F.key, .int .i64 F.st, .int .i64 F.lf, .string F.bd] 28) = w6) := hw6
          obtain ⟨av, cv, hvv, hAv⟩ := HB6.out.2.1.at
          subst hvv
          have c6 := l15Put_any w6 av cv FE F hAv hfl
          obtain ⟨x0, x1, x2, x3⟩ := HB6.out.2.2.2.cells
          rw [← hw6] at x0 x1 x2 x3
          clear hw6 HB5 hAv
          go_wp2_with fail
          rw [HW6.out]
          refine c6.mono ?_
          rintro e w7 ⟨v7, rfl, ho7, hb7⟩
          have HB7 : Hid (Below wb.heap.size wb w7 ∧ OwnN w7 A 28 v7 (insE FE F) ∧ LAt w7 (some ⟨g, off, none⟩) U w7.heap.size) := ⟨HB6.out.1.trans (hb7.mono HB6.out.1.size), ho7.mono (HD.out w6 HB6.out.1).2.2.2, HB6.out.2.2.1.on hb7⟩
          clear c6 hb7 ho7 HB6 x0 x1 x2 x3
          go_wp2_with fail
          go_roundw
          case rel =>
            try ((repeat apply Exists.intro); refine ⟨?_, rfl⟩)
            exact ⟨⟨k + 1, v7, by omega, by go_num, rfl, HB7.out.1, by rw [HY2.out]; exact HB7.out.2.1, HB7.out.2.2⟩⟩
          case measure => simp [intOf]; omega
      · have hke : k = U.length := by omega
        rw [hke, List.take_length] at hown
        have h1 := (HD.out wr hbel).2.2.1
        clear hAU hrel
        go_wp2
        go_ret
        exact ⟨v, rfl, hown, h1⟩
end Go.Proofs.YtepfblabdibggabDoor
