/- Acts, of which the power leaves some: the program's. -/
import Derived.Test.YtghladeamdhlhalCutPlain
import Derived.Test.YtghladeamdhlhalRunImpl
import Derived.Test.YtghladeamdhlhalLoseImpl2
import Derived.Test.YtghladeamdhlhalBoxes
import Derived.Deep.DeepCutAuto
import Derived.Deep.RegionLaw
namespace Go.Proofs.Ytghladeamdhlhal
open Go.RowKit Go.Sort

set_option maxRecDepth 100000 in
set_option maxHeartbeats 4000000 in
theorem implCut_any (w : World) (a : Option Addr) (cap : Nat) (L : List Fil) (b : Option Addr) (capb : Nat) (As : List Ac) (wh : Int) (c : Option Addr) (capc : Nat) (left : List Int) (hL : FAt w a L w.heap.size) (hA : AAt w b As w.heap.size) (hI : IAt w c left w.heap.size) (hm : L.length + wgt L ≤ 1048576) (hs : SizedA As) (hml : As.length ≤ 1048576) (hi : left.length ≤ 1048576) (hcut : Cuts b As.length capb) :
    Calls Try.prog 29 #[.agg #[.slice a L.length cap], .slice b As.length capb, .int .i64 wh, .slice c left.length capc] w fun e w' => ∃ v, e = .returned (.tuple #[.agg #[v], .bool (cutR L As wh left).2]) ∧ OwnF w' w.heap.size 63 v (cutR L As wh left).1 ∧ Below w.heap.size w w' := by
  obtain ⟨wb, hwb⟩ : ∃ wb, (w.alloc (.cells #[.slice a L.length cap] 31)).alloc (.cells #[.slice none 0 0] 31) = wb := ⟨_, rfl⟩
  have hb : Below w.heap.size w wb := by rw [← hwb]; exact ((Below.refl _ w).alloc (Nat.le_refl _) _).alloc (by simp) _
  have hbox : wb.heap[w.heap.size]? = some (.cells #[.slice a L.length cap] 31 (0, 0)) := by rw [← hwb, Below.heap_alloc _ _ _ (by simp), heap_alloc_new]
  have hres : wb.heap[w.heap.size + 1]? = some (.cells #[.slice none 0 0] 31 (0, 0)) := by
    rw [← hwb]
    have := heap_alloc_new (w.alloc (.cells #[.slice a L.length cap] 31)) (.cells #[.slice none 0 0] 31)
    simpa using this
  have HS : Hid (wb.heap.size = w.heap.size + 1 + 1) := by show _ = _; rw [← hwb]; simp
  have HW : Hid ((w.alloc (.cells #[.slice a L.length cap] 31)).alloc (.cells #[.slice none 0 0] 31) = wb) := hwb
  have hLb : FAt wb a L wb.heap.size := hL.on hb
  have hAb : AAt wb b As wb.heap.size := hA.on hb
  have hIb : IAt wb c left wb.heap.size := IAt.on hI hb
  have HC : Hid (∀ wi, Below wb.heap.size wb wi → wi.cell? ⟨w.heap.size, 0, none⟩ = some (.slice a L.length cap) ∧ wi.cell? ⟨w.heap.size + 1, 0, none⟩ = some (.slice none 0 0) ∧ wi.frozen? ⟨w.heap.size + 1, 0, none⟩ = false ∧ FAt wi a L wi.heap.size ∧ AAt wi b As wi.heap.size ∧ IAt wi c left wi.heap.size ∧ Below w.heap.size w wi ∧ w.heap.size + 1 + 1 ≤ wi.heap.size) := by
    intro wi hi
    have hs := HS.out
    have e0 := (hi.block w.heap.size (by omega)).trans hbox
    have e1 := (hi.block (w.heap.size + 1) (by omega)).trans hres
    exact ⟨by simp [World.cell?, e0], by simp [World.cell?, e1], by simp [World.frozen?, e1], hLb.on hi, hAb.on hi, IAt.on hIb hi, bthen hb hi, by have := hi.size; omega⟩
  obtain ⟨q0, q1, z1, hL0, hA0, hI0, hB0, hs0⟩ := HC.out wb (Below.refl _ _)
  clear hwb hL hA hI hbox hres hLb hAb hIb hb
  by_cases hin : 0 ≤ wh ∧ wh ≤ As.length
  · obtain ⟨n, rfl⟩ : ∃ n : Nat, wh = n := ⟨wh.toNat, by omega⟩
    have hn : n ≤ As.length := by omega
    have hTl : (As.take n).length = n := by rw [List.length_take]; omega
    have hWg := runL_wgt (As.take n) L hm
    rw [cutR_in hn]
    obtain ⟨M, hM⟩ : ∃ M, (runL L (As.take n)).1 = M := ⟨_, rfl⟩
    obtain ⟨q, hq⟩ : ∃ q, (runL L (As.take n)).2 = q := ⟨_, rfl⟩
    have HR : Hid (cutN L As n left = if q < n then ([], false) else (loseL M left, dOk M)) := by
      show _ = _
      unfold cutN
      rw [hM, hq]
    have CD : Hid (∀ wi : World, Below wb.heap.size wb wi → Calls Try.prog 20 #[.agg #[.slice a L.length cap], .slice b n capb] wi fun e w' => ∃ u cu, e = .returned (.tuple #[.agg #[.slice u M.length cu], .int .i64 (q : Int)]) ∧ OwnF w' wi.heap.size 63 (.slice u M.length cu) M ∧ Below wi.heap.size wi w') := by
      intro wi hi
      obtain ⟨_, _, _, h1, h2, _⟩ := HC.out wi hi
      have h3 := implDoActs_any wi a cap L b capb (As.take n) h1 (h2.take n) hm (hs.take n) (by rw [List.length_take]; omega)
      rw [hTl] at h3
      refine h3.mono ?_
      rintro e w' ⟨v, he, ho, hb'⟩
      rw [hM] at ho
      rw [hq] at he
      obtain ⟨u, cu, rfl, _⟩ := ho.shape
      exact ⟨u, cu, he, ho, hb'⟩
    rw [hM] at hWg
    have hdr : Below wb.heap.size wb wb.drew := ⟨rfl, rfl, rfl, Nat.le_refl _, fun _ _ => rfl⟩
    have q0z := kept_x_new q0 (.cells #[.slice none 0 0] 31)
    have hi1 : (0 : Int) ≤ (n : Int) := by omega
    have hi2 : (n : Int) ≤ (As.length : Int) := by omega
    clear hM hq hTl hL0 hA0 hI0 hin
    have hi3 : (n : Int) ≤ (capb : Int) := by
      rcases hcut with ⟨_, hnil, _⟩ | ⟨_, _, hcap⟩ <;> omega
    clear hcut
    all_goals
      go_enter Try.func29, Try.ntmps29
      go_upto_region 3 with fail
      first | rw [HW.out] | skip
      go_cut [10, 11] (fun p kv wc => ∃ (N0 : Nat) (u : Option Addr) (cu : Nat), p = .pointer (some ⟨N0, 0, none⟩) ∧ kv = .int .i64 (q : Int) ∧ DBox wc N0 (.slice u M.length cu) ∧ OwnF wc wb.heap.size 63 (.slice u M.length cu) M ∧ wb.heap.size ≤ N0 ∧ Below wb.heap.size wb wc)
      case first =>
        go_region_law (go_simp; go_at_call 20; first
          | (refine (CD.out wb.drew hdr).mono ?_; rintro e wC ⟨u, cu, rfl, hoC, hbC⟩; have hC1 := bthen hdr hbC; have hoC' := hoC.mono hdr.size; clear hoC hbC)
          | (refine (CD.out (wb.drew.alloc (.cells #[.slice none 0 0] 31)) (bplus hdr _)).mono ?_; rintro e wC ⟨u, cu, rfl, hoC, hbC⟩; have hz : DBox wC wb.heap.size (.slice none 0 0) := (DBox.new wb.drew (.slice none 0 0)).on hbC; have hC1 := bthen (bplus hdr _) hbC; have hoC' := hoC.mono (bplus hdr _).size; have qz := hz.cell; have zz := hz.thaw; clear hoC hbC))
        all_goals go_wp2_with fail
        all_goals go_meet
        all_goals first
          | exact ⟨_, u, cu, rfl, rfl, hz.set _, hoC'.setBox hz, by simp, hC1.setCell (by simp) _⟩
          | exact ⟨_, u, cu, rfl, rfl, DBox.new _ _, hoC'.alloc _, hC1.size, bplus hC1 _⟩
          | trace_state
      case rest =>
        obtain ⟨N0, u, cu, rfl, rfl, hN, hoN, hNl, hbN⟩ := hcut
        have cN := hN.cell
        obtain ⟨_, s1, sz1, _, _, hIs, hBs, hss⟩ := HC.out wc hbN
        clear q0 q1 z1 q0z hdr
        by_cases hlt : q < n
        · have HA : Hid (cutN L As n left = ([], false)) := by show _ = _; rw [HR.out, if_pos hlt]
          have q5 := cell_set_same (v := .slice none 0 0) s1
          clear HR
          go_wp2
          refine bodyPost_ret (v := .tuple #[.agg #[.slice none 0 0], .bool false]) (by simp [results, Try.results29, go_sem, q5]) rfl ⟨.slice none 0 0, by rw [HA.out], ?_, ?_⟩
          · rw [HA.out]; exact OwnF.nil _ _ _
          · exact hBs.setCell (by simp) _
        · have HA : Hid (cutN L As n left = (loseL M left, dOk M)) := by show _ = _; rw [HR.out, if_neg hlt]
          have hFM : FAt wc u M wc.heap.size := by
            obtain ⟨u', cu', e, hA'⟩ := hoN.at
            simp at e
            rw [e.1]
            exact hA'
          have c3 := implLose_any wc u cu M c capc left hFM hIs hWg hi
          obtain ⟨X, hX⟩ : ∃ X, loseL M left = X := ⟨_, rfl⟩
          obtain ⟨ok, hok⟩ : ∃ ok, dOk M = ok := ⟨_, rfl⟩
          rw [hX, hok] at HA c3
          clear HR hFM hX hok
          go_wp2_with fail
          refine c3.mono ?_
          rintro e w4 ⟨v4, rfl, ho4, hb4⟩
          obtain ⟨_, t1, tz1, _, _, _, hB4, hs4⟩ := HC.out w4 (bthen hbN hb4)
          obtain ⟨av, cv, rfl, _⟩ := ho4.shape
          have q5 := cell_set_same (v := .slice av X.length cv) t1
          have HO : Hid (OwnF w4 wc.heap.size 63 (.slice av X.length cv) X) := ho4
          clear ho4 c3 s1 sz1 cN
          go_wp2
          refine bodyPost_ret (v := .tuple #[.agg #[.slice av X.length cv], .bool ok]) (by simp [results, Try.results29, go_sem, q5]) rfl ⟨_, by rw [HA.out], ?_, ?_⟩
          · rw [HA.out]
            refine (HO.out.mono (by omega)).kept fun j hj => ?_
            have := (HO.out.lt j hj).1
            rw [heap_setCell_other _ _ _ _ (by simp; omega)]
          · exact hB4.setCell (by simp) _
  · have HA : Hid (cutR L As wh left = ([], false)) := cutR_out hin
    have hsp : decide (wh < 0) = true ∨ (decide (wh < 0) = false ∧ decide ((As.length : Int) < wh) = true) := by
      by_cases h : wh < 0
      · exact .inl (by simpa using h)
      · exact .inr ⟨by simpa using h, by simp; omega⟩
    clear hin hL0 hA0 hI0 hcut hm
    rcases hsp with h1 | ⟨h1, h2⟩
    all_goals
      go_enter Try.func29, Try.ntmps29
      rw [← HW.out] at q0 q1 z1
      go_wp2_with fail
      refine bodyPost_ret (v := .tuple #[.agg #[.slice none 0 0], .bool false]) (by simp [results, Try.results29, go_sem]) rfl ⟨.slice none 0 0, by rw [HA.out], ?_, ?_⟩
      · rw [HA.out]; exact OwnF.nil _ _ _
      · first | exact hB0.setCell (by simp) _ | (rw [HW.out]; exact hB0.setCell (by simp) _) | (exact ((Below.refl _ w).alloc (Nat.le_refl _) _).alloc (by simp) _)
end Go.Proofs.Ytghladeamdhlhal
