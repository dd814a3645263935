/- Acts on a disk, one behind the other: the program's. -/
import Derived.Test.YtghladeamdhlhalRunPlain
import Derived.Test.YtghladeamdhlhalCopyImpl
import Derived.Test.YtghladeamdhlhalActs
import Derived.Test.YtghladeamdhlhalLawKit
namespace Go.Proofs.Ytghladeamdhlhal
open Go.RowKit Go.Sort

set_option maxRecDepth 100000 in
set_option maxHeartbeats 4000000 in
theorem implDoActs_any (w : World) (a : Option Addr) (cap : Nat) (L : List Fil) (b : Option Addr) (capb : Nat) (As : List Ac) (hL : FAt w a L w.heap.size) (hA : AAt w b As w.heap.size) (hm : L.length + wgt L ≤ 1048576) (hs : SizedA As) (hml : As.length ≤ 1048576) :
    Calls Try.prog 20 #[.agg #[.slice a L.length cap], .slice b As.length capb] w fun e w' => ∃ v, e = .returned (.tuple #[.agg #[v], .int .i64 ((runL L As).2 : Nat)]) ∧ OwnF w' w.heap.size 63 v (runL L As).1 ∧ Below w.heap.size w w' := by
  obtain ⟨wb, hwb⟩ : ∃ wb, (w.alloc (.cells #[.slice a L.length cap] 31)).alloc (.cells #[.slice none 0 0] 31) = wb := ⟨_, rfl⟩
  have hb : Below w.heap.size w wb := by rw [← hwb]; exact ((Below.refl _ w).alloc (Nat.le_refl _) _).alloc (by simp) _
  have hbox : wb.heap[w.heap.size]? = some (.cells #[.slice a L.length cap] 31 (0, 0)) := by rw [← hwb, Below.heap_alloc _ _ _ (by simp), heap_alloc_new]
  have hres : wb.heap[w.heap.size + 1]? = some (.cells #[.slice none 0 0] 31 (0, 0)) := by
    rw [← hwb]
    have := heap_alloc_new (w.alloc (.cells #[.slice a L.length cap] 31)) (.cells #[.slice none 0 0] 31)
    simpa using this
  have HS : Hid (wb.heap.size = w.heap.size + 1 + 1) := by show _ = _; rw [← hwb]; simp
  have HW : Hid ((w.alloc (.cells #[.slice a L.length cap] 31)).alloc (.cells #[.slice none 0 0] 31) = wb) := hwb
  have hLb : FAt wb a L wb.heap.size := hL.on hb
  have hAb : AAt wb b As wb.heap.size := hA.on hb
  have HC : Hid (∀ wi, Below wb.heap.size wb wi → wi.cell? ⟨w.heap.size, 0, none⟩ = some (.slice a L.length cap) ∧ wi.cell? ⟨w.heap.size + 1, 0, none⟩ = some (.slice none 0 0) ∧ wi.frozen? ⟨w.heap.size + 1, 0, none⟩ = false ∧ FAt wi a L wi.heap.size ∧ AAt wi b As wi.heap.size ∧ Below w.heap.size w wi ∧ w.heap.size + 1 + 1 ≤ wi.heap.size) := by
    intro wi hi
    have hs := HS.out
    have e0 := (hi.block w.heap.size (by omega)).trans hbox
    have e1 := (hi.block (w.heap.size + 1) (by omega)).trans hres
    exact ⟨by simp [World.cell?, e0], by simp [World.cell?, e1], by simp [World.frozen?, e1], hLb.on hi, hAb.on hi, bthen hb hi, by have := hi.size; omega⟩
  have c0 := implDiskOk_any wb a cap L hLb (by omega)
  obtain ⟨q0, _⟩ := HC.out wb (Below.refl _ _)
  clear hwb hL hA hbox hres hLb hAb hb
  go_enter Try.func20, Try.ntmps20
  go_wp2_with fail
  rw [HW.out]
  refine c0.mono ?_
  rintro e w1 ⟨rfl, hb1⟩
  obtain ⟨p0, p1, z1, hL1, hA1, hB1, hs1⟩ := HC.out w1 hb1
  clear c0 q0
  cases hd : dOk L with
  | false =>
    have HR : Hid (runL L As = (L, 0)) := runL_bad hd As
    have c1 := diskCopy_any w1 a cap L hL1 hm
    clear hd
    go_wp2_with fail
    refine c1.mono ?_
    rintro e w2 ⟨v2, rfl, ho2, hb2⟩
    obtain ⟨_, u1, uz1, _, _, hB2, hs2⟩ := HC.out w2 (bthen hb1 hb2)
    obtain ⟨av, cv, rfl, _⟩ := ho2.shape
    have q5 := cell_set_same (v := .slice av L.length cv) u1
    have HO : Hid (OwnF w2 w1.heap.size 63 (.slice av L.length cv) L) := ho2
    clear ho2 c1 p0 p1 z1
    go_wp2
    refine bodyPost_ret (v := .tuple #[.agg #[.slice av L.length cv], .int .i64 0]) (by simp [results, Try.results20, go_sem, q5]) rfl ⟨_, by rw [HR.out]; rfl, ?_, ?_⟩
    · rw [HR.out]
      refine (HO.out.mono (by omega)).kept fun j hj => ?_
      have := (HO.out.lt j hj).1
      rw [heap_setCell_other _ _ _ _ (by simp; omega)]
    · exact hB2.setCell (by simp) _
  | true =>
    have HD : Hid (dOk L = true) := hd
    have c1 := folderOf_any w1 a cap L hL1 hd
    clear hd
    go_wp2_with fail
    refine c1.mono ?_
    rintro e w2 ⟨rfl, M0, hF0, hM0, hb2⟩
    have hb12 := bthen hb1 hb2
    clear c1 p0 p1 z1 hL1 hA1 hB1
    go_wp2
    go_loopw [18] (fun i wr => Box (∃ (k : Nat) (M : List (Fil × Nat)) (Lk : List Fil), k ≤ As.length ∧ i = .int .i64 k ∧ Hid (Went L As k Lk) ∧ Hid (dOk Lk = true) ∧ Hid (M.map (·.1) = Lk) ∧ Fo wr (w1.heap.size + 1) w1.heap.size M ∧ Below w1.heap.size w1 wr))
      (fun i _ => As.length - (intOf i).toNat)
    case atStart => exact ⟨⟨0, M0, L, by omega, rfl, Went.start L As, HD.out, hM0, hF0, hb2⟩⟩
    case round =>
      obtain ⟨k, M, Lk, hk, rfl, HWt, HDk, HMk, hF, hbel⟩ := hrel.out
      clear hrel hF0 hM0 hb2
      have hbr := bthen hb1 hbel
      obtain ⟨r0, r1, rz1, hLr, hAr, hBr, hsr⟩ := HC.out wr hbr
      have hM30 : M.length ≤ 30 := by
        have := congrArg List.length HMk.out
        rw [List.length_map] at this
        have := dOk_len HDk.out
        omega
      have hMo : ∀ p ∈ M, fOk p.1 = true := fun p hp => dOk_all HDk.out p.1 (by rw [← HMk.out]; exact List.mem_map.2 ⟨p, hp, rfl⟩)
      by_cases hlt : k < As.length
      · obtain ⟨g, off, rfl, hg, hc0, hc1, hc2, hc3⟩ := hAr k hlt
        have hsz := (hs k hlt).1
        have HST : Hid (∀ X, ac Lk As[k] = some X → Went L As (k + 1) X) := fun X h => HWt.out.step hlt h
        have HFL : Hid (ac Lk As[k] = none → runL L As = (Lk, k)) := fun h => HWt.out.fail hlt h
        obtain ⟨A, hAk⟩ : ∃ A, As[k] = A := ⟨_, rfl⟩
        rw [hAk] at hc0 hc1 hc2 hc3 hsz HST HFL
        clear hAk
        have hi1 : (0 : Int) ≤ (k : Int) := by omega
        have hi2 : (k : Int) < (As.length : Int) := by omega
        obtain ⟨wx, hwx⟩ : ∃ wx, wr.alloc (.cells #[.int .i64 A.kd, .string A.nm, .string A.tx, .string A.to] 35) = wx := ⟨_, rfl⟩
        have hbx : Below wr.heap.size wr wx := by rw [← hwx]; exact (Below.refl _ _).alloc (Nat.le_refl _) _
        have hFx := hF.below hbx
        have c2 := do_any wx (w1.heap.size + 1) w1.heap.size M A.kd A.nm A.tx A.to hFx hM30 hMo hsz
        rw [HMk.out, show (⟨A.kd, A.nm, A.tx, A.to⟩ : Ac) = A from rfl, ← ac_ok HDk.out] at c2
        unfold Res at c2
        have HWX : Hid (wr.alloc (.cells #[.int .i64 A.kd, .string A.nm, .string A.tx, .string A.to] 35) = wx) := hwx
        have hbw1 : Below w1.heap.size w1 wx := hbel.trans (hbx.mono hbel.size)
        clear hwx hbx hF hM30 hMo HWt hsz hFx hLr hAr
        go_wp2_with fail
        rw [HWX.out]
        refine c2.mono ?_
        rintro e w3 ⟨rfl, M', hF', hM', hb3⟩
        have hbel3 := hbw1.trans hb3
        clear c2 hc0 hc1 hc2 hc3 hbw1 hb3
        cases ho : ac Lk A with
        | none =>
          have HN := HFL.out ho
          have HNH : Hid (runL L As = (Lk, k)) := HN
          rw [ho] at hM'
          simp only [Option.getD_none] at hM'
          have hM30 : M'.length ≤ 30 := by
            have := congrArg List.length hM'
            rw [List.length_map] at this
            have := dOk_len HDk.out
            omega
          have hMo : ∀ p ∈ M', fOk p.1 = true := fun p hp => dOk_all HDk.out p.1 (by rw [← hM']; exact List.mem_map.2 ⟨p, hp, rfl⟩)
          have c3 := disk_any w3 (w1.heap.size + 1) w1.heap.size M' hF' hM30 hMo
          rw [hM'] at c3
          simp only [Option.isSome_none]
          clear ho HN hM30 hMo hF' hM' HFL HST
          go_wp2_with fail
          refine c3.mono ?_
          rintro e w4 ⟨v4, rfl, ho4, hb4⟩
          have hb14 := bthen (bthen hb1 hbel3) hb4
          obtain ⟨_, u1, uz1, _, _, hB4, hs4⟩ := HC.out w4 hb14
          obtain ⟨av, cv, rfl, _⟩ := ho4.shape
          have q5 := cell_set_same (v := .slice av Lk.length cv) u1
          have HO : Hid (OwnF w4 w3.heap.size 63 (.slice av Lk.length cv) Lk) := ho4
          have hs3 : w.heap.size + 1 + 1 ≤ w3.heap.size := (HC.out w3 (bthen hb1 hbel3)).2.2.2.2.2.2
          clear ho4 c3 r0 r1 rz1
          go_wp2
          refine bodyPost_ret (v := .tuple #[.agg #[.slice av Lk.length cv], .int .i64 (k : Int)]) (by simp [results, Try.results20, go_sem, q5]) rfl ⟨_, by rw [HNH.out], ?_, ?_⟩
          · rw [HNH.out]
            refine (HO.out.mono (by omega)).kept fun j hj => ?_
            have := (HO.out.lt j hj).1
            rw [heap_setCell_other _ _ _ _ (by simp; omega)]
          · exact hB4.setCell (by simp) _
        | some X =>
          have HN : Hid (Went L As (k + 1) X) := HST.out X ho
          have HX : Hid (dOk X = true) := ac_dOk ho
          rw [ho] at hM'
          simp only [Option.getD_some] at hM'
          have HMX : Hid (M'.map (·.1) = X) := hM'
          have HFX : Hid (Fo w3 (w1.heap.size + 1) w1.heap.size M') := hF'
          simp only [Option.isSome_some]
          clear ho hM' hF' HFL HST r0 r1 rz1
          go_wp2
          go_roundw
          case rel =>
            try ((repeat apply Exists.intro); refine ⟨?_, rfl⟩)
            exact ⟨⟨k + 1, M', X, by omega, by go_num, HN, HX, HMX, HFX.out, hbel3⟩⟩
          case measure => simp [intOf]; omega
      · have hke : k = As.length := by omega
        subst hke
        have HNH : Hid (runL L As = (Lk, As.length)) := HWt.out.done
        have c3 := disk_any wr (w1.heap.size + 1) w1.heap.size M hF hM30 hMo
        rw [HMk.out] at c3
        clear hM30 hMo hF HWt hLr hAr
        go_wp2_with fail
        refine c3.mono ?_
        rintro e w4 ⟨v4, rfl, ho4, hb4⟩
        obtain ⟨_, u1, uz1, _, _, hB4, hs4⟩ := HC.out w4 (bthen hbr hb4)
        obtain ⟨av, cv, rfl, _⟩ := ho4.shape
        have q5 := cell_set_same (v := .slice av Lk.length cv) u1
        have HO : Hid (OwnF w4 wr.heap.size 63 (.slice av Lk.length cv) Lk) := ho4
        clear ho4 c3 r0 r1 rz1
        go_wp2
        refine bodyPost_ret (v := .tuple #[.agg #[.slice av Lk.length cv], .int .i64 (As.length : Int)]) (by simp [results, Try.results20, go_sem, q5]) rfl ⟨_, by rw [HNH.out], ?_, ?_⟩
        · rw [HNH.out]
          refine (HO.out.mono (by omega)).kept fun j hj => ?_
          have := (HO.out.lt j hj).1
          rw [heap_setCell_other _ _ _ _ (by simp; omega)]
        · exact hB4.setCell (by simp) _
end Go.Proofs.Ytghladeamdhlhal
