/- What is done to lay the file anew: the other text's walk. -/
import Derived.Test.YtepfblabdibggabDoorEntActsJ
import Derived.Test.YtepfblabdibggabDoorActPlus
import Derived.Test.YtepfblabdibggabDoorEnsLaw
import Derived.Test.YtepfblabdibggabDoorEntText
import Derived.Test.YtepfblabdibggabDoorSumSpecJ
import Derived.Test.YtepfblabdibggabDoorDiskSpec
import Derived.Test.YtepfblabdibggabDoorAtSpecJ
namespace Go.Proofs.YtepfblabdibggabDoor
open Go.RowKit
theorem Tryd.infoActP : (Tryd.prog.info? 57).map (fun i => (i.zero, i.size, i.bytes)) = some (some (.agg #[.int .i64 0, .string ⟨#[]⟩, .string ⟨#[]⟩, .string ⟨#[]⟩]), 4, 56) := by kernel_rfl
set_option maxRecDepth 100000 in
set_option maxHeartbeats 8000000 in
theorem specAnewActs_any (w : World) (a b : Option Addr) (c c' : Nat) (L : List Fil) (M : List En) (hL : FAt w a L w.heap.size) (hM : NAt w b M w.heap.size) (hm : L.length ≤ 1048576) (hn : M.length ≤ 1048576) (hz : ∀ j (hj : j < M.length), M[j].key.size ≤ 1048576 ∧ M[j].bd.size ≤ 1048576) :
    Calls Tryd.prog 23 #[.agg #[.slice a L.length c], .slice b M.length c'] w fun e w' => ∃ v, e = .returned (.tuple #[v, .bool (anewB L M)]) ∧ OwnA w' w.heap.size 57 v (anewL L M) ∧ Below w.heap.size w w' := by
  obtain ⟨A, hA⟩ : ∃ A, w.heap.size = A := ⟨_, rfl⟩
  obtain ⟨R, hR⟩ : ∃ R, anewB L M = R := ⟨_, rfl⟩
  obtain ⟨Z, hZ⟩ : ∃ Z, anewL L M = Z := ⟨_, rfl⟩
  have HZ : Hid (anewB L M = R ∧ anewL L M = Z) := ⟨hR, hZ⟩
  obtain ⟨wb, hwb⟩ : ∃ wb, w.alloc (.cells #[.slice a L.length c] 41) = wb := ⟨_, rfl⟩
  have hb : Below A w wb := by rw [← hwb, ← hA]; exact (Below.refl _ _).alloc (Nat.le_refl _) _
  have hbs : A < wb.heap.size := by rw [← hwb, ← hA]; simp
  have hV : wb.heap.size = A + 1 := by rw [← hwb, ← hA]; simp
  have hbox : wb.cell? ⟨A, 0, none⟩ = some (.slice a L.length c) := by rw [← hwb, ← hA]; simp
  obtain ⟨wd, hwd⟩ : ∃ wd, wb.alloc (.cells #[] 57) = wd := ⟨_, rfl⟩
  have HD : Hid (∀ wi, Below wb.heap.size wb wi → wi.cell? ⟨A, 0, none⟩ = some (.slice a L.length c) ∧ FAt wi a L wi.heap.size ∧ NAt wi b M wi.heap.size ∧ Below A w wi ∧ A ≤ wi.heap.size ∧ wb.heap.size ≤ wi.heap.size) := by
    intro wi hi
    refine ⟨(hi.cell hbs).trans hbox, ?_, ?_, hb.trans (hi.mono (by omega)), by have := hi.size; omega, hi.size⟩
    · exact FAt.on (FAt.on hL (by rw [hA]; exact hb)) hi
    · exact (hM.on (by rw [hA]; exact hb)).on hi
  have hbd : Below wb.heap.size wb wd := by rw [← hwd]; exact (Below.refl _ _).alloc (Nat.le_refl _) _
  have HO : Hid (OwnA wd A 57 (.slice (some ⟨A + 1, 0, none⟩) 0 0) []) := by
    show OwnA _ _ _ _ _
    rw [← hV, ← hwd]
    exact (ownA_new wb _ [] _ rfl (by simp [maxLen])).mono (by omega)
  have HBd : Hid (Below wb.heap.size wb wd) := hbd
  have c0 := specDiskOk_any wd a c L (HD.out wd hbd).2.1 hm
  have HW : Hid (wb.alloc (.cells #[] 57) = wd ∧ w.alloc (.cells #[.slice a L.length c] 41) = wb) := ⟨hwd, hwb⟩
  rw [hA, hR, hZ]
  have HV : Hid (wb.heap.size = A + 1) := hV
  clear hwd hwb hb hbox hbd hL hM hV hbs hR hZ
  go_enter Tryd.func23, Tryd.ntmps23
  go_wp2_with fail
  rw [HW.out.2, HW.out.1]
  refine c0.mono ?_
  rintro e w1 ⟨rfl, hb1⟩
  have HB1 : Hid (Below wb.heap.size wb w1) := HBd.out.trans (hb1.mono HBd.out.size)
  have HO1 : Hid (OwnA w1 A 57 (.slice (some ⟨A + 1, 0, none⟩) 0 0) []) := HO.out.below hb1 (Nat.le_refl _)
  clear c0 hb1 HBd HO
  cases hd : dOk L
  case false =>
    have hr : R = false := by rw [← HZ.out.1]; unfold anewB; rw [hd]; rfl
    have hz' : Z = [] := by rw [← HZ.out.2]; exact anewL_out (by rw [HZ.out.1, hr])
    subst hr hz'
    go_wp2_with fail
    go_ret2
    exact ⟨.slice (some ⟨A + 1, 0, none⟩) 0 0, rfl, HO1.out, (HD.out w1 HB1.out).2.2.2.1⟩
  case true =>
  have HDK : Hid (dOk L = true) := hd
  clear hd
  have c2 := specFileAt_any w1 a c L nNew (HD.out w1 HB1.out).2.1 hm
  obtain ⟨tx, htx⟩ : ∃ x, (fileAt L nNew).1 = x := ⟨_, rfl⟩
  obtain ⟨th, hth⟩ : ∃ x, (fileAt L nNew).2 = x := ⟨_, rfl⟩
  have HTH : Hid ((fileAt L nNew).2 = th) := hth
  rw [htx, hth] at c2
  clear htx hth
  have b0 := (HD.out w1 HB1.out).1
  unfold nNew at c2
  go_wp2_with fail
  refine c2.mono ?_
  rintro e w2 ⟨rfl, hb2⟩
  have HB2 : Hid (Below wb.heap.size wb w2) := HB1.out.trans (hb2.mono HB1.out.size)
  have HO2 : Hid (OwnA w2 A 57 (.slice (some ⟨A + 1, 0, none⟩) 0 0) []) := HO1.out.below hb2 (Nat.le_refl _)
  clear c2 hb2 b0 HB1 HO1
  cases th
  case' true =>
    go_wp2_with (at_builtin; refine wpList_plusA rfl (.tmp 26) (.tmp 28) 25 rfl A 57 Tryd.underlying25 Tryd.infoActP _ [] rfl HO2.out dropA _ rfl rfl (by simp [dropA]) (HD.out w2 HB2.out).2.2.2.2.1 ?_; intro v3 w3 ho3 hg3)
    have hvk : ∀ k, (Value.slice (some ⟨A + 1, 0, none⟩) 0 0).ownBlock = some k → wb.heap.size ≤ k := by
      intro k hk
      have hv : wb.heap.size = A + 1 := HV.out
      have hk' : A + 1 = k := by simpa [Value.ownBlock] using hk
      omega
    have HB3 : Hid (Below wb.heap.size wb w3) := Below.grown HB2.out hg3 HB2.out.size hvk
    clear hvk
    obtain ⟨D, hD⟩ : ∃ D, dropA = D := ⟨_, rfl⟩
    have HO3 : Hid (OwnA w3 A 57 v3 D ∧ D.length ≤ 1) := by show OwnA _ _ _ _ _ ∧ _; rw [← hD]; exact ⟨ho3, by simp [dropA]⟩
    have HDD : Hid ((if (fileAt L nNew).2 = true then dropA else []) = D) := by show _ = _; rw [HTH.out, ← hD]; rfl
    clear ho3 hg3 HO2 HB2 hD
  case' false =>
    go_wp2_with fail
    have HB3 : Hid (Below wb.heap.size wb w2) := HB2.out
    obtain ⟨D, hD⟩ : ∃ D : List Ac, [] = D := ⟨_, rfl⟩
    have HO3 : Hid (OwnA w2 A 57 (.slice (some ⟨A + 1, 0, none⟩) 0 0) D ∧ D.length ≤ 1) := by show OwnA _ _ _ _ _ ∧ _; rw [← hD]; exact ⟨HO2.out, by simp⟩
    have HDD : Hid ((if (fileAt L nNew).2 = true then dropA else []) = D) := by show _ = _; rw [HTH.out, ← hD]; rfl
    clear HO2 HB2 hD
    generalize (Value.slice (some ⟨A + 1, 0, none⟩) 0 0) = v3 at HO3 ⊢
    obtain ⟨w3, hw3⟩ : ∃ w3, w2 = w3 := ⟨_, rfl⟩
    subst hw3
  all_goals
    go_loopw [9, 10] (fun s i wr => Box (∃ (k : Nat) (z : ByteArray), k ≤ M.length ∧ i = .int .i64 k ∧ s = .string z ∧ z.size ≤ 500000000 ∧ Hid (frsB (M.take k) = z) ∧ Hid (enAllOk (M.take k) = true) ∧ Below wb.heap.size wb wr ∧ OwnA wr A 57 v3 D))
      (fun _ i _ => M.length - (intOf i).toNat)
    case atStart => exact ⟨⟨0, ⟨#[]⟩, by omega, rfl, rfl, by simp [ByteArray.size], rfl, rfl, HB3.out, HO3.out.1⟩⟩
    case round =>
      obtain ⟨k, z, hk, rfl, rfl, hz1, HZZ, HAL, hbel, hown⟩ := hrel.out
      by_cases hlt : k < M.length
      · obtain ⟨g, off, rfl, hg, hc0, hc1, hc2, hc3⟩ := (HD.out wr hbel).2.2.1 k hlt
        have HBL : Hid (Below wb.heap.size wb wr ∧ OwnA wr A 57 v3 D) := ⟨hbel, hown⟩
        have hkz := hz k hlt
        have HN1 : Hid (enOk M[k] = false → anewB L M = false) := anewB_at hlt
        have HN2 : Hid (enOk M[k] = true → enAllOk (M.take (k + 1)) = true) := enAllOk_take hlt HAL.out
        have HN3 : Hid (frsB (M.take (k + 1)) = z ++ enFr M[k]) := by show _ = _; rw [frs_take hlt, HZZ.out]
        have HN4 : Hid (enAllOk (M.take (k + 1)) = true → (frsB (M.take (k + 1))).size ≤ 500000000) := fun h => by
          have h1 := frs_size h
          rw [List.length_take] at h1
          omega
        obtain ⟨f, hf⟩ : ∃ f, M[k] = f := ⟨_, rfl⟩
        rw [hf] at hc0 hc1 hc2 hc3 hkz HN1 HN2 HN3
        have hi1 : (0 : Int) ≤ (k : Int) := by omega
        have hi2 : (k : Int) < (M.length : Int) := by omega
        have c4 := specEntryText_any wr f.key f.bd f.st f.lf (by omega) (by omega)
        have hfe : (⟨f.key, f.st, f.lf, f.bd⟩ : En) = f := rfl
        rw [hfe] at c4
        clear hrel hbel hown hf hkz hfe
        cases hok : enOk f
        case false =>
          have hr : R = false := by rw [← HZ.out.1]; exact HN1.out hok
          have hz' : Z = [] := by rw [← HZ.out.2]; exact anewL_out (HN1.out hok)
          subst hr hz'
          rw [enText_out hok, hok] at c4
          clear hok
          have c5 := fun w => specFrame_any ⟨#[]⟩ w
          rw [show frOk ⟨#[]⟩ = false from frOk_out (by simp [ByteArray.size]), show frText ⟨#[]⟩ = ⟨#[]⟩ from frText_out (by simp [ByteArray.size])] at c5
          go_wp2_with fail
          refine c4.mono ?_
          rintro e w4 ⟨rfl, hb4⟩
          have HB4 : Hid (Below wb.heap.size wb w4) := HBL.out.1.trans (hb4.mono HBL.out.1.size)
          clear c4 hb4 hc0 hc1 hc2 hc3
          go_wp2_with fail
          refine (c5 _).mono ?_
          rintro e w5 ⟨rfl, hb5⟩
          have HB5 : Hid (Below wb.heap.size wb w5) := HB4.out.trans (hb5.mono HB4.out.size)
          clear c5 hb5 HB4
          have h5 := (HD.out w5 HB5.out).2.2.2
          go_wp2_with fail
          go_ret2
          exact ⟨.slice (some ⟨w5.heap.size, 0, none⟩) 0 0, rfl, (ownA_new w5 _ [] _ rfl (by simp [maxLen])).mono h5.2.1, h5.1.alloc h5.2.1 _⟩
        case true =>
          have HOK := HN2.out hok
          obtain ⟨s1, s2⟩ := enAll_size hok
          have c5 := fun w => specFrame_in (enAll f) w s1 (by omega)
          rw [show frAll (enAll f) = enFr f from rfl] at c5
          rw [enText_in hok, hok] at c4
          have hfs := (enFr_size hok).2
          have HOK' : Hid (enAllOk (M.take (k + 1)) = true) := HOK
          have hzs := HN4.out HOK
          rw [HN3.out] at hzs
          have HZS : Hid ((z ++ enFr f).size ≤ 500000000) := hzs
          clear hok s1 s2 HOK hzs HN1 HN2 HN4
          generalize enAll f = tx' at c4 c5
          generalize enFr f = fr at c5 hfs HN3 HZS
          go_wp2_with fail
          refine c4.mono ?_
          rintro e w4 ⟨rfl, hb4⟩
          have HB4 : Hid (Below wb.heap.size wb w4 ∧ OwnA w4 A 57 v3 D) := ⟨HBL.out.1.trans (hb4.mono HBL.out.1.size), HBL.out.2.below hb4 (Nat.le_refl _)⟩
          clear c4 hb4 hc0 hc1 hc2 hc3 HBL
          go_wp2_with fail
          refine (c5 _).mono ?_
          rintro e w5 ⟨rfl, hb5⟩
          have HB5 : Hid (Below wb.heap.size wb w5 ∧ OwnA w5 A 57 v3 D) := ⟨HB4.out.1.trans (hb5.mono HB4.out.1.size), HB4.out.2.below hb5 (Nat.le_refl _)⟩
          clear c5 hb5 HB4
          go_wp2_with fail
          go_roundw
          case rel =>
            try ((repeat apply Exists.intro); refine ⟨?_, rfl⟩)
            exact ⟨⟨k + 1, z ++ fr, by omega, by go_num, rfl, HZS.out, HN3.out, HOK', HB5.out.1, HB5.out.2⟩⟩
          case measure => simp [intOf]; omega
      · have hke : k = M.length := by omega
        have hall : enAllOk M = true := by have := HAL.out; rw [hke, List.take_length] at this; exact this
        have hfr : frsB M = z := by have := HZZ.out; rw [hke, List.take_length] at this; exact this
        have hB : anewB L M = true := by unfold anewB; rw [HDK.out, hall]; rfl
        have hr : R = true := by rw [← HZ.out.1]; exact hB
        have hz' : Z = D ++ layA z := by rw [← HZ.out.2, anewL_in hB]; unfold anewA; rw [HDD.out, hfr]
        subst hr
        have HZ' : Hid (Z = D ++ layA z) := hz'
        have h5 := (HD.out wr hbel).2.2.2
        have HL5 : Hid (Below A w wr ∧ A ≤ wr.heap.size) := ⟨h5.1, h5.2.1⟩
        have HOW : Hid (OwnA wr A 57 v3 D) := hown
        clear hall hfr hB hz' h5 hown hrel
        go_wp2_with (at_builtin; refine wpList_plusA rfl (.tmp 59) (.tmp 64) 25 rfl A 57 Tryd.underlying25 Tryd.infoActP _ D rfl HOW.out (layA z) _ rfl rfl (by have := HO3.out.2; simp [layA]; omega) HL5.out.2 ?_; intro v6 w6 ho6 hg6)
        go_ret2
        exact ⟨v6, rfl, by rw [HZ'.out]; exact ho6, Below.grown HL5.out.1 hg6 HL5.out.2 (fun k hk => (HOW.out.lt k hk).1)⟩
end Go.Proofs.YtepfblabdibggabDoor
