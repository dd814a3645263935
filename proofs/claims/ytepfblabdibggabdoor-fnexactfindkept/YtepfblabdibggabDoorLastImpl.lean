/- Of each key the last entry: the program's walk. -/
import Derived.Test.YtepfblabdibggabDoorEntMap
import Derived.Test.YtepfblabdibggabDoorEnPlusJ
import Derived.Test.YtepfblabdibggabDoorReadEnImpl
import Derived.Test.YtepfblabdibggabDoorReadShortJ
namespace Go.Proofs.YtepfblabdibggabDoor
open Go.RowKit
theorem Tryd.infoEnI : (Tryd.prog.info? 28).map (fun i => (i.zero, i.size, i.bytes)) = some (some (.agg #[.string ⟨#[]⟩, .int .i64 0, .int .i64 0, .string ⟨#[]⟩]), 4, 48) := by kernel_rfl
set_option maxRecDepth 100000 in
set_option maxHeartbeats 8000000 in
theorem lastOfEach_any (w : World) (a : Option Addr) (c : Nat) (U : List ByteArray) (hU : LAt w a U w.heap.size) (hm : U.length ≤ 100000) (hz : ∀ x ∈ U, x.size ≤ 1048576) :
    Calls Tryd.prog 42 #[.slice a U.length c] w fun e w' => ∃ v, e = .returned v ∧ OwnN w' w.heap.size 28 v (lastE (entsOf U)) ∧ Below w.heap.size w w' := by
  obtain ⟨A, hA⟩ : ∃ A, w.heap.size = A := ⟨_, rfl⟩
  obtain ⟨wb, hwb⟩ : ∃ wb, w.alloc (.map #[] 0) = wb := ⟨_, rfl⟩
  have HUS : Hid (∀ x ∈ U, x.size ≤ 1048576) := hz
  have hmm := @run_makeMap Tryd.prog
  have HB : Hid (Below A w wb ∧ PlE wb A [] ∧ wb.heap.size = A + 1) := by
    rw [← hwb, ← hA]
    exact ⟨(Below.refl _ _).alloc (Nat.le_refl _) _, PlE.made w, by simp⟩
  have HL : Hid (∀ wi, Below A w wi → LAt wi a U A) := fun wi hi => by
    rw [hA] at hU
    exact hU.below hi (Nat.le_refl _)
  rw [hA]
  clear hz hU
  have HW : Hid (w.alloc (.map #[] 0) = wb) := hwb
  clear hwb
  go_enter Tryd.func42, Tryd.ntmps42
  go_wp2_with fail
  rw [HW.out]
  go_loopw [3, 14] (fun s i wr => Box (∃ (k : Nat) (v : Value), k ≤ U.length ∧ i = .int .i64 k ∧ v = s ∧ Below A w wr ∧ A + 1 ≤ wr.heap.size ∧ OwnN wr (A + 1) 28 v (lastE (entsOf (U.take k))) ∧ PlE wr A (lastE (entsOf (U.take k)))))
    (fun _ i _ => U.length - (intOf i).toNat)
  case atStart => exact ⟨⟨0, .slice none 0 0, by omega, rfl, rfl, HB.out.1, by have := HB.out.2.2; omega, ownN_nil _ _ _, HB.out.2.1⟩⟩
  case round =>
    obtain ⟨k, v, hk, rfl, hsv, hbel, hsz, hown, hpl⟩ := hrel.out
    subst hsv
    have HB4 : Hid (Below A w wr ∧ A + 1 ≤ wr.heap.size ∧ OwnN wr (A + 1) 28 v (lastE (entsOf (U.take k))) ∧ PlE wr A (lastE (entsOf (U.take k)))) := ⟨hbel, hsz, hown, hpl⟩
    by_cases hlt : k < U.length
    · obtain ⟨g, off, rfl, hg, hc0⟩ := (HL.out wr hbel) k hlt
      have hxs := HUS.out U[k] (List.getElem_mem hlt)
      have HY : Hid (reOk U[k] = true → lastE (entsOf (U.take (k + 1))) = updE (lastE (entsOf (U.take k))) (reE U[k])) := fun h => by
        rw [List.take_succ_eq_append_getElem hlt, ents_yes _ h, lastE_snoc]
      have HN : Hid (reOk U[k] = false → lastE (entsOf (U.take (k + 1))) = lastE (entsOf (U.take k))) := fun h => by
        rw [List.take_succ_eq_append_getElem hlt, ents_no _ h]
      have hfl : (lastE (entsOf (U.take k))).length ≤ 100000 := by
        have h1 := lastE_len (entsOf (U.take k))
        have h2 := ents_len (U.take k)
        rw [List.length_take] at h2
        omega
      obtain ⟨x, hx⟩ : ∃ x, U[k] = x := ⟨_, rfl⟩
      rw [hx] at hc0 hxs HY HN
      have hi1 : (0 : Int) ≤ (k : Int) := by omega
      have hi2 : (k : Int) < (U.length : Int) := by omega
      have c5 := fun w => implReadEntry_any x w hxs
      clear hrel hbel hsz hown hpl hx hxs
      obtain ⟨F, hF⟩ : ∃ F, rdEn x = F := ⟨_, rfl⟩
      have HRF : Hid (rdEn x = F) := hF
      rw [hF] at c5
      clear hF
      cases hok : reOk x
      case false =>
        have HN' : Hid (lastE (entsOf (U.take (k + 1))) = lastE (entsOf (U.take k))) := HN.out hok
        rw [hok] at c5
        clear hok HN HY
        go_wp2_with fail
        refine (c5 _).mono ?_
        rintro e w5 ⟨rfl, hb5⟩
        have hal : Below wr.heap.size wr (w5.alloc (.cells #[.string F.key, .int .i64 F.st, .int .i64 F.lf, .string F.bd] 28)) := hb5.alloc hb5.size _
        have HB5 : Hid (Below A w (w5.alloc (.cells #[.string F.key, .int .i64 F.st, .int .i64 F.lf, .string F.bd] 28)) ∧ A + 1 ≤ (w5.alloc (.cells #[.string F.key, .int .i64 F.st, .int .i64 F.lf, .string F.bd] 28)).heap.size ∧ OwnN (w5.alloc (.cells #[.string F.key, .int .i64 F.st, .int .i64 F.lf, .string F.bd] 28)) (A + 1) 28 v (lastE (entsOf (U.take k))) ∧ PlE (w5.alloc (.cells #[.string F.key, .int .i64 F.st, .int .i64 F.lf, .string F.bd] 28)) A (lastE (entsOf (U.take k)))) :=
          ⟨HB4.out.1.trans (hal.mono (by have := HB4.out.2.1; omega)), Nat.le_trans HB4.out.2.1 hal.size, HB4.out.2.2.1.below hal (Nat.le_refl _), HB4.out.2.2.2.on hal⟩
        clear c5 hb5 hal HB4 hc0
        go_wp2_with fail
        go_roundw
        case rel =>
          try ((repeat apply Exists.intro); refine ⟨?_, rfl⟩)
          exact ⟨⟨k + 1, v, by omega, by go_num, rfl, HB5.out.1, HB5.out.2.1, by rw [HN'.out]; exact HB5.out.2.2.1, by rw [HN'.out]; exact HB5.out.2.2.2⟩⟩
        case measure => simp [intOf]; omega
      case true =>
        have hkey := (enOk_iff.1 (Bool.and_eq_true_iff.1 hok).2).1.2
        have hFE : reE x = F := by rw [← HRF.out, rdEn_in hok]
        have HY' := HY.out hok
        rw [hFE] at HY' hkey
        have HY2 : Hid (lastE (entsOf (U.take (k + 1))) = updE (lastE (entsOf (U.take k))) F) := HY'
        rw [hok] at c5
        clear hok HN HY HY' hFE HRF
        generalize lastE (entsOf (U.take k)) = FE at HB4 HY2 hfl
        go_wp2_with fail
        refine (c5 _).mono ?_
        rintro e w5 ⟨rfl, hb5⟩
        obtain ⟨w6, hw6⟩ : ∃ w6, w5.alloc (.cells #[.string F.key, .int .i64 F.st, .int .i64 F.lf, .string F.bd] 28) = w6 := ⟨_, rfl⟩
        have hal : Below wr.heap.size wr w6 := by rw [← hw6]; exact hb5.alloc hb5.size _
        obtain ⟨T, hT⟩ : ∃ T, w5.heap.size = T := ⟨_, rfl⟩
        have HB6 : Hid (Below A w w6 ∧ A + 1 ≤ w6.heap.size ∧ OwnN w6 (A + 1) 28 v FE ∧ PlE w6 A FE ∧ EnB w6 T 28 F ∧ wr.heap.size ≤ T) :=
          ⟨HB4.out.1.trans (hal.mono (by have := HB4.out.2.1; omega)), Nat.le_trans HB4.out.2.1 hal.size, HB4.out.2.2.1.below hal (Nat.le_refl _), HB4.out.2.2.2.on hal, by rw [← hw6, ← hT]; exact EnB.new w5 _ F, by have := hb5.size; omega⟩
        have HTA : Hid (A + 1 ≤ wr.heap.size) := HB4.out.2.1
        have HTB : Hid (∀ j, v.ownBlock = some j → j ≠ T) := fun j hj => by have := (HB4.out.2.2.1.lt j hj).2; have := hb5.size; omega
        have HW6 : Hid (w5.alloc (.cells #[.string F.key, .int .i64 F.st, .int .i64 F.lf, .string F.bd] 28) = w6) := hw6
        obtain ⟨x0, x1, x2, x3⟩ := HB6.out.2.2.2.2.1.cells
        clear c5 hb5 hal HB4 hc0
        rcases HB6.out.2.2.2.1.look F.key (by unfold maxLen; omega) with ⟨j, hpj, hlk⟩ | ⟨hpj, hlk⟩
        · obtain ⟨hj, hjk⟩ := posE_some hpj
          have hupd : updE FE F = FE.set j F := by unfold updE; rw [hpj]
          obtain ⟨av, cv, hvv, _⟩ := HB6.out.2.2.1.at
          subst hvv
          obtain ⟨G, hG, hGs, hGA⟩ := rowN_addr HB6.out.2.2.1 (by omega)
          subst hG
          have hst := HB6.out.2.2.1.stored rfl j F
          have HFIN : Hid (Below A w ((((w6.setCell ⟨G, j * 4, none⟩ (.string F.key)).setCell ⟨G, j * 4 + 1, none⟩ (.int .i64 F.st)).setCell ⟨G, j * 4 + 2, none⟩ (.int .i64 F.lf)).setCell ⟨G, j * 4 + 3, none⟩ (.string F.bd)) ∧ A + 1 ≤ ((((w6.setCell ⟨G, j * 4, none⟩ (.string F.key)).setCell ⟨G, j * 4 + 1, none⟩ (.int .i64 F.st)).setCell ⟨G, j * 4 + 2, none⟩ (.int .i64 F.lf)).setCell ⟨G, j * 4 + 3, none⟩ (.string F.bd)).heap.size ∧
              OwnN ((((w6.setCell ⟨G, j * 4, none⟩ (.string F.key)).setCell ⟨G, j * 4 + 1, none⟩ (.int .i64 F.st)).setCell ⟨G, j * 4 + 2, none⟩ (.int .i64 F.lf)).setCell ⟨G, j * 4 + 3, none⟩ (.string F.bd)) (A + 1) 28 (.slice (some ⟨G, 0, none⟩) FE.length cv) (FE.set j F) ∧
              PlE ((((w6.setCell ⟨G, j * 4, none⟩ (.string F.key)).setCell ⟨G, j * 4 + 1, none⟩ (.int .i64 F.st)).setCell ⟨G, j * 4 + 2, none⟩ (.int .i64 F.lf)).setCell ⟨G, j * 4 + 3, none⟩ (.string F.bd)) A (FE.set j F)) :=
            ⟨Below.grown HB6.out.1 hst.2 (by have := HB6.out.2.1; omega) (fun i hi => by simp at hi; omega), Nat.le_trans HB6.out.2.1 hst.2.size, hst.1, (HB6.out.2.2.2.1.kept hst.2 (by simp; omega)).set hj hjk⟩
          obtain ⟨u0, k0, f0⟩ := rowN_there HB6.out.2.2.1 (j * 4) (by omega)
          obtain ⟨u1, k1, f1⟩ := rowN_there HB6.out.2.2.1 (j * 4 + 1) (by omega)
          obtain ⟨u2, k2, f2⟩ := rowN_there HB6.out.2.2.1 (j * 4 + 2) (by omega)
          obtain ⟨u3, k3, f3⟩ := rowN_there HB6.out.2.2.1 (j * 4 + 3) (by omega)
          have hj1 : (0 : Int) ≤ (j : Int) := by omega
          have hj2 : (j : Int) < (FE.length : Int) := by omega
          have HU : Hid (lastE (entsOf (U.take (k + 1))) = FE.set j F) := by show _ = _; rw [HY2.out, hupd]
          clear hst hupd hpj hj hjk hGs hGA HB6 HTB HY2
          go_wp2_with fail
          go_roundw
          case rel =>
            try ((repeat apply Exists.intro); refine ⟨?_, rfl⟩)
            exact ⟨⟨k + 1, _, by omega, by go_num, rfl, HFIN.out.1, HFIN.out.2.1, by rw [HU.out]; exact HFIN.out.2.2.1, by rw [HU.out]; exact HFIN.out.2.2.2⟩⟩
          case measure => simp [intOf]; omega
        · have hupd : updE FE F = FE ++ [F] := by unfold updE; rw [hpj]
          have HU : Hid (lastE (entsOf (U.take (k + 1))) = FE ++ [F]) := by show _ = _; rw [HY2.out, hupd]
          obtain ⟨av, cv, hvv, _⟩ := HB6.out.2.2.1.at
          subst hvv
          obtain ⟨w7, hup, hpl7, hg7⟩ := HB6.out.2.2.2.1.snoc (e := F) (by unfold maxLen; omega) (by omega) hpj
          have HB7 : Hid (Below A w w7 ∧ A + 1 ≤ w7.heap.size ∧ OwnN w7 (A + 1) 28 (.slice av FE.length cv) FE ∧ PlE w7 A (FE ++ [F]) ∧ EnB w7 T 28 F) := by
            have hlt := HB6.out.2.2.2.1.lt
            refine ⟨Below.grown HB6.out.1 hg7 (by have := HB6.out.2.1; omega) (fun i hi => by simp at hi; omega), Nat.le_trans HB6.out.2.1 hg7.size, HB6.out.2.2.1.grown hg7 (fun i hi => by have := (HB6.out.2.2.1.lt i hi).1; simp; omega), hpl7, ?_⟩
            have hTA : A ≠ T := by have h1 := HB6.out.2.2.2.2.2; have h2 := HTA.out; omega
            exact (hg7.block T HB6.out.2.2.2.2.1.lt (by simp; exact fun e => hTA e.symm)).trans HB6.out.2.2.2.2.1
          obtain ⟨y0, y1, y2, y3⟩ := HB7.out.2.2.2.2.cells
          clear hupd hpj hpl7 hg7 HB6 HTB HY2
          go_wp2_with (at_builtin; refine wpList_plusN rfl (.tmp 42) (.tmp 44) 37 rfl (A + 1) 28 Tryd.underlying37 Tryd.infoEnI (.slice av FE.length cv) FE rfl HB7.out.2.2.1 [F] _ rfl rfl (by simp only [List.length_singleton]; omega) HB7.out.2.1 ?_; intro v8 w8 ho8 hg8)
          have HB8 : Hid (Below A w w8 ∧ A + 1 ≤ w8.heap.size ∧ PlE w8 A (FE ++ [F])) :=
            ⟨Below.grown HB7.out.1 hg8 (by have := HB7.out.2.1; omega) (fun i hi => by have := (HB7.out.2.2.1.lt i hi).1; omega), Nat.le_trans HB7.out.2.1 hg8.size, HB7.out.2.2.2.1.kept hg8 (fun e => by have := (HB7.out.2.2.1.lt A e.symm).1; omega)⟩
          clear hg8 HB7
          go_roundw
          case rel =>
            try ((repeat apply Exists.intro); refine ⟨?_, rfl⟩)
            exact ⟨⟨k + 1, v8, by omega, by go_num, rfl, HB8.out.1, HB8.out.2.1, by rw [HU.out]; exact ho8, by rw [HU.out]; exact HB8.out.2.2⟩⟩
          case measure => simp [intOf]; omega
    · have hke : k = U.length := by omega
      rw [hke, List.take_length] at hown
      clear hrel hpl
      go_wp2
      go_ret
      exact ⟨v, rfl, hown.mono (by omega), hbel⟩
end Go.Proofs.YtepfblabdibggabDoor
