/- The walk over Unframe: the other text. -/
import Derived.Test.YtepfblabdibggabDoorSealPlainJ
import Derived.Test.YtepfblabdibggabDoorSumSpecJ
import Derived.Test.YtepfblabdibggabDoorReadShortImplJ
import Derived.Test.YtepfblabdibggabDoorMarkList
namespace Go.Proofs.YtepfblabdibggabDoor
open Go.RowKit Go.Sort

theorem ret_vi {v : Value} {b c : Nat} (h : b = c) : Ending.returned (.tuple #[v, .int .i64 (b : Int)]) = .returned (.tuple #[v, .int .i64 (c : Int)]) := by rw [h]

set_option maxHeartbeats 2000000 in
set_option maxRecDepth 100000 in
theorem specUnframe_any (s : ByteArray) (w : World) (hs : s.size ≤ 1048576) :
    Calls Tryd.prog 35 #[.string s] w fun e w' => ∃ v, e = .returned (.tuple #[v, .int .i64 (ufE s : Nat)]) ∧ OwnV w' w.heap.size 9 v (strs (ufL s)) ∧ Below w.heap.size w w' := by
  by_cases h6 : 20000 < s.size
  · rw [show ufE s = 0 by unfold ufE; rw [if_neg (by omega)], show ufL s = [] by unfold ufL; rw [if_neg (by omega)]]
    go_enter Tryd.func35, Tryd.ntmps35
    go_wp2
    go_ret2
    exact ⟨_, rfl, World.ownsRow_made w #[] 0 (Nat.le_refl _) (by simp [maxLen]) (by simp), (Below.refl _ _).alloc (Nat.le_refl _) _⟩
  · rw [show ufE s = endOf (ufAll s) by unfold ufE; rw [if_pos (by omega)], show ufL s = recs (ufAll s) by unfold ufL; rw [if_pos (by omega)]]
    go_enter Tryd.func35, Tryd.ntmps35
    go_wp2
    go_loopw [4, 5] (fun v i wr => Box (∃ (a : Nat) (l : List (ByteArray × Nat)), i = .int .i64 a ∧ a ≤ s.size ∧ Hid (Stand s l a) ∧ OwnV wr w.heap.size 9 v (strs (recs l)) ∧ Below w.heap.size w wr))
      (fun _ i _ => s.size - (intOf i).toNat)
    case atStart => exact ⟨⟨0, [], rfl, by omega, Stand.start s, World.ownsRow_made w #[] 0 (Nat.le_refl _) (by simp [maxLen]) (by simp), (Below.refl _ _).alloc (Nat.le_refl _) _⟩⟩
    case round =>
      obtain ⟨a, l, rfl, ha, hst, hown, hbel⟩ := hrel.out
      have hsz := hbel.size
      have hPl : (strs (recs l)).length ≤ 20000 := by rw [strs_length, recs_length]; have := hst.out.len; omega
      clear hrel
      by_cases hlt : a < s.size
      · obtain ⟨n, e, b, hn, he, hb, h3⟩ := uf_cases ha
        have c1 := specReadVar_any s (a : Int) wr (by omega)
        rw [hn, he, hb] at c1
        clear hn he hb
        rcases h3 with ⟨rfl, rfl, rfl, hu⟩ | ⟨rfl, h1, h2, h4, hr⟩
        · have HD := hst.out.done hu
          clear hu
          go_wp2_with (go_at_call 63; refine c1.mono ?_; rintro e w2 ⟨rfl, hb2⟩)
          go_ret2
          exact ⟨_, ret_vi HD.2.symm, by rw [← HD.1]; exact hown.below hb2 (Nat.le_refl _), hbel.trans (hb2.mono hsz)⟩
        · by_cases hn3 : e + 4 + n ≤ s.size
          · have hsl1 : ∀ w, (Instr.slice 9 (.string s) (some (.int .i64 ((e : Int) + 4))) (some (.int .i64 ((e : Int) + 4 + (n : Int)))) none).run Tryd.prog w = .ok (.string (s.extract (e + 4) (e + 4 + n))) w := fun w => by
              rw [run_slice_string (P := Tryd.prog) (w := w) 9 s .i64 .i64 ((e : Int) + 4) ((e : Int) + 4 + (n : Int)) Tryd.underlying9 (by omega) (by omega) (by omega)]
              rw [show ((e : Int) + 4).toNat = e + 4 by omega, show ((e : Int) + 4 + (n : Int)).toNat = e + 4 + n by omega]
            have hsl2 : ∀ w, (Instr.slice 9 (.string s) (some (.int .i64 (a : Int))) (some (.int .i64 ((e : Int) + 4 + (n : Int)))) none).run Tryd.prog w = .ok (.string (s.extract a (e + 4 + n))) w := fun w => by
              rw [run_slice_string (P := Tryd.prog) (w := w) 9 s .i64 .i64 (a : Int) ((e : Int) + 4 + (n : Int)) Tryd.underlying9 (by omega) (by omega) (by omega)]
              rw [show ((a : Int)).toNat = a by omega, show ((e : Int) + 4 + (n : Int)).toNat = e + 4 + n by omega]
            have hxs : (s.extract (e + 4) (e + 4 + n)).size = n := by simp; omega
            have c2 := fun w => specFrame_any (s.extract (e + 4) (e + 4 + n)) w
            by_cases hn1 : 1 ≤ n ∧ n ≤ 9000
            · rw [frOk_in (by omega) (by omega), frText_in (by omega) (by omega)] at c2
              have HI : Hid (frAll (s.extract (e + 4) (e + 4 + n)) = s.extract a (e + 4 + n) ↔ sumHolds s n e = true) := frame_iff ha hr hn3
              have HY : Hid (sumHolds s n e = true → uf1 s a = some (s.extract (e + 4) (e + 4 + n), e + 4 + n)) := fun h => uf1_yes hr ⟨hn1.1, hn1.2, hn3, h⟩
              have HN : Hid (sumHolds s n e = false → uf1 s a = none) := fun h => uf1_no hr (fun hh => by rw [h] at hh; simp at hh)
              clear hr
              generalize frAll (s.extract (e + 4) (e + 4 + n)) = bk at c2 HI
              generalize s.extract (e + 4) (e + 4 + n) = x at HY hxs hsl1 c2
              generalize s.extract a (e + 4 + n) = y at HI hsl2
              have HQ : Hid ((bk.toList == y.toList) = sumHolds s n e) := by
                show _ = _
                rw [Bool.eq_iff_iff, beq_iff_eq, ← HI.out, ByteArray.toList_eq, ByteArray.toList_eq]
                exact toList_inj.symm
              clear HI
              cases hq : (bk.toList == y.toList)
              · have HD := hst.out.done (HN.out (HQ.out.symm.trans hq))
                go_wp2_with (first | (go_at_call 63; refine c1.mono ?_; rintro e w2 ⟨rfl, hb2⟩) | (go_at_call 27; refine (c2 _).mono ?_; rintro e w3 ⟨rfl, hb3⟩))
                go_ret2
                have hb4 := hb2.trans (hb3.mono hb2.size)
                exact ⟨_, ret_vi HD.2.symm, by rw [← HD.1]; exact hown.below hb4 (Nat.le_refl _), hbel.trans (hb4.mono hsz)⟩
              · have hu := HY.out (HQ.out.symm.trans hq)
                have HST : Hid (Stand s (l ++ [(x, e + 4 + n)]) (e + 4 + n)) := hst.out.step hu
                clear hu HY HN HQ
                go_wp2_with (first | (go_at_call 63; refine c1.mono ?_; rintro e w2 ⟨rfl, hb2⟩) | (go_at_call 27; refine (c2 _).mono ?_; rintro e w3 ⟨rfl, hb3⟩; have hb4 := hb2.trans (hb3.mono hb2.size); have hown3 := hown.below hb4 (Nat.le_refl _); have hbel3 := hbel.trans (hb4.mono hsz); have hsz3 := hbel3.size; clear hb2 hb3 hb4) | (at_builtin; refine wpList_snocV rfl (.tmp 69) (.tmp 71) 65 rfl w.heap.size 9 Tryd.underlying65 (.string ⟨#[]⟩) 16 Tryd.info9 rfl _ (strs (recs l)) rfl hown3 (.string x) rfl rfl (by omega) (by omega) hsz3 ?_; intro v' w4 hown' hne' hbel' hsz'))
                go_roundw
                case rel =>
                  try ((repeat apply Exists.intro); refine ⟨?_, rfl⟩)
                  exact ⟨⟨e + 4 + n, l ++ [(x, e + 4 + n)], by go_num, hn3, HST, by rw [recs_snoc, strs_append]; exact hown', hbel' _ hbel3⟩⟩
                case measure => simp [intOf]; omega
            · rw [frOk_out (by omega), frText_out (by omega)] at c2
              have HD := hst.out.done (uf1_no hr (by omega))
              clear hr
              generalize s.extract (e + 4) (e + 4 + n) = x at hxs hsl1 c2
              go_wp2_with (first | (go_at_call 63; refine c1.mono ?_; rintro e w2 ⟨rfl, hb2⟩) | (go_at_call 27; refine (c2 _).mono ?_; rintro e w3 ⟨rfl, hb3⟩))
              go_ret2
              have hb4 := hb2.trans (hb3.mono hb2.size)
              exact ⟨_, ret_vi HD.2.symm, by rw [← HD.1]; exact hown.below hb4 (Nat.le_refl _), hbel.trans (hb4.mono hsz)⟩
          · have HD := hst.out.done (uf1_no hr (by omega))
            clear hr
            go_wp2_with (go_at_call 63; refine c1.mono ?_; rintro e w2 ⟨rfl, hb2⟩)
            go_ret2
            exact ⟨_, ret_vi HD.2.symm, by rw [← HD.1]; exact hown.below hb2 (Nat.le_refl _), hbel.trans (hb2.mono hsz)⟩
      · obtain rfl : a = s.size := by omega
        have HD := hst.out.done (uf1_end s)
        go_wp2
        go_ret2
        exact ⟨_, ret_vi HD.2.symm, by rw [← HD.1]; exact hown, hbel⟩
end Go.Proofs.YtepfblabdibggabDoor
