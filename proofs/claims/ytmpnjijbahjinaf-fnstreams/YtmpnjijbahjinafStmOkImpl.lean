/- The program's StreamOk. -/
import Derived.Test.YtmpnjijbahjinafStmBase
import Derived.Lib.QuietBelow
import Derived.BigQuiet
namespace Go.Proofs.Ytmpnjijbahjinaf
open Go.RowKit Go.Sort

theorem idOk_any (x : Int) (w : World) : Calls Try.prog 37 #[.int .i64 x] w fun e w' => e = .returned (.bool (inI x 1 9)) ∧ w' = w := by
  by_cases h1 : x ≥ 1
  · by_cases h2 : x ≤ 9
    · have HP : Hid (inI x 1 9 = true) := by show _ = _; unfold inI; simp; omega
      go_enter Try.func37, Try.ntmps37
      go_wp2
      go_ret
      exact ⟨by rw [HP.out]; rfl, rfl⟩
    · have HP : Hid (inI x 1 9 = false) := by show _ = _; unfold inI; simp; omega
      go_enter Try.func37, Try.ntmps37
      go_wp2
      go_ret
      exact ⟨by rw [HP.out]; rfl, rfl⟩
  · have HP : Hid (inI x 1 9 = false) := by show _ = _; unfold inI; simp; omega
    go_enter Try.func37, Try.ntmps37
    go_wp2
    go_ret
    exact ⟨by rw [HP.out]; rfl, rfl⟩
theorem stateOk_any (x : Int) (w : World) : Calls Try.prog 47 #[.int .i64 x] w fun e w' => e = .returned (.bool (inI x 1 3)) ∧ w' = w := by
  by_cases h1 : x = 1
  · subst h1
    go_enter Try.func47, Try.ntmps47
    go_wp2
    go_ret
    exact ⟨rfl, rfl⟩
  · by_cases h2 : x = 2
    · subst h2
      go_enter Try.func47, Try.ntmps47
      go_wp2
      go_ret
      exact ⟨rfl, rfl⟩
    · have HP : Hid (inI x 1 3 = (x == 3)) := by
        show _ = _
        unfold inI
        by_cases h3 : x = 3
        · subst h3; rfl
        · rw [decide_eq_false (by omega)]; simp [h3]
      have e1 : (x == 1) = false := by simp [h1]
      have e2 : (x == 2) = false := by simp [h2]
      go_enter Try.func47, Try.ntmps47
      go_wp2
      go_ret
      exact ⟨by rw [HP.out]; rfl, rfl⟩
set_option maxRecDepth 100000 in
set_option maxHeartbeats 4000000 in
theorem readersOk_any (w : World) (a : Option Addr) (c n : Nat) (rd : List (Int × Int)) (hE : PAt w a rd w.heap.size) (hm : rd.length ≤ 1048577) :
    Calls Try.prog 48 #[.slice a rd.length c, .int .i64 (n : Int)] w fun e w' => e = .returned (.bool (decide (rd.length ≤ 6) && rdOkTo n rd rd.length)) ∧ Below w.heap.size w w' := by
  by_cases h6 : rd.length ≤ 6
  · have HO : Hid ((decide (rd.length ≤ 6) && rdOkTo n rd rd.length) = rdOkTo n rd rd.length) := by show _ = _; simp [h6]
    have h6' : ¬ (6 : Int) < (rd.length : Int) := by omega
    clear h6
    go_enter Try.func48, Try.ntmps48
    go_wp2_with fail
    go_loopw [12] (fun i wr => Box (∃ k : Nat, k ≤ rd.length ∧ i = .int .i64 k ∧ rdOkTo n rd k = true ∧ Below w.heap.size w wr))
      (fun i _ => rd.length - (intOf i).toNat)
    case atStart => exact ⟨⟨0, by omega, rfl, rfl, Below.refl _ _⟩⟩
    case round =>
      obtain ⟨k, hk, rfl, hno, hbr⟩ := hrel.out
      obtain ⟨wo, hwo⟩ : ∃ wo, wo = wr := ⟨_, rfl⟩
      subst hwo
      have HN : Hid (rdOkTo n rd k = true) := hno
      have HP := hE.on hbr
      have HBR : Hid (Below w.heap.size w wo) := hbr
      clear hno hrel hbr
      by_cases hlt : k < rd.length
      · obtain ⟨gg, offg, hga, _, q0, q1⟩ := HP k hlt
        obtain ⟨r, hr⟩ : ∃ r, rd[k] = r := ⟨_, rfl⟩
        have hgd : rd.getD k (0, 0) = r := by simp [List.getD, List.getElem?_eq_getElem hlt, hr]
        rw [hr] at q0 q1
        have hi1 : (0 : Int) ≤ (k : Int) := by omega
        have hi3 : (k : Int) < (rd.length : Int) := by omega
        have HK : Hid ((k : Int) < (rd.length : Int)) := hi3
        have HSu : Hid (rdOkTo n rd (k + 1) = (inI r.1 1 9 && !(decide (0 < k) && decide (r.1 ≤ (rd.getD (k - 1) (0, 0)).1)) && inI r.2 0 n)) := by
          show _ = _
          rw [rdOkTo_succ, HN.out, hgd]; rfl
        subst hga
        obtain ⟨w2, hw2⟩ : ∃ w2, wo.alloc (.cells #[.int .i64 r.1, .int .i64 r.2] 38) = w2 := ⟨_, rfl⟩
        have hb2 : Below wo.heap.size wo w2 := by rw [← hw2]; exact (Below.refl _ _).alloc (Nat.le_refl _) _
        have hRB : w2.heap[wo.heap.size]? = some (.cells #[.int .i64 r.1, .int .i64 r.2] 38 (0, 0)) := by rw [← hw2]; exact heap_alloc_new wo _
        have z0 : w2.cell? ⟨wo.heap.size, 0, none⟩ = some (.int .i64 r.1) := by rw [cell_of_row w2 wo.heap.size 0 _ _ (0, 0) hRB]; rfl
        have z1 : w2.cell? ⟨wo.heap.size, 1, none⟩ = some (.int .i64 r.2) := by rw [cell_of_row w2 wo.heap.size 1 _ _ (0, 0) hRB]; rfl
        have HW2 : Hid (wo.alloc (.cells #[.int .i64 r.1, .int .i64 r.2] 38) = w2) := hw2
        have HB2 : Hid (Below w.heap.size w w2) := HBR.out.trans (hb2.mono HBR.out.size)
        have HPV : Hid (∀ j (hj : j < rd.length), w2.cell? ⟨gg, offg + j * 2, none⟩ = some (.int .i64 rd[j].1)) := fun j hj => by
          obtain ⟨g', o', he, _, h, _⟩ := (HP.on hb2) j hj
          cases he
          exact h
        have cI := idOk_any r.1 w2
        clear hw2 hb2 hRB hr hgd HP
        go_wp2_with fail
        rw [HW2.out]
        refine cI.mono ?_
        rintro e w3 ⟨rfl, rfl⟩
        clear cI
        cases hA1 : inI r.1 1 9 with
        | false =>
          have HPO : Hid (rdOkTo n rd (k + 1) = false) := by show _ = _; rw [HSu.out]; rw [hA1]; rfl
          clear HSu
          go_wp2_with fail
          go_ret
          exact ⟨by rw [HO.out, rdOkTo_down n rd rd.length (by have := HK.out; omega) HPO.out]; rfl, HB2.out⟩
        | true =>
          by_cases hn0 : r.2 < 0
          · have HPO : Hid (rdOkTo n rd (k + 1) = false) := by show _ = _; rw [HSu.out, show inI r.2 0 n = false by unfold inI; exact decide_eq_false (by omega)]; simp
            clear HSu
            go_wp2_with fail
            go_ret
            exact ⟨by rw [HO.out, rdOkTo_down n rd rd.length (by have := HK.out; omega) HPO.out]; rfl, HB2.out⟩
          · by_cases hn1 : (n : Int) < r.2
            · have HPO : Hid (rdOkTo n rd (k + 1) = false) := by show _ = _; rw [HSu.out, show inI r.2 0 n = false by unfold inI; exact decide_eq_false (by omega)]; simp
              clear HSu
              go_wp2_with fail
              go_ret
              exact ⟨by rw [HO.out, rdOkTo_down n rd rd.length (by have := HK.out; omega) HPO.out]; rfl, HB2.out⟩
            · have HS2 : Hid (rdOkTo n rd (k + 1) = !(decide (0 < k) && decide (r.1 ≤ (rd.getD (k - 1) (0, 0)).1))) := by show _ = _; rw [HSu.out, hA1, show inI r.2 0 n = true by unfold inI; exact decide_eq_true (by omega)]; simp
              clear HSu
              by_cases h0 : k = 0
              · have HPO : Hid (rdOkTo n rd (k + 1) = true) := by show _ = _; rw [HS2.out]; simp [h0]
                have hgN : decide (0 < k) = false := decide_eq_false (by omega)
                clear HS2 h0
                go_wp2_with fail
                go_quiet (fail)
                go_wp2_with fail
                go_roundw
                case rel =>
                  try ((repeat apply Exists.intro); refine ⟨?_, rfl⟩)
                  exact ⟨⟨k + 1, by have := HK.out; omega, by go_num, HPO.out, HB2.out.trans ⟨rfl, rfl, rfl, Nat.le_refl _, fun _ _ => rfl⟩⟩⟩
                case measure => have := HK.out; simp [intOf]; omega
              · obtain ⟨j, hkj⟩ : ∃ j, k = j + 1 := ⟨k - 1, by omega⟩
                have z5 := HPV.out j (by omega)
                obtain ⟨x, hx⟩ : ∃ x, rd[j].1 = x := ⟨_, rfl⟩
                have hxd : (rd.getD (k - 1) (0, 0)).1 = x := by rw [← hx, show k - 1 = j by omega]; simp [List.getD, List.getElem?_eq_getElem (show j < rd.length by omega)]
                have HS3 : Hid (rdOkTo n rd (k + 1) = !decide (r.1 ≤ x)) := by show _ = _; rw [HS2.out, hxd, show decide (0 < k) = true from decide_eq_true (by omega)]; rfl
                rw [hx] at z5
                have hgN : decide (0 < k) = true := decide_eq_true (by omega)
                have hg : 0 < k := by omega
                have hjj : (k : Int) - 1 = (j : Int) := by omega
                have hj0 : (0 : Int) ≤ (j : Int) := by omega
                have hj1 : (j : Int) < (rd.length : Int) := by omega
                clear hxd hx hkj h0 HS2
                by_cases hle : r.1 ≤ x
                · have hle' : decide (r.1 ≤ x) = true := decide_eq_true hle
                  have HPO : Hid (rdOkTo n rd (k + 1) = false) := by show _ = _; rw [HS3.out]; simp [hle]
                  clear HS3
                  go_wp2_with fail
                  go_quiet (fail)
                  go_wp2_with fail
                  go_ret
                  exact ⟨by rw [HO.out, rdOkTo_down n rd rd.length (by have := HK.out; omega) HPO.out]; rfl, HB2.out.trans ⟨rfl, rfl, rfl, Nat.le_refl _, fun _ _ => rfl⟩⟩
                · have hle' : decide (r.1 ≤ x) = false := decide_eq_false hle
                  have HPO : Hid (rdOkTo n rd (k + 1) = true) := by show _ = _; rw [HS3.out]; simp [hle]
                  clear HS3
                  go_wp2_with fail
                  go_quiet (fail)
                  go_wp2_with fail
                  go_roundw
                  case rel =>
                    try ((repeat apply Exists.intro); refine ⟨?_, rfl⟩)
                    exact ⟨⟨k + 1, by have := HK.out; omega, by go_num, HPO.out, HB2.out.trans ⟨rfl, rfl, rfl, Nat.le_refl _, fun _ _ => rfl⟩⟩⟩
                  case measure => have := HK.out; simp [intOf]; omega
      · have hi3 : ¬ (k : Int) < (rd.length : Int) := by omega
        have hke : k = rd.length := by omega
        subst hke
        go_wp2_with fail
        go_ret
        exact ⟨by rw [HO.out, HN.out]; rfl, HBR.out⟩
  · have HO : Hid ((decide (rd.length ≤ 6) && rdOkTo n rd rd.length) = false) := by show _ = _; simp [h6]
    have h6' : (6 : Int) < (rd.length : Int) := by omega
    clear h6
    go_enter Try.func48, Try.ntmps48
    go_wp2_with fail
    go_ret
    exact ⟨by rw [HO.out]; rfl, Below.refl _ _⟩
set_option maxRecDepth 100000 in
set_option maxHeartbeats 4000000 in
theorem implStreamOk_any (w : World) (a : Option Addr) (c : Nat) (S : Stm) (hE : PAt w a S.rd w.heap.size) (ht : S.text.size ≤ 1048576) (hm : S.rd.length ≤ 1048577) :
    Calls Try.prog 15 #[.agg #[.int .i64 S.st, .string S.text, .slice a S.rd.length c]] w fun e w' => e = .returned (.bool (okM S)) ∧ Below w.heap.size w w' := by
  obtain ⟨st, t, rd⟩ := S
  dsimp only at hE hm ht ⊢
  obtain ⟨w1, hw1⟩ : ∃ w1, w.alloc (.cells #[.int .i64 st, .string t, .slice a rd.length c] 26) = w1 := ⟨_, rfl⟩
  have hb1 : Below w.heap.size w w1 := by rw [← hw1]; exact (Below.refl _ _).alloc (Nat.le_refl _) _
  have hB1 : MBox w1 w.heap.size (.int .i64 st) (.string t) (.slice a rd.length c) := by rw [← hw1]; exact MBox.new _ _ _ _
  have HW : Hid (w.alloc (.cells #[.int .i64 st, .string t, .slice a rd.length c] 26) = w1) := hw1
  have HB : Hid (Below w.heap.size w w1) := hb1
  have HO : Hid (okM ⟨st, t, rd⟩ = (rdOkTo t.size rd rd.length && (inI st 1 3 && decide (t.size ≤ 400) && decide (rd.length ≤ 6)))) := rfl
  have cS := stateOk_any st w1
  have cR := readersOk_any w1 a c t.size rd (hE.on hb1) hm
  obtain ⟨b0, b1, b2⟩ := hB1.cells
  clear hw1 hE hb1 hB1
  cases hs : inI st 1 3 with
  | false =>
    rw [hs] at cS
    go_enter Try.func15, Try.ntmps15
    go_wp2_with fail
    rw [HW.out]
    refine cS.mono ?_
    rintro e w2 ⟨rfl, rfl⟩
    go_wp2_with fail
    go_ret
    exact ⟨by rw [HO.out, hs]; simp, HB.out⟩
  | true =>
    rw [hs] at cS
    by_cases h4 : t.size ≤ 400
    · have h4' : (t.size : Int) ≤ 400 := by omega
      go_enter Try.func15, Try.ntmps15
      go_wp2_with fail
      rw [HW.out]
      refine cS.mono ?_
      rintro e w2 ⟨rfl, rfl⟩
      go_wp2_with fail
      refine cR.mono ?_
      rintro e w3 ⟨rfl, hb3⟩
      go_wp2_with fail
      go_ret
      refine ⟨?_, HB.out.trans (hb3.mono HB.out.size)⟩
      rw [HO.out, hs, decide_eq_true h4]
      cases rdOkTo t.size rd rd.length <;> simp
    · have h4' : ¬ (t.size : Int) ≤ 400 := by omega
      go_enter Try.func15, Try.ntmps15
      go_wp2_with fail
      rw [HW.out]
      refine cS.mono ?_
      rintro e w2 ⟨rfl, rfl⟩
      go_wp2_with fail
      go_ret
      exact ⟨by rw [HO.out, decide_eq_false h4]; simp, HB.out⟩
end Go.Proofs.Ytmpnjijbahjinaf
