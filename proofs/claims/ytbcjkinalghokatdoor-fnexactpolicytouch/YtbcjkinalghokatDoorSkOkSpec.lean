/- Whether a sketch is right: the other text. -/
import Derived.Test.YtbcjkinalghokatDoorSkKit
namespace Go.Proofs.YtbcjkinalghokatDoor
open Go.RowKit Go.Sort

theorem okK_false {rows : List (List Int)} {added : Int} {k : Nat} (hk : k < rows.length) (h : rowOk rows[k] = false) : okK ⟨rows, added⟩ = false := by
  unfold okK
  rw [Bool.and_eq_false_iff]
  right
  rw [List.all_eq_false]
  exact ⟨rows[k], List.getElem_mem _, by simp [h]⟩
theorem okK_true {rows : List (List Int)} {added : Int} (h0 : headOkK ⟨rows, added⟩ = true) (h : ∀ j (hj : j < rows.length), rowOk rows[j] = true) : okK ⟨rows, added⟩ = true := by
  unfold okK
  rw [Bool.and_eq_true]
  refine ⟨h0, ?_⟩
  rw [List.all_eq_true]
  intro r hr
  obtain ⟨j, hj, rfl⟩ := List.getElem_of_mem hr
  exact h j hj
theorem rowOk_len_false {r : List Int} (h : ¬ r.length = 16) : rowOk r = false := by simp [rowOk, h]
theorem rowOk_num_false {r : List Int} {q : Nat} (hq : q < r.length) (h : numOk r[q] = false) : rowOk r = false := by
  unfold rowOk
  rw [Bool.and_eq_false_iff]
  right
  rw [List.all_eq_false]
  exact ⟨r[q], List.getElem_mem _, by simp [h]⟩
theorem rowOk_true {r : List Int} (hl : r.length = 16) (h : ∀ q (hq : q < r.length), numOk r[q] = true) : rowOk r = true := by
  unfold rowOk
  rw [Bool.and_eq_true]
  refine ⟨by simpa using hl, ?_⟩
  rw [List.all_eq_true]
  intro z hz
  obtain ⟨q, hq, rfl⟩ := List.getElem_of_mem hz
  exact h q hq

set_option maxRecDepth 100000 in
set_option maxHeartbeats 2000000 in
theorem specSketchOk_any (w : World) (a : Option Addr) (c : Nat) (S : Sk) (hA : SSAt w a S.rows w.heap.size) (hm : S.rows.length ≤ 1048576) :
    Calls Tryd.prog 35 #[.agg #[.slice a S.rows.length c, .int .i64 S.added]] w fun e w' => e = .returned (.bool (okK S)) ∧ Below w.heap.size w w' := by
  obtain ⟨rows, added⟩ := S
  dsimp only at *
  obtain ⟨w1, hw1⟩ : ∃ x, w.alloc (.cells #[.slice a rows.length c, .int .i64 added] 29) = x := ⟨_, rfl⟩
  have hb1 : Below w.heap.size w w1 := by rw [← hw1]; exact (Below.refl _ _).alloc (Nat.le_refl _) _
  have hB : SkBox w1 w.heap.size (.slice a rows.length c) (.int .i64 added) := by rw [← hw1]; exact SkBox.new _ _ _
  have hA1 := hA.on hb1
  obtain ⟨b0, b1⟩ := hB.cells
  have HW : Hid (w.alloc (.cells #[.slice a rows.length c, .int .i64 added] 29) = w1) := hw1
  rw [← hw1] at b0 b1
  clear hw1 hB hA
  go_enter Tryd.func35, Tryd.ntmps35
  by_cases h3 : rows.length = 3
  case neg =>
    have hn : ((rows.length : Int) != 3) = true := by simp; omega
    have HF : Hid (okK ⟨rows, added⟩ = false) := by show _ = _; simp [okK, headOkK, h3]
    clear h3
    go_wp2
    go_ret
    exact ⟨by rw [HF.out]; rfl, by rw [HW.out]; exact hb1⟩
  have hn : ((rows.length : Int) != 3) = false := by simp; omega
  have H3 : Hid (rows.length = 3) := h3
  clear h3
  by_cases hin : inN added 0 63 = true
  case neg =>
    have hinf : inN added 0 63 = false := by simpa using hin
    have cI : ∀ wi, Calls Tryd.prog 36 #[.int .i64 added, .int .i64 0, .int .i64 63] wi fun e w' => e = .returned (.bool false) ∧ w' = wi := by intro wi; have := in_any added 0 63 wi; rw [hinf] at this; exact this
    have HF : Hid (okK ⟨rows, added⟩ = false) := by
      have e : decide (0 ≤ added ∧ added ≤ 63) = false := hinf
      show _ = _
      simp only [okK, headOkK, e, Bool.and_false, Bool.false_and]
    clear hin hinf
    go_wp2_with (go_at_call 36; refine (cI _).mono ?_; rintro e w' ⟨rfl, rfl⟩)
    go_ret
    exact ⟨by rw [HF.out]; rfl, by rw [HW.out]; exact hb1⟩
  have cI : ∀ wi, Calls Tryd.prog 36 #[.int .i64 added, .int .i64 0, .int .i64 63] wi fun e w' => e = .returned (.bool true) ∧ w' = wi := by intro wi; have := in_any added 0 63 wi; rw [hin] at this; exact this
  have HH : Hid (headOkK ⟨rows, added⟩ = true) := by
    have e : decide (0 ≤ added ∧ added ≤ 63) = true := hin
    show _ = _
    simp only [headOkK, e, H3.out, decide_true, Bool.and_true]
  clear hin
  go_wp2_with (go_at_call 36; refine (cI _).mono ?_; rintro e w' ⟨rfl, rfl⟩)
  rw [HW.out] at b0 b1 ⊢
  go_loopw [3, 4] (fun i _ wr => Box (∃ (k : Nat), k ≤ rows.length ∧ i = .int .i64 k ∧ Hid (∀ j (hj : j < rows.length), j < k → rowOk rows[j] = true) ∧ w1 = wr))
    (fun i _ _ => rows.length - (intOf i).toNat)
  case atStart => exact ⟨⟨0, by omega, rfl, (fun j hj h => by omega), rfl⟩⟩
  case round =>
    obtain ⟨k, hk, rfl, HP, rfl⟩ := hrel.out
    by_cases hlt : k < rows.length
    · obtain ⟨g, off, ai, ci, rfl, hg, hc, hI⟩ := hA1 k hlt
      have HFK : Hid (rowOk rows[k] = false → okK ⟨rows, added⟩ = false) := okK_false hlt
      have HPK : Hid (rowOk rows[k] = true → ∀ j (hj : j < rows.length), j < k + 1 → rowOk rows[j] = true) := by
        intro h j hj hjk
        by_cases e : j = k
        · subst e; exact h
        · exact HP.out j hj (by omega)
      obtain ⟨r, hr⟩ : ∃ r, rows[k] = r := ⟨_, rfl⟩
      rw [hr] at hc hI HFK HPK
      clear hrel hr cI hn
      have hi1 : (0 : Int) ≤ (k : Int) := by omega
      have hi2 : (k : Int) < (rows.length : Int) := by omega
      by_cases h16 : r.length = 16
      case neg =>
        have hn : ((r.length : Int) != 16) = true := by simp; omega
        have HF : Hid (okK ⟨rows, added⟩ = false) := HFK.out (rowOk_len_false h16)
        clear h16
        go_wp2
        go_ret
        exact ⟨by rw [HF.out]; rfl, hb1⟩
      have hn : ((r.length : Int) != 16) = false := by simp; omega
      have H16 : Hid (r.length = 16) := h16
      have hr16 : r.length ≤ 16 := by omega
      clear h16
      go_wp2
      go_loopw [4] (fun i wr => Box (∃ (q : Nat), q ≤ r.length ∧ i = .int .i64 q ∧ Hid (∀ j (hj : j < r.length), j < q → numOk r[j] = true) ∧ w1 = wr))
        (fun i _ => r.length - (intOf i).toNat)
      case atStart => exact ⟨⟨0, by omega, rfl, (fun j hj h => by omega), rfl⟩⟩
      case round =>
        obtain ⟨q, hq, rfl, HQ, rfl⟩ := hrel.out
        by_cases hlq : q < r.length
        · obtain ⟨g2, off2, rfl, hg2, hc2⟩ := hI q hlq
          have HNF : Hid (numOk r[q] = false → rowOk r = false) := rowOk_num_false hlq
          have HQK : Hid (numOk r[q] = true → ∀ j (hj : j < r.length), j < q + 1 → numOk r[j] = true) := by
            intro h j hj hjk
            by_cases e : j = q
            · subst e; exact h
            · exact HQ.out j hj (by omega)
          obtain ⟨z, hz⟩ : ∃ z, r[q] = z := ⟨_, rfl⟩
          rw [hz] at hc2 HNF HQK
          clear hrel hz
          have hj1 : (0 : Int) ≤ (q : Int) := by omega
          have hj2 : (q : Int) < (r.length : Int) := by omega
          have cN := fun wi => in_any z 0 15 wi
          by_cases hno : inN z 0 15 = true
          · rw [hno] at cN
            have HT : Hid (∀ j (hj : j < r.length), j < q + 1 → numOk r[j] = true) := HQK.out hno
            clear hno
            go_wp2_with (go_at_call 36; refine (cN _).mono ?_; rintro e w' ⟨rfl, rfl⟩)
            go_roundw
            case rel =>
              try ((repeat apply Exists.intro); refine ⟨?_, rfl⟩)
              exact ⟨⟨q + 1, by omega, by go_num, HT, by first | rfl | trivial⟩⟩
            case measure => simp [intOf]; omega
          · have hnof : inN z 0 15 = false := by simpa using hno
            rw [hnof] at cN
            have HF : Hid (okK ⟨rows, added⟩ = false) := HFK.out (HNF.out hnof)
            clear hno hnof
            go_wp2_with (go_at_call 36; refine (cN _).mono ?_; rintro e w' ⟨rfl, rfl⟩)
            go_ret
            exact ⟨by rw [HF.out]; rfl, hb1⟩
        · have HT : Hid (rowOk r = true) := rowOk_true H16.out fun j hj => HQ.out j hj (by omega)
          go_wp2
          refine ⟨⟨⟨k + 1, by omega, by go_num, HPK.out HT.out, trivial⟩⟩, ?_⟩
          simp [intOf]
          omega
    · have HT : Hid (okK ⟨rows, added⟩ = true) := okK_true HH.out fun j hj => HP.out j hj (by omega)
      clear cI
      go_wp2
      go_ret
      exact ⟨by rw [HT.out]; rfl, hb1⟩
end Go.Proofs.YtbcjkinalghokatDoor
