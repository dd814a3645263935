/- The walk over decimal figures: the other text. -/
import Derived.Test.YtmpnjijbahjinafDecPlain
import Derived.Test.YtmpnjijbahjinafFig
namespace Go.Proofs.Ytmpnjijbahjinaf
open Go.RowKit

theorem text_cons (c : UInt8) (l : List UInt8) : (⟨[c].toArray⟩ : ByteArray) ++ (⟨l.toArray⟩ : ByteArray) = ⟨(c :: l).toArray⟩ := by rw [ByteArray.mk_append_mk]; rfl

theorem pow_down10 {f k : Nat} (h : k < 10 ^ (f + 1)) : k / 10 < 10 ^ f := by rw [Nat.pow_succ] at h; omega

set_option maxHeartbeats 1000000 in
theorem specDecimal_pos (m : Nat) (w : World) (h0 : 0 < m) (hm : m ≤ 9223372036854775807) :
    Calls Try.prog 12 #[.int .i64 m] w fun e w' => e = .returned (.string ⟨(digF 20 m []).toArray⟩) ∧ Below w.heap.size w w' := by
  have hz : ((m : Int) == 0) = false := by simp; omega
  have hn : decide ((m : Int) < 0) = false := by simp
  go_enter Try.func12, Try.ntmps12
  go_wp2
  go_loopw [0, 4] (fun n v wr => Box (∃ (f k : Nat) (l : List UInt8), n = .int .i64 k ∧ v = .string ⟨l.toArray⟩ ∧ k ≤ 9223372036854775807 ∧ k < 10 ^ f ∧ l.length + f ≤ 20 ∧ Hid (digF f k l = digF 20 m []) ∧ Below w.heap.size w wr))
    (fun n _ _ => (intOf n).toNat)
  case atStart => exact ⟨⟨20, m, [], rfl, rfl, hm, by omega, by simp, rfl, Below.refl _ _⟩⟩
  case round =>
    obtain ⟨f, k, l, rfl, rfl, hk, hkf, hlf, hl, hbel⟩ := hrel.out
    have hsz := hbel.size
    by_cases hlt : k = 0
    · have hk0 : ((k : Int) != 0) = false := by simp; omega
      have HK : Hid (k = 0) := hlt
      clear hlt
      go_wp2
      go_ret
      exact ⟨ret_str (by have := hl.out; rw [HK.out, digF_zero] at this; exact this), hbel⟩
    · have hk0 : ((k : Int) != 0) = true := by simp; omega
      obtain ⟨d, hd, HD⟩ : ∃ d : Nat, d < 10 ∧ (k : Int) % 10 = (d : Int) := ⟨k % 10, by omega, by omega⟩
      have hcv := fun w => one_text (P := Try.prog) w 22 9 5 (fig d) Try.underlying22 Try.underlying5 Try.underlying9
      go_wp2_with (go_at_call 45; refine (l01Figure_any d _ (by omega)).mono ?_; rintro e w' ⟨rfl, rfl⟩)
      go_roundw
      case rel =>
        try ((repeat apply Exists.intro); refine ⟨?_, rfl⟩)
        match f, hkf, hlf, hl with
        | 0, hkf, _, _ => simp at hkf; omega
        | f + 1, hkf, hlf, hl =>
          exact ⟨⟨f, k / 10, fig d :: l, by go_num, congrArg Value.string (text_cons _ _), by omega, pow_down10 hkf, by simp; omega, by
            have := hl.out
            rw [digF_on hlt, show k % 10 = d by omega] at this
            exact this, hbel.alloc hsz _⟩⟩
      case measure => simp [intOf]; omega

theorem l01Figure_zero (w : World) :
    Calls Try.prog 45 #[.int .i64 0] w fun e w' => e = .returned (.int .u8 ((fig 0).toNat : Int)) ∧ w = w' := by
  go_enter Try.func45, Try.ntmps45
  go_wp2
  go_ret
  exact ⟨rfl, rfl⟩

set_option maxHeartbeats 1000000 in
theorem specDecimal_neg (m : Nat) (w : World) (h0 : 0 < m) (hm : m ≤ 9223372036854775808) :
    Calls Try.prog 12 #[.int .i64 (-(m : Int))] w fun e w' => e = .returned (.string ⟨(45 :: digF 20 m []).toArray⟩) ∧ Below w.heap.size w w' := by
  have hz : (-(m : Int) == 0) = false := by simp; omega
  have hn : decide (-(m : Int) < 0) = true := by simp; omega
  go_enter Try.func12, Try.ntmps12
  go_wp2
  go_loopw [0, 4] (fun n v wr => Box (∃ (f k : Nat) (l : List UInt8), n = .int .i64 (-(k : Int)) ∧ v = .string ⟨l.toArray⟩ ∧ k ≤ 9223372036854775808 ∧ k < 10 ^ f ∧ l.length + f ≤ 20 ∧ Hid (digF f k l = digF 20 m []) ∧ Below w.heap.size w wr))
    (fun n _ _ => (-(intOf n)).toNat)
  case atStart => exact ⟨⟨20, m, [], rfl, rfl, hm, by omega, by simp, rfl, Below.refl _ _⟩⟩
  case round =>
    obtain ⟨f, k, l, rfl, rfl, hk, hkf, hlf, hl, hbel⟩ := hrel.out
    have hsz := hbel.size
    by_cases hlt : k = 0
    · have hk0 : (-(k : Int) != 0) = false := by simp; omega
      have HK : Hid (k = 0) := hlt
      clear hlt
      go_wp2
      go_ret
      exact ⟨by rw [show (⟨#[45]⟩ : ByteArray) ++ ⟨l.toArray⟩ = ⟨(45 :: l).toArray⟩ from text_cons _ _]; exact ret_str (by have := hl.out; rw [HK.out, digF_zero] at this; rw [this]), hbel⟩
    · have hk0 : (-(k : Int) != 0) = true := by simp; omega
      obtain ⟨q, hq, HQ⟩ : ∃ q : Nat, Hid (q = k / 10) ∧ (-(k : Int)).tdiv 10 = -(q : Int) := ⟨k / 10, rfl, by rw [Int.neg_tdiv, Int.tdiv_eq_ediv_of_nonneg (by omega)]; omega⟩
      have hq' : q ≤ 922337203685477581 := by have := hq.out; omega
      by_cases hk10 : k % 10 = 0
      · have HD : (-(k : Int)).tmod 10 = 0 := by rw [Int.neg_tmod, Int.tmod_eq_emod_of_nonneg (by omega)]; omega
        have hcv := fun w => one_text (P := Try.prog) w 22 9 5 (fig 0) Try.underlying22 Try.underlying5 Try.underlying9
        go_wp2_with (go_at_call 45; refine (l01Figure_zero _).mono ?_; rintro e w' ⟨rfl, rfl⟩)
        go_roundw
        case rel =>
          try ((repeat apply Exists.intro); refine ⟨?_, rfl⟩)
          match f, hkf, hlf, hl with
          | 0, hkf, _, _ => simp at hkf; omega
          | f + 1, hkf, hlf, hl =>
            exact ⟨⟨f, q, fig 0 :: l, by go_num, congrArg Value.string (text_cons _ _), by have := hq.out; omega, by rw [hq.out]; exact pow_down10 hkf, by simp; omega, by
              have := hl.out
              rw [digF_on hlt, ← hq.out, show k % 10 = 0 by omega] at this
              exact this, hbel.alloc hsz _⟩⟩
        case measure => simp [intOf]; have := hq.out; omega
      · obtain ⟨d, hd, hd0, HD, HD2⟩ : ∃ d : Nat, d < 10 ∧ 0 < d ∧ (-(k : Int)).tmod 10 = -(d : Int) ∧ Hid (d = k % 10) := ⟨k % 10, by omega, by omega, by rw [Int.neg_tmod, Int.tmod_eq_emod_of_nonneg (by omega)]; omega, rfl⟩
        have hcv := fun w => one_text (P := Try.prog) w 22 9 5 (fig d) Try.underlying22 Try.underlying5 Try.underlying9
        go_wp2_with (go_at_call 45; refine (l01Figure_any d _ (by omega)).mono ?_; rintro e w' ⟨rfl, rfl⟩)
        go_roundw
        case rel =>
          try ((repeat apply Exists.intro); refine ⟨?_, rfl⟩)
          match f, hkf, hlf, hl with
          | 0, hkf, _, _ => simp at hkf; omega
          | f + 1, hkf, hlf, hl =>
            exact ⟨⟨f, q, fig d :: l, by go_num, congrArg Value.string (text_cons _ _), by have := hq.out; omega, by rw [hq.out]; exact pow_down10 hkf, by simp; omega, by
              have := hl.out
              rw [digF_on hlt, ← hq.out, show k % 10 = d from HD2.out.symm] at this
              exact this, hbel.alloc hsz _⟩⟩
        case measure => simp [intOf]; have := hq.out; omega

/-- The whole: of every int. -/
theorem specDecimal_any (n : Int) (w : World) (h1 : -9223372036854775808 ≤ n) (h2 : n ≤ 9223372036854775807) :
    Calls Try.prog 12 #[.int .i64 n] w fun e w' => e = .returned (.string ⟨(decOf n).toArray⟩) ∧ Below w.heap.size w w' := by
  rcases (show n = 0 ∨ 0 < n ∨ n < 0 by omega) with h | h | h
  · subst h
    go_enter Try.func12, Try.ntmps12
    go_wp2
    go_ret
    exact ⟨rfl, Below.refl _ _⟩
  · obtain ⟨m, rfl⟩ : ∃ m : Nat, n = m := ⟨n.toNat, by omega⟩
    have hd : decOf (m : Int) = digF 20 m [] := by
      unfold decOf
      rw [if_neg (by omega), if_neg (by omega)]
      simp
    rw [hd]
    exact specDecimal_pos m w (by omega) (by omega)
  · obtain ⟨m, rfl⟩ : ∃ m : Nat, n = -(m : Int) := ⟨n.natAbs, by omega⟩
    have hd : decOf (-(m : Int)) = 45 :: digF 20 m [] := by
      unfold decOf
      rw [if_neg (by omega), if_pos h]
      simp
    rw [hd]
    exact specDecimal_neg m w (by omega) (by omega)
end Go.Proofs.Ytmpnjijbahjinaf
