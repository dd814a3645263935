/- The walks over the reading of a number. -/
import Derived.Test.YtednbcdomkhhmajReadPlain
import Derived.Deep.RegionWith
import Derived.BigQuiet
namespace Go.Proofs.Ytednbcdomkhhmaj
open Go.RowKit

theorem byte_at (s : ByteArray) (i : Nat) (h : i < s.size) : s[i] = s.data.toList[i]'(by simpa using h) := by simp; rfl

theorem byte_of {s : ByteArray} {i : Nat} {b : UInt8} (h : i < s.size) (hb : s[i] = b) : ∃ h' : i < s.data.toList.length, s.data.toList[i] = b := ⟨by simpa using h, by rw [← hb, byte_at s i h]⟩

theorem mul_le (b sc : Nat) (h : sc ≤ 268435456) : ((b : Int) % 128 * (sc : Int)) ≤ 34091302912 ∧ 0 ≤ ((b : Int) % 128 * (sc : Int)) := by
  have h1 : (b : Int) % 128 * (sc : Int) = ((b % 128 * sc : Nat) : Int) := by simp
  rw [h1]
  have h2 : b % 128 * sc ≤ 127 * 268435456 := Nat.mul_le_mul (by omega) h
  omega

theorem sc_le {k sc : Nat} (hk : k < 5) (h : sc = 128 ^ k) : sc ≤ 268435456 := by
  subst h
  exact Nat.pow_le_pow_right (n := 128) (j := 4) (by decide) (by omega)

theorem n_lt {t : List UInt8} {a k n : Nat} (hk : k ≤ 5) (h : n = dec ((t.drop a).take k)) : n < 34359738368 := by
  subst h
  refine Nat.lt_of_lt_of_le (dec_lt _) (Nat.le_trans (Nat.pow_le_pow_right (n := 128) (by decide) (List.length_take_le _ _)) ?_)
  exact Nat.pow_le_pow_right (n := 128) (j := 5) (by decide) hk

theorem dec_more {t : List UInt8} {a k n sc : Nat} {b : UInt8} (hn : n = dec ((t.drop a).take k)) (hsc : sc = 128 ^ k) (h : a + k < t.length) (hb : t[a + k] = b) :
    dec ((t.drop a).take (k + 1)) = n + b.toNat % 128 * sc := by
  rw [take_more h, dec_snoc, ← hn, hb, hsc]
  congr 3
  simp
  omega

theorem ret_none {r : Option (Nat × Nat)} (h : r = none) : Ending.returned (.tuple #[.int .i64 0, .int .i64 0, .bool false]) = .returned (.tuple #[.int .i64 ((r.getD (0, 0)).1 : Nat), .int .i64 ((r.getD (0, 0)).2 : Nat), .bool r.isSome]) := by
  subst h; rfl
theorem ret_some {r : Option (Nat × Nat)} {n e : Nat} {x y : Int} (h : r = some (n, e)) (hx : x = n) (hy : y = e) : Ending.returned (.tuple #[.int .i64 x, .int .i64 y, .bool true]) = .returned (.tuple #[.int .i64 ((r.getD (0, 0)).1 : Nat), .int .i64 ((r.getD (0, 0)).2 : Nat), .bool r.isSome]) := by
  subst h hx hy; rfl

set_option maxHeartbeats 1000000 in
theorem implReadVar_in (s : ByteArray) (a : Nat) (w : World) (hs : s.size ≤ 1048576) (ha : a ≤ s.size) :
    Calls Try.prog 16 #[.string s, .int .i64 a] w fun e w' => e = .returned (.tuple #[.int .i64 (((rvF s.data.toList a 5 0).getD (0, 0)).1 : Nat), .int .i64 (((rvF s.data.toList a 5 0).getD (0, 0)).2 : Nat), .bool (rvF s.data.toList a 5 0).isSome]) ∧ w = w' := by
  have hA1 : ¬ (s.size < a) := by omega
  go_enter Try.func16, Try.ntmps16
  go_wp2
  go_loopw [7, 8, 9] (fun n sc i wr => Box (∃ (k n' sc' : Nat), k ≤ 5 ∧ a + k ≤ s.size ∧ i = .int .i64 ((a + k : Nat) : Int) ∧ n = .int .i64 n' ∧ sc = .int .i64 sc' ∧ Hid (n' = dec ((s.data.toList.drop a).take k)) ∧ Hid (sc' = 128 ^ k) ∧ Hid (rvF s.data.toList a (5 - k) k = rvF s.data.toList a 5 0) ∧ wr = w))
    (fun _ _ i _ => s.size - (intOf i).toNat)
  case atStart => exact ⟨⟨0, 0, 1, by omega, by omega, rfl, rfl, rfl, rfl, rfl, rfl, rfl⟩⟩
  case round =>
    obtain ⟨k, n', sc', hk, hak, rfl, rfl, rfl, hn, hsc, hrv, rfl⟩ := hrel.out
    have hn1 := n_lt hk hn.out
    rcases Nat.lt_or_ge (a + 5) s.size with h5 | h5
    all_goals
      by_cases hlt : a + k < s.size ∧ k < 5
      · obtain ⟨hlt2, hk5⟩ := hlt
        obtain ⟨b, hb⟩ : ∃ b, s[a + k] = b := ⟨_, rfl⟩
        have HB : Hid (∃ h' : a + k < s.data.toList.length, s.data.toList[a + k] = b) := byte_of hlt2 hb
        have hsc2 := sc_le hk5 hsc.out
        obtain ⟨hmul1, hmul2⟩ := mul_le b.toNat sc' hsc2
        have hbl : b.toNat < 256 := b.toNat_lt
        by_cases h127 : 127 < b.toNat
        · go_wp2
          go_roundw
          case rel =>
            obtain ⟨h', hb'⟩ := HB.out
            try ((repeat apply Exists.intro); refine ⟨?_, rfl⟩)
            exact ⟨⟨k + 1, n' + b.toNat % 128 * sc', sc' * 128, by omega, by omega, by go_num, by go_num, by go_num, (dec_more hn.out hsc.out h' hb').symm, by show sc' * 128 = 128 ^ (k + 1); rw [hsc.out, Nat.pow_succ], by
              have := hrv.out
              rw [show 5 - k = (5 - (k + 1)) + 1 by omega, rvF_on h' (by rw [hb']; omega)] at this
              exact this, by first | rfl | trivial⟩⟩
          case measure => simp [intOf]; omega
        · have hz : (b = 0) ↔ b.toNat = 0 := ⟨fun h => by rw [h]; rfl, fun h => UInt8.toNat_inj.1 (by simpa using h)⟩
          have HZ : Hid ((b = 0) ↔ b.toNat = 0) := hz
          clear hz
          obtain ⟨P, hP⟩ : ∃ P : Int, (b.toNat : Int) % 128 * (sc' : Int) = P := ⟨_, rfl⟩
          have HP : Hid (((n' + b.toNat % 128 * sc' : Nat) : Int) = n' + P) := by show _ = _; rw [← hP]; simp
          have HZP : Hid (b.toNat = 0 → P = 0) := fun h => by rw [← hP, h]; simp
          have HD : Hid (∃ h' : a + k < s.data.toList.length, s.data.toList[a + k] = b ∧ dec ((s.data.toList.drop a).take (k + 1)) = n' + b.toNat % 128 * sc') := by
            obtain ⟨h', hb'⟩ := HB.out
            exact ⟨h', hb', dec_more hn.out hsc.out h' hb'⟩
          have HR : Hid (rvF s.data.toList a ((5 - (k + 1)) + 1) k = rvF s.data.toList a 5 0) := by
            have := hrv.out
            rw [show 5 - k = (5 - (k + 1)) + 1 by omega] at this
            exact this
          rcases (show 1000000000 < n' + P ∨ (n' + P ≤ 1000000000 ∧ b.toNat = 0 ∧ 0 < k) ∨ (n' + P ≤ 1000000000 ∧ b.toNat = 0 ∧ k ≤ 0) ∨ (n' + P ≤ 1000000000 ∧ 0 < b.toNat) by omega) with g | ⟨g, g0, g1⟩ | ⟨g, g0, g1⟩ | ⟨g, g0⟩
          · go_wp2
            go_ret3
            obtain ⟨h', hb', hd⟩ := HD.out
            have hp := HP.out
            exact ⟨ret_none (by rw [← HR.out]; exact rvF_no h' (by rw [hb']; omega) (.inl (by rw [hd]; omega))), rfl⟩
          · have hp := HZP.out g0
            subst hp
            go_wp2
            go_ret3
            obtain ⟨h', hb', hd⟩ := HD.out
            exact ⟨ret_none (by rw [← HR.out]; exact rvF_no h' (by rw [hb']; omega) (.inr ⟨by rw [hb']; exact HZ.out.2 g0, g1⟩)), rfl⟩
          · have hp := HZP.out g0
            subst hp
            go_wp2
            go_ret3
            obtain ⟨h', hb', hd⟩ := HD.out
            have hp := HP.out
            exact ⟨ret_some (by rw [← HR.out]; exact rvF_yes h' (by rw [hb']; omega) (by rw [hd]; omega)) (by rw [hd, hp]; simp) (by simp), rfl⟩
          · go_wp2
            go_ret3
            obtain ⟨h', hb', hd⟩ := HD.out
            have hp := HP.out
            exact ⟨ret_some (by rw [← HR.out]; exact rvF_yes h' (by rw [hb']; omega) (by rw [hd, hb', HZ.out]; omega)) (by rw [hd, hp]) (by simp), rfl⟩
      · go_wp2
        go_ret3
        exact ⟨ret_none (by rw [← hrv.out]; exact rvF_end (by simp; omega)), rfl⟩
end Go.Proofs.Ytednbcdomkhhmaj
