/- The walk over the reading of a number: the program's own text. -/
import Derived.Test.YtepfblabdibggabDoorReadPlain
import Derived.Test.YtepfblabdibggabDoorBaseJ
import Derived.Deep.RegionWith
import Derived.BigQuiet
namespace Go.Proofs.YtepfblabdibggabDoor
open Go.RowKit

set_option maxHeartbeats 1000000 in
theorem implReadVar_in (s : ByteArray) (a : Nat) (w : World) (hs : s.size ≤ 1048576) (ha : a ≤ s.size) :
    Calls Tryd.prog 85 #[.string s, .int .i64 a] w fun e w' => e = .returned (.tuple #[.int .i64 (((rvF s.data.toList a 5 0).getD (0, 0)).1 : Nat), .int .i64 (((rvF s.data.toList a 5 0).getD (0, 0)).2 : Nat), .bool (rvF s.data.toList a 5 0).isSome]) ∧ w = w' := by
  have hA1 : ¬ (s.size < a) := by omega
  go_enter Tryd.func85, Tryd.ntmps85
  go_wp2
  go_loopw [7, 8, 9] (fun n sc i wr => Box (∃ (k n' sc' : Nat), k ≤ 5 ∧ a + k ≤ s.size ∧ i = .int .i64 ((a + k : Nat) : Int) ∧ n = .int .i64 n' ∧ sc = .int .i64 sc' ∧ Hid (n' = dec ((s.data.toList.drop a).take k)) ∧ Hid (sc' = 128 ^ k) ∧ Hid (rvF s.data.toList a (5 - k) k = rvF s.data.toList a 5 0) ∧ wr = w))
    (fun _ _ i _ => s.size - (intOf i).toNat)
  case atStart => exact ⟨⟨0, 0, 1, by omega, by omega, rfl, rfl, rfl, rfl, rfl, rfl, rfl⟩⟩
  case round =>
    obtain ⟨k, n', sc', hk, hak, rfl, rfl, rfl, hn, hsc, hrv, rfl⟩ := hrel.out
    have hn1 := n_lt hk hn.out
    rcases Nat.lt_or_ge (a + 5) s.size with h5 | h5
    all_goals
      by_cases hlt : a + k < s.size ∧ k < 5
      · obtain ⟨hlt2, hk5⟩ := hlt
        obtain ⟨b, hb⟩ : ∃ b, s[a + k] = b := ⟨_, rfl⟩
        have HB : Hid (∃ h' : a + k < s.data.toList.length, s.data.toList[a + k] = b) := byte_of hlt2 hb
        have hsc2 := sc_le hk5 hsc.out
        obtain ⟨hmul1, hmul2⟩ := mul_le b.toNat sc' hsc2
        have hbl : b.toNat < 256 := b.toNat_lt
        by_cases h127 : 127 < b.toNat
        · go_wp2
          go_roundw
          case rel =>
            obtain ⟨h', hb'⟩ := HB.out
            try ((repeat apply Exists.intro); refine ⟨?_, rfl⟩)
            exact ⟨⟨k + 1, n' + b.toNat % 128 * sc', sc' * 128, by omega, by omega, by go_num, by go_num, by go_num, (dec_more hn.out hsc.out h' hb').symm, by show sc' * 128 = 128 ^ (k + 1); rw [hsc.out, Nat.pow_succ], by
              have := hrv.out
              rw [show 5 - k = (5 - (k + 1)) + 1 by omega, rvF_on h' (by rw [hb']; omega)] at this
              exact this, by first | rfl | trivial⟩⟩
          case measure => simp [intOf]; omega
        · have hz : (b = 0) ↔ b.toNat = 0 := ⟨fun h => by rw [h]; rfl, fun h => UInt8.toNat_inj.1 (by simpa using h)⟩
          have HZ : Hid ((b = 0) ↔ b.toNat = 0) := hz
          clear hz
          obtain ⟨P, hP⟩ : ∃ P : Int, (b.toNat : Int) % 128 * (sc' : Int) = P := ⟨_, rfl⟩
          have HP : Hid (((n' + b.toNat % 128 * sc' : Nat) : Int) = n' + P) := by show _ = _; rw [← hP]; simp
          have HZP : Hid (b.toNat = 0 → P = 0) := fun h => by rw [← hP, h]; simp
          have HD : Hid (∃ h' : a + k < s.data.toList.length, s.data.toList[a + k] = b ∧ dec ((s.data.toList.drop a).take (k + 1)) = n' + b.toNat % 128 * sc') := by
            obtain ⟨h', hb'⟩ := HB.out
            exact ⟨h', hb', dec_more hn.out hsc.out h' hb'⟩
          have HR : Hid (rvF s.data.toList a ((5 - (k + 1)) + 1) k = rvF s.data.toList a 5 0) := by
            have := hrv.out
            rw [show 5 - k = (5 - (k + 1)) + 1 by omega] at this
            exact this
          rcases (show 1000000000 < n' + P ∨ (n' + P ≤ 1000000000 ∧ b.toNat = 0 ∧ 0 < k) ∨ (n' + P ≤ 1000000000 ∧ b.toNat = 0 ∧ k ≤ 0) ∨ (n' + P ≤ 1000000000 ∧ 0 < b.toNat) by omega) with g | ⟨g, g0, g1⟩ | ⟨g, g0, g1⟩ | ⟨g, g0⟩
          · go_wp2
            go_ret3
            obtain ⟨h', hb', hd⟩ := HD.out
            have hp := HP.out
            exact ⟨ret_none (by rw [← HR.out]; exact rvF_no h' (by rw [hb']; omega) (.inl (by rw [hd]; omega))), rfl⟩
          · have hp := HZP.out g0
            subst hp
            go_wp2
            go_ret3
            obtain ⟨h', hb', hd⟩ := HD.out
            exact ⟨ret_none (by rw [← HR.out]; exact rvF_no h' (by rw [hb']; omega) (.inr ⟨by rw [hb']; exact HZ.out.2 g0, g1⟩)), rfl⟩
          · have hp := HZP.out g0
            subst hp
            go_wp2
            go_ret3
            obtain ⟨h', hb', hd⟩ := HD.out
            have hp := HP.out
            exact ⟨ret_some (by rw [← HR.out]; exact rvF_yes h' (by rw [hb']; omega) (by rw [hd]; omega)) (by rw [hd, hp]; simp) (by simp), rfl⟩
          · go_wp2
            go_ret3
            obtain ⟨h', hb', hd⟩ := HD.out
            have hp := HP.out
            exact ⟨ret_some (by rw [← HR.out]; exact rvF_yes h' (by rw [hb']; omega) (by rw [hd, hb', HZ.out]; omega)) (by rw [hd, hp]) (by simp), rfl⟩
      · go_wp2
        go_ret3
        exact ⟨ret_none (by rw [← hrv.out]; exact rvF_end (by simp; omega)), rfl⟩

set_option maxHeartbeats 1000000 in
theorem implReadVar_any (s : ByteArray) (a : Int) (w : World) (hs : s.size ≤ 1048576) :
    Calls Tryd.prog 85 #[.string s, .int .i64 a] w fun e w' => e = .returned (.tuple #[.int .i64 (rvN s.data.toList a : Nat), .int .i64 (rvE s.data.toList a : Nat), .bool (rvOk s.data.toList a)]) ∧ w = w' := by
  unfold rvN rvE rvOk
  by_cases h : 0 ≤ a ∧ a ≤ s.size
  · obtain ⟨m, rfl⟩ : ∃ m : Nat, a = m := ⟨a.toNat, by omega⟩
    rw [rv_in (by omega)]
    exact implReadVar_in s m w hs (by omega)
  · rw [rv_out h]
    rcases (show a < 0 ∨ (0 ≤ a ∧ (s.size : Int) < a) by omega) with h0 | ⟨h0, h1⟩
    all_goals
      clear h
      go_enter Tryd.func85, Tryd.ntmps85
      go_wp2
      go_ret3
      exact ⟨rfl, rfl⟩
end Go.Proofs.YtepfblabdibggabDoor
