/- Texts that stand in one: ReadShortImpl, ReadSpec. -/
import Derived.Test.YtepfblabdibggabDoorReadVar
import Derived.Test.YtepfblabdibggabDoorShelf
import Derived.Test.YtepfblabdibggabDoorVarJ
import Derived.Lib.QuietBelow
namespace Go.Proofs.YtepfblabdibggabDoor
open Go.RowKit

theorem cloneR_any (s : ByteArray) (w : World) (hs : s.size ≤ 281474976710656) :
    Calls Tryd.prog 67 #[.string s] w fun e w' => e = .returned (.string s) ∧ Below w.heap.size w w' := by
  go_enter Tryd.func67, Tryd.ntmps67
  go_wp2_with (go_at_call 81; refine (Tryd.stringslite_Clone s _ hs).mono ?_; rintro e w' ⟨rfl, hb⟩)
  go_ret
  exact ⟨rfl, hb⟩

set_option maxHeartbeats 1000000 in
theorem implReadShort_any (s : ByteArray) (a : Int) (w : World) (hs : s.size ≤ 1048576) :
    Calls Tryd.prog 84 #[.string s, .int .i64 a] w fun e w' => e = .returned (.tuple #[.string (rsText s a), .int .i64 (rsE s a : Nat), .bool (rsOk s a)]) ∧ Below w.heap.size w w' := by
  obtain ⟨n, e, b, hn, he, hb, h1, h2, h3⟩ := rs_cases s a
  have c1 := implReadVar_any s a w hs
  rw [hn, he, hb] at c1
  clear hn he hb
  rcases h3 with ⟨rfl, g1, g2, g3, g4, g5⟩ | ⟨g1, g3, g4, g5⟩
  · rw [g3, g4, g5]
    clear g3 g4 g5
    have hx : (s.extract e (e + n)).size ≤ 281474976710656 := by simp; omega
    have c2 := cloneR_any (s.extract e (e + n)) w hx
    clear hx
    have hsl := fun w => run_slice_string (P := Tryd.prog) (w := w) 9 s .i64 .i64 (e : Int) ((e : Int) + (n : Int)) Tryd.underlying9 (by omega) (by omega) (by omega)
    go_enter Tryd.func84, Tryd.ntmps84
    go_wp2_with (first | (go_at_call 85; refine c1.mono ?_; rintro e w' ⟨rfl, rfl⟩) | (go_at_call 67; refine c2.mono ?_; rintro e w2 ⟨rfl, hb2⟩))
    go_ret3
    exact ⟨rfl, hb2⟩
  · rw [g3, g4, g5]
    clear g3 g4 g5
    rcases g1 with rfl | ⟨rfl, g1 | ⟨g1, g2⟩⟩
    all_goals
      go_enter Tryd.func84, Tryd.ntmps84
      go_wp2_with (go_at_call 85; refine c1.mono ?_; rintro e w' ⟨rfl, rfl⟩)
      go_ret3
      exact ⟨rfl, Below.refl _ _⟩
end Go.Proofs.YtepfblabdibggabDoor

namespace Go.Proofs.YtepfblabdibggabDoor
open Go.RowKit Go.Sort

theorem cmp_iff {s : ByteArray} {a k M : Nat} {b : UInt8} (hk : k < 5) (h' : a + k < s.data.toList.length) (hb' : s.data.toList[a + k] = b) (hall : ∀ c ∈ (s.data.toList.drop a).take k, 128 ≤ c.toNat)
    (hb : ¬ 127 < b.toNat) (hd : dec ((s.data.toList.drop a).take (k + 1)) = M) : (varF 8 M == (s.extract a (a + k + 1)).toList) = true ↔ ¬ (b = 0 ∧ 0 < k) := by
  rw [extract_list, show a + k + 1 - a = k + 1 by omega, beq_iff_eq, ← hd, take_more h', hb', varF_iff _ b 8 hall (by omega) (Nat.le_trans (List.length_take_le _ _) (by omega))]
  have hne : (s.data.toList.drop a).take k ≠ [] ↔ 0 < k := by
    rw [ne_eq, List.take_eq_nil_iff]
    have : s.data.toList.drop a ≠ [] := by
      intro h
      have := congrArg List.length h
      simp at this h'
      omega
    simp [this]
    omega
  rw [hne]

set_option maxRecDepth 100000 in
set_option maxHeartbeats 1000000 in
theorem specReadVar_in (s : ByteArray) (a : Nat) (w : World) (hs : s.size ≤ 1048576) (ha : a ≤ s.size) :
    Calls Tryd.prog 63 #[.string s, .int .i64 a] w fun e w' => e = .returned (.tuple #[.int .i64 (((rvF s.data.toList a 5 0).getD (0, 0)).1 : Nat), .int .i64 (((rvF s.data.toList a 5 0).getD (0, 0)).2 : Nat), .bool (rvF s.data.toList a 5 0).isSome]) ∧ Below w.heap.size w w' := by
  have hin := inB_yes (x := a) (a := 0) (b := s.size) (by omega) (by omega)
  go_enter Tryd.func63, Tryd.ntmps63
  go_wp2_with (go_at_call 52; refine (l01In_any _ _ _ _).mono ?_; rintro e w' ⟨rfl, rfl⟩)
  go_loopw [7, 8, 9] (fun n sc i wr => Box (∃ (k n' sc' : Nat), k ≤ 5 ∧ a + k ≤ s.size ∧ i = .int .i64 ((a + k : Nat) : Int) ∧ n = .int .i64 n' ∧ sc = .int .i64 sc' ∧ Hid (n' = dec ((s.data.toList.drop a).take k)) ∧ Hid (sc' = 128 ^ k) ∧ Hid (∀ c ∈ (s.data.toList.drop a).take k, 128 ≤ c.toNat) ∧ Hid (rvF s.data.toList a (5 - k) k = rvF s.data.toList a 5 0) ∧ wr = w))
    (fun _ _ i _ => s.size - (intOf i).toNat)
  case atStart => exact ⟨⟨0, 0, 1, by omega, by omega, rfl, rfl, rfl, rfl, rfl, by simp [Hid], rfl, rfl⟩⟩
  case round =>
    obtain ⟨k, n', sc', hk, hak, rfl, rfl, rfl, hn, hsc, hall, hrv, rfl⟩ := hrel.out
    have hn1 := n_lt hk hn.out
    by_cases hlt : a + k < s.size
    · by_cases hk5 : k < 5
      · obtain ⟨b, hb⟩ : ∃ b, s[a + k] = b := ⟨_, rfl⟩
        have HB : Hid (∃ h' : a + k < s.data.toList.length, s.data.toList[a + k] = b) := byte_of hlt hb
        have hsc2 := sc_le hk5 hsc.out
        obtain ⟨hmul1, hmul2⟩ := mul_le b.toNat sc' hsc2
        have hbl : b.toNat < 256 := b.toNat_lt
        by_cases h127 : 127 < b.toNat
        · go_wp2
          go_roundw
          case rel =>
            obtain ⟨h', hb'⟩ := HB.out
            try ((repeat apply Exists.intro); refine ⟨?_, rfl⟩)
            exact ⟨⟨k + 1, n' + b.toNat % 128 * sc', sc' * 128, by omega, by omega, by go_num, by go_num, by go_num, (dec_more hn.out hsc.out h' hb').symm, by show sc' * 128 = 128 ^ (k + 1); rw [hsc.out, Nat.pow_succ], by
              intro c hc
              rw [take_more h', hb', List.mem_append] at hc
              rcases hc with hc | hc
              · exact hall.out c hc
              · simp at hc; subst hc; omega, by
              have := hrv.out
              rw [show 5 - k = (5 - (k + 1)) + 1 by omega, rvF_on h' (by rw [hb']; omega)] at this
              exact this, by first | rfl | trivial⟩⟩
          case measure => simp [intOf]; omega
        · obtain ⟨M, hM, HM⟩ : ∃ M : Nat, (n' : Int) + (b.toNat : Int) % 128 * (sc' : Int) = M ∧ Hid (M = n' + b.toNat % 128 * sc') := ⟨n' + b.toNat % 128 * sc', by simp, rfl⟩
          have HD : Hid (∃ h' : a + k < s.data.toList.length, s.data.toList[a + k] = b ∧ dec ((s.data.toList.drop a).take (k + 1)) = M) := by
            obtain ⟨h', hb'⟩ := HB.out
            exact ⟨h', hb', by rw [HM.out]; exact dec_more hn.out hsc.out h' hb'⟩
          have HR : Hid (rvF s.data.toList a ((5 - (k + 1)) + 1) k = rvF s.data.toList a 5 0) := by
            have := hrv.out
            rw [show 5 - k = (5 - (k + 1)) + 1 by omega] at this
            exact this
          by_cases g : M ≤ 1000000000
          · have hM9 : M ≤ 9223372036854775807 := by omega
            have hd : decide ((1000000000 : Int) < (M : Int)) = false := by simp; omega
            have cV : ∀ d os, Calls Tryd.prog 51 #[.int .i64 (M : Int)] (grow (redrawn wr d) os) fun e w'' => e = .returned (.string ⟨(varF 8 M).toArray⟩) ∧ ∃ p : Regrown, w'' = grow (redrawn wr p.d) p.os := fun d os => Calls.regrown_of (l01Var_any M _ hM9)
            have hsl := fun w => run_slice_string (P := Tryd.prog) (w := w) 9 s .i64 .i64 (a : Int) ((a : Int) + (k : Int) + 1) Tryd.underlying9 (by omega) (by omega) (by omega)
            go_wp2
            refine wp_region_quiet_below (by kernel_rfl) (by kernel_rfl) ?_
            repeat (first | go_big_quiet_step (exact cV _ _) | quiet_step (exact cV _ _))
            refine wpQuiet_nil ?_
            intro _ hw'
            obtain ⟨⟨dq, osq⟩, hw''⟩ := hw'
            subst hw''
            go_wp2
            · have hcmp : (!varF 8 M == (s.extract a (a + k + 1)).toList) = true := by assumption
              go_ret3
              obtain ⟨h', hb', hd⟩ := HD.out
              have hz := cmp_iff hk5 h' hb' hall.out h127 hd
              have hz2 : b = 0 ∧ 0 < k := Classical.byContradiction fun h => by rw [hz.2 h] at hcmp; simp at hcmp
              exact ⟨ret_none (by rw [← HR.out]; exact rvF_no h' (by rw [hb']; omega) (.inr (by rw [hb']; exact hz2))), below_regrown _ _ _⟩
            · have hcmp : (!varF 8 M == (s.extract a (a + k + 1)).toList) = false := by assumption
              go_ret3
              obtain ⟨h', hb', hd⟩ := HD.out
              have hz2 := (cmp_iff hk5 h' hb' hall.out h127 hd).1 (by simpa using hcmp)
              exact ⟨ret_some (by rw [← HR.out]; exact rvF_yes h' (by rw [hb']; omega) (by rw [hd, hb']; rintro (h | h); · omega
                                                                                           · exact hz2 h)) (by rw [hd]) (by simp), below_regrown _ _ _⟩
          · have hd : decide ((1000000000 : Int) < (M : Int)) = true := by simp; omega
            go_wp2
            go_quiet (fail)
            go_wp2
            go_ret3
            obtain ⟨h', hb', hd⟩ := HD.out
            exact ⟨ret_none (by rw [← HR.out]; exact rvF_no h' (by rw [hb']; omega) (.inl (by rw [hd]; omega))), ⟨rfl, rfl, rfl, Nat.le_refl _, fun _ _ => rfl⟩⟩
      · go_wp2
        go_ret3
        exact ⟨ret_none (by rw [← hrv.out]; exact rvF_end (by omega)), Below.refl _ _⟩
    · go_wp2
      go_ret3
      exact ⟨ret_none (by rw [← hrv.out]; exact rvF_end (by simp; omega)), Below.refl _ _⟩

set_option maxHeartbeats 1000000 in
theorem specReadVar_any (s : ByteArray) (a : Int) (w : World) (hs : s.size ≤ 1048576) :
    Calls Tryd.prog 63 #[.string s, .int .i64 a] w fun e w' => e = .returned (.tuple #[.int .i64 (rvN s.data.toList a : Nat), .int .i64 (rvE s.data.toList a : Nat), .bool (rvOk s.data.toList a)]) ∧ Below w.heap.size w w' := by
  unfold rvN rvE rvOk
  by_cases h : 0 ≤ a ∧ a ≤ s.size
  · obtain ⟨m, rfl⟩ : ∃ m : Nat, a = m := ⟨a.toNat, by omega⟩
    rw [rv_in (by omega)]
    exact specReadVar_in s m w hs (by omega)
  · rw [rv_out h]
    have hin := inB_no h
    clear h
    go_enter Tryd.func63, Tryd.ntmps63
    go_wp2_with (go_at_call 52; refine (l01In_any _ _ _ _).mono ?_; rintro e w' ⟨rfl, rfl⟩)
    go_ret3
    exact ⟨rfl, Below.refl _ _⟩
end Go.Proofs.YtepfblabdibggabDoor
