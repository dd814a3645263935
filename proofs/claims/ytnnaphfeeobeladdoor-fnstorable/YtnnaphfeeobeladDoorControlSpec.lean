/- The other text tells what is told of keeping. -/
import Derived.Test.YtnnaphfeeobeladDoorControlPlain
import Derived.Test.YtnnaphfeeobeladDoorLowSpec
import Derived.Test.YtnnaphfeeobeladDoorBase
namespace Go.Proofs.YtnnaphfeeobeladDoor
open Go.RowKit Go.Sort
theorem digits_go {l : List UInt8} (h : ∀ q (hq : q < l.length), 48 ≤ l[q].toNat ∧ l[q].toNat ≤ 57) : digits l = true := by
  unfold digits
  rw [List.all_eq_true]
  intro x hx
  obtain ⟨j, hj, rfl⟩ := List.getElem_of_mem hx
  exact decide_eq_true (h j hj)
theorem digits_no {l : List UInt8} {k : Nat} (hk : k < l.length) (h : ¬ (48 ≤ l[k].toNat ∧ l[k].toNat ≤ 57)) : digits l = false := by
  unfold digits
  rw [List.all_eq_false]
  exact ⟨l[k], List.getElem_mem hk, by simpa using h⟩
theorem valF_step (l : List UInt8) (k : Nat) (hk : k < l.length) : valF 0 (l.take (k + 1)) = valF 0 (l.take k) * 10 + dOf l[k] := by
  rw [List.take_succ_eq_append_getElem hk, valF_snoc]
set_option maxRecDepth 100000 in
set_option maxHeartbeats 4000000 in
theorem specNumber_any (s : ByteArray) (w : World) :
    Calls Tryd.prog 96 #[.string s] w fun e w' => e = .returned (.tuple #[.int .i64 ((numL s.data.toList).getD 0 : Nat), .bool (numL s.data.toList).isSome]) ∧ w' = w := by
  obtain ⟨R, hR⟩ : ∃ R, numL s.data.toList = R := ⟨_, rfl⟩
  rw [hR]
  obtain ⟨l, hl⟩ : ∃ l, s.data.toList = l := ⟨_, rfl⟩
  have hsz : s.size = l.length := by rw [← hl]; exact Lib.size_eq s
  have HR : Hid ((if (decide (1 ≤ l.length ∧ l.length ≤ 6) && digits l) = true then some (valF 0 l) else none) = R) := by show _ = _; rw [← hR, hl]; rfl
  have HSL : Hid (s.data.toList = l ∧ s.size = l.length) := ⟨hl, hsz⟩
  have cI := in_any (s.size : Int) 1 6 w
  clear hR
  by_cases h6 : 1 ≤ l.length ∧ l.length ≤ 6
  case neg =>
    rw [show inN (s.size : Int) 1 6 = false from decide_eq_false (by omega)] at cI
    have HP : Hid (R = none) := by show _ = _; rw [← HR.out, decide_eq_false h6]; rfl
    clear HR hl hsz
    go_enter Tryd.func96, Tryd.ntmps96
    go_wp2_with fail
    refine cI.mono ?_
    rintro e w1 ⟨rfl, hw1⟩
    rw [hw1]
    go_wp2_with fail
    go_ret2
    exact ⟨by rw [HP.out]; rfl, rfl⟩
  rw [show inN (s.size : Int) 1 6 = true from decide_eq_true (by omega)] at cI
  have hs6 : s.size ≤ 6 := by omega
  have HR2 : Hid ((if digits l = true then some (valF 0 l) else none) = R) := by show _ = _; rw [← HR.out, decide_eq_true h6]; simp
  clear HR hl hsz h6
  go_enter Tryd.func96, Tryd.ntmps96
  go_wp2_with fail
  refine cI.mono ?_
  rintro e w1 ⟨rfl, hw1⟩
  rw [hw1]
  clear cI hw1
  go_wp2_with fail
  go_loopw [4, 5] (fun n i wr => Box (∃ k m : Nat, k ≤ s.size ∧ i = .int .i64 k ∧ n = .int .i64 m ∧ m ≤ 999999 ∧ Hid (m < 10 ^ k) ∧ Hid (m = valF 0 (l.take k)) ∧ Hid (∀ q (hq : q < l.length), q < k → 48 ≤ l[q].toNat ∧ l[q].toNat ≤ 57) ∧ wr = w))
    (fun _ i _ => s.size - (intOf i).toNat)
  case atStart => exact ⟨⟨0, 0, by omega, rfl, rfl, by omega, by simp [Hid], rfl, fun q _ h => by omega, rfl⟩⟩
  case round =>
    obtain ⟨k, m, hk, rfl, rfl, hm9, HP10, HV, HD, hwr⟩ := hrel.out
    clear hrel
    rw [hwr]
    clear hwr
    by_cases hlt : k < s.size
    · obtain ⟨b, hb⟩ : ∃ b, s[k] = b := ⟨_, rfl⟩
      have hkl : k < l.length := by have := HSL.out.2; omega
      have HB : Hid (l[k] = b) := by
        show _ = _
        have h1 : s.data.toList[k]'(by rw [HSL.out.1]; exact hkl) = b := by rw [← hb]; rfl
        have h2 := HSL.out.1
        subst h2
        exact h1
      have hbl : b.toNat < 256 := b.toNat_lt
      have hki : (k : Int) < (s.size : Int) := by omega
      have hk0 : (0 : Int) ≤ (k : Int) := by omega
      rcases (show b.toNat < 48 ∨ 57 < b.toNat ∨ (48 ≤ b.toNat ∧ b.toNat ≤ 57) by omega) with g1 | g1 | ⟨g1, g2⟩
      · have HN : Hid (R = none) := by show _ = _; rw [← HR2.out, digits_no hkl (by rw [HB.out]; omega)]; rfl
        go_wp2_with fail
        go_ret2
        exact ⟨by rw [HN.out]; rfl, rfl⟩
      · have HN : Hid (R = none) := by show _ = _; rw [← HR2.out, digits_no hkl (by rw [HB.out]; omega)]; rfl
        go_wp2_with fail
        go_ret2
        exact ⟨by rw [HN.out]; rfl, rfl⟩
      · have HK6 : Hid (k + 1 ≤ 6) := by show _ ≤ _; omega
        have H2 : Hid (10 * m + b.toNat - 48 < 10 ^ (k + 1)) := by show _ < _; have := HP10.out; rw [Nat.pow_succ]; omega
        have H3 : Hid (10 * m + b.toNat - 48 = valF 0 (l.take (k + 1))) := by
          show _ = _
          rw [valF_step l k hkl, ← HV.out, HB.out]
          unfold dOf
          omega
        have H4 : Hid (10 * m + b.toNat - 48 ≤ 999999) := by
          show _ ≤ _
          have h1 := H2.out
          have h2 : 10 ^ (k + 1) ≤ 10 ^ 6 := Nat.pow_le_pow_right (by omega) HK6.out
          omega
        go_wp2_with fail
        go_roundw
        case rel =>
          try ((repeat apply Exists.intro); refine ⟨?_, rfl⟩)
          refine ⟨⟨k + 1, 10 * m + b.toNat - 48, by omega, by go_num, by congr 1; omega, H4.out, H2, H3, fun q hq hqk => ?_, by first | rfl | trivial⟩⟩
          by_cases e : q = k
          · subst e; rw [HB.out]; omega
          · exact HD.out q hq (by omega)
        case measure => simp [intOf]; omega
    · have hki : ¬ (k : Int) < (s.size : Int) := by omega
      have HE : Hid (R = some m) := by
        show _ = _
        have hkl : k = l.length := by have := HSL.out.2; omega
        rw [← HR2.out, digits_go (fun q hq => HD.out q hq (by omega)), if_pos rfl, HV.out, hkl, List.take_length]
      go_wp2_with fail
      go_ret2
      exact ⟨by rw [HE.out]; rfl, rfl⟩
set_option maxRecDepth 100000 in
set_option maxHeartbeats 4000000 in
theorem specBegins_any (s p : ByteArray) (w : World) (_hs : s.size ≤ 1048576) :
    Calls Tryd.prog 95 #[.string s, .string p] w fun e w' => e = .returned (.bool (p.data.toList.isPrefixOf s.data.toList)) ∧ w' = w := by
  have hp := Lib.hasPrefix_of_take s.data.toList p.data.toList
  unfold Lib.hasPrefix at hp
  rw [← hp, ← Lib.size_eq, ← Lib.size_eq]
  clear hp
  by_cases h : p.size ≤ s.size
  · have hi : (p.size : Int) ≤ (s.size : Int) := by omega
    have s1 := fun w => run_slice_string_h (P := Tryd.prog) w 9 s Tryd.underlying9 .i64 (p.size : Int) (by omega) (by omega)
    rw [Int.toNat_natCast] at s1
    have e : ((s.extract 0 p.size).toList == p.toList) = (s.data.toList.take p.size == p.data.toList) := by
      rw [ByteArray.toList_eq, ByteArray.toList_eq, Lib.extract_data, List.drop_zero, Nat.sub_zero]
    rw [decide_eq_true h, Bool.true_and, ← e]
    generalize s.extract 0 p.size = g at s1 e ⊢
    clear e h
    go_enter Tryd.func95, Tryd.ntmps95
    go_wp2_with fail
    go_ret
    exact ⟨rfl, rfl⟩
  · have hi : ¬ (p.size : Int) ≤ (s.size : Int) := by omega
    rw [decide_eq_false h, Bool.false_and]
    clear h
    go_enter Tryd.func95, Tryd.ntmps95
    go_wp2_with fail
    go_ret
    exact ⟨rfl, rfl⟩
end Go.Proofs.YtnnaphfeeobeladDoor
