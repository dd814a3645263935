/- The other text's names, values and fields. -/
import Derived.Test.YtnnaphfeeobeladDoorHeadPlainJ
namespace Go.Proofs.YtnnaphfeeobeladDoor
open Go.RowKit Go.Sort
set_option maxRecDepth 100000 in
set_option maxHeartbeats 2000000 in
theorem specPlain_any (s : ByteArray) (most : Int) (w : World) (hs : s.size ≤ 1048576) :
    Calls Tryd.prog 48 #[.string s, .int .i64 most] w fun e w' => e = .returned (.bool (plainS s most)) ∧ w' = w := by
  obtain ⟨R, hR⟩ : ∃ R, plainS s most = R := ⟨_, rfl⟩
  rw [hR]
  have HR : Hid ((allB plainB s && decide ((s.size : Int) ≤ most)) = R) := hR
  clear hR
  go_enter Tryd.func48, Tryd.ntmps48
  go_wp2
  go_loopw [5] (fun i wr => Box (∃ k : Nat, k ≤ s.size ∧ i = .int .i64 k ∧ Hid (∀ q (hq : q < s.size), q < k → plainB s[q].toNat = true) ∧ wr = w))
    (fun i _ => s.size - (intOf i).toNat)
  case atStart => exact ⟨⟨0, by omega, rfl, fun q _ hq => absurd hq (Nat.not_lt_zero _), rfl⟩⟩
  case round =>
    obtain ⟨k, hk, rfl, HN, hwr⟩ := hrel.out
    clear hrel
    rw [hwr]
    clear hwr
    by_cases hlt : k < s.size
    · obtain ⟨b, hb⟩ : ∃ b, s[k] = b := ⟨_, rfl⟩
      have HB : Hid (s[k] = b) := hb
      have hbl : b.toNat < 256 := b.toNat_lt
      rcases (show b.toNat < 32 ∨ 126 < b.toNat ∨ (32 ≤ b.toNat ∧ b.toNat ≤ 126) by omega) with g1 | g1 | ⟨g1, g2⟩
      · have HP : Hid (R = false) := by show _ = _; rw [← HR.out, allB_no hlt (by rw [hb]; unfold plainB; exact decide_eq_false (by omega))]; rfl
        go_wp2
        go_ret
        exact ⟨by rw [HP.out]; rfl, rfl⟩
      · have HP : Hid (R = false) := by show _ = _; rw [← HR.out, allB_no hlt (by rw [hb]; unfold plainB; exact decide_eq_false (by omega))]; rfl
        go_wp2
        go_ret
        exact ⟨by rw [HP.out]; rfl, rfl⟩
      · have HP : Hid (plainB b.toNat = true) := by show _ = _; unfold plainB; exact decide_eq_true ⟨g1, g2⟩
        go_wp2
        go_roundw
        case rel =>
          try ((repeat apply Exists.intro); refine ⟨?_, rfl⟩)
          refine ⟨⟨k + 1, by omega, by go_num, fun q hq hqk => ?_, by first | rfl | trivial⟩⟩
          by_cases e : q = k
          · subst e; rw [HB.out]; exact HP.out
          · exact HN.out q hq (by omega)
        case measure => simp [intOf]; omega
    · have HP : Hid (R = decide ((s.size : Int) ≤ most)) := by show _ = _; rw [← HR.out, allB_go fun q hq => HN.out q hq (by omega)]; rfl
      by_cases hm : (s.size : Int) ≤ most
      · go_wp2
        go_ret
        exact ⟨by rw [HP.out, decide_eq_true hm]; rfl, rfl⟩
      · go_wp2
        go_ret
        exact ⟨by rw [HP.out, decide_eq_false (by omega)]; rfl, rfl⟩
set_option maxRecDepth 100000 in
set_option maxHeartbeats 2000000 in
theorem specName_any (s : ByteArray) (w : World) (hs : s.size ≤ 1048576) :
    Calls Tryd.prog 60 #[.string s] w fun e w' => e = .returned (.bool (nameOkS s)) ∧ w' = w := by
  obtain ⟨R, hR⟩ : ∃ R, nameOkS s = R := ⟨_, rfl⟩
  rw [hR]
  have HR : Hid ((allB nameB s && decide (1 ≤ s.size ∧ s.size ≤ 20)) = R) := hR
  clear hR
  have cI := in_any (s.size : Int) 1 20 w
  go_enter Tryd.func60, Tryd.ntmps60
  go_wp2_with fail
  go_loopw [3] (fun i wr => Box (∃ k : Nat, k ≤ s.size ∧ i = .int .i64 k ∧ Hid (∀ q (hq : q < s.size), q < k → nameB s[q].toNat = true) ∧ wr = w))
    (fun i _ => s.size - (intOf i).toNat)
  case atStart => exact ⟨⟨0, by omega, rfl, fun q _ hq => absurd hq (Nat.not_lt_zero _), rfl⟩⟩
  case round =>
    obtain ⟨k, hk, rfl, HN, hwr⟩ := hrel.out
    clear hrel
    rw [hwr]
    clear hwr
    by_cases hlt : k < s.size
    · obtain ⟨b, hb⟩ : ∃ b, s[k] = b := ⟨_, rfl⟩
      have HB : Hid (s[k] = b) := hb
      have hbl : b.toNat < 256 := b.toNat_lt
      clear cI
      rcases (show (b.toNat < 97 ∧ ¬ b.toNat = 45) ∨ 122 < b.toNat ∨ (97 ≤ b.toNat ∧ b.toNat ≤ 122) ∨ b.toNat = 45 by omega) with ⟨g1, g3⟩ | g1 | ⟨g1, g2⟩ | g1
      · have HP : Hid (R = false) := by show _ = _; rw [← HR.out, allB_no hlt (by rw [hb]; unfold nameB; simp; omega)]; rfl
        have hne : ((b.toNat : Int) != 45) = true := by simp; omega
        have hne' : ¬ ((b.toNat : Int) = 45) := by omega
        go_wp2
        go_ret
        exact ⟨by rw [HP.out]; rfl, rfl⟩
      · have HP : Hid (R = false) := by show _ = _; rw [← HR.out, allB_no hlt (by rw [hb]; unfold nameB; simp; omega)]; rfl
        have hne : ((b.toNat : Int) != 45) = true := by simp; omega
        have hne' : ¬ ((b.toNat : Int) = 45) := by omega
        go_wp2
        go_ret
        exact ⟨by rw [HP.out]; rfl, rfl⟩
      · have HP : Hid (nameB b.toNat = true) := by show _ = _; unfold nameB; simp; omega
        go_wp2
        go_roundw
        case rel =>
          try ((repeat apply Exists.intro); refine ⟨?_, rfl⟩)
          refine ⟨⟨k + 1, by omega, by go_num, fun q hq hqk => ?_, by first | rfl | trivial⟩⟩
          by_cases e : q = k
          · subst e; rw [HB.out]; exact HP.out
          · exact HN.out q hq (by omega)
        case measure => simp [intOf]; omega
      · have HP : Hid (nameB b.toNat = true) := by show _ = _; unfold nameB; simp; omega
        have hne : ((b.toNat : Int) != 45) = false := by simp; omega
        have hlt97 : (b.toNat : Int) < 97 := by omega
        clear g1
        go_wp2
        go_roundw
        case rel =>
          try ((repeat apply Exists.intro); refine ⟨?_, rfl⟩)
          refine ⟨⟨k + 1, by omega, by go_num, fun q hq hqk => ?_, by first | rfl | trivial⟩⟩
          by_cases e : q = k
          · subst e; rw [HB.out]; exact HP.out
          · exact HN.out q hq (by omega)
        case measure => simp [intOf]; omega
    · have HP : Hid (R = inN (s.size : Int) 1 20) := by
        show _ = _
        rw [← HR.out, allB_go fun q hq => HN.out q hq (by omega)]
        by_cases h : 1 ≤ s.size ∧ s.size ≤ 20
        · rw [decide_eq_true h, show inN (s.size : Int) 1 20 = true from decide_eq_true (by omega)]; rfl
        · rw [decide_eq_false h, show inN (s.size : Int) 1 20 = false from decide_eq_false (by omega)]; rfl
      have hi : ¬ (k : Int) < (s.size : Int) := by omega
      go_wp2_with fail
      refine cI.mono ?_
      rintro e w' ⟨rfl, hw'⟩
      rw [hw']
      go_wp2_with fail
      go_ret
      exact ⟨by rw [HP.out]; rfl, rfl⟩
end Go.Proofs.YtnnaphfeeobeladDoor
