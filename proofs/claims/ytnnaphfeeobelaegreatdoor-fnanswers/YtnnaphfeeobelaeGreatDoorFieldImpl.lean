/- The program's names, values and fields. -/
import Derived.Test.YtnnaphfeeobelaeGreatDoorHeadPlainJ
import Derived.Test.YtnnaphfeeobelaeGreatDoorHeadSpecJ
import Derived.Test.YtnnaphfeeobelaeGreatDoorShelf
import Derived.Lib.QuietBelow
import Derived.BigQuiet
namespace Go.Proofs.YtnnaphfeeobelaeGreatDoor
open Go.RowKit Go.Sort
set_option maxRecDepth 100000 in
set_option maxHeartbeats 2000000 in
theorem implPlain_any (s : ByteArray) (w : World) (hs : s.size ≤ 1048576) :
    Calls Tryz.prog 67 #[.string s] w fun e w' => e = .returned (.bool (allB plainB s)) ∧ w' = w := by
  obtain ⟨R, hR⟩ : ∃ R, allB plainB s = R := ⟨_, rfl⟩
  rw [hR]
  have HR : Hid (allB plainB s = R) := hR
  clear hR
  go_enter Tryz.func67, Tryz.ntmps67
  go_wp2
  go_loopw [3, 6] (fun _ i wr => Box (∃ k : Nat, k ≤ s.size ∧ i = .int .i64 k ∧ Hid (∀ q (hq : q < s.size), q < k → plainB s[q].toNat = true) ∧ wr = w))
    (fun _ i _ => s.size - (intOf i).toNat)
  case atStart => exact ⟨⟨0, by omega, rfl, fun q _ hq => absurd hq (Nat.not_lt_zero _), rfl⟩⟩
  case round =>
    obtain ⟨k, hk, rfl, HN, hwr⟩ := hrel.out
    clear hrel
    rw [hwr]
    clear hwr
    by_cases hlt : k < s.size
    · obtain ⟨b, hb⟩ : ∃ b, s[k] = b := ⟨_, rfl⟩
      have HB : Hid (s[k] = b) := hb
      have hbl : b.toNat < 256 := b.toNat_lt
      rcases (show b.toNat < 32 ∨ 126 < b.toNat ∨ (32 ≤ b.toNat ∧ b.toNat ≤ 126) by omega) with g1 | g1 | ⟨g1, g2⟩
      · have HP : Hid (R = false) := by show _ = _; rw [← HR.out, allB_no hlt (by rw [hb]; unfold plainB; exact decide_eq_false (by omega))]
        go_wp2
        go_ret
        exact ⟨by rw [HP.out]; rfl, rfl⟩
      · have HP : Hid (R = false) := by show _ = _; rw [← HR.out, allB_no hlt (by rw [hb]; unfold plainB; exact decide_eq_false (by omega))]
        go_wp2
        go_ret
        exact ⟨by rw [HP.out]; rfl, rfl⟩
      · have HP : Hid (plainB b.toNat = true) := by show _ = _; unfold plainB; exact decide_eq_true ⟨g1, g2⟩
        go_wp2
        go_roundw
        case rel =>
          try ((repeat apply Exists.intro); refine ⟨?_, rfl⟩)
          refine ⟨⟨k + 1, by omega, by go_num, fun q hq hqk => ?_, by first | rfl | trivial⟩⟩
          by_cases e : q = k
          · subst e; rw [HB.out]; exact HP.out
          · exact HN.out q hq (by omega)
        case measure => simp [intOf]; omega
    · have HP : Hid (R = true) := by show _ = _; rw [← HR.out, allB_go fun q hq => HN.out q hq (by omega)]
      go_wp2
      go_ret
      exact ⟨by rw [HP.out]; rfl, rfl⟩
theorem name_empty {s : ByteArray} (h : s.size = 0) : s = ⟨#[]⟩ := by
  obtain ⟨⟨l⟩⟩ := s
  have : l = [] := List.length_eq_zero_iff.1 h
  rw [this]
theorem text_some {s : ByteArray} (h : ¬ s.size = 0) : s.toList.isEmpty = false := by
  rw [ByteArray.toList_eq, List.isEmpty_eq_false_iff]
  intro e
  exact h (by have := congrArg List.length e; simpa using this)
set_option maxRecDepth 100000 in
set_option maxHeartbeats 2000000 in
theorem implName_any (s : ByteArray) (w : World) (hs : s.size ≤ 1048576) :
    Calls Tryz.prog 85 #[.string s] w fun e w' => e = .returned (.bool (nameOkS s)) ∧ w' = w := by
  obtain ⟨R, hR⟩ : ∃ R, nameOkS s = R := ⟨_, rfl⟩
  rw [hR]
  have HR : Hid ((allB nameB s && decide (1 ≤ s.size ∧ s.size ≤ 20)) = R) := hR
  clear hR
  by_cases h0 : s.size = 0
  · have HP : Hid (R = false) := by show _ = _; rw [← HR.out, decide_eq_false (by omega)]; simp
    have he := name_empty h0
    subst he
    clear h0 HR
    go_enter Tryz.func85, Tryz.ntmps85
    go_wp2
    go_ret
    exact ⟨by rw [HP.out]; rfl, rfl⟩
  have hne : s.toList.isEmpty = false := text_some h0
  by_cases h20 : 20 < s.size
  · have HP : Hid (R = false) := by show _ = _; rw [← HR.out, decide_eq_false (by omega)]; simp
    have hg : (20 : Int) < (s.size : Int) := by omega
    clear HR
    go_enter Tryz.func85, Tryz.ntmps85
    go_wp2
    go_ret
    exact ⟨by rw [HP.out]; rfl, rfl⟩
  have hng : ¬ (20 : Int) < (s.size : Int) := by omega
  go_enter Tryz.func85, Tryz.ntmps85
  go_wp2
  go_loopw [3, 4, 14] (fun _ _ i wr => Box (∃ k : Nat, k ≤ s.size ∧ i = .int .i64 k ∧ Hid (∀ q (hq : q < s.size), q < k → nameB s[q].toNat = true) ∧ wr = w))
    (fun _ _ i _ => s.size - (intOf i).toNat)
  case atStart => exact ⟨⟨0, by omega, rfl, fun q _ hq => absurd hq (Nat.not_lt_zero _), rfl⟩⟩
  case round =>
    obtain ⟨k, hk, rfl, HN, hwr⟩ := hrel.out
    clear hrel hne
    rw [hwr]
    clear hwr
    by_cases hlt : k < s.size
    · obtain ⟨b, hb⟩ : ∃ b, s[k] = b := ⟨_, rfl⟩
      have HB : Hid (s[k] = b) := hb
      have hbl : b.toNat < 256 := b.toNat_lt
      rcases (show (b.toNat < 97 ∧ ¬ b.toNat = 45) ∨ 122 < b.toNat ∨ (97 ≤ b.toNat ∧ b.toNat ≤ 122) ∨ b.toNat = 45 by omega) with ⟨g1, g3⟩ | g1 | ⟨g1, g2⟩ | g1
      · have HP : Hid (R = false) := by show _ = _; rw [← HR.out, allB_no hlt (by rw [hb]; unfold nameB; simp; omega)]; rfl
        have hne : ((b.toNat : Int) != 45) = true := by simp; omega
        have hne' : ¬ ((b.toNat : Int) = 45) := by omega
        go_wp2
        go_ret
        exact ⟨by rw [HP.out]; rfl, rfl⟩
      · have HP : Hid (R = false) := by show _ = _; rw [← HR.out, allB_no hlt (by rw [hb]; unfold nameB; simp; omega)]; rfl
        have hne : ((b.toNat : Int) != 45) = true := by simp; omega
        have hne' : ¬ ((b.toNat : Int) = 45) := by omega
        go_wp2
        go_ret
        exact ⟨by rw [HP.out]; rfl, rfl⟩
      · have HP : Hid (nameB b.toNat = true) := by show _ = _; unfold nameB; simp; omega
        have hne : ((b.toNat : Int) != 45) = true := by simp; omega
        have hne' : ¬ ((b.toNat : Int) = 45) := by omega
        go_wp2
        go_roundw
        case rel =>
          try ((repeat apply Exists.intro); refine ⟨?_, rfl⟩)
          refine ⟨⟨k + 1, by omega, by go_num, fun q hq hqk => ?_, by first | rfl | trivial⟩⟩
          by_cases e : q = k
          · subst e; rw [HB.out]; exact HP.out
          · exact HN.out q hq (by omega)
        case measure => simp [intOf]; omega
      · have HP : Hid (nameB b.toNat = true) := by show _ = _; unfold nameB; simp; omega
        have hne : ((b.toNat : Int) != 45) = false := by simp; omega
        clear g1
        go_wp2
        go_roundw
        case rel =>
          try ((repeat apply Exists.intro); refine ⟨?_, rfl⟩)
          refine ⟨⟨k + 1, by omega, by go_num, fun q hq hqk => ?_, by first | rfl | trivial⟩⟩
          by_cases e : q = k
          · subst e; rw [HB.out]; exact HP.out
          · exact HN.out q hq (by omega)
        case measure => simp [intOf]; omega
    · have HP : Hid (R = true) := by show _ = _; rw [← HR.out, allB_go fun q hq => HN.out q hq (by omega), decide_eq_true (by omega)]; rfl
      go_wp2
      go_ret
      exact ⟨by rw [HP.out]; rfl, rfl⟩
theorem implBlanks_any (s : ByteArray) (w : World) (hs : s.size ≤ 1048576) :
    Calls Tryz.prog 74 #[.string s] w fun e w' => e = .returned (.string (trimT s)) ∧ Below w.heap.size w w' := by
  have c1 := Tryz.strings_Trim_one s 32 (by decide) w (by omega)
  go_enter Tryz.func74, Tryz.ntmps74
  go_wp2_with fail
  refine c1.mono ?_
  rintro e w1 ⟨rfl, h1⟩
  have hb : Below w.heap.size w w1 := by
    rcases h1 with rfl | rfl
    · exact Below.refl _ _
    · exact ⟨rfl, rfl, rfl, Nat.le_refl _, fun _ _ => rfl⟩
  clear h1 c1
  go_wp2_with fail
  go_ret
  exact ⟨rfl, hb⟩
end Go.Proofs.YtnnaphfeeobelaeGreatDoor
