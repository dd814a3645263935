/- The program's names, values and fields. -/
import Derived.Test.YtnnaphfeeobelarDoorHeadPlainJ
import Derived.Test.YtnnaphfeeobelarDoorFieldSpec
import Derived.Test.YtnnaphfeeobelarDoorShelf
import Derived.Lib.QuietBelow
import Derived.BigQuiet
namespace Go.Proofs.YtnnaphfeeobelarDoor
open Go.RowKit Go.Sort
set_option maxRecDepth 100000 in
set_option maxHeartbeats 2000000 in
theorem implPlain_any (s : ByteArray) (w : World) (hs : s.size ≤ 1048576) :
    Calls Tryd.prog 86 #[.string s] w fun e w' => e = .returned (.bool (allB plainB s)) ∧ w' = w := by
  obtain ⟨R, hR⟩ : ∃ R, allB plainB s = R := ⟨_, rfl⟩
  rw [hR]
  have HR : Hid (allB plainB s = R) := hR
  clear hR
  go_enter Tryd.func86, Tryd.ntmps86
  go_wp2
  go_loopw [3, 6] (fun _ i wr => Box (∃ k : Nat, k ≤ s.size ∧ i = .int .i64 k ∧ Hid (∀ q (hq : q < s.size), q < k → plainB s[q].toNat = true) ∧ wr = w))
    (fun _ i _ => s.size - (intOf i).toNat)
  case atStart => exact ⟨⟨0, by omega, rfl, fun q _ hq => absurd hq (Nat.not_lt_zero _), rfl⟩⟩
  case round =>
    obtain ⟨k, hk, rfl, HN, hwr⟩ := hrel.out
    clear hrel
    rw [hwr]
    clear hwr
    by_cases hlt : k < s.size
    · obtain ⟨b, hb⟩ : ∃ b, s[k] = b := ⟨_, rfl⟩
      have HB : Hid (s[k] = b) := hb
      have hbl : b.toNat < 256 := b.toNat_lt
      rcases (show b.toNat < 32 ∨ 126 < b.toNat ∨ (32 ≤ b.toNat ∧ b.toNat ≤ 126) by omega) with g1 | g1 | ⟨g1, g2⟩
      · have HP : Hid (R = false) := by show _ = _; rw [← HR.out, allB_no hlt (by rw [hb]; unfold plainB; exact decide_eq_false (by omega))]
        go_wp2
        go_ret
        exact ⟨by rw [HP.out]; rfl, rfl⟩
      · have HP : Hid (R = false) := by show _ = _; rw [← HR.out, allB_no hlt (by rw [hb]; unfold plainB; exact decide_eq_false (by omega))]
        go_wp2
        go_ret
        exact ⟨by rw [HP.out]; rfl, rfl⟩
      · have HP : Hid (plainB b.toNat = true) := by show _ = _; unfold plainB; exact decide_eq_true ⟨g1, g2⟩
        go_wp2
        go_roundw
        case rel =>
          try ((repeat apply Exists.intro); refine ⟨?_, rfl⟩)
          refine ⟨⟨k + 1, by omega, by go_num, fun q hq hqk => ?_, by first | rfl | trivial⟩⟩
          by_cases e : q = k
          · subst e; rw [HB.out]; exact HP.out
          · exact HN.out q hq (by omega)
        case measure => simp [intOf]; omega
    · have HP : Hid (R = true) := by show _ = _; rw [← HR.out, allB_go fun q hq => HN.out q hq (by omega)]
      go_wp2
      go_ret
      exact ⟨by rw [HP.out]; rfl, rfl⟩
theorem implBlanks_any (s : ByteArray) (w : World) (hs : s.size ≤ 1048576) :
    Calls Tryd.prog 109 #[.string s] w fun e w' => e = .returned (.string (trimT s)) ∧ Below w.heap.size w w' := by
  have c1 := Tryd.strings_Trim_one s 32 (by decide) w (by omega)
  go_enter Tryd.func109, Tryd.ntmps109
  go_wp2_with fail
  refine c1.mono ?_
  rintro e w1 ⟨rfl, h1⟩
  have hb : Below w.heap.size w w1 := by
    rcases h1 with rfl | rfl
    · exact Below.refl _ _
    · exact ⟨rfl, rfl, rfl, Nat.le_refl _, fun _ _ => rfl⟩
  clear h1 c1
  go_wp2_with fail
  go_ret
  exact ⟨rfl, hb⟩
end Go.Proofs.YtnnaphfeeobelarDoor
