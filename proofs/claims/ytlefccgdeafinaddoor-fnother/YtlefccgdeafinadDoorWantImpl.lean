/- A reader of heads panics with a code of its own. -/
import Derived.Test.YtlefccgdeafinadDoorBase
import Derived.Test.YtlefccgdeafinadDoorHeadPlain
import Derived.Defers
import Derived.Recover
namespace Go.Proofs.YtlefccgdeafinadDoor
open Go.RowKit
/-- The panic with a code. -/
def pan (c : Int) : List PanicEntry := [{ v := .iface 78 (.int .i64 c), recovered := false }]
theorem want_yes (w : World) : Calls Tryd.prog 59 #[.bool true] w fun e w' => e = .returned (.tuple #[]) ∧ w' = w := by
  go_enter Tryd.func59, Tryd.ntmps59
  go_wp2
  exact bodyPost_end (results_none rfl _ _ _) rfl ⟨rfl, rfl⟩
theorem want_no (w : World) : Calls Tryd.prog 59 #[.bool false] w fun e w' => e = .panicked (pan 2) ∧ w' = w := by
  go_enter Tryd.func59, Tryd.ntmps59
  go_wp2
  exact ⟨rfl, rfl, rfl⟩
def blankB (b : Nat) : Bool := decide (32 ≤ b)
set_option maxRecDepth 100000 in
set_option maxHeartbeats 2000000 in
theorem noneBelow_any (s : ByteArray) (w : World) (hs : s.size ≤ 1048576) :
    Calls Tryd.prog 80 #[.string s] w fun e w' => e = .returned (.bool (allB blankB s)) ∧ w' = w := by
  obtain ⟨R, hR⟩ : ∃ R, allB blankB s = R := ⟨_, rfl⟩
  rw [hR]
  have HR : Hid (allB blankB s = R) := hR
  clear hR
  go_enter Tryd.func80, Tryd.ntmps80
  go_wp2
  go_loopw [3, 6] (fun _ i wr => Box (∃ k : Nat, k ≤ s.size ∧ i = .int .i64 k ∧ Hid (∀ q (hq : q < s.size), q < k → blankB s[q].toNat = true) ∧ wr = w))
    (fun _ i _ => s.size - (intOf i).toNat)
  case atStart => exact ⟨⟨0, by omega, rfl, fun q _ hq => absurd hq (Nat.not_lt_zero _), rfl⟩⟩
  case round =>
    obtain ⟨k, hk, rfl, HN, hwr⟩ := hrel.out
    clear hrel
    rw [hwr]
    clear hwr
    by_cases hlt : k < s.size
    · obtain ⟨b, hb⟩ : ∃ b, s[k] = b := ⟨_, rfl⟩
      have HB : Hid (s[k] = b) := hb
      have hbl : b.toNat < 256 := b.toNat_lt
      by_cases g1 : b.toNat < 32
      · have HP : Hid (R = false) := by show _ = _; rw [← HR.out, allB_no hlt (by rw [hb]; unfold blankB; exact decide_eq_false (by omega))]
        go_wp2
        go_ret
        exact ⟨by rw [HP.out]; rfl, rfl⟩
      · have HP : Hid (blankB b.toNat = true) := by show _ = _; unfold blankB; exact decide_eq_true (by omega)
        go_wp2
        go_roundw
        case rel =>
          try ((repeat apply Exists.intro); refine ⟨?_, rfl⟩)
          refine ⟨⟨k + 1, by omega, by go_num, fun q hq hqk => ?_, by first | rfl | trivial⟩⟩
          by_cases e : q = k
          · subst e; rw [HB.out]; exact HP.out
          · exact HN.out q hq (by omega)
        case measure => simp [intOf]; omega
    · have HP : Hid (R = true) := by show _ = _; rw [← HR.out, allB_go fun q hq => HN.out q hq (by omega)]
      go_wp2
      go_ret
      exact ⟨by rw [HP.out]; rfl, rfl⟩
end Go.Proofs.YtlefccgdeafinadDoor
