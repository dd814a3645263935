/- The walks over the bytes of a number: the other text. -/
import Derived.Test.YtepfblabdibggaaBase
import Derived.Test.YtepfblabdibggaaVarPlain
namespace Go.Proofs.Ytepfblabdibggaa
open Go.RowKit

set_option maxHeartbeats 400000 in
theorem l01Var_any (m : Nat) (w : World) (hm : m ≤ 9223372036854775807) :
    Calls Try.prog 42 #[.int .i64 m] w fun e w' => e = .returned (.string ⟨(varF 8 m).toArray⟩) ∧ Below w.heap.size w w' := by
  go_enter Try.func42, Try.ntmps42
  go_wp2
  go_loopw [0, 3] (fun n v wr => ∃ (f k : Nat) (l : List UInt8), n = .int .i64 k ∧ k ≤ 9223372036854775807 ∧ k < 128 * 128 ^ f ∧ l.length + f ≤ 8 ∧ Hid (l ++ varF f k = varF 8 m) ∧ OwnB wr w.heap.size 5 v l ∧ Below w.heap.size w wr)
    (fun n _ _ => (intOf n).toNat)
  case atStart => exact ⟨8, m, [], rfl, hm, by omega, by simp, rfl, World.ownsRow_made w #[] 0 (Nat.le_refl _) (by simp [maxLen]) (by simp), (Below.refl _ _).alloc (Nat.le_refl _) _⟩
  case round =>
    obtain ⟨f, k, l, rfl, hk, hkf, hlf, hl, hown, hbel⟩ := hrel
    have hsz := hbel.size
    by_cases hlt : 127 < k
    · go_wp2_with (at_builtin; refine wpList_snoc rfl (.tmp 7) (.tmp 12) 22 rfl w.heap.size 5 Try.underlying22 Try.info5 _ l rfl hown _ (UInt8.ofNat (k % 128 + 128)) rfl (by simp; omega) (by omega) (by omega) ?_; intro v' w1 hown' hne hbel' hsz')
      go_roundw
      case rel =>
        match f, hkf, hlf, hl with
        | 0, hkf, _, _ => simp at hkf; omega
        | f + 1, hkf, hlf, hl =>
          exact ⟨f, k / 128, l ++ [UInt8.ofNat (k % 128 + 128)], by go_num, by omega, pow_down hkf, by simp; omega, by have := hl.out; rw [varF_step hlt] at this; simpa [Hid] using this, hown', hbel' _ hbel⟩
      case measure => simp [intOf]; omega
    · go_wp2_with (at_builtin; refine wpList_snoc rfl (.tmp 16) (.tmp 19) 22 rfl w.heap.size 5 Try.underlying22 Try.info5 _ l rfl hown _ (UInt8.ofNat k) rfl (by simp; omega) (by omega) (by omega) ?_; intro v' w1 hown' hne hbel' hsz'; have hcv := hown'.text (P := Try.prog) 22 9 Try.underlying22 Try.underlying5 Try.underlying9 hne)
      go_ret
      exact ⟨ret_str (by have := hl.out; rw [varF_end hlt] at this; exact this), hbel' _ hbel⟩
theorem l01In_any (x a b : Int) (w : World) :
    Calls Try.prog 35 #[.int .i64 x, .int .i64 a, .int .i64 b] w fun e w' => e = .returned (.bool (inB x a b)) ∧ w = w' := by
  by_cases h1 : a ≤ x
  · by_cases h2 : x ≤ b
    · rw [inB_yes h1 h2]
      go_enter Try.func35, Try.ntmps35
      go_wp2
      go_ret
      exact ⟨rfl, rfl⟩
    · rw [inB_no (by omega)]
      have h3 : decide (x ≤ b) = false := by simpa using h2
      go_enter Try.func35, Try.ntmps35
      go_wp2
      go_ret
      exact ⟨rfl, rfl⟩
  · rw [inB_no (by omega)]
    have h3 : decide (a ≤ x) = false := by simpa using h1
    go_enter Try.func35, Try.ntmps35
    go_wp2
    go_ret
    exact ⟨rfl, rfl⟩
end Go.Proofs.Ytepfblabdibggaa
