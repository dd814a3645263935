/- The walk over VarText: the program's own text. -/
import Derived.Test.YtepfblabdibggaaBase
import Derived.Test.YtepfblabdibggaaVarPlain
namespace Go.Proofs.Ytepfblabdibggaa
open Go.RowKit

set_option maxHeartbeats 400000 in
theorem implVarText_in (m : Nat) (w : World) (hm : m ≤ 1000000000) :
    Calls Try.prog 46 #[.int .i64 m] w fun e w' => e = .returned (.tuple #[.string ⟨(varF 8 m).toArray⟩, .bool true]) ∧ Below w.heap.size w w' := by
  go_enter Try.func46, Try.ntmps46
  go_wp2
  go_loopw [0, 4] (fun n v wr => ∃ (f k : Nat) (l : List UInt8), n = .int .i64 k ∧ k ≤ 1000000000 ∧ k < 128 * 128 ^ f ∧ l.length + f ≤ 8 ∧ Hid (l ++ varF f k = varF 8 m) ∧ OwnB wr w.heap.size 5 v l ∧ Below w.heap.size w wr)
    (fun n _ _ => (intOf n).toNat)
  case atStart => exact ⟨8, m, [], rfl, hm, by omega, by simp, rfl, World.ownsRow_nil _ _ _ _, Below.refl _ _⟩
  case round =>
    obtain ⟨f, k, l, rfl, hk, hkf, hlf, hl, hown, hbel⟩ := hrel
    have hsz := hbel.size
    by_cases hlt : 127 < k
    · go_wp2_with (at_builtin; refine wpList_snoc rfl (.tmp 13) (.tmp 18) 22 rfl w.heap.size 5 Try.underlying22 Try.info5 _ l rfl hown _ (UInt8.ofNat (k % 128 + 128)) rfl (by simp; omega) (by omega) (by omega) ?_; intro v' w1 hown' hne hbel' hsz')
      go_roundw
      case rel =>
        match f, hkf, hlf, hl with
        | 0, hkf, _, _ => simp at hkf; omega
        | f + 1, hkf, hlf, hl =>
          exact ⟨f, k / 128, l ++ [UInt8.ofNat (k % 128 + 128)], by go_num, by omega, pow_down hkf, by simp; omega, by have := hl.out; rw [varF_step hlt] at this; simpa [Hid] using this, hown', hbel' _ hbel⟩
      case measure => simp [intOf]; omega
    · go_wp2_with (at_builtin; refine wpList_snoc rfl (.tmp 22) (.tmp 25) 22 rfl w.heap.size 5 Try.underlying22 Try.info5 _ l rfl hown _ (UInt8.ofNat k) rfl (by simp; omega) (by omega) (by omega) ?_; intro v' w1 hown' hne hbel' hsz'; have hcv := hown'.text (P := Try.prog) 22 9 Try.underlying22 Try.underlying5 Try.underlying9 hne)
      go_ret2
      exact ⟨ret_str_bool (by have := hl.out; rw [varF_end hlt] at this; exact this), hbel' _ hbel⟩

set_option maxHeartbeats 400000 in
theorem implVarText_any (n : Int) (w : World) (wn : (Lit.int .i64 n).wf = true) :
    Calls Try.prog 46 #[.int .i64 n] w fun e w' => e = .returned (.tuple #[.string ⟨(vText n).toArray⟩, .bool (vOk n)]) ∧ Below w.heap.size w w' := by
  by_cases h : 0 ≤ n ∧ n ≤ 1000000000
  · obtain ⟨m, rfl⟩ : ∃ m : Nat, n = m := ⟨n.toNat, by omega⟩
    rw [vOk_in (by omega), vText_in (by omega)]
    exact implVarText_in m w (by omega)
  · rw [vOk_out h, vText_out h]
    rcases (show n < 0 ∨ (0 ≤ n ∧ 1000000000 < n) by omega) with h0 | ⟨h0, h1⟩
    all_goals
      clear h
      go_enter Try.func46, Try.ntmps46
      go_wp2
      go_ret2
      exact ⟨rfl, Below.refl _ _⟩
end Go.Proofs.Ytepfblabdibggaa
