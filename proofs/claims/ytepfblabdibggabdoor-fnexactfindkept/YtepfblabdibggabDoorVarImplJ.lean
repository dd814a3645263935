/- Texts that stand in one: VarImpl, ShortImpl. -/
import Derived.Test.YtepfblabdibggabDoorBaseJ
import Derived.Test.YtepfblabdibggabDoorSumTabJ
namespace Go.Proofs.YtepfblabdibggabDoor
open Go.RowKit

set_option maxHeartbeats 400000 in
theorem implVarText_in (m : Nat) (w : World) (hm : m ≤ 1000000000) :
    Calls Tryd.prog 76 #[.int .i64 m] w fun e w' => e = .returned (.tuple #[.string ⟨(varF 8 m).toArray⟩, .bool true]) ∧ Below w.heap.size w w' := by
  go_enter Tryd.func76, Tryd.ntmps76
  go_wp2
  go_loopw [0, 4] (fun n v wr => ∃ (f k : Nat) (l : List UInt8), n = .int .i64 k ∧ k ≤ 1000000000 ∧ k < 128 * 128 ^ f ∧ l.length + f ≤ 8 ∧ Hid (l ++ varF f k = varF 8 m) ∧ OwnB wr w.heap.size 5 v l ∧ Below w.heap.size w wr)
    (fun n _ _ => (intOf n).toNat)
  case atStart => exact ⟨8, m, [], rfl, hm, by omega, by simp, rfl, World.ownsRow_nil _ _ _ _, Below.refl _ _⟩
  case round =>
    obtain ⟨f, k, l, rfl, hk, hkf, hlf, hl, hown, hbel⟩ := hrel
    have hsz := hbel.size
    by_cases hlt : 127 < k
    · go_wp2_with (at_builtin; refine wpList_snoc rfl (.tmp 13) (.tmp 18) 86 rfl w.heap.size 5 Tryd.underlying86 Tryd.info5 _ l rfl hown _ (UInt8.ofNat (k % 128 + 128)) rfl (by simp; omega) (by omega) (by omega) ?_; intro v' w1 hown' hne hbel' hsz')
      go_roundw
      case rel =>
        match f, hkf, hlf, hl with
        | 0, hkf, _, _ => simp at hkf; omega
        | f + 1, hkf, hlf, hl =>
          exact ⟨f, k / 128, l ++ [UInt8.ofNat (k % 128 + 128)], by go_num, by omega, pow_down hkf, by simp; omega, by have := hl.out; rw [varF_step hlt] at this; simpa [Hid] using this, hown', hbel' _ hbel⟩
      case measure => simp [intOf]; omega
    · go_wp2_with (at_builtin; refine wpList_snoc rfl (.tmp 22) (.tmp 25) 86 rfl w.heap.size 5 Tryd.underlying86 Tryd.info5 _ l rfl hown _ (UInt8.ofNat k) rfl (by simp; omega) (by omega) (by omega) ?_; intro v' w1 hown' hne hbel' hsz'; have hcv := hown'.text (P := Tryd.prog) 86 9 Tryd.underlying86 Tryd.underlying5 Tryd.underlying9 hne)
      go_ret2
      exact ⟨ret_str_bool (by have := hl.out; rw [varF_end hlt] at this; exact this), hbel' _ hbel⟩

set_option maxHeartbeats 400000 in
theorem implVarText_any (n : Int) (w : World) (wn : (Lit.int .i64 n).wf = true) :
    Calls Tryd.prog 76 #[.int .i64 n] w fun e w' => e = .returned (.tuple #[.string ⟨(vText n).toArray⟩, .bool (vOk n)]) ∧ Below w.heap.size w w' := by
  by_cases h : 0 ≤ n ∧ n ≤ 1000000000
  · obtain ⟨m, rfl⟩ : ∃ m : Nat, n = m := ⟨n.toNat, by omega⟩
    rw [vOk_in (by omega), vText_in (by omega)]
    exact implVarText_in m w (by omega)
  · rw [vOk_out h, vText_out h]
    rcases (show n < 0 ∨ (0 ≤ n ∧ 1000000000 < n) by omega) with h0 | ⟨h0, h1⟩
    all_goals
      clear h
      go_enter Tryd.func76, Tryd.ntmps76
      go_wp2
      go_ret2
      exact ⟨rfl, Below.refl _ _⟩
end Go.Proofs.YtepfblabdibggabDoor

namespace Go.Proofs.YtepfblabdibggabDoor
open Go.RowKit

set_option maxHeartbeats 400000 in
theorem implShort_any (s : ByteArray) (w : World) (hs : s.size ≤ 1048576) :
    Calls Tryd.prog 79 #[.string s] w fun e w' => e = .returned (.tuple #[.string (shText s), .bool (shOk s)]) ∧ Below w.heap.size w w' := by
  by_cases h : s.size ≤ 20000
  · rw [show shOk s = true by simp [shOk, h], show shText s = ⟨(varF 8 s.size).toArray⟩ ++ s by simp [shText, h]]
    have hv := varF_length 8 s.size
    have hm : s.size ≤ 1000000000 := by omega
    go_enter Tryd.func79, Tryd.ntmps79
    go_wp2_with (go_at_call 76; refine (implVarText_in s.size _ hm).mono ?_; rintro e w' ⟨rfl, hb⟩)
    go_ret2
    exact ⟨rfl, hb⟩
  · rw [show shOk s = false by simp [shOk]; omega, show shText s = ⟨#[]⟩ by simp [shText, h]]
    go_enter Tryd.func79, Tryd.ntmps79
    go_wp2
    go_ret2
    exact ⟨rfl, Below.refl _ _⟩
end Go.Proofs.YtepfblabdibggabDoor
