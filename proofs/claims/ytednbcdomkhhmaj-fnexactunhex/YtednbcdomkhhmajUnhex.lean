/- The walk over figures that are read again: the other text. -/
import Derived.Test.YtednbcdomkhhmajUnhexImpl
namespace Go.Proofs.Ytednbcdomkhhmaj
open Go.RowKit

theorem l01Value_any (b : UInt8) (w : World) :
    Calls Try.prog 19 #[.int .u8 (b.toNat : Int)] w fun e w' => e = .returned (.int .i64 (uv b)) ∧ w = w' := by
  have hl : b.toNat < 256 := b.toNat_lt
  rcases (show b.toNat < 48 ∨ (48 ≤ b.toNat ∧ b.toNat ≤ 57) ∨ (57 < b.toNat ∧ b.toNat < 97) ∨ (97 ≤ b.toNat ∧ b.toNat ≤ 102) ∨ 102 < b.toNat by omega) with h | ⟨h, h'⟩ | ⟨h, h'⟩ | ⟨h, h'⟩ | h
  · rw [show uv b = -1 by unfold uv; rw [if_neg (by omega), if_neg (by omega)]]
    have d1 : decide ((48 : Int) ≤ (b.toNat : Int)) = false := by simp; omega
    have d2 : decide ((97 : Int) ≤ (b.toNat : Int)) = false := by simp; omega
    go_enter Try.func19, Try.ntmps19
    go_wp2
    go_ret
    exact ⟨rfl, rfl⟩
  · rw [show uv b = b.toNat - 48 by unfold uv; rw [if_pos (by omega)]]
    go_enter Try.func19, Try.ntmps19
    go_wp2
    go_ret
    exact ⟨rfl, rfl⟩
  · rw [show uv b = -1 by unfold uv; rw [if_neg (by omega), if_neg (by omega)]]
    have d1 : decide ((b.toNat : Int) ≤ 57) = false := by simp; omega
    have d2 : decide ((97 : Int) ≤ (b.toNat : Int)) = false := by simp; omega
    go_enter Try.func19, Try.ntmps19
    go_wp2
    go_ret
    exact ⟨rfl, rfl⟩
  · rw [show uv b = b.toNat - 97 + 10 by unfold uv; rw [if_neg (by omega), if_pos (by omega)]; omega]
    have d1 : decide ((b.toNat : Int) ≤ 57) = false := by simp; omega
    go_enter Try.func19, Try.ntmps19
    go_wp2
    go_ret
    exact ⟨rfl, rfl⟩
  · rw [show uv b = -1 by unfold uv; rw [if_neg (by omega), if_neg (by omega)]]
    have d1 : decide ((b.toNat : Int) ≤ 57) = false := by simp; omega
    have d2 : decide ((b.toNat : Int) ≤ 102) = false := by simp; omega
    go_enter Try.func19, Try.ntmps19
    go_wp2
    go_ret
    exact ⟨rfl, rfl⟩

set_option maxHeartbeats 1000000 in
set_option maxRecDepth 100000 in
theorem specUnhex_in (s : ByteArray) (w : World) (hs : s.size ≤ 40000) (he : s.size % 2 = 0) :
    Calls Try.prog 11 #[.string s] w fun e w' => e = .returned (.tuple #[.string ⟨((unF s.data.toList).getD []).toArray⟩, .bool (unF s.data.toList).isSome]) ∧ Below w.heap.size w w' := by
  have he2 : ((s.size : Int) % 2 != 0) = false := by simp; omega
  go_enter Try.func11, Try.ntmps11
  go_wp2
  go_loopw [4, 5] (fun v i wr => Box (∃ (j : Nat) (l : List UInt8), 2 * j ≤ s.size ∧ i = .int .i64 ((2 * j : Nat) : Int) ∧ v ≠ .slice none 0 0 ∧ l.length = j ∧ Hid (unAt s.data.toList (2 * j) l) ∧ OwnB wr w.heap.size 5 v l ∧ Below w.heap.size w wr))
    (fun _ i _ => s.size - (intOf i).toNat)
  case atStart => exact ⟨⟨0, [], by omega, rfl, by simp, rfl, unAt_start _, World.ownsRow_made w #[] 0 (Nat.le_refl _) (by simp [maxLen]) (by simp), (Below.refl _ _).alloc (Nat.le_refl _) _⟩⟩
  case round =>
    obtain ⟨j, l, hj, rfl, hne, hlj, hat, hown, hbel⟩ := hrel.out
    have hsz := hbel.size
    by_cases hlt : 2 * j < s.size
    · have hlt2 : 2 * j + 1 < s.size := by omega
      obtain ⟨b, hb⟩ : ∃ b, s[2 * j] = b := ⟨_, rfl⟩
      obtain ⟨c, hc⟩ : ∃ c, s[2 * j + 1] = c := ⟨_, rfl⟩
      obtain ⟨x, hx⟩ : ∃ x, uv b = x := ⟨_, rfl⟩
      obtain ⟨y, hy⟩ : ∃ y, uv c = y := ⟨_, rfl⟩
      have bx := uv_bd b
      have by' := uv_bd c
      have c1 := l01Value_any b
      have c2 := l01Value_any c
      rw [hx] at c1 bx
      rw [hy] at c2 by'
      have HX : Hid (uv (s.data.toList[2 * j]'(by simpa using hlt)) = x) := by show _ = _; rw [byte_list hlt hb, hx]
      have HY : Hid (uv (s.data.toList[2 * j + 1]'(by simpa using hlt2)) = y) := by show _ = _; rw [byte_list hlt2 hc, hy]
      clear hx hy
      rcases (show x < 0 ∨ (0 ≤ x ∧ y < 0) ∨ (0 ≤ x ∧ 0 ≤ y) by omega) with g | ⟨g, g'⟩ | ⟨g, g'⟩
      · go_wp2_with (first | (go_at_call_of 19 (b.toNat : Int); refine (c1 _).mono ?_; rintro e w' ⟨rfl, rfl⟩) | (go_at_call_of 19 (c.toNat : Int); refine (c2 _).mono ?_; rintro e w' ⟨rfl, rfl⟩))
        go_ret2
        exact ⟨ret_uh_none (unAt_no hat.out (by simpa using hlt2) HX.out HY.out (.inl g)), hbel⟩
      · go_wp2_with (first | (go_at_call_of 19 (b.toNat : Int); refine (c1 _).mono ?_; rintro e w' ⟨rfl, rfl⟩) | (go_at_call_of 19 (c.toNat : Int); refine (c2 _).mono ?_; rintro e w' ⟨rfl, rfl⟩))
        go_ret2
        exact ⟨ret_uh_none (unAt_no hat.out (by simpa using hlt2) HX.out HY.out (.inr g')), hbel⟩
      · go_wp2_with (first | (go_at_call_of 19 (b.toNat : Int); refine (c1 _).mono ?_; rintro e w' ⟨rfl, rfl⟩) | (go_at_call_of 19 (c.toNat : Int); refine (c2 _).mono ?_; rintro e w' ⟨rfl, rfl⟩) | (at_builtin; refine wpList_snoc rfl (.tmp 39) (.tmp 45) 33 rfl w.heap.size 5 Try.underlying33 Try.info5 _ l rfl hown _ (UInt8.ofNat (16 * x + y).toNat) rfl (by simp; omega) (by omega) (by omega) ?_; intro v' w1 hown' hne' hbel' hsz'))
        go_roundw
        case rel =>
          try ((repeat apply Exists.intro); refine ⟨?_, rfl⟩)
          exact ⟨⟨j + 1, l ++ [UInt8.ofNat (16 * x + y).toNat], by omega, by go_num, hne', by simp [hlj], unAt_on hat.out (by simpa using hlt2) HX.out HY.out g g', hown', hbel' _ hbel⟩⟩
        case measure => simp [intOf]; omega
    · have hcv := hown.text (P := Try.prog) 33 9 Try.underlying33 Try.underlying5 Try.underlying9 hne
      go_wp2
      go_ret2
      exact ⟨ret_uh_some (unAt_end hat.out (by simp; omega)), hbel⟩

set_option maxHeartbeats 1000000 in
theorem specUnhex_any (s : ByteArray) (w : World) (hs : s.size ≤ 1048576) :
    Calls Try.prog 11 #[.string s] w fun e w' => e = .returned (.tuple #[.string (uhText s), .bool (uhOk s)]) ∧ Below w.heap.size w w' := by
  unfold uhText uhOk
  by_cases h : s.size ≤ 40000 ∧ s.size % 2 = 0
  · rw [uhR_in h.1 h.2]
    exact specUnhex_in s w h.1 h.2
  · rw [uhR_out h]
    rcases (show 40000 < s.size ∨ (s.size ≤ 40000 ∧ s.size % 2 = 1) by omega) with g | ⟨g, g'⟩
    · go_enter Try.func11, Try.ntmps11
      go_wp2
      go_ret2
      exact ⟨rfl, Below.refl _ _⟩
    · have he2 : ((s.size : Int) % 2 != 0) = true := by simp; omega
      clear h g'
      go_enter Try.func11, Try.ntmps11
      go_wp2
      go_ret2
      exact ⟨rfl, Below.refl _ _⟩
end Go.Proofs.Ytednbcdomkhhmaj
