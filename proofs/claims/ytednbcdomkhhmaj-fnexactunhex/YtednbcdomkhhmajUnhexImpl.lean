/- The walk over figures that are read again: the program's own text. -/
import Derived.Test.YtednbcdomkhhmajUnhexPlain
import Derived.Test.YtednbcdomkhhmajBase
import Derived.Test.YtednbcdomkhhmajShelf
import Derived.Deep.LoopGhost
import Derived.WalkMore
namespace Go.Proofs.Ytednbcdomkhhmaj
open Go.RowKit

theorem indexByte_any (b : UInt8) (w : World) :
    Calls Try.prog 20 #[.string ⟨#[48, 49, 50, 51, 52, 53, 54, 55, 56, 57, 97, 98, 99, 100, 101, 102]⟩, .int .u8 (b.toNat : Int)] w fun e w' => e = .returned (.int .i64 (uv b)) ∧ w = w' := by
  refine (Try.strings_IndexByte _ _ _).mono ?_
  rintro e w' ⟨rfl, rfl⟩
  refine ⟨?_, rfl⟩
  rw [← index_uv]
  simp

set_option maxHeartbeats 2000000 in
set_option maxRecDepth 100000 in
theorem implUnhex_in (s : ByteArray) (w : World) (hs : s.size ≤ 40000) (he : s.size % 2 = 0) :
    Calls Try.prog 12 #[.string s] w fun e w' => e = .returned (.tuple #[.string ⟨((unF s.data.toList).getD []).toArray⟩, .bool (unF s.data.toList).isSome]) ∧ Below w.heap.size w w' := by
  have he2 : ((s.size : Int) % 2 != 0) = false := by simp; omega
  go_enter Try.func12, Try.ntmps12
  go_wp2_with (at_make; refine wpList_make0 rfl _ _ 33 rfl w.heap.size 5 Try.underlying33 Try.info5 _ (s.size / 2) rfl rfl (by omega) (by omega) (Nat.le_refl _) ?_; intro w0 hown0 hbel0 hsz0)
  go_step3
  go_wp2_with (at_make; refine wpList_make0 rfl _ _ 33 rfl w.heap.size 5 Try.underlying33 Try.info5 _ (s.size / 2) rfl rfl (by omega) (by omega) (Nat.le_refl _) ?_; intro w0 hown0 hbel0 hsz0)
  go_step3
  go_wp2
  go_loopw [4, 5] (fun v i wr => Box (∃ (j : Nat) (l : List UInt8), 2 * j ≤ s.size ∧ i = .int .i64 ((2 * j : Nat) : Int) ∧ v ≠ .slice none 0 0 ∧ j ≤ l.length ∧ l.length ≤ j ∧ Hid (unAt s.data.toList (2 * j) l) ∧ OwnB wr w.heap.size 5 v l ∧ Below w.heap.size w wr))
    (fun _ i _ => s.size - (intOf i).toNat)
  case atStart => exact ⟨⟨0, [], by omega, rfl, by simp, by simp, by simp, unAt_start _, hown0, hbel0 _ (Below.refl _ _)⟩⟩
  case round =>
    obtain ⟨j, l, hj, rfl, hne, hlj, hlj', hat, hown, hbel⟩ := hrel.out
    have hsz := hbel.size
    by_cases hlt : 2 * j < s.size
    · have hlt2 : 2 * j + 1 < s.size := by omega
      obtain ⟨b, hb⟩ : ∃ b, s[2 * j] = b := ⟨_, rfl⟩
      obtain ⟨c, hc⟩ : ∃ c, s[2 * j + 1] = c := ⟨_, rfl⟩
      obtain ⟨x, hx⟩ : ∃ x, uv b = x := ⟨_, rfl⟩
      obtain ⟨y, hy⟩ : ∃ y, uv c = y := ⟨_, rfl⟩
      have bx := uv_bd b
      have by' := uv_bd c
      have c1 := indexByte_any b
      have c2 := indexByte_any c
      rw [hx] at c1 bx
      rw [hy] at c2 by'
      have HX : Hid (uv (s.data.toList[2 * j]'(by simpa using hlt)) = x) := by show _ = _; rw [byte_list hlt hb, hx]
      have HY : Hid (uv (s.data.toList[2 * j + 1]'(by simpa using hlt2)) = y) := by show _ = _; rw [byte_list hlt2 hc, hy]
      clear hx hy
      obtain ⟨ad, cap, hv⟩ := hown.form hne
      subst hv
      rcases (show x < 0 ∨ (0 ≤ x ∧ y < 0) ∨ (0 ≤ x ∧ 0 ≤ y) by omega) with g | ⟨g, g'⟩ | ⟨g, g'⟩
      · go_wp2
        refine wp_loop_rounds 1 ?_; rw [rounds_succ]
        go_wp2_with (first | (go_at_call_of 20 (b.toNat : Int); refine (c1 _).mono ?_; rintro e w' ⟨rfl, rfl⟩) | (go_at_call_of 20 (c.toNat : Int); refine (c2 _).mono ?_; rintro e w' ⟨rfl, rfl⟩) | (at_builtin; refine wpList_snoc rfl (.tmp 45) (.tmp 48) 33 rfl w.heap.size 5 Try.underlying33 Try.info5 _ l rfl hown _ (UInt8.ofNat (16 * x + y).toNat) rfl (by simp; omega) (by omega) (by omega) ?_; intro v' w1 hown' hne' hbel' hsz'))
        rw [Exit.noGoto_ret]
        go_ret2
        exact ⟨ret_uh_none (unAt_no hat.out (by simpa using hlt2) HX.out HY.out (.inl g)), hbel⟩
      · go_wp2
        refine wp_loop_rounds 2 ?_; rw [rounds_succ]
        go_wp2_with (first | (go_at_call_of 20 (b.toNat : Int); refine (c1 _).mono ?_; rintro e w' ⟨rfl, rfl⟩) | (go_at_call_of 20 (c.toNat : Int); refine (c2 _).mono ?_; rintro e w' ⟨rfl, rfl⟩) | (at_builtin; refine wpList_snoc rfl (.tmp 45) (.tmp 48) 33 rfl w.heap.size 5 Try.underlying33 Try.info5 _ l rfl hown _ (UInt8.ofNat (16 * x + y).toNat) rfl (by simp; omega) (by omega) (by omega) ?_; intro v' w1 hown' hne' hbel' hsz'))
        rw [rounds_succ]
        go_wp2_with (first | (go_at_call_of 20 (b.toNat : Int); refine (c1 _).mono ?_; rintro e w' ⟨rfl, rfl⟩) | (go_at_call_of 20 (c.toNat : Int); refine (c2 _).mono ?_; rintro e w' ⟨rfl, rfl⟩) | (at_builtin; refine wpList_snoc rfl (.tmp 45) (.tmp 48) 33 rfl w.heap.size 5 Try.underlying33 Try.info5 _ l rfl hown _ (UInt8.ofNat (16 * x + y).toNat) rfl (by simp; omega) (by omega) (by omega) ?_; intro v' w1 hown' hne' hbel' hsz'))
        rw [Exit.noGoto_ret]
        go_ret2
        exact ⟨ret_uh_none (unAt_no hat.out (by simpa using hlt2) HX.out HY.out (.inr g')), hbel⟩
      · go_wp2
        refine wp_loop_rounds 3 ?_; rw [rounds_succ]
        go_wp2_with (first | (go_at_call_of 20 (b.toNat : Int); refine (c1 _).mono ?_; rintro e w' ⟨rfl, rfl⟩) | (go_at_call_of 20 (c.toNat : Int); refine (c2 _).mono ?_; rintro e w' ⟨rfl, rfl⟩) | (at_builtin; refine wpList_snoc rfl (.tmp 45) (.tmp 48) 33 rfl w.heap.size 5 Try.underlying33 Try.info5 _ l rfl hown _ (UInt8.ofNat (16 * x + y).toNat) rfl (by simp; omega) (by omega) (by omega) ?_; intro v' w1 hown' hne' hbel' hsz'))
        rw [rounds_succ]
        go_wp2_with (first | (go_at_call_of 20 (b.toNat : Int); refine (c1 _).mono ?_; rintro e w' ⟨rfl, rfl⟩) | (go_at_call_of 20 (c.toNat : Int); refine (c2 _).mono ?_; rintro e w' ⟨rfl, rfl⟩) | (at_builtin; refine wpList_snoc rfl (.tmp 45) (.tmp 48) 33 rfl w.heap.size 5 Try.underlying33 Try.info5 _ l rfl hown _ (UInt8.ofNat (16 * x + y).toNat) rfl (by simp; omega) (by omega) (by omega) ?_; intro v' w1 hown' hne' hbel' hsz'))
        rw [rounds_succ]
        go_wp2_with (first | (go_at_call_of 20 (b.toNat : Int); refine (c1 _).mono ?_; rintro e w' ⟨rfl, rfl⟩) | (go_at_call_of 20 (c.toNat : Int); refine (c2 _).mono ?_; rintro e w' ⟨rfl, rfl⟩) | (at_builtin; refine wpList_snoc rfl (.tmp 45) (.tmp 48) 33 rfl w.heap.size 5 Try.underlying33 Try.info5 _ l rfl hown _ (UInt8.ofNat (16 * x + y).toNat) rfl (by simp; omega) (by omega) (by omega) ?_; intro v' w1 hown' hne' hbel' hsz'))
        go_roundw
        case rel =>
          try ((repeat apply Exists.intro); refine ⟨?_, rfl⟩)
          exact ⟨⟨j + 1, l ++ [UInt8.ofNat (16 * x + y).toNat], by omega, by go_num, hne', by simp; omega, by simp; omega, unAt_on hat.out (by simpa using hlt2) HX.out HY.out g g', hown', hbel' _ hbel⟩⟩
        case measure => simp [intOf]; omega
    · have hcv := hown.text (P := Try.prog) 33 9 Try.underlying33 Try.underlying5 Try.underlying9 hne
      obtain ⟨ad, cap, hv⟩ := hown.form hne
      subst hv
      go_wp2
      try rw [Exit.noGoto_ret]
      go_ret2
      exact ⟨ret_uh_some (unAt_end hat.out (by simp; omega)), hbel⟩

set_option maxHeartbeats 1000000 in
theorem implUnhex_any (s : ByteArray) (w : World) (hs : s.size ≤ 1048576) :
    Calls Try.prog 12 #[.string s] w fun e w' => e = .returned (.tuple #[.string (uhText s), .bool (uhOk s)]) ∧ Below w.heap.size w w' := by
  unfold uhText uhOk
  by_cases h : s.size ≤ 40000 ∧ s.size % 2 = 0
  · rw [uhR_in h.1 h.2]
    exact implUnhex_in s w h.1 h.2
  · rw [uhR_out h]
    by_cases g : s.size % 2 = 0
    · have g2 : 40000 < s.size := by omega
      have he2 : ((s.size : Int) % 2 != 0) = false := by simp; omega
      clear h g
      go_enter Try.func12, Try.ntmps12
      go_wp2
      go_step3
      go_wp2
      rw [Exit.noGoto_ret]
      go_ret2
      exact ⟨rfl, Below.refl _ _⟩
    · have he2 : ((s.size : Int) % 2 != 0) = true := by simp; omega
      clear h g
      go_enter Try.func12, Try.ntmps12
      go_wp2
      go_step3
      go_wp2
      rw [Exit.noGoto_ret]
      go_ret2
      exact ⟨rfl, Below.refl _ _⟩
end Go.Proofs.Ytednbcdomkhhmaj
