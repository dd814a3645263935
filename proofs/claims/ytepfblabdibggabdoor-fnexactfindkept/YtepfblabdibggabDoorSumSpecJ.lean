/- Texts that stand in one: SumSpec, FrameSpec. -/
import Derived.Test.YtepfblabdibggabDoorBaseJ
import Derived.Test.YtepfblabdibggabDoorSealPlainJ
import Derived.Test.YtepfblabdibggabDoorVarJ
namespace Go.Proofs.YtepfblabdibggabDoor
open Go.RowKit

theorem sumBit_odd {m : Nat} (h : m % 2 = 1) : m / 2 ^^^ 3558460437 = sumBit m := by simp [sumBit, h]
theorem sumBit_even {m : Nat} (h : ¬ m % 2 = 1) : m / 2 = sumBit m := by simp [sumBit, h]

set_option maxHeartbeats 2000000 in
theorem specSumMore_any (n : Nat) (s : ByteArray) (w : World) (hn : n < 4294967296) (hs : s.size ≤ 1048580) :
    Calls Tryd.prog 75 #[.int .u32 (n : Int), .string s] w fun e w' => e = .returned (.int .u32 (sumAll n s.data.toList : Nat)) ∧ w = w' := by
  go_enter Tryd.func75, Tryd.ntmps75
  go_wp2
  go_loopw [0, 5, 6, 7] (fun v i _ _ wr => Box (∃ (k m : Nat), k ≤ s.size ∧ i = .int .i64 k ∧ v = .int .u32 (m : Int) ∧ m < 4294967296 ∧ Hid (m = sumAll n (s.data.toList.take k)) ∧ w = wr))
    (fun _ i _ _ _ => s.size - (intOf i).toNat)
  case atStart => exact ⟨⟨0, n, Nat.zero_le _, rfl, rfl, hn, rfl, rfl⟩⟩
  case round =>
    obtain ⟨k, m, hk, rfl, rfl, hm, HM, rfl⟩ := hrel.out
    by_cases hlt : k < s.size
    · obtain ⟨b, hb⟩ : ∃ b, s[k] = b := ⟨_, rfl⟩
      have HB : Hid (s[k] = b) := hb
      have hbl : b.toNat < 256 := b.toNat_lt
      have hx := u32_xor_nat m b.toNat hm (by omega)
      have hxl : m ^^^ b.toNat < 4294967296 := xor_lt32 hm (by omega)
      have HS : Hid (sumBits 8 (m ^^^ b.toNat) = sumAll n (s.data.toList.take (k + 1))) := by
        show _ = _
        rw [takeSnoc s k hlt, HB.out, sumAll_snoc, ← HM.out, sumBits_eight]
        rfl
      generalize m ^^^ b.toNat = q at hx hxl HS
      go_wp2
      clear hrel
      go_loopw [0, 6, 7] (fun v j _ wr => Box (∃ (i r : Nat), i ≤ 8 ∧ j = .int .i64 i ∧ v = .int .u32 (r : Int) ∧ r < 4294967296 ∧ Hid (sumBits (8 - i) r = sumBits 8 q) ∧ w = wr))
        (fun _ j _ _ => 8 - (intOf j).toNat)
      case atStart => exact ⟨⟨0, q, by omega, rfl, rfl, hxl, rfl, rfl⟩⟩
      case round =>
        obtain ⟨i, r, hi, rfl, rfl, hr, HR, rfl⟩ := hrel.out
        by_cases hlt2 : i < 8
        · have hbl2 := sumBit_lt hr
          have HR2 : Hid (sumBits (8 - (i + 1)) (sumBit r) = sumBits 8 q) := by
            show _ = _
            rw [← HR.out, show 8 - i = (8 - (i + 1)) + 1 by omega]
            rfl
          by_cases hodd : r % 2 = 1
          · have hx2 : bits .xor .u32 ((r : Int) / 2) 3558460437 = (sumBit r : Nat) := by
              have := u32_xor_nat (r / 2) 3558460437 (by omega) (by omega)
              rw [sumBit_odd hodd] at this
              exact this
            generalize sumBit r = t at hx2 hbl2 HR2
            go_wp2
            go_roundw
            case rel =>
              try ((repeat apply Exists.intro); refine ⟨?_, rfl⟩)
              exact ⟨⟨i + 1, t, by omega, by go_num, rfl, hbl2, HR2, by first | rfl | trivial⟩⟩
            case measure => simp [intOf]; omega
          · have hx2 : ((r : Int) / 2) = (sumBit r : Nat) := by
              have := sumBit_even hodd
              omega
            generalize sumBit r = t at hx2 hbl2 HR2
            go_wp2
            go_roundw
            case rel =>
              try ((repeat apply Exists.intro); refine ⟨?_, rfl⟩)
              exact ⟨⟨i + 1, t, by omega, by go_num, by go_num, hbl2, HR2, by first | rfl | trivial⟩⟩
            case measure => simp [intOf]; omega
        · have HQ : Hid (r = sumAll n (s.data.toList.take (k + 1))) := by
            have := HR.out
            rw [show 8 - i = 0 by omega] at this
            show _ = _
            rw [← HS.out, ← this]
            rfl
          go_wp2
          refine ⟨⟨⟨k + 1, r, by omega, by go_num, rfl, hr, HQ, trivial⟩⟩, ?_⟩
          simp [intOf]
          omega
    · go_wp2
      go_ret
      exact ⟨by rw [HM.out, List.take_of_length_le (by simp; omega)]; rfl, rfl⟩

theorem specSumOf_any (s : ByteArray) (w : World) (hs : s.size ≤ 1048580) :
    Calls Tryd.prog 54 #[.string s] w fun e w' => e = .returned (.int .u32 (sumAll 4294967295 s.data.toList : Nat)) ∧ w = w' := by
  have c := specSumMore_any 4294967295 s w (by omega) hs
  generalize sumAll 4294967295 s.data.toList = q at c
  go_enter Tryd.func54, Tryd.ntmps54
  go_wp2_with (go_at_call 75; refine c.mono ?_; rintro e w' ⟨rfl, rfl⟩)
  go_ret
  exact ⟨rfl, rfl⟩

set_option maxHeartbeats 1000000 in
theorem l02Four_any (n : Nat) (w : World) (hn : n < 4294967296) :
    Calls Tryd.prog 53 #[.int .u32 (n : Int)] w fun e w' => e = .returned (.string ⟨(four n).toArray⟩) ∧ Below w.heap.size w w' := by
  have hcv := four_text (P := Tryd.prog) w 86 9 5 n hn Tryd.underlying86 Tryd.underlying5 Tryd.underlying9
  generalize four n = l at hcv
  go_enter Tryd.func53, Tryd.ntmps53
  go_wp2
  go_ret
  exact ⟨rfl, (Below.refl _ _).alloc (Nat.le_refl _) _⟩
end Go.Proofs.YtepfblabdibggabDoor

namespace Go.Proofs.YtepfblabdibggabDoor
open Go.RowKit

set_option maxHeartbeats 1000000 in
theorem specFrame_in (s : ByteArray) (w : World) (h1 : 1 ≤ s.size) (h2 : s.size ≤ 9000) :
    Calls Tryd.prog 27 #[.string s] w fun e w' => e = .returned (.tuple #[.string (frAll s), .bool true]) ∧ Below w.heap.size w w' := by
  have hin : inB (s.size : Int) 1 9000 = true := inB_yes (by omega) (by omega)
  have cI : ∀ w, Calls Tryd.prog 52 #[.int .i64 (s.size : Int), .int .i64 1, .int .i64 9000] w fun e w' => e = .returned (.bool true) ∧ w = w' := fun w => hin ▸ l01In_any _ _ _ w
  have hm : s.size ≤ 9223372036854775807 := by omega
  have c0 := fun w => l01Var_any s.size w hm
  have c1 : ∀ w', Calls Tryd.prog 54 #[.string s] w' fun e w'' => e = .returned (.int .u32 (sumOf s : Nat)) ∧ w' = w'' := fun w' => specSumOf_any s w' (by omega)
  have c2 := fun w => l02Four_any (sumOf s) w (sumOf_lt s)
  have hl := four_length (sumOf s)
  have hv := varF_length 8 s.size
  unfold frAll
  generalize sumOf s = n at c1 c2 hl ⊢
  generalize four n = l at c2 hl ⊢
  generalize varF 8 s.size = v at c0 hv ⊢
  go_enter Tryd.func27, Tryd.ntmps27
  go_wp2_with (first | (go_at_call 52; refine (cI _).mono ?_; rintro e w' ⟨rfl, rfl⟩) | (go_at_call 51; refine (c0 _).mono ?_; rintro e w' ⟨rfl, hb⟩) | (go_at_call 54; refine (c1 _).mono ?_; rintro e w' ⟨rfl, rfl⟩) | (go_at_call 53; refine (c2 _).mono ?_; rintro e w2 ⟨rfl, hb2⟩))
  all_goals go_ret2
  all_goals first | exact ⟨rfl, hb.trans (hb2.mono hb.size)⟩ | exact ⟨rfl, hb2.trans (hb.mono hb2.size)⟩

set_option maxHeartbeats 1000000 in
theorem specFrame_any (s : ByteArray) (w : World) :
    Calls Tryd.prog 27 #[.string s] w fun e w' => e = .returned (.tuple #[.string (frText s), .bool (frOk s)]) ∧ Below w.heap.size w w' := by
  by_cases h : 1 ≤ s.size ∧ s.size ≤ 9000
  · rw [frOk_in h.1 h.2, frText_in h.1 h.2]
    exact specFrame_in s w h.1 h.2
  · rw [frOk_out h, frText_out h]
    have hin : inB (s.size : Int) 1 9000 = false := inB_no (by omega)
    have cI : ∀ w, Calls Tryd.prog 52 #[.int .i64 (s.size : Int), .int .i64 1, .int .i64 9000] w fun e w' => e = .returned (.bool false) ∧ w = w' := fun w => hin ▸ l01In_any _ _ _ w
    go_enter Tryd.func27, Tryd.ntmps27
    go_wp2_with (go_at_call 52; refine (cI _).mono ?_; rintro e w' ⟨rfl, rfl⟩)
    go_ret2
    exact ⟨rfl, Below.refl _ _⟩
end Go.Proofs.YtepfblabdibggabDoor
