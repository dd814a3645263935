/- The walk over decimal figures that are read: the program's own text. -/
import Derived.Test.YtnnaphfeeobeladDoorFigPlainJ
import Derived.Test.YtnnaphfeeobeladDoorBase
import Derived.Deep.LoopGhost
import Derived.WalkMore
import Derived.BigQuiet
namespace Go.Proofs.YtnnaphfeeobeladDoor
open Go.RowKit

theorem ret2_none {r : Option Nat} (h : r = none) : Ending.returned (.tuple #[.int .i64 0, .bool false]) = .returned (.tuple #[.int .i64 (r.getD 0 : Nat), .bool r.isSome]) := by subst h; rfl

theorem ret2_some {r : Option Nat} {n : Nat} {x : Int} (h : r = some n) (hx : x = n) : Ending.returned (.tuple #[.int .i64 x, .bool true]) = .returned (.tuple #[.int .i64 (r.getD 0 : Nat), .bool r.isSome]) := by subst h hx; rfl

theorem take_step (s : ByteArray) (k : Nat) (h : k < s.size) : s.data.toList.take (k + 1) = s.data.toList.take k ++ [s[k]] := by
  rw [List.take_succ_eq_append_getElem (by simpa using h)]; rfl

theorem drop_step (s : ByteArray) (k : Nat) (h : k < s.size) : s.data.toList.drop k = s[k] :: s.data.toList.drop (k + 1) := by
  rw [List.drop_eq_getElem_cons (by simpa using h)]
  rfl

theorem rdF_on {n k : Nat} {b : UInt8} {r : List UInt8} (h1 : n ≤ 1000000000) (h2 : 48 ≤ b.toNat ∧ b.toNat ≤ 57) (h3 : ¬ (k = 1 ∧ n = 0)) : rdF n k (b :: r) = rdF (n * 10 + dOf b) (k + 1) r := by
  rw [rdF, if_neg (by omega), if_neg (by omega), if_neg h3]

theorem rdF_no {n k : Nat} {b : UInt8} {r : List UInt8} (h : 1000000000 < n ∨ (b.toNat < 48 ∨ 57 < b.toNat) ∨ (k = 1 ∧ n = 0)) : rdF n k (b :: r) = none := by
  rw [rdF]
  by_cases h1 : 1000000000 < n
  · rw [if_pos h1]
  · rw [if_neg h1]
    by_cases h2 : b.toNat < 48 ∨ 57 < b.toNat
    · rw [if_pos h2]
    · rw [if_neg h2, if_pos (by omega)]

set_option maxHeartbeats 1000000 in
set_option maxRecDepth 100000 in
theorem implReadDecimal_any (s : ByteArray) (w : World) (hs : s.size ≤ 1048576) :
    Calls Tryd.prog 100 #[.string s] w fun e w' => e = .returned (.tuple #[.int .i64 ((rdF 0 0 s.data.toList).getD 0 : Nat), .bool (rdF 0 0 s.data.toList).isSome]) ∧ Below w.heap.size w w' := by
  go_enter Tryd.func100, Tryd.ntmps100
  go_wp2
  go_step3
  go_wp2
  go_step3
  go_wp2
  go_loopw [4, 5] (fun n i wr => Box (∃ (k m : Nat), k ≤ s.size ∧ i = .int .i64 k ∧ n = .int .i64 m ∧ m ≤ 10000000009 ∧ Hid (rdF m k (s.data.toList.drop k) = rdF 0 0 s.data.toList) ∧ wr = w))
    (fun _ i _ => s.size - (intOf i).toNat)
  case atStart => exact ⟨⟨0, 0, by omega, rfl, rfl, by omega, rfl, rfl⟩⟩
  case round =>
    obtain ⟨k, m, hk, rfl, rfl, hm, hr, rfl⟩ := hrel.out
    by_cases hlt : k < s.size
    · have HD : Hid (s.data.toList.drop k = s[k] :: s.data.toList.drop (k + 1)) := drop_step s k hlt
      obtain ⟨b, hb⟩ : ∃ b, s[k] = b := ⟨_, rfl⟩
      have HB : Hid (s[k] = b) := hb
      have hbl : b.toNat < 256 := b.toNat_lt
      have no : (1000000000 < m ∨ (b.toNat < 48 ∨ 57 < b.toNat) ∨ (k = 1 ∧ m = 0)) → rdF 0 0 s.data.toList = none := fun h => by
        rw [← hr.out, HD.out, HB.out]; exact rdF_no h
      have NO : Hid ((1000000000 < m ∨ (b.toNat < 48 ∨ 57 < b.toNat) ∨ (k = 1 ∧ m = 0)) → rdF 0 0 s.data.toList = none) := no
      clear no
      rcases (show 1000000000 < m ∨ (m ≤ 1000000000 ∧ b.toNat < 48) ∨ (m ≤ 1000000000 ∧ 57 < b.toNat) ∨ (m ≤ 1000000000 ∧ 48 ≤ b.toNat ∧ b.toNat ≤ 57) by omega) with g | ⟨g, g1⟩ | ⟨g, g1⟩ | ⟨g, g1, g2⟩
      · go_wp2
        all_goals
          try rw [Exit.noGoto_ret]
          go_ret2
          exact ⟨ret2_none (NO.out (by omega)), Below.refl _ _⟩
      · go_wp2
        all_goals
          try rw [Exit.noGoto_ret]
          go_ret2
          exact ⟨ret2_none (NO.out (by omega)), Below.refl _ _⟩
      · go_wp2
        all_goals
          try rw [Exit.noGoto_ret]
          go_ret2
          exact ⟨ret2_none (NO.out (by omega)), Below.refl _ _⟩
      · by_cases e1 : k = 1
        · have hk1 : ((k : Int) == 1) = true := by simp; omega
          by_cases e2 : m = 0
          · have hm0 : ((m : Int) == 0) = true := by simp; omega
            have HN := NO.out (by omega)
            clear e1 e2
            go_wp2
            all_goals
              try rw [Exit.noGoto_ret]
              go_ret2
              exact ⟨ret2_none HN, Below.refl _ _⟩
          · have hm0 : ((m : Int) == 0) = false := by simp; omega
            clear e1 e2
            go_wp2
            go_roundw
            case rel =>
              try ((repeat apply Exists.intro); refine ⟨?_, rfl⟩)
              exact ⟨⟨k + 1, m * 10 + dOf b, by omega, by go_num, by unfold dOf; go_num, by unfold dOf; omega, by
                have := hr.out
                rw [HD.out, HB.out, rdF_on g ⟨g1, g2⟩ (by simp at hk1 hm0; omega)] at this
                exact this, by first | rfl | trivial⟩⟩
            case measure => simp [intOf]; omega
        · have hk1 : ((k : Int) == 1) = false := by simp; omega
          clear e1
          go_wp2
          go_roundw
          case rel =>
            try ((repeat apply Exists.intro); refine ⟨?_, rfl⟩)
            exact ⟨⟨k + 1, m * 10 + dOf b, by omega, by go_num, by unfold dOf; go_num, by unfold dOf; omega, by
              have := hr.out
              rw [HD.out, HB.out, rdF_on g ⟨g1, g2⟩ (by simp at hk1 ; omega)] at this
              exact this, by first | rfl | trivial⟩⟩
          case measure => simp [intOf]; omega
    · have HE : Hid (s.data.toList.drop k = []) := List.drop_of_length_le (by simp; omega)
      by_cases e0 : k = 0
      · have hk0 : ((k : Int) == 0) = true := by simp; omega
        have HN : rdF 0 0 s.data.toList = none := by rw [← hr.out, HE.out, rdF, if_pos (.inl e0)]
        have HN2 : Hid (rdF 0 0 s.data.toList = none) := HN
        clear HN e0
        go_wp2
        all_goals
          try rw [Exit.noGoto_ret]
          go_ret2
          exact ⟨ret2_none HN2.out, Below.refl _ _⟩
      · have hk0 : ((k : Int) == 0) = false := by simp; omega
        by_cases g : 1000000000 < m
        · have HN2 : Hid (rdF 0 0 s.data.toList = none) := by show _ = _; rw [← hr.out, HE.out, rdF, if_pos (.inr g)]
          clear e0
          go_wp2
          all_goals
            try rw [Exit.noGoto_ret]
            go_ret2
            exact ⟨ret2_none HN2.out, Below.refl _ _⟩
        · have HN2 : Hid (rdF 0 0 s.data.toList = some m) := by show _ = _; rw [← hr.out, HE.out, rdF, if_neg (by omega)]
          clear e0
          go_wp2
          all_goals
            try rw [Exit.noGoto_ret]
            go_ret2
            exact ⟨ret2_some HN2.out rfl, Below.refl _ _⟩
end Go.Proofs.YtnnaphfeeobeladDoor
