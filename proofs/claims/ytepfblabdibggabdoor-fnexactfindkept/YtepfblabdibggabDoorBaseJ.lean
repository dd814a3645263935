/- Texts that stand in one: Base, SumImpl. -/
import Derived.Test.YtepfblabdibggabDoorBytes
import Derived.Test.YtepfblabdibggabDoorChecked
import Derived.Test.YtepfblabdibggabDoorSumPlain
import Derived.Lib.LaidTab
import Derived.WalkSmall
import Derived.OpenShut
namespace Go.Proofs.YtepfblabdibggabDoor
open Go.RowKit

theorem Tryd.info5 : (Tryd.prog.info? 5).map (fun i => (i.zero, i.size, i.bytes)) = some (some (.int .u8 0), 1, 1) := by kernel_rfl

/-- x lies between a and b. -/
def inN (x a b : Int) : Bool := decide (a ≤ x ∧ x ≤ b)

theorem in_any (x a b : Int) (w : World) :
    Calls Tryd.prog 52 #[.int .i64 x, .int .i64 a, .int .i64 b] w fun e w' => e = .returned (.bool (inN x a b)) ∧ w' = w := by
  unfold inN
  by_cases h1 : a ≤ x
  · by_cases h2 : x ≤ b
    · rw [decide_eq_true (show a ≤ x ∧ x ≤ b from ⟨h1, h2⟩)]
      go_enter Tryd.func52, Tryd.ntmps52
      go_wp2
      go_ret
      exact ⟨rfl, rfl⟩
    · rw [decide_eq_false (show ¬ (a ≤ x ∧ x ≤ b) by omega)]
      have h3 : decide (x ≤ b) = false := by simpa using h2
      go_enter Tryd.func52, Tryd.ntmps52
      go_wp2
      go_ret
      exact ⟨rfl, rfl⟩
  · rw [decide_eq_false (show ¬ (a ≤ x ∧ x ≤ b) by omega)]
    have h3 : decide (a ≤ x) = false := by simpa using h1
    go_enter Tryd.func52, Tryd.ntmps52
    go_wp2
    go_ret
    exact ⟨rfl, rfl⟩
end Go.Proofs.YtepfblabdibggabDoor

namespace Go.Proofs.YtepfblabdibggabDoor
open Go.RowKit

theorem gFour : Tryd.prog.globalNamed "loop.example/g00245/impl.fourSteps" = some 1 := by kernel_rfl
/-- The table of the program holds what its text lays. -/
def Tab (w : World) : Prop := Lib.TabIs Tryd.prog w "loop.example/g00245/impl.fourSteps" .u32 (sumTab.map fun (n : Nat) => (n : Int))

theorem Tab.cell {w : World} (h : Tab w) (i : Nat) (hi : i < 16) : w.cell? ⟨1, i, none⟩ = some (.int .u32 (sumTab.getD i 0 : Nat)) := by
  have := Lib.TabIs.cell h gFour i (by simpa [sumTab] using hi)
  rw [this]
  simp [List.getD]
  cases sumTab[i]? <;> rfl

theorem Tab.lt {w : World} (h : Tab w) : 1 < w.heap.size := by
  unfold Tab Lib.TabIs World.var? at h
  simp only [gFour, Option.bind_some] at h
  cases hh : w.heap[1]? with
  | none => rw [hh] at h; cases h
  | some o => exact (Array.getElem?_eq_some_iff.1 hh).1

theorem Tab.below {w w' : World} {B : Nat} (h : Tab w) (hb : Below B w w') (hB : w.heap.size ≤ B) : Tab w' :=
  var?_below hb gFour (Nat.lt_of_lt_of_le h.lt hB) h

set_option maxHeartbeats 1000000 in
theorem withByte_any (s b : Nat) (w : World) (hs : s < 4294967296) (hb : b < 256) (ht : Tab w) :
    Calls Tryd.prog 103 #[.int .u32 (s : Int), .int .u8 (b : Int)] w fun e w' => e = .returned (.int .u32 (sumByte s b : Nat)) ∧ w = w' := by
  have hx := u32_xor_nat s b hs (by omega)
  obtain ⟨n, hn⟩ : ∃ n, s ^^^ b = n := ⟨_, rfl⟩
  have hnl : n < 4294967296 := by rw [← hn]; exact xor_lt32 hs (by omega)
  rw [hn] at hx
  have hc1 := ht.cell (n % 16) (by omega)
  have hl1 := tab_lt (n % 16)
  obtain ⟨m, hm⟩ : ∃ m, sumLook n = m := ⟨_, rfl⟩
  have hml : m < 4294967296 := by rw [← hm]; exact sumLook_lt hnl
  have hm1 : n / 16 ^^^ sumTab.getD (n % 16) 0 = m := hm
  have hc2 := ht.cell (m % 16) (by omega)
  have hl2 := tab_lt (m % 16)
  rw [show sumByte s b = m / 16 ^^^ sumTab.getD (m % 16) 0 by unfold sumByte; rw [hn, hm]; rfl]
  generalize sumTab.getD (n % 16) 0 = y1 at hc1 hl1 hm1
  generalize sumTab.getD (m % 16) 0 = y2 at hc2 hl2 ⊢
  have hx1 : bits .xor .u32 ((n : Int) / 16) (y1 : Int) = (m : Int) := by
    have := u32_xor_nat (n / 16) y1 (by omega) hl1
    rw [hm1] at this
    exact this
  obtain ⟨q, hq⟩ : ∃ q, m / 16 ^^^ y2 = q := ⟨_, rfl⟩
  have hx2 : bits .xor .u32 ((m : Int) / 16) (y2 : Int) = (q : Int) := by
    have := u32_xor_nat (m / 16) y2 (by omega) hl2
    rw [hq] at this
    exact this
  rw [hq]
  clear hm hm1 hq hn ht hl1 hl2
  go_enter Tryd.func103, Tryd.ntmps103
  go_wp2
  go_ret
  exact ⟨rfl, rfl⟩

/-- 'string([]byte{..})' of the four bytes of a sum. -/
theorem four_text {P : Program} (w : World) (src dst e : TypeId) (n : Nat) (hn : n < 4294967296) (hs : P.underlying src = some (.slice e)) (he : P.underlying e = some (.int .u8)) (hd : P.underlying dst = some .string) :
    (convert src dst (.slice (some ⟨w.heap.size, 0, none⟩) 4 4)).run P (w.alloc (.cells #[.int .u8 ((n : Int) / 16777216), .int .u8 ((n : Int) / 65536 % 256), .int .u8 ((n : Int) / 256 % 256), .int .u8 ((n : Int) % 256)] e))
      = .ok (.string ⟨(four n).toArray⟩) (w.alloc (.cells #[.int .u8 ((n : Int) / 16777216), .int .u8 ((n : Int) / 65536 % 256), .int .u8 ((n : Int) / 256 % 256), .int .u8 ((n : Int) % 256)] e)) := by
  refine run_convert_bytes_back _ src dst e ⟨w.heap.size, 0, none⟩ 4 (four n) hs he hd fun j hj => ?_
  have h1 : (n : Int) / 16777216 = ((UInt8.ofNat (n / 16777216)).toNat : Int) := by rw [UInt8.toNat_ofNat']; omega
  match j, hj with
  | 0, _ => simpa [Addr.add, four] using h1
  | 1, _ => simp [Addr.add, four]
  | 2, _ => simp [Addr.add, four]
  | 3, _ => simp [Addr.add, four]

set_option maxHeartbeats 1000000 in
theorem bytes_any (n : Nat) (w : World) (hn : n < 4294967296) :
    Calls Tryd.prog 78 #[.int .u32 (n : Int)] w fun e w' => e = .returned (.string ⟨(four n).toArray⟩) ∧ Below w.heap.size w w' := by
  have hcv := four_text (P := Tryd.prog) w 86 9 5 n hn Tryd.underlying86 Tryd.underlying5 Tryd.underlying9
  generalize four n = l at hcv
  go_enter Tryd.func78, Tryd.ntmps78
  go_wp2
  go_ret
  exact ⟨rfl, (Below.refl _ _).alloc (Nat.le_refl _) _⟩

theorem takeSnoc (s : ByteArray) (k : Nat) (hk : k < s.size) : s.data.toList.take (k + 1) = s.data.toList.take k ++ [s[k]] := by
  have h : k < s.data.toList.length := by simpa using hk
  rw [List.take_add_one, List.getElem?_eq_getElem h]
  rfl

set_option maxHeartbeats 1000000 in
theorem implSumMore_any (n : Nat) (s : ByteArray) (w : World) (hn : n < 4294967296) (hs : s.size ≤ 1048580) (ht : Tab w) :
    Calls Tryd.prog 97 #[.int .u32 (n : Int), .string s] w fun e w' => e = .returned (.int .u32 (sumAll n s.data.toList : Nat)) ∧ w = w' := by
  go_enter Tryd.func97, Tryd.ntmps97
  go_wp2
  go_loopw [5, 6, 10] (fun v _ i wr => Box (∃ (k m : Nat), k ≤ s.size ∧ i = .int .i64 k ∧ v = .int .u32 (m : Int) ∧ m < 4294967296 ∧ Hid (m = sumAll n (s.data.toList.take k)) ∧ w = wr))
    (fun _ _ i _ => s.size - (intOf i).toNat)
  case atStart => exact ⟨⟨0, n, Nat.zero_le _, rfl, rfl, hn, rfl, rfl⟩⟩
  case round =>
    obtain ⟨k, m, hk, rfl, rfl, hm, HM, rfl⟩ := hrel.out
    by_cases hlt : k < s.size
    · obtain ⟨b, hb⟩ : ∃ b, s[k] = b := ⟨_, rfl⟩
      have HB : Hid (s[k] = b) := hb
      have hbl : b.toNat < 256 := b.toNat_lt
      have c := withByte_any m b.toNat w hm hbl ht
      have hl := sumByte_lt hm hbl
      have HS : Hid (sumByte m b.toNat = sumAll n (s.data.toList.take (k + 1))) := by
        show _ = _
        rw [takeSnoc s k hlt, HB.out, sumAll_snoc, ← HM.out]
      obtain ⟨q, hq⟩ : ∃ q, sumByte m b.toNat = q := ⟨_, rfl⟩
      rw [hq] at c hl HS
      clear hq
      go_wp2_with (go_at_call 103; refine c.mono ?_; rintro e w' ⟨rfl, rfl⟩)
      go_roundw
      case rel =>
        try ((repeat apply Exists.intro); refine ⟨?_, rfl⟩)
        exact ⟨⟨k + 1, q, by omega, by go_num, rfl, hl, HS, by first | rfl | trivial⟩⟩
      case measure => simp [intOf]; omega
    · go_wp2
      go_ret
      exact ⟨by rw [HM.out, List.take_of_length_le (by simp; omega)]; rfl, rfl⟩

theorem implSumOf_any (s : ByteArray) (w : World) (hs : s.size ≤ 1048580) (ht : Tab w) :
    Calls Tryd.prog 77 #[.string s] w fun e w' => e = .returned (.int .u32 (sumAll 4294967295 s.data.toList : Nat)) ∧ w = w' := by
  have c := implSumMore_any 4294967295 s w (by omega) hs ht
  generalize sumAll 4294967295 s.data.toList = q at c
  go_enter Tryd.func77, Tryd.ntmps77
  go_wp2_with (go_at_call 97; refine c.mono ?_; rintro e w' ⟨rfl, rfl⟩)
  go_ret
  exact ⟨rfl, rfl⟩
end Go.Proofs.YtepfblabdibggabDoor
