/- A text is cut at its first ':'. -/
import Derived.Test.YtlefccgdeafinadDoorLinePlain
import Derived.Test.YtlefccgdeafinadDoorBase
import Derived.Test.YtlefccgdeafinadDoorShelf
import Derived.Deep.QuietTactic
import Derived.BigQuiet
import Derived.WalkSmall
namespace Go.Proofs.YtlefccgdeafinadDoor
open Go.RowKit
theorem idxB_none : ∀ (b : List UInt8), (∀ x ∈ b, x ≠ 58) → Lib.indexByte b 58 = -1
  | [], _ => rfl
  | x :: b, h => by
    have ih := idxB_none b (fun y hy => h y (List.mem_cons_of_mem _ hy))
    unfold Lib.indexByte
    rw [if_neg (by simpa using h x List.mem_cons_self), ih]
    rfl
theorem idxB_at : ∀ (b r : List UInt8), (∀ x ∈ b, x ≠ 58) → Lib.indexByte (b ++ 58 :: r) 58 = (b.length : Int)
  | [], r, _ => rfl
  | y :: b, r, h => by
    have ih := idxB_at b r (fun z hz => h z (List.mem_cons_of_mem _ hz))
    simp only [List.cons_append]
    unfold Lib.indexByte
    rw [if_neg (by simpa using h y List.mem_cons_self), ih, if_neg (by simp)]
    simp
set_option maxRecDepth 100000 in
set_option maxHeartbeats 4000000 in
theorem cutLite_yes (s : ByteArray) (b r : List UInt8) (w : World) (hs : s.size ≤ 1048576) (hl : s.data.toList = b ++ 58 :: r) (hb : ∀ x ∈ b, x ≠ 58) :
    Calls Tryd.prog 82 #[.string s, .string ⟨#[58]⟩] w fun e w' => e = .returned (.tuple #[.string ⟨b.toArray⟩, .string ⟨r.toArray⟩, .bool true]) ∧ Below w.heap.size w w' := by
  have c1 := Tryd.stringslite_Index_one s 58 w
  rw [hl, idxB_at b r hb] at c1
  have hsz : s.size = b.length + r.length + 1 := by rw [Lib.size_eq, hl]; simp; omega
  have s1 := fun w => run_slice_string_h (P := Tryd.prog) w 9 s Tryd.underlying9 .i64 (b.length : Int) (by omega) (by omega)
  have s2 := fun w => run_slice_string_l (P := Tryd.prog) w 9 s Tryd.underlying9 .i64 ((b.length : Int) + 1) (by omega) (by omega)
  rw [Int.toNat_natCast] at s1
  rw [show ((b.length : Int) + 1).toNat = b.length + 1 by omega] at s2
  have e1 : s.extract 0 b.length = ⟨b.toArray⟩ := mk_ext _ (by rw [Lib.extract_data, hl, List.drop_zero, Nat.sub_zero, List.take_left' rfl])
  have e2 : s.extract (b.length + 1) s.size = ⟨r.toArray⟩ := mk_ext _ (by
    rw [Lib.extract_data, hl, show b ++ 58 :: r = (b ++ [58]) ++ r by simp, List.drop_left' (by simp), List.take_of_length_le (by omega)])
  rw [e1] at s1
  rw [e2] at s2
  obtain ⟨m, hm⟩ : ∃ m, b.length = m := ⟨_, rfl⟩
  rw [hm] at c1 s1 s2
  have hmb : m ≤ 1048576 := by omega
  have hadd : IntKind.i64.wrap ((m : Int) + 1) = (m : Int) + 1 := by rw [IntKind.wrap_i64]; omega
  have hm0 : (0 : Int) ≤ (m : Int) := by omega
  generalize (⟨b.toArray⟩ : ByteArray) = B at s1 ⊢
  generalize (⟨r.toArray⟩ : ByteArray) = C at s2 ⊢
  clear hl hb hsz e1 e2 hm hs
  go_enter Tryd.func82, Tryd.ntmps82
  go_wp2_with fail
  refine c1.mono ?_
  rintro e w1 ⟨rfl, hw1⟩
  rw [hw1]
  clear c1
  go_wp2_with fail
  go_quiet (fail)
  go_wp2_with fail
  go_ret3
  exact ⟨rfl, below_drewN (Below.refl _ _) _⟩
set_option maxRecDepth 100000 in
set_option maxHeartbeats 4000000 in
theorem cut_yes (s : ByteArray) (b r : List UInt8) (w : World) (hs : s.size ≤ 1048576) (hl : s.data.toList = b ++ 58 :: r) (hb : ∀ x ∈ b, x ≠ 58) :
    Calls Tryd.prog 72 #[.string s, .string ⟨#[58]⟩] w fun e w' => e = .returned (.tuple #[.string ⟨b.toArray⟩, .string ⟨r.toArray⟩, .bool true]) ∧ Below w.heap.size w w' := by
  have c1 := cutLite_yes s b r w hs hl hb
  go_enter Tryd.func72, Tryd.ntmps72
  go_wp2_with fail
  refine c1.mono ?_
  rintro e w1 ⟨rfl, hb1⟩
  go_wp2_with fail
  go_ret3
  exact ⟨rfl, hb1⟩
set_option maxRecDepth 100000 in
set_option maxHeartbeats 4000000 in
theorem cutLite_no (s : ByteArray) (w : World) (hb : ∀ x ∈ s.data.toList, x ≠ 58) :
    Calls Tryd.prog 82 #[.string s, .string ⟨#[58]⟩] w fun e w' => e = .returned (.tuple #[.string s, .string ⟨#[]⟩, .bool false]) ∧ Below w.heap.size w w' := by
  have c1 := Tryd.stringslite_Index_one s 58 w
  rw [idxB_none _ hb] at c1
  clear hb
  go_enter Tryd.func82, Tryd.ntmps82
  go_wp2_with fail
  refine c1.mono ?_
  rintro e w1 ⟨rfl, hw1⟩
  rw [hw1]
  go_wp2_with fail
  go_ret3
  exact ⟨rfl, Below.refl _ _⟩
set_option maxRecDepth 100000 in
set_option maxHeartbeats 4000000 in
theorem cut_no (s : ByteArray) (w : World) (hb : ∀ x ∈ s.data.toList, x ≠ 58) :
    Calls Tryd.prog 72 #[.string s, .string ⟨#[58]⟩] w fun e w' => e = .returned (.tuple #[.string s, .string ⟨#[]⟩, .bool false]) ∧ Below w.heap.size w w' := by
  have c1 := cutLite_no s w hb
  go_enter Tryd.func72, Tryd.ntmps72
  go_wp2_with fail
  refine c1.mono ?_
  rintro e w1 ⟨rfl, hb1⟩
  go_wp2_with fail
  go_ret3
  exact ⟨rfl, hb1⟩
end Go.Proofs.YtlefccgdeafinadDoor
