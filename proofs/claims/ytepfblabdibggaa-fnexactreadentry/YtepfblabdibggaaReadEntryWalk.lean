/- Exact ReadEntry, walked. -/
import Derived.Test.YtepfblabdibggaaReadEnImpl
import Derived.Test.YtepfblabdibggaaReadEnSpec
namespace Go.Proofs.Ytepfblabdibggaa
open Go.RowKit
set_option maxRecDepth 100000 in
set_option maxHeartbeats 4000000 in
theorem readEntry_walk (t : ByteArray) (w : World) (hs : t.size ≤ maxLen) :
    Calls Try.prog 7 #[.string t] w fun e w' => e = .returned (.bool true) ∧ Below w.heap.size w w' := by
  unfold maxLen at hs
  by_cases h : t.size ≤ 1048576
  case neg =>
    go_enter Try.func7, Try.ntmps7
    go_wp2
    go_ret
    exact ⟨rfl, Below.refl _ _⟩
  have c1 := fun w => specReadEntry_any t w h
  have c2 := fun w => implReadEntry_any t w h
  generalize reOk t = o at c1 c2
  obtain ⟨F, hF⟩ : ∃ F, rdEn t = F := ⟨_, rfl⟩
  rw [hF] at c1 c2
  clear hF
  obtain ⟨k, s, l, b⟩ := F
  dsimp only at c1 c2
  have hoo : (o != o) = false := by simp
  go_enter Try.func7, Try.ntmps7
  go_wp2_with fail
  refine (c1 _).mono ?_
  rintro e w1 ⟨rfl, hb1⟩
  have HB1 : Hid (Below w.heap.size w w1) := hb1
  clear c1 hb1
  go_wp2_with fail
  obtain ⟨wA, hwA⟩ : ∃ wA, w1.alloc (.cells #[.string k, .int .i64 s, .int .i64 l, .string b] 25) = wA := ⟨_, rfl⟩
  obtain ⟨S, hS⟩ : ∃ S, w1.heap.size = S := ⟨_, rfl⟩
  have HA : Hid (EnB wA S 25 ⟨k, s, l, b⟩ ∧ Below w.heap.size w wA) := by
    rw [← hwA, ← hS]
    exact ⟨EnB.new w1 _ ⟨k, s, l, b⟩, HB1.out.alloc HB1.out.size _⟩
  rw [hwA, hS]
  clear hwA hS
  refine (c2 _).mono ?_
  rintro e w2 ⟨rfl, hb2⟩
  have HB2 : Hid (EnB w2 S 25 ⟨k, s, l, b⟩ ∧ Below w.heap.size w w2) := ⟨HA.out.1.on hb2, HA.out.2.trans (hb2.mono HA.out.2.size)⟩
  clear c2 hb2 HA HB1
  obtain ⟨b0, b1, b2, b3⟩ := (HB2.out.1.on ((Below.refl w2.heap.size w2).alloc (Nat.le_refl _) (.cells #[.string k, .int .i64 s, .int .i64 l, .string b] 25))).cells
  dsimp only at b0 b1 b2 b3
  go_wp2_with fail
  refine (eqEntry_same _ k b s l).mono ?_
  rintro e w3 ⟨rfl, hb3⟩
  have HB3 : Hid (Below w.heap.size w w3) := (HB2.out.2.alloc HB2.out.2.size _).trans (hb3.mono (by have := HB2.out.2.size; simp; omega))
  clear hb3 HB2 b0 b1 b2 b3
  go_wp2_with fail
  go_ret
  exact ⟨rfl, HB3.out⟩
end Go.Proofs.Ytepfblabdibggaa
