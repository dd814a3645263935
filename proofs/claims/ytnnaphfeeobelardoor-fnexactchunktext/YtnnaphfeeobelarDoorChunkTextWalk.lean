/- Exact ChunkText, walked. -/
import Derived.Test.YtnnaphfeeobelarDoorStrsLaw
import Derived.Test.YtnnaphfeeobelarDoorChunkTextSpec
import Derived.Test.YtnnaphfeeobelarDoorChunkTextImpl
import Derived.Deep.RegionHeld3
namespace Go.Proofs.YtnnaphfeeobelarDoor
open Go.RowKit Go.Sort
set_option maxRecDepth 100000 in
set_option maxHeartbeats 4000000 in
theorem chunkText_walk (a : Option Addr) (cap : Nat) (P : List ByteArray) (w : World) (hA : LAt w a P w.heap.size) (hm : P.length ≤ maxLen) (hz : ∀ j (hj : j < P.length), P[j].size ≤ maxLen) :
    Calls Tryd.prog 5 #[.slice a P.length cap] w fun e w' => e = .returned (.bool true) ∧ Below w.heap.size w w' := by
  have c0 := szStringS_any w a cap P 1048576 (by omega) (by omega) hA hm hz
  go_enter Tryd.func5, Tryd.ntmps5
  go_wp2_with fail
  refine c0.mono ?_
  rintro e w1 ⟨r, rfl, hr, rfl⟩
  clear c0
  rcases hr with rfl | ⟨hr0, hr1⟩
  · go_wp2_with fail
    go_ret
    exact ⟨rfl, Below.refl _ _⟩
  have hl : P.length ≤ 1048576 := by omega
  have hp : ∀ p ∈ P, p.size ≤ 1048576 := fun p h => by have := wgtL_mem h; omega
  have hr2 : ¬ r < 0 := by omega
  obtain ⟨S, hS⟩ : ∃ S, (chunkS P).1 = S := ⟨_, rfl⟩
  obtain ⟨R, hR⟩ : ∃ R, (chunkS P).2 = R := ⟨_, rfl⟩
  have CS : Hid (∀ (wi : World) (a1 : Option Addr) (k1 : Nat), LAt wi a1 P wi.heap.size → Calls Tryd.prog 17 #[.slice a1 P.length k1] wi fun e w' => e = .returned (.tuple #[.string S, .bool R]) ∧ Below wi.heap.size wi w') := by intro wi a1 k1 h; rw [← hR, ← hS]; exact specChunkText_any wi a1 k1 P h hl hp
  have CI : Hid (∀ (wi : World) (a1 : Option Addr) (k1 : Nat), LAt wi a1 P wi.heap.size → Calls Tryd.prog 19 #[.slice a1 P.length k1] wi fun e w' => e = .returned (.tuple #[.string S, .bool R]) ∧ Below wi.heap.size wi w') := by intro wi a1 k1 h; rw [← hR, ← hS]; exact implChunkText_any wi a1 k1 P h hl hp
  have hbb : (R != R) = false := by simp
  have hss : (S.toList != S.toList) = false := by simp
  clear hS hR hp hr0 hr1 hm hz
  go_wp2_with fail
  refine (toStringS_any w1 a cap P hA hl).mono ?_
  rintro e w2 ⟨v2, rfl, ho2, hb2⟩
  obtain ⟨a2, k2, rfl, hA2⟩ := ho2.strsAt
  have cS := CS.out w2 a2 k2 hA2
  clear ho2
  go_wp2_with fail
  refine cS.mono ?_
  rintro e w3 ⟨rfl, hb3⟩
  clear cS hA2
  have hB3 : Below w1.heap.size w1 w3 := hb2.trans (hb3.mono hb2.size)
  have hE3 := hA.on hB3
  go_wp2_with fail
  refine (toStringS_any w3 a cap P hE3 hl).mono ?_
  rintro e w4 ⟨v4, rfl, ho4, hb4⟩
  obtain ⟨a4, k4, rfl, hA4⟩ := ho4.strsAt
  have cI := CI.out w4 a4 k4 hA4
  clear ho4
  have hB4 : Below w1.heap.size w1 w4 := hB3.trans (hb4.mono hB3.size)
  go_wp2_with fail
  refine cI.mono ?_
  rintro e w5 ⟨rfl, hb5⟩
  clear cI
  have hA5 := hA4.on hb5
  have hB5 : Below w1.heap.size w1 w5 := hB4.trans (hb5.mono hB4.size)
  have hE5 := hA.on hB5
  clear hA4 hE3
  go_wp2_with fail
  refine (toStringS_any w5 a cap P hE5 hl).mono ?_
  rintro e w6 ⟨v6, rfl, ho6, hb6⟩
  obtain ⟨a6, k6, rfl, hA6⟩ := ho6.strsAt
  have hA6' := hA5.on hb6
  clear ho6
  go_wp2_with fail
  refine (eqStringS_same w6 a4 a6 k4 k6 P hA6' hA6 hl).mono ?_
  rintro e w7 ⟨rfl, hb7⟩
  have hB6 : Below w1.heap.size w1 w6 := hB5.trans (hb6.mono hB5.size)
  have hB7 : Below w1.heap.size w1 w7 := hB6.trans (hb7.mono hB6.size)
  go_wp2_with fail
  go_ret
  exact ⟨rfl, hB7⟩
end Go.Proofs.YtnnaphfeeobelarDoor
