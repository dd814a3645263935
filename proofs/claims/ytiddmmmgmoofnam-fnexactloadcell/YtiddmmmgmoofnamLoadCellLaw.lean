/- The walks of the laws on right cells and on a cell that is loaded. -/
import Derived.Test.YtiddmmmgmoofnamCellImpl
import Derived.Test.YtiddmmmgmoofnamCellSpec
namespace Go.Proofs.Ytiddmmmgmoofnam
open Go.RowKit Go.Sort

set_option maxHeartbeats 2000000 in
theorem loadCell_walk (a : Option Addr) (cap : Nat) (l : List Int) (p : Int) (w : World) (hL : IAt w a l w.heap.size) (hi : l.length ≤ maxLen) (_hp : (Lit.int .i64 p).wf = true) :
    Calls Try.prog 4 #[.slice a l.length cap, .int .i64 p] w fun e w' => e = .returned (.bool true) ∧ Below w.heap.size w w' := by
  unfold maxLen at hi
  by_cases hlf : l.length ≤ 1048576
  case neg =>
    go_enter Try.func4, Try.ntmps4
    go_wp2
    go_ret
    exact ⟨rfl, Below.refl _ _⟩
  go_enter Try.func4, Try.ntmps4
  go_wp2_with fail
  refine (toIntS_any w a cap l hL hlf).mono ?_
  rintro e w1 ⟨v1, rfl, ho1, hb1⟩
  obtain ⟨a1, cap1, rfl, hA1⟩ := ho1.ints
  go_wp2_with fail
  refine (specLoad_any w1 a1 cap1 l p hA1 hlf).mono ?_
  rintro e w1' ⟨rfl, rfl⟩
  go_wp2_with fail
  refine (toIntS_any _ a cap l (hL.on hb1) hlf).mono ?_
  rintro e w2 ⟨v2, rfl, ho2, hb2⟩
  obtain ⟨a2, cap2, hv2, hA2⟩ := ho2.ints
  subst hv2
  have hB2 := hb1.trans (hb2.mono hb1.size)
  go_wp2_with fail
  refine (implLoad_any w2 a2 cap2 l p hA2).mono ?_
  rintro e w2' ⟨rfl, rfl⟩
  go_wp2_with fail
  refine (toIntS_any _ a cap l (hL.on hB2) hlf).mono ?_
  rintro e w3 ⟨v3, rfl, ho3, hb3⟩
  obtain ⟨a3, cap3, rfl, hA3⟩ := ho3.ints
  have hB3 := hB2.trans (hb3.mono hB2.size)
  go_wp2_with fail
  refine (eqIntS_same w3 a2 a3 cap2 cap3 l (hA2.on hb3) hA3 hlf).mono ?_
  rintro e w4 ⟨rfl, hb4⟩
  go_wp2
  go_ret
  exact ⟨rfl, hB3.trans (hb4.mono hB3.size)⟩
end Go.Proofs.Ytiddmmmgmoofnam
