/- The walk of the law on ValueOf, given the program's contract. -/
import Derived.Test.YtghladeamdhlhanKeysSpec
namespace Go.Proofs.Ytghladeamdhlhan
open Go.RowKit Go.Sort

set_option maxHeartbeats 2000000 in
theorem valueOf_given (CI0 : ∀ (w : World) (a : Option Addr) (cap : Nat) (l : List Int) (key : Int), IAt w a l w.heap.size → l.length ≤ 1048576 → Bd l → Calls Try.prog 26 #[.slice a l.length cap, .int .i64 key] w fun e w' => e = .returned (.int .i64 (valueL l key)) ∧ Below w.heap.size w w')
    (a : Option Addr) (cap : Nat) (l : List Int) (p : Int) (w : World) (hL : IAt w a l w.heap.size) (hi : l.length ≤ maxLen) (hbd : Bd l) (_hp : (Lit.int .i64 p).wf = true) :
    Calls Try.prog 8 #[.slice a l.length cap, .int .i64 p] w fun e w' => e = .returned (.bool true) ∧ Below w.heap.size w w' := by
  unfold maxLen at hi
  by_cases hlf : l.length ≤ 1048576
  case neg =>
    go_enter Try.func8, Try.ntmps8
    go_wp2
    go_ret
    exact ⟨rfl, Below.refl _ _⟩
  go_enter Try.func8, Try.ntmps8
  go_wp2_with fail
  refine (toIntS_any w a cap l hL hlf).mono ?_
  rintro e w1 ⟨v1, rfl, ho1, hb1⟩
  obtain ⟨a1, cap1, rfl, hA1⟩ := ho1.ints
  go_wp2_with fail
  refine (specValue_any w1 a1 cap1 l p hA1 hlf hbd).mono ?_
  rintro e w1' ⟨rfl, hb1'⟩
  have hB1 := hb1.trans (hb1'.mono hb1.size)
  go_wp2_with fail
  refine (toIntS_any _ a cap l (hL.on hB1) hlf).mono ?_
  rintro e w2 ⟨v2, rfl, ho2, hb2⟩
  obtain ⟨a2, cap2, hv2, hA2⟩ := ho2.ints
  subst hv2
  have hB2 := hB1.trans (hb2.mono hB1.size)
  go_wp2_with fail
  refine (CI0 w2 a2 cap2 l p hA2 hlf hbd).mono ?_
  rintro e w2' ⟨rfl, hb2'⟩
  have hB2' := hB2.trans (hb2'.mono hB2.size)
  go_wp2_with fail
  refine (toIntS_any _ a cap l (hL.on hB2') hlf).mono ?_
  rintro e w3 ⟨v3, rfl, ho3, hb3⟩
  obtain ⟨a3, cap3, rfl, hA3⟩ := ho3.ints
  have hB3 := hB2'.trans (hb3.mono hB2'.size)
  go_wp2_with fail
  refine (eqIntS_same w3 a2 a3 cap2 cap3 l ((hA2.on hb2').on hb3) hA3 hlf).mono ?_
  rintro e w4 ⟨rfl, hb4⟩
  go_wp2
  go_ret
  exact ⟨rfl, hB3.trans (hb4.mono hB3.size)⟩
end Go.Proofs.Ytghladeamdhlhan
