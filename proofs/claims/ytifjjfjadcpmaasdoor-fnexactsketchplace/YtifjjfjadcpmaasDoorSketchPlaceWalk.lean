/- The law on SketchPlace, walked. -/
import Derived.Test.YtifjjfjadcpmaasDoorSkPlace
namespace Go.Proofs.YtifjjfjadcpmaasDoor
open Go.RowKit
set_option maxRecDepth 100000 in
set_option maxHeartbeats 2000000 in
theorem sketchPlace_walk (row : Int) (key : ByteArray) (w : World) (_ : (Lit.int .i64 row).wf = true) (hkw : key.size ≤ maxLen) (ht : Tab w) :
    Calls Tryd.prog 4 #[.int .i64 row, .string key] w fun e w' => e = .returned (.bool true) ∧ Below w.heap.size w w' := by
  have hksz : key.size ≤ 9223372036854775807 := by unfold maxLen at hkw; omega
  go_enter Tryd.func4, Tryd.ntmps4
  by_cases hkl : 1048576 < key.size
  · have hkl2 : (1048576 : Int) < (key.size : Int) := by omega
    clear hkw
    go_wp2_with fail
    go_ret
    exact ⟨rfl, Below.refl _ _⟩
  have hkl2 : ¬ (1048576 : Int) < (key.size : Int) := by omega
  have hk : key.size ≤ 1048576 := by omega
  have cS := specSketchPlace_any row key w hk
  have CI : Hid (∀ wi, Below w.heap.size w wi → Calls Tryd.prog 13 #[.int .i64 row, .string key] wi fun e w' => e = .returned (.int .i64 (placeS row key : Nat)) ∧ Below wi.heap.size wi w') := fun wi h => implSketchPlace_any row key wi hk (ht.below h (Nat.le_refl _))
  generalize placeS row key = p at cS CI
  have hpp : ((p : Int) != (p : Int)) = false := by simp
  clear hkw hkl ht
  go_wp2_with fail
  refine cS.mono ?_
  rintro e w1 ⟨rfl, hb1⟩
  have cI := CI.out w1 hb1
  clear cS
  go_wp2_with fail
  refine cI.mono ?_
  rintro e w2 ⟨rfl, hb2⟩
  go_wp2_with fail
  go_ret
  exact ⟨rfl, hb1.trans (hb2.mono hb1.size)⟩
end Go.Proofs.YtifjjfjadcpmaasDoor
