/- The table of the program's own that the walks read, as the cards list it. -/
import Derived.Test.YtepfblabdibggabDoorCards
import Derived.Test.YtepfblabdibggabDoorTie
import Derived.Test.YtepfblabdibggabDoorSumImpl
import Derived.WalkKit
import Derived.ProofKit
import Derived.OpenShut
import Derived.OpenVars
import Derived.Deep.DeepHandedRow
import Derived.Lib.LaidTab
import Derived.Stop.LaidErr
import Derived.ShutString
namespace Go.Proofs.YtepfblabdibggabDoor
open Go.ChangeShapes Go.WideShapes Go.ChangeAt Go.RowKit

theorem card_own : ownKnob Tryd.prog.godebug = none := by kernel_rfl
theorem gFourType : (Tryd.prog.globals[1]?).map (·.type) = some 134 := by kernel_rfl
theorem cellsFour : Tryd.prog.cellsOf 134 = 16 := by kernel_rfl
theorem cellsU32 : Tryd.prog.cellsOf 82 = 1 := by kernel_rfl
theorem fourData : Rows.laid_loop_example_g00245_impl_fourSteps (H := Unit) = Lib.tabData .u32 (sumTab.map fun (n : Nat) => (n : Int)) := by kernel_rfl
theorem laidOut : laidOutB Tryd.prog = true := by kernel_rfl
theorem varsRows : varsRowed Tryd.prog ["loop.example/g00245/impl.fourSteps"] = true := by kernel_rfl

theorem tab_of {W : World} (h : laidMetH Tryd.prog [("loop.example/g00245/impl.fourSteps", Rows.laid_loop_example_g00245_impl_fourSteps)] W) : Tab W := by
  have h2 : laidMet Tryd.prog [("loop.example/g00245/impl.fourSteps", Rows.laid_loop_example_g00245_impl_fourSteps)] W := h
  rw [fourData] at h2
  exact Lib.tabIs_of_head gFour gFourType Tryd.underlying134 Tryd.underlying82 cellsU32 cellsFour h2

/-- A block's cells, laid anew. -/
def putCells (cs : Array Value) : Obj → Obj
  | .cells _ t frozen => .cells cs t frozen
  | o => o
def fourCells : Array Value := ([0, 1166650509, 2333301018, 3466261911, 3189058079, 4221339282, 889615109, 1888477064, 3558460437, 2442158232, 1594529039, 444807554, 1779230218, 797264519, 3776954128, 2761298845].map fun z => Value.int .u32 z).toArray
end Go.Proofs.YtepfblabdibggabDoor
