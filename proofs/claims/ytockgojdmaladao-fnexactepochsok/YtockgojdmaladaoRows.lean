/-
  No cell of these rows narrows 'for every input' (looked for: loops, veiled, ifaces, maps, wideKeys, modest, calm, conditions, laid).
  DERIVED. THE GIVEN ROWS OF THIS SEAT. 5 by the template 'for every input the law returns true; each argument reads behind the call as it read before'; 0 by the template 'total and deterministic' (their statements: YtockgojdmaladaoTotals.lean).
  GIVEN WITH THE SEED: the statements are not yours to turn. If you find one false, say at which input.
  Laid BY PROGRAM, IN A SANDBOX (cutbox-rows.mjs): the forced cells as the released guide's own fill.sh prints them over the translation 8ee114642f331c50… (all of the seat's roots in one cut). By AI agents, Wed Nov 11 2026. No macro, syntax, notation, axiom, sorry.
-/
import Derived.Test.YtockgojdmaladaoChecked
import GoSem.Claim
import GoSem.ClaimJoined
import GoSem.ClaimMapViews
import Derived.JoinedTies
import Derived.KernelRfl
namespace Go.Proofs.Ytockgojdmaladao
/- THE CELL 'sum', in the pinned program and in every row, IS THE sha256 OF THE DUMP (.gsa) THAT YtockgojdmaladaoProg.lean LOADS. Nothing in Lean hashes anything: it is a label: what it is worth is what the hold of that sum in a sandbox is worth. -/
noncomputable def Try.pinned : Pinned := { name := "ytockgojdmaladao", sum := "8ee114642f331c50c7ba21ef60dcfd26d67b90e849b6790d26d9b56fc855556a", checked := Try.checked }
namespace Rows
def none {H : Type} : Left H := { results := [], args := [] }

/-- 'laws.FnExactRunTasks': WHATEVER THE INPUT: true; the input reads as it did. -/
def fnExactRunTasksSpec : ChangeSpec := { name := "fnExactRunTasks", fn := fun _ => fun
  | [d1, d2] => { results := [.lit (.bool true)], args := [d1, d2] }
  | _ => none }
def fnExactRunTasksRow : OpenClaim := { program := "ytockgojdmaladao", sum := "8ee114642f331c50c7ba21ef60dcfd26d67b90e849b6790d26d9b56fc855556a", func := "loop.example/g00245/laws.FnExactRunTasks", spec := "fnExactRunTasks", inPlace := ["sync/atomic.StoreInt64", "sync/atomic.LoadInt64", "sync/atomic.CompareAndSwapInt64"], unfollowed := true, recurses := true, leaving := true, apart := false }
def FnExactRunTasksSaid : Prop := fnExactRunTasksRow.holds Try.pinned (OpenSpec.ofChange fnExactRunTasksSpec)

/-- ITS FALSE NEIGHBOUR: 'it returns false'. Refute it at one input. -/
def fnExactRunTasksWrong : ChangeSpec := { name := "fnExactRunTasks", fn := fun _ => fun
  | [d1, d2] => { results := [.lit (.bool false)], args := [d1, d2] }
  | _ => none }
def FnExactRunTasksWrongFalsely : Prop := fnExactRunTasksRow.holds Try.pinned (OpenSpec.ofChange fnExactRunTasksWrong)

/-- 'laws.FnExactInSomeOrder': WHATEVER THE INPUT: true; the input reads as it did. -/
def fnExactInSomeOrderSpec : ChangeSpec := { name := "fnExactInSomeOrder", fn := fun _ => fun
  | [d] => { results := [.lit (.bool true)], args := [d] }
  | _ => none }
def fnExactInSomeOrderRow : OpenClaim := { program := "ytockgojdmaladao", sum := "8ee114642f331c50c7ba21ef60dcfd26d67b90e849b6790d26d9b56fc855556a", func := "loop.example/g00245/laws.FnExactInSomeOrder", spec := "fnExactInSomeOrder", inPlace := ["slices.overlaps[loop.example/g00245/impl.Pair]"], unfollowed := true, recurses := true, leaving := true, apart := false }
def FnExactInSomeOrderSaid : Prop := fnExactInSomeOrderRow.holds Try.pinned (OpenSpec.ofChange fnExactInSomeOrderSpec)

/-- ITS FALSE NEIGHBOUR: 'it returns false'. Refute it at one input. -/
def fnExactInSomeOrderWrong : ChangeSpec := { name := "fnExactInSomeOrder", fn := fun _ => fun
  | [d] => { results := [.lit (.bool false)], args := [d] }
  | _ => none }
def FnExactInSomeOrderWrongFalsely : Prop := fnExactInSomeOrderRow.holds Try.pinned (OpenSpec.ofChange fnExactInSomeOrderWrong)

/-- 'laws.FnExactEpochsNew': WHATEVER THE INPUT: true; the input reads as it did. -/
def fnExactEpochsNewSpec : ChangeSpec := { name := "fnExactEpochsNew", fn := fun _ => fun
  | [d] => { results := [.lit (.bool true)], args := [d] }
  | _ => none }
def fnExactEpochsNewRow : OpenClaim := { program := "ytockgojdmaladao", sum := "8ee114642f331c50c7ba21ef60dcfd26d67b90e849b6790d26d9b56fc855556a", func := "loop.example/g00245/laws.FnExactEpochsNew", spec := "fnExactEpochsNew", apart := false }
def FnExactEpochsNewSaid : Prop := fnExactEpochsNewRow.holds Try.pinned (OpenSpec.ofChange fnExactEpochsNewSpec)

/-- ITS FALSE NEIGHBOUR: 'it returns false'. Refute it at one input. -/
def fnExactEpochsNewWrong : ChangeSpec := { name := "fnExactEpochsNew", fn := fun _ => fun
  | [d] => { results := [.lit (.bool false)], args := [d] }
  | _ => none }
def FnExactEpochsNewWrongFalsely : Prop := fnExactEpochsNewRow.holds Try.pinned (OpenSpec.ofChange fnExactEpochsNewWrong)

/-- 'laws.FnExactEpochsOk': WHATEVER THE INPUT: true; the input reads as it did. -/
def fnExactEpochsOkSpec : ChangeSpec := { name := "fnExactEpochsOk", fn := fun _ => fun
  | [d] => { results := [.lit (.bool true)], args := [d] }
  | _ => none }
def fnExactEpochsOkRow : OpenClaim := { program := "ytockgojdmaladao", sum := "8ee114642f331c50c7ba21ef60dcfd26d67b90e849b6790d26d9b56fc855556a", func := "loop.example/g00245/laws.FnExactEpochsOk", spec := "fnExactEpochsOk", apart := false }
def FnExactEpochsOkSaid : Prop := fnExactEpochsOkRow.holds Try.pinned (OpenSpec.ofChange fnExactEpochsOkSpec)

/-- ITS FALSE NEIGHBOUR: 'it returns false'. Refute it at one input. -/
def fnExactEpochsOkWrong : ChangeSpec := { name := "fnExactEpochsOk", fn := fun _ => fun
  | [d] => { results := [.lit (.bool false)], args := [d] }
  | _ => none }
def FnExactEpochsOkWrongFalsely : Prop := fnExactEpochsOkRow.holds Try.pinned (OpenSpec.ofChange fnExactEpochsOkWrong)

/-- 'laws.FnExactPinLook': WHATEVER THE INPUT: true; the input reads as it did. -/
def fnExactPinLookSpec : ChangeSpec := { name := "fnExactPinLook", fn := fun _ => fun
  | [d1, d2] => { results := [.lit (.bool true)], args := [d1, d2] }
  | _ => none }
def fnExactPinLookRow : OpenClaim := { program := "ytockgojdmaladao", sum := "8ee114642f331c50c7ba21ef60dcfd26d67b90e849b6790d26d9b56fc855556a", func := "loop.example/g00245/laws.FnExactPinLook", spec := "fnExactPinLook", apart := false }
def FnExactPinLookSaid : Prop := fnExactPinLookRow.holds Try.pinned (OpenSpec.ofChange fnExactPinLookSpec)

/-- ITS FALSE NEIGHBOUR: 'it returns false'. Refute it at one input. -/
def fnExactPinLookWrong : ChangeSpec := { name := "fnExactPinLook", fn := fun _ => fun
  | [d1, d2] => { results := [.lit (.bool false)], args := [d1, d2] }
  | _ => none }
def FnExactPinLookWrongFalsely : Prop := fnExactPinLookRow.holds Try.pinned (OpenSpec.ofChange fnExactPinLookWrong)

/- THE SECOND FORM. 'bulk': how many values and letters a reading holds, each counted each time it is reached (what is shared counts as often as it is met; a slice's spare places count too). A statement '..UptoSaid' is the law's where the arguments, and the package variables that the reading takes, are together of bulk at most 1048576: NARROWER than '..Said'. Prove '..Said' where nothing that the law and all that it calls make is longer than what came in: it says more and counts as full. Else prove '..UptoSaid'. A law counts once. -/
mutual
def uptoBulk {H : Type} : DataW H → Nat
  | .lit (.string bytes) => bytes.length + 1
  | .lit _ => 1
  | .nil => 1
  | .ptr d => uptoBulk d + 1
  | .slice elems spare => uptoBulkAll elems + uptoBulkAll spare + 1
  | .agg parts => uptoBulkAll parts + 1
  | .iface _ d => uptoBulk d + 1
  | .map entries => uptoBulkEntries entries + 1
  | .held _ => 1
def uptoBulkAll {H : Type} : List (DataW H) → Nat
  | [] => 0
  | d :: r => uptoBulk d + uptoBulkAll r
def uptoBulkEntries {H : Type} : List (Lit × DataW H) → Nat
  | [] => 0
  | x :: r => uptoBulkEntry x + uptoBulkEntries r
def uptoBulkEntry {H : Type} : Lit × DataW H → Nat
  | (.string bytes, d) => bytes.length + uptoBulk d + 1
  | (_, d) => uptoBulk d + 1
 end
def uptoSmall : (H : Type) → List (DataW H) → Bool := fun _ ds => decide (uptoBulkAll ds ≤ 1048576)
def OpenSpec.upto (s : _root_.Go.ChangeSpec) : _root_.Go.OpenSpec := { _root_.Go.OpenSpec.ofChange s with cond := some uptoSmall }

/-- 'laws.FnExactRunTasks', WHERE WHAT IT READS IS OF BULK AT MOST 1048576: true; the input reads as it did. -/
def fnExactRunTasksUptoRow : OpenClaim := { program := "ytockgojdmaladao", sum := "8ee114642f331c50c7ba21ef60dcfd26d67b90e849b6790d26d9b56fc855556a", func := "loop.example/g00245/laws.FnExactRunTasks", spec := "fnExactRunTasks", inPlace := ["sync/atomic.StoreInt64", "sync/atomic.LoadInt64", "sync/atomic.CompareAndSwapInt64"], unfollowed := true, recurses := true, leaving := true, apart := false, narrowed := true }
def FnExactRunTasksUptoSaid : Prop := fnExactRunTasksUptoRow.holds Try.pinned (OpenSpec.upto fnExactRunTasksSpec)

/-- 'laws.FnExactInSomeOrder', WHERE WHAT IT READS IS OF BULK AT MOST 1048576: true; the input reads as it did. -/
def fnExactInSomeOrderUptoRow : OpenClaim := { program := "ytockgojdmaladao", sum := "8ee114642f331c50c7ba21ef60dcfd26d67b90e849b6790d26d9b56fc855556a", func := "loop.example/g00245/laws.FnExactInSomeOrder", spec := "fnExactInSomeOrder", inPlace := ["slices.overlaps[loop.example/g00245/impl.Pair]"], unfollowed := true, recurses := true, leaving := true, apart := false, narrowed := true }
def FnExactInSomeOrderUptoSaid : Prop := fnExactInSomeOrderUptoRow.holds Try.pinned (OpenSpec.upto fnExactInSomeOrderSpec)

/-- 'laws.FnExactEpochsNew', WHERE WHAT IT READS IS OF BULK AT MOST 1048576: true; the input reads as it did. -/
def fnExactEpochsNewUptoRow : OpenClaim := { program := "ytockgojdmaladao", sum := "8ee114642f331c50c7ba21ef60dcfd26d67b90e849b6790d26d9b56fc855556a", func := "loop.example/g00245/laws.FnExactEpochsNew", spec := "fnExactEpochsNew", apart := false, narrowed := true }
def FnExactEpochsNewUptoSaid : Prop := fnExactEpochsNewUptoRow.holds Try.pinned (OpenSpec.upto fnExactEpochsNewSpec)

/-- 'laws.FnExactEpochsOk', WHERE WHAT IT READS IS OF BULK AT MOST 1048576: true; the input reads as it did. -/
def fnExactEpochsOkUptoRow : OpenClaim := { program := "ytockgojdmaladao", sum := "8ee114642f331c50c7ba21ef60dcfd26d67b90e849b6790d26d9b56fc855556a", func := "loop.example/g00245/laws.FnExactEpochsOk", spec := "fnExactEpochsOk", apart := false, narrowed := true }
def FnExactEpochsOkUptoSaid : Prop := fnExactEpochsOkUptoRow.holds Try.pinned (OpenSpec.upto fnExactEpochsOkSpec)

/-- 'laws.FnExactPinLook', WHERE WHAT IT READS IS OF BULK AT MOST 1048576: true; the input reads as it did. -/
def fnExactPinLookUptoRow : OpenClaim := { program := "ytockgojdmaladao", sum := "8ee114642f331c50c7ba21ef60dcfd26d67b90e849b6790d26d9b56fc855556a", func := "loop.example/g00245/laws.FnExactPinLook", spec := "fnExactPinLook", apart := false, narrowed := true }
def FnExactPinLookUptoSaid : Prop := fnExactPinLookUptoRow.holds Try.pinned (OpenSpec.upto fnExactPinLookSpec)

end Rows
end Go.Proofs.Ytockgojdmaladao
