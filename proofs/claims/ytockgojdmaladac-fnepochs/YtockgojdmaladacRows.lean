/-
  No cell of these rows narrows 'for every input' (looked for: loops, veiled, ifaces, maps, wideKeys, modest, calm, conditions, laid).
  DERIVED. THE GIVEN ROWS OF THIS SEAT. 5 by the template 'for every input the law returns true; each argument reads behind the call as it read before'; 0 by the template 'total and deterministic' (their statements: YtockgojdmaladacTotals.lean).
  GIVEN WITH THE SEED: the statements are not yours to turn. If you find one false, say at which input.
  Laid BY PROGRAM, IN A SANDBOX (cutbox-rows.mjs): the forced cells as the released guide's own fill.sh prints them over the translation 3267c3271fc6dc33… (all of the seat's roots in one cut). By AI agents, Wed Nov 11 2026. No macro, syntax, notation, axiom, sorry.
-/
import Derived.Test.YtockgojdmaladacChecked
import GoSem.Claim
import GoSem.ClaimJoined
import GoSem.ClaimMapViews
import Derived.JoinedTies
import Derived.KernelRfl
namespace Go.Proofs.Ytockgojdmaladac
/- THE CELL 'sum', in the pinned program and in every row, IS THE sha256 OF THE DUMP (.gsa) THAT YtockgojdmaladacProg.lean LOADS. Nothing in Lean hashes anything: it is a label: what it is worth is what the hold of that sum in a sandbox is worth. -/
noncomputable def Try.pinned : Pinned := { name := "ytockgojdmaladac", sum := "3267c3271fc6dc339a151211844a931f768a02df50a625019d069ea868195d4d", checked := Try.checked }
namespace Rows
def none {H : Type} : Left H := { results := [], args := [] }

/-- 'laws.FnOrders': WHATEVER THE INPUT: true; the input reads as it did. -/
def fnOrdersSpec : ChangeSpec := { name := "fnOrders", fn := fun _ => fun
  | [d] => { results := [.lit (.bool true)], args := [d] }
  | _ => none }
def fnOrdersRow : OpenClaim := { program := "ytockgojdmaladac", sum := "3267c3271fc6dc339a151211844a931f768a02df50a625019d069ea868195d4d", func := "loop.example/g00245/laws.FnOrders", spec := "fnOrders", inPlace := ["sync/atomic.StoreInt64", "sync/atomic.LoadInt64", "sync/atomic.CompareAndSwapInt64", "slices.overlaps[loop.example/g00245/impl.Pair]"], unfollowed := true, recurses := true, leaving := true, apart := false }
def FnOrdersSaid : Prop := fnOrdersRow.holds Try.pinned (OpenSpec.ofChange fnOrdersSpec)

/-- ITS FALSE NEIGHBOUR: 'it returns false'. Refute it at one input. -/
def fnOrdersWrong : ChangeSpec := { name := "fnOrders", fn := fun _ => fun
  | [d] => { results := [.lit (.bool false)], args := [d] }
  | _ => none }
def FnOrdersWrongFalsely : Prop := fnOrdersRow.holds Try.pinned (OpenSpec.ofChange fnOrdersWrong)

/-- 'laws.FnDoTasks': WHATEVER THE INPUT: true; the input reads as it did. -/
def fnDoTasksSpec : ChangeSpec := { name := "fnDoTasks", fn := fun _ => fun
  | [d] => { results := [.lit (.bool true)], args := [d] }
  | _ => none }
def fnDoTasksRow : OpenClaim := { program := "ytockgojdmaladac", sum := "3267c3271fc6dc339a151211844a931f768a02df50a625019d069ea868195d4d", func := "loop.example/g00245/laws.FnDoTasks", spec := "fnDoTasks", inPlace := ["slices.overlaps[loop.example/g00245/impl.Pair]"], unfollowed := true, recurses := true, leaving := true, apart := false }
def FnDoTasksSaid : Prop := fnDoTasksRow.holds Try.pinned (OpenSpec.ofChange fnDoTasksSpec)

/-- ITS FALSE NEIGHBOUR: 'it returns false'. Refute it at one input. -/
def fnDoTasksWrong : ChangeSpec := { name := "fnDoTasks", fn := fun _ => fun
  | [d] => { results := [.lit (.bool false)], args := [d] }
  | _ => none }
def FnDoTasksWrongFalsely : Prop := fnDoTasksRow.holds Try.pinned (OpenSpec.ofChange fnDoTasksWrong)

/-- 'laws.FnLooks': WHATEVER THE INPUT: true; the input reads as it did. -/
def fnLooksSpec : ChangeSpec := { name := "fnLooks", fn := fun _ => fun
  | [d] => { results := [.lit (.bool true)], args := [d] }
  | _ => none }
def fnLooksRow : OpenClaim := { program := "ytockgojdmaladac", sum := "3267c3271fc6dc339a151211844a931f768a02df50a625019d069ea868195d4d", func := "loop.example/g00245/laws.FnLooks", spec := "fnLooks", unfollowed := true, recurses := true, leaving := true, apart := false }
def FnLooksSaid : Prop := fnLooksRow.holds Try.pinned (OpenSpec.ofChange fnLooksSpec)

/-- ITS FALSE NEIGHBOUR: 'it returns false'. Refute it at one input. -/
def fnLooksWrong : ChangeSpec := { name := "fnLooks", fn := fun _ => fun
  | [d] => { results := [.lit (.bool false)], args := [d] }
  | _ => none }
def FnLooksWrongFalsely : Prop := fnLooksRow.holds Try.pinned (OpenSpec.ofChange fnLooksWrong)

/-- 'laws.FnEpochs': WHATEVER THE INPUT: true; the input reads as it did. -/
def fnEpochsSpec : ChangeSpec := { name := "fnEpochs", fn := fun _ => fun
  | [d] => { results := [.lit (.bool true)], args := [d] }
  | _ => none }
def fnEpochsRow : OpenClaim := { program := "ytockgojdmaladac", sum := "3267c3271fc6dc339a151211844a931f768a02df50a625019d069ea868195d4d", func := "loop.example/g00245/laws.FnEpochs", spec := "fnEpochs", unfollowed := true, recurses := true, leaving := true, apart := false }
def FnEpochsSaid : Prop := fnEpochsRow.holds Try.pinned (OpenSpec.ofChange fnEpochsSpec)

/-- ITS FALSE NEIGHBOUR: 'it returns false'. Refute it at one input. -/
def fnEpochsWrong : ChangeSpec := { name := "fnEpochs", fn := fun _ => fun
  | [d] => { results := [.lit (.bool false)], args := [d] }
  | _ => none }
def FnEpochsWrongFalsely : Prop := fnEpochsRow.holds Try.pinned (OpenSpec.ofChange fnEpochsWrong)

/-- 'laws.FnAllFree': WHATEVER THE INPUT: true; the input reads as it did. -/
def fnAllFreeSpec : ChangeSpec := { name := "fnAllFree", fn := fun _ => fun
  | [d] => { results := [.lit (.bool true)], args := [d] }
  | _ => none }
def fnAllFreeRow : OpenClaim := { program := "ytockgojdmaladac", sum := "3267c3271fc6dc339a151211844a931f768a02df50a625019d069ea868195d4d", func := "loop.example/g00245/laws.FnAllFree", spec := "fnAllFree", apart := false }
def FnAllFreeSaid : Prop := fnAllFreeRow.holds Try.pinned (OpenSpec.ofChange fnAllFreeSpec)

/-- ITS FALSE NEIGHBOUR: 'it returns false'. Refute it at one input. -/
def fnAllFreeWrong : ChangeSpec := { name := "fnAllFree", fn := fun _ => fun
  | [d] => { results := [.lit (.bool false)], args := [d] }
  | _ => none }
def FnAllFreeWrongFalsely : Prop := fnAllFreeRow.holds Try.pinned (OpenSpec.ofChange fnAllFreeWrong)

/- THE SECOND FORM. 'bulk': how many values and letters a reading holds, each counted each time it is reached (what is shared counts as often as it is met; a slice's spare places count too). A statement '..UptoSaid' is the law's where the arguments, and the package variables that the reading takes, are together of bulk at most 1048576: NARROWER than '..Said'. Prove '..Said' where nothing that the law and all that it calls make is longer than what came in: it says more and counts as full. Else prove '..UptoSaid'. A law counts once. -/
mutual
def uptoBulk {H : Type} : DataW H → Nat
  | .lit (.string bytes) => bytes.length + 1
  | .lit _ => 1
  | .nil => 1
  | .ptr d => uptoBulk d + 1
  | .slice elems spare => uptoBulkAll elems + uptoBulkAll spare + 1
  | .agg parts => uptoBulkAll parts + 1
  | .iface _ d => uptoBulk d + 1
  | .map entries => uptoBulkEntries entries + 1
  | .held _ => 1
def uptoBulkAll {H : Type} : List (DataW H) → Nat
  | [] => 0
  | d :: r => uptoBulk d + uptoBulkAll r
def uptoBulkEntries {H : Type} : List (Lit × DataW H) → Nat
  | [] => 0
  | x :: r => uptoBulkEntry x + uptoBulkEntries r
def uptoBulkEntry {H : Type} : Lit × DataW H → Nat
  | (.string bytes, d) => bytes.length + uptoBulk d + 1
  | (_, d) => uptoBulk d + 1
 end
def uptoSmall : (H : Type) → List (DataW H) → Bool := fun _ ds => decide (uptoBulkAll ds ≤ 1048576)
def OpenSpec.upto (s : _root_.Go.ChangeSpec) : _root_.Go.OpenSpec := { _root_.Go.OpenSpec.ofChange s with cond := some uptoSmall }

/-- 'laws.FnOrders', WHERE WHAT IT READS IS OF BULK AT MOST 1048576: true; the input reads as it did. -/
def fnOrdersUptoRow : OpenClaim := { program := "ytockgojdmaladac", sum := "3267c3271fc6dc339a151211844a931f768a02df50a625019d069ea868195d4d", func := "loop.example/g00245/laws.FnOrders", spec := "fnOrders", inPlace := ["sync/atomic.StoreInt64", "sync/atomic.LoadInt64", "sync/atomic.CompareAndSwapInt64", "slices.overlaps[loop.example/g00245/impl.Pair]"], unfollowed := true, recurses := true, leaving := true, apart := false, narrowed := true }
def FnOrdersUptoSaid : Prop := fnOrdersUptoRow.holds Try.pinned (OpenSpec.upto fnOrdersSpec)

/-- 'laws.FnDoTasks', WHERE WHAT IT READS IS OF BULK AT MOST 1048576: true; the input reads as it did. -/
def fnDoTasksUptoRow : OpenClaim := { program := "ytockgojdmaladac", sum := "3267c3271fc6dc339a151211844a931f768a02df50a625019d069ea868195d4d", func := "loop.example/g00245/laws.FnDoTasks", spec := "fnDoTasks", inPlace := ["slices.overlaps[loop.example/g00245/impl.Pair]"], unfollowed := true, recurses := true, leaving := true, apart := false, narrowed := true }
def FnDoTasksUptoSaid : Prop := fnDoTasksUptoRow.holds Try.pinned (OpenSpec.upto fnDoTasksSpec)

/-- 'laws.FnLooks', WHERE WHAT IT READS IS OF BULK AT MOST 1048576: true; the input reads as it did. -/
def fnLooksUptoRow : OpenClaim := { program := "ytockgojdmaladac", sum := "3267c3271fc6dc339a151211844a931f768a02df50a625019d069ea868195d4d", func := "loop.example/g00245/laws.FnLooks", spec := "fnLooks", unfollowed := true, recurses := true, leaving := true, apart := false, narrowed := true }
def FnLooksUptoSaid : Prop := fnLooksUptoRow.holds Try.pinned (OpenSpec.upto fnLooksSpec)

/-- 'laws.FnEpochs', WHERE WHAT IT READS IS OF BULK AT MOST 1048576: true; the input reads as it did. -/
def fnEpochsUptoRow : OpenClaim := { program := "ytockgojdmaladac", sum := "3267c3271fc6dc339a151211844a931f768a02df50a625019d069ea868195d4d", func := "loop.example/g00245/laws.FnEpochs", spec := "fnEpochs", unfollowed := true, recurses := true, leaving := true, apart := false, narrowed := true }
def FnEpochsUptoSaid : Prop := fnEpochsUptoRow.holds Try.pinned (OpenSpec.upto fnEpochsSpec)

/-- 'laws.FnAllFree', WHERE WHAT IT READS IS OF BULK AT MOST 1048576: true; the input reads as it did. -/
def fnAllFreeUptoRow : OpenClaim := { program := "ytockgojdmaladac", sum := "3267c3271fc6dc339a151211844a931f768a02df50a625019d069ea868195d4d", func := "loop.example/g00245/laws.FnAllFree", spec := "fnAllFree", apart := false, narrowed := true }
def FnAllFreeUptoSaid : Prop := fnAllFreeUptoRow.holds Try.pinned (OpenSpec.upto fnAllFreeSpec)

end Rows
end Go.Proofs.Ytockgojdmaladac
