/-
  No cell of these rows narrows 'for every input' (looked for: loops, veiled, ifaces, maps, wideKeys, modest, calm, conditions, laid).
  DERIVED. THE GIVEN ROWS OF THIS SEAT. 6 by the template 'for every input the law returns true; each argument reads behind the call as it read before'; 0 by the template 'total and deterministic' (their statements: YtockgojdmaladanTotals.lean).
  GIVEN WITH THE SEED: the statements are not yours to turn. If you find one false, say at which input.
  Laid BY PROGRAM, IN A SANDBOX (cutbox-rows.mjs): the forced cells as the released guide's own fill.sh prints them over the translation 62eca8c29b0f3479… (all of the seat's roots in one cut). By AI agents, Wed Nov 11 2026. No macro, syntax, notation, axiom, sorry.
-/
import Derived.Test.YtockgojdmaladanChecked
import GoSem.Claim
import GoSem.ClaimJoined
import GoSem.ClaimMapViews
import Derived.JoinedTies
import Derived.KernelRfl
namespace Go.Proofs.Ytockgojdmaladan
/- THE CELL 'sum', in the pinned program and in every row, IS THE sha256 OF THE DUMP (.gsa) THAT YtockgojdmaladanProg.lean LOADS. Nothing in Lean hashes anything: it is a label: what it is worth is what the hold of that sum in a sandbox is worth. -/
noncomputable def Try.pinned : Pinned := { name := "ytockgojdmaladan", sum := "62eca8c29b0f34799dc7a90cac6e9e04d908e249b90247fcb89a710e9d7fce63", checked := Try.checked }
namespace Rows
def none {H : Type} : Left H := { results := [], args := [] }

/-- 'laws.FnExactListNew': WHATEVER THE INPUT: true; the input reads as it did. -/
def fnExactListNewSpec : ChangeSpec := { name := "fnExactListNew", fn := fun _ => fun
  | [] => { results := [.lit (.bool true)], args := [] }
  | _ => none }
def fnExactListNewRow : OpenClaim := { program := "ytockgojdmaladan", sum := "62eca8c29b0f34799dc7a90cac6e9e04d908e249b90247fcb89a710e9d7fce63", func := "loop.example/g00245/laws.FnExactListNew", spec := "fnExactListNew", apart := false }
def FnExactListNewSaid : Prop := fnExactListNewRow.holds Try.pinned (OpenSpec.ofChange fnExactListNewSpec)

/-- ITS FALSE NEIGHBOUR: 'it returns false'. Refute it at one input. -/
def fnExactListNewWrong : ChangeSpec := { name := "fnExactListNew", fn := fun _ => fun
  | [] => { results := [.lit (.bool false)], args := [] }
  | _ => none }
def FnExactListNewWrongFalsely : Prop := fnExactListNewRow.holds Try.pinned (OpenSpec.ofChange fnExactListNewWrong)

/-- 'laws.FnExactTaskNew': WHATEVER THE INPUT: true; the input reads as it did. -/
def fnExactTaskNewSpec : ChangeSpec := { name := "fnExactTaskNew", fn := fun _ => fun
  | [d1, d2, d3, d4] => { results := [.lit (.bool true)], args := [d1, d2, d3, d4] }
  | _ => none }
def fnExactTaskNewRow : OpenClaim := { program := "ytockgojdmaladan", sum := "62eca8c29b0f34799dc7a90cac6e9e04d908e249b90247fcb89a710e9d7fce63", func := "loop.example/g00245/laws.FnExactTaskNew", spec := "fnExactTaskNew", apart := false }
def FnExactTaskNewSaid : Prop := fnExactTaskNewRow.holds Try.pinned (OpenSpec.ofChange fnExactTaskNewSpec)

/-- ITS FALSE NEIGHBOUR: 'it returns false'. Refute it at one input. -/
def fnExactTaskNewWrong : ChangeSpec := { name := "fnExactTaskNew", fn := fun _ => fun
  | [d1, d2, d3, d4] => { results := [.lit (.bool false)], args := [d1, d2, d3, d4] }
  | _ => none }
def FnExactTaskNewWrongFalsely : Prop := fnExactTaskNewRow.holds Try.pinned (OpenSpec.ofChange fnExactTaskNewWrong)

/-- 'laws.FnExactTaskOk': WHATEVER THE INPUT: true; the input reads as it did. -/
def fnExactTaskOkSpec : ChangeSpec := { name := "fnExactTaskOk", fn := fun _ => fun
  | [d] => { results := [.lit (.bool true)], args := [d] }
  | _ => none }
def fnExactTaskOkRow : OpenClaim := { program := "ytockgojdmaladan", sum := "62eca8c29b0f34799dc7a90cac6e9e04d908e249b90247fcb89a710e9d7fce63", func := "loop.example/g00245/laws.FnExactTaskOk", spec := "fnExactTaskOk", apart := false }
def FnExactTaskOkSaid : Prop := fnExactTaskOkRow.holds Try.pinned (OpenSpec.ofChange fnExactTaskOkSpec)

/-- ITS FALSE NEIGHBOUR: 'it returns false'. Refute it at one input. -/
def fnExactTaskOkWrong : ChangeSpec := { name := "fnExactTaskOk", fn := fun _ => fun
  | [d] => { results := [.lit (.bool false)], args := [d] }
  | _ => none }
def FnExactTaskOkWrongFalsely : Prop := fnExactTaskOkRow.holds Try.pinned (OpenSpec.ofChange fnExactTaskOkWrong)

/-- 'laws.FnExactStepTask': WHATEVER THE INPUT: true; the input reads as it did. -/
def fnExactStepTaskSpec : ChangeSpec := { name := "fnExactStepTask", fn := fun _ => fun
  | [d1, d2] => { results := [.lit (.bool true)], args := [d1, d2] }
  | _ => none }
def fnExactStepTaskRow : OpenClaim := { program := "ytockgojdmaladan", sum := "62eca8c29b0f34799dc7a90cac6e9e04d908e249b90247fcb89a710e9d7fce63", func := "loop.example/g00245/laws.FnExactStepTask", spec := "fnExactStepTask", inPlace := ["sync/atomic.StoreInt64", "sync/atomic.LoadInt64", "sync/atomic.CompareAndSwapInt64"], unfollowed := true, recurses := true, apart := false }
def FnExactStepTaskSaid : Prop := fnExactStepTaskRow.holds Try.pinned (OpenSpec.ofChange fnExactStepTaskSpec)

/-- ITS FALSE NEIGHBOUR: 'it returns false'. Refute it at one input. -/
def fnExactStepTaskWrong : ChangeSpec := { name := "fnExactStepTask", fn := fun _ => fun
  | [d1, d2] => { results := [.lit (.bool false)], args := [d1, d2] }
  | _ => none }
def FnExactStepTaskWrongFalsely : Prop := fnExactStepTaskRow.holds Try.pinned (OpenSpec.ofChange fnExactStepTaskWrong)

/-- 'laws.FnExactKeysOf': WHATEVER THE INPUT: true; the input reads as it did. -/
def fnExactKeysOfSpec : ChangeSpec := { name := "fnExactKeysOf", fn := fun _ => fun
  | [d] => { results := [.lit (.bool true)], args := [d] }
  | _ => none }
def fnExactKeysOfRow : OpenClaim := { program := "ytockgojdmaladan", sum := "62eca8c29b0f34799dc7a90cac6e9e04d908e249b90247fcb89a710e9d7fce63", func := "loop.example/g00245/laws.FnExactKeysOf", spec := "fnExactKeysOf", unfollowed := true, recurses := true, apart := false }
def FnExactKeysOfSaid : Prop := fnExactKeysOfRow.holds Try.pinned (OpenSpec.ofChange fnExactKeysOfSpec)

/-- ITS FALSE NEIGHBOUR: 'it returns false'. Refute it at one input. -/
def fnExactKeysOfWrong : ChangeSpec := { name := "fnExactKeysOf", fn := fun _ => fun
  | [d] => { results := [.lit (.bool false)], args := [d] }
  | _ => none }
def FnExactKeysOfWrongFalsely : Prop := fnExactKeysOfRow.holds Try.pinned (OpenSpec.ofChange fnExactKeysOfWrong)

/-- 'laws.FnExactValueOf': WHATEVER THE INPUT: true; the input reads as it did. -/
def fnExactValueOfSpec : ChangeSpec := { name := "fnExactValueOf", fn := fun _ => fun
  | [d1, d2] => { results := [.lit (.bool true)], args := [d1, d2] }
  | _ => none }
def fnExactValueOfRow : OpenClaim := { program := "ytockgojdmaladan", sum := "62eca8c29b0f34799dc7a90cac6e9e04d908e249b90247fcb89a710e9d7fce63", func := "loop.example/g00245/laws.FnExactValueOf", spec := "fnExactValueOf", unfollowed := true, recurses := true, apart := false }
def FnExactValueOfSaid : Prop := fnExactValueOfRow.holds Try.pinned (OpenSpec.ofChange fnExactValueOfSpec)

/-- ITS FALSE NEIGHBOUR: 'it returns false'. Refute it at one input. -/
def fnExactValueOfWrong : ChangeSpec := { name := "fnExactValueOf", fn := fun _ => fun
  | [d1, d2] => { results := [.lit (.bool false)], args := [d1, d2] }
  | _ => none }
def FnExactValueOfWrongFalsely : Prop := fnExactValueOfRow.holds Try.pinned (OpenSpec.ofChange fnExactValueOfWrong)

/- THE SECOND FORM. 'bulk': how many values and letters a reading holds, each counted each time it is reached (what is shared counts as often as it is met; a slice's spare places count too). A statement '..UptoSaid' is the law's where the arguments, and the package variables that the reading takes, are together of bulk at most 1048576: NARROWER than '..Said'. Prove '..Said' where nothing that the law and all that it calls make is longer than what came in: it says more and counts as full. Else prove '..UptoSaid'. A law counts once. -/
mutual
def uptoBulk {H : Type} : DataW H → Nat
  | .lit (.string bytes) => bytes.length + 1
  | .lit _ => 1
  | .nil => 1
  | .ptr d => uptoBulk d + 1
  | .slice elems spare => uptoBulkAll elems + uptoBulkAll spare + 1
  | .agg parts => uptoBulkAll parts + 1
  | .iface _ d => uptoBulk d + 1
  | .map entries => uptoBulkEntries entries + 1
  | .held _ => 1
def uptoBulkAll {H : Type} : List (DataW H) → Nat
  | [] => 0
  | d :: r => uptoBulk d + uptoBulkAll r
def uptoBulkEntries {H : Type} : List (Lit × DataW H) → Nat
  | [] => 0
  | x :: r => uptoBulkEntry x + uptoBulkEntries r
def uptoBulkEntry {H : Type} : Lit × DataW H → Nat
  | (.string bytes, d) => bytes.length + uptoBulk d + 1
  | (_, d) => uptoBulk d + 1
 end
def uptoSmall : (H : Type) → List (DataW H) → Bool := fun _ ds => decide (uptoBulkAll ds ≤ 1048576)
def OpenSpec.upto (s : _root_.Go.ChangeSpec) : _root_.Go.OpenSpec := { _root_.Go.OpenSpec.ofChange s with cond := some uptoSmall }

/-- 'laws.FnExactListNew', WHERE WHAT IT READS IS OF BULK AT MOST 1048576: true; the input reads as it did. -/
def fnExactListNewUptoRow : OpenClaim := { program := "ytockgojdmaladan", sum := "62eca8c29b0f34799dc7a90cac6e9e04d908e249b90247fcb89a710e9d7fce63", func := "loop.example/g00245/laws.FnExactListNew", spec := "fnExactListNew", apart := false, narrowed := true }
def FnExactListNewUptoSaid : Prop := fnExactListNewUptoRow.holds Try.pinned (OpenSpec.upto fnExactListNewSpec)

/-- 'laws.FnExactTaskNew', WHERE WHAT IT READS IS OF BULK AT MOST 1048576: true; the input reads as it did. -/
def fnExactTaskNewUptoRow : OpenClaim := { program := "ytockgojdmaladan", sum := "62eca8c29b0f34799dc7a90cac6e9e04d908e249b90247fcb89a710e9d7fce63", func := "loop.example/g00245/laws.FnExactTaskNew", spec := "fnExactTaskNew", apart := false, narrowed := true }
def FnExactTaskNewUptoSaid : Prop := fnExactTaskNewUptoRow.holds Try.pinned (OpenSpec.upto fnExactTaskNewSpec)

/-- 'laws.FnExactTaskOk', WHERE WHAT IT READS IS OF BULK AT MOST 1048576: true; the input reads as it did. -/
def fnExactTaskOkUptoRow : OpenClaim := { program := "ytockgojdmaladan", sum := "62eca8c29b0f34799dc7a90cac6e9e04d908e249b90247fcb89a710e9d7fce63", func := "loop.example/g00245/laws.FnExactTaskOk", spec := "fnExactTaskOk", apart := false, narrowed := true }
def FnExactTaskOkUptoSaid : Prop := fnExactTaskOkUptoRow.holds Try.pinned (OpenSpec.upto fnExactTaskOkSpec)

/-- 'laws.FnExactStepTask', WHERE WHAT IT READS IS OF BULK AT MOST 1048576: true; the input reads as it did. -/
def fnExactStepTaskUptoRow : OpenClaim := { program := "ytockgojdmaladan", sum := "62eca8c29b0f34799dc7a90cac6e9e04d908e249b90247fcb89a710e9d7fce63", func := "loop.example/g00245/laws.FnExactStepTask", spec := "fnExactStepTask", inPlace := ["sync/atomic.StoreInt64", "sync/atomic.LoadInt64", "sync/atomic.CompareAndSwapInt64"], unfollowed := true, recurses := true, apart := false, narrowed := true }
def FnExactStepTaskUptoSaid : Prop := fnExactStepTaskUptoRow.holds Try.pinned (OpenSpec.upto fnExactStepTaskSpec)

/-- 'laws.FnExactKeysOf', WHERE WHAT IT READS IS OF BULK AT MOST 1048576: true; the input reads as it did. -/
def fnExactKeysOfUptoRow : OpenClaim := { program := "ytockgojdmaladan", sum := "62eca8c29b0f34799dc7a90cac6e9e04d908e249b90247fcb89a710e9d7fce63", func := "loop.example/g00245/laws.FnExactKeysOf", spec := "fnExactKeysOf", unfollowed := true, recurses := true, apart := false, narrowed := true }
def FnExactKeysOfUptoSaid : Prop := fnExactKeysOfUptoRow.holds Try.pinned (OpenSpec.upto fnExactKeysOfSpec)

/-- 'laws.FnExactValueOf', WHERE WHAT IT READS IS OF BULK AT MOST 1048576: true; the input reads as it did. -/
def fnExactValueOfUptoRow : OpenClaim := { program := "ytockgojdmaladan", sum := "62eca8c29b0f34799dc7a90cac6e9e04d908e249b90247fcb89a710e9d7fce63", func := "loop.example/g00245/laws.FnExactValueOf", spec := "fnExactValueOf", unfollowed := true, recurses := true, apart := false, narrowed := true }
def FnExactValueOfUptoSaid : Prop := fnExactValueOfUptoRow.holds Try.pinned (OpenSpec.upto fnExactValueOfSpec)

end Rows
end Go.Proofs.Ytockgojdmaladan
