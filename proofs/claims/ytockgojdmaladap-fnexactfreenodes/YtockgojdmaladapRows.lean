/-
  No cell of these rows narrows 'for every input' (looked for: loops, veiled, ifaces, maps, wideKeys, modest, calm, conditions, laid).
  DERIVED. THE GIVEN ROWS OF THIS SEAT. 4 by the template 'for every input the law returns true; each argument reads behind the call as it read before'; 0 by the template 'total and deterministic' (their statements: YtockgojdmaladapTotals.lean).
  GIVEN WITH THE SEED: the statements are not yours to turn. If you find one false, say at which input.
  Laid BY PROGRAM, IN A SANDBOX (cutbox-rows.mjs): the forced cells as the released guide's own fill.sh prints them over the translation 3883659566141f93… (all of the seat's roots in one cut). By AI agents, Wed Nov 11 2026. No macro, syntax, notation, axiom, sorry.
-/
import Derived.Test.YtockgojdmaladapChecked
import GoSem.Claim
import GoSem.ClaimJoined
import GoSem.ClaimMapViews
import Derived.JoinedTies
import Derived.KernelRfl
namespace Go.Proofs.Ytockgojdmaladap
/- THE CELL 'sum', in the pinned program and in every row, IS THE sha256 OF THE DUMP (.gsa) THAT YtockgojdmaladapProg.lean LOADS. Nothing in Lean hashes anything: it is a label: what it is worth is what the hold of that sum in a sandbox is worth. -/
noncomputable def Try.pinned : Pinned := { name := "ytockgojdmaladap", sum := "3883659566141f9362c3b941a128f330742b024e4fb773d0780d894e00acffe3", checked := Try.checked }
namespace Rows
def none {H : Type} : Left H := { results := [], args := [] }

/-- 'laws.FnExactUnpinLook': WHATEVER THE INPUT: true; the input reads as it did. -/
def fnExactUnpinLookSpec : ChangeSpec := { name := "fnExactUnpinLook", fn := fun _ => fun
  | [d1, d2] => { results := [.lit (.bool true)], args := [d1, d2] }
  | _ => none }
def fnExactUnpinLookRow : OpenClaim := { program := "ytockgojdmaladap", sum := "3883659566141f9362c3b941a128f330742b024e4fb773d0780d894e00acffe3", func := "loop.example/g00245/laws.FnExactUnpinLook", spec := "fnExactUnpinLook", apart := false }
def FnExactUnpinLookSaid : Prop := fnExactUnpinLookRow.holds Try.pinned (OpenSpec.ofChange fnExactUnpinLookSpec)

/-- ITS FALSE NEIGHBOUR: 'it returns false'. Refute it at one input. -/
def fnExactUnpinLookWrong : ChangeSpec := { name := "fnExactUnpinLook", fn := fun _ => fun
  | [d1, d2] => { results := [.lit (.bool false)], args := [d1, d2] }
  | _ => none }
def FnExactUnpinLookWrongFalsely : Prop := fnExactUnpinLookRow.holds Try.pinned (OpenSpec.ofChange fnExactUnpinLookWrong)

/-- 'laws.FnExactRetireNode': WHATEVER THE INPUT: true; the input reads as it did. -/
def fnExactRetireNodeSpec : ChangeSpec := { name := "fnExactRetireNode", fn := fun _ => fun
  | [d1, d2] => { results := [.lit (.bool true)], args := [d1, d2] }
  | _ => none }
def fnExactRetireNodeRow : OpenClaim := { program := "ytockgojdmaladap", sum := "3883659566141f9362c3b941a128f330742b024e4fb773d0780d894e00acffe3", func := "loop.example/g00245/laws.FnExactRetireNode", spec := "fnExactRetireNode", unfollowed := true, recurses := true, apart := false }
def FnExactRetireNodeSaid : Prop := fnExactRetireNodeRow.holds Try.pinned (OpenSpec.ofChange fnExactRetireNodeSpec)

/-- ITS FALSE NEIGHBOUR: 'it returns false'. Refute it at one input. -/
def fnExactRetireNodeWrong : ChangeSpec := { name := "fnExactRetireNode", fn := fun _ => fun
  | [d1, d2] => { results := [.lit (.bool false)], args := [d1, d2] }
  | _ => none }
def FnExactRetireNodeWrongFalsely : Prop := fnExactRetireNodeRow.holds Try.pinned (OpenSpec.ofChange fnExactRetireNodeWrong)

/-- 'laws.FnExactAdvanceEpoch': WHATEVER THE INPUT: true; the input reads as it did. -/
def fnExactAdvanceEpochSpec : ChangeSpec := { name := "fnExactAdvanceEpoch", fn := fun _ => fun
  | [d] => { results := [.lit (.bool true)], args := [d] }
  | _ => none }
def fnExactAdvanceEpochRow : OpenClaim := { program := "ytockgojdmaladap", sum := "3883659566141f9362c3b941a128f330742b024e4fb773d0780d894e00acffe3", func := "loop.example/g00245/laws.FnExactAdvanceEpoch", spec := "fnExactAdvanceEpoch", apart := false }
def FnExactAdvanceEpochSaid : Prop := fnExactAdvanceEpochRow.holds Try.pinned (OpenSpec.ofChange fnExactAdvanceEpochSpec)

/-- ITS FALSE NEIGHBOUR: 'it returns false'. Refute it at one input. -/
def fnExactAdvanceEpochWrong : ChangeSpec := { name := "fnExactAdvanceEpoch", fn := fun _ => fun
  | [d] => { results := [.lit (.bool false)], args := [d] }
  | _ => none }
def FnExactAdvanceEpochWrongFalsely : Prop := fnExactAdvanceEpochRow.holds Try.pinned (OpenSpec.ofChange fnExactAdvanceEpochWrong)

/-- 'laws.FnExactFreeNodes': WHATEVER THE INPUT: true; the input reads as it did. -/
def fnExactFreeNodesSpec : ChangeSpec := { name := "fnExactFreeNodes", fn := fun _ => fun
  | [d] => { results := [.lit (.bool true)], args := [d] }
  | _ => none }
def fnExactFreeNodesRow : OpenClaim := { program := "ytockgojdmaladap", sum := "3883659566141f9362c3b941a128f330742b024e4fb773d0780d894e00acffe3", func := "loop.example/g00245/laws.FnExactFreeNodes", spec := "fnExactFreeNodes", apart := false }
def FnExactFreeNodesSaid : Prop := fnExactFreeNodesRow.holds Try.pinned (OpenSpec.ofChange fnExactFreeNodesSpec)

/-- ITS FALSE NEIGHBOUR: 'it returns false'. Refute it at one input. -/
def fnExactFreeNodesWrong : ChangeSpec := { name := "fnExactFreeNodes", fn := fun _ => fun
  | [d] => { results := [.lit (.bool false)], args := [d] }
  | _ => none }
def FnExactFreeNodesWrongFalsely : Prop := fnExactFreeNodesRow.holds Try.pinned (OpenSpec.ofChange fnExactFreeNodesWrong)

/- THE SECOND FORM. 'bulk': how many values and letters a reading holds, each counted each time it is reached (what is shared counts as often as it is met; a slice's spare places count too). A statement '..UptoSaid' is the law's where the arguments, and the package variables that the reading takes, are together of bulk at most 1048576: NARROWER than '..Said'. Prove '..Said' where nothing that the law and all that it calls make is longer than what came in: it says more and counts as full. Else prove '..UptoSaid'. A law counts once. -/
mutual
def uptoBulk {H : Type} : DataW H → Nat
  | .lit (.string bytes) => bytes.length + 1
  | .lit _ => 1
  | .nil => 1
  | .ptr d => uptoBulk d + 1
  | .slice elems spare => uptoBulkAll elems + uptoBulkAll spare + 1
  | .agg parts => uptoBulkAll parts + 1
  | .iface _ d => uptoBulk d + 1
  | .map entries => uptoBulkEntries entries + 1
  | .held _ => 1
def uptoBulkAll {H : Type} : List (DataW H) → Nat
  | [] => 0
  | d :: r => uptoBulk d + uptoBulkAll r
def uptoBulkEntries {H : Type} : List (Lit × DataW H) → Nat
  | [] => 0
  | x :: r => uptoBulkEntry x + uptoBulkEntries r
def uptoBulkEntry {H : Type} : Lit × DataW H → Nat
  | (.string bytes, d) => bytes.length + uptoBulk d + 1
  | (_, d) => uptoBulk d + 1
 end
def uptoSmall : (H : Type) → List (DataW H) → Bool := fun _ ds => decide (uptoBulkAll ds ≤ 1048576)
def OpenSpec.upto (s : _root_.Go.ChangeSpec) : _root_.Go.OpenSpec := { _root_.Go.OpenSpec.ofChange s with cond := some uptoSmall }

/-- 'laws.FnExactUnpinLook', WHERE WHAT IT READS IS OF BULK AT MOST 1048576: true; the input reads as it did. -/
def fnExactUnpinLookUptoRow : OpenClaim := { program := "ytockgojdmaladap", sum := "3883659566141f9362c3b941a128f330742b024e4fb773d0780d894e00acffe3", func := "loop.example/g00245/laws.FnExactUnpinLook", spec := "fnExactUnpinLook", apart := false, narrowed := true }
def FnExactUnpinLookUptoSaid : Prop := fnExactUnpinLookUptoRow.holds Try.pinned (OpenSpec.upto fnExactUnpinLookSpec)

/-- 'laws.FnExactRetireNode', WHERE WHAT IT READS IS OF BULK AT MOST 1048576: true; the input reads as it did. -/
def fnExactRetireNodeUptoRow : OpenClaim := { program := "ytockgojdmaladap", sum := "3883659566141f9362c3b941a128f330742b024e4fb773d0780d894e00acffe3", func := "loop.example/g00245/laws.FnExactRetireNode", spec := "fnExactRetireNode", unfollowed := true, recurses := true, apart := false, narrowed := true }
def FnExactRetireNodeUptoSaid : Prop := fnExactRetireNodeUptoRow.holds Try.pinned (OpenSpec.upto fnExactRetireNodeSpec)

/-- 'laws.FnExactAdvanceEpoch', WHERE WHAT IT READS IS OF BULK AT MOST 1048576: true; the input reads as it did. -/
def fnExactAdvanceEpochUptoRow : OpenClaim := { program := "ytockgojdmaladap", sum := "3883659566141f9362c3b941a128f330742b024e4fb773d0780d894e00acffe3", func := "loop.example/g00245/laws.FnExactAdvanceEpoch", spec := "fnExactAdvanceEpoch", apart := false, narrowed := true }
def FnExactAdvanceEpochUptoSaid : Prop := fnExactAdvanceEpochUptoRow.holds Try.pinned (OpenSpec.upto fnExactAdvanceEpochSpec)

/-- 'laws.FnExactFreeNodes', WHERE WHAT IT READS IS OF BULK AT MOST 1048576: true; the input reads as it did. -/
def fnExactFreeNodesUptoRow : OpenClaim := { program := "ytockgojdmaladap", sum := "3883659566141f9362c3b941a128f330742b024e4fb773d0780d894e00acffe3", func := "loop.example/g00245/laws.FnExactFreeNodes", spec := "fnExactFreeNodes", apart := false, narrowed := true }
def FnExactFreeNodesUptoSaid : Prop := fnExactFreeNodesUptoRow.holds Try.pinned (OpenSpec.upto fnExactFreeNodesSpec)

end Rows
end Go.Proofs.Ytockgojdmaladap
