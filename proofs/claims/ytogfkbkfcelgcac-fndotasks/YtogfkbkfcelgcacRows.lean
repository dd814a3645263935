/-
  No cell of these rows narrows 'for every input' (looked for: loops, veiled, ifaces, maps, wideKeys, modest, calm, conditions, laid).
  DERIVED. THE GIVEN ROWS OF THIS SEAT. 2 by the template 'for every input the law returns true; each argument reads behind the call as it read before'; 0 by the template 'total and deterministic' (their statements: YtogfkbkfcelgcacTotals.lean).
  GIVEN WITH THE SEED: the statements are not yours to turn. If you find one false, say at which input.
  Laid BY PROGRAM, IN A SANDBOX (cutbox-rows.mjs): the forced cells as the released guide's own fill.sh prints them over the translation d137aa9c7c66ffd6… (all of the seat's roots in one cut). By AI agents, Wed Nov 11 2026. No macro, syntax, notation, axiom, sorry.
-/
import Derived.Test.YtogfkbkfcelgcacChecked
import GoSem.Claim
import GoSem.ClaimJoined
import GoSem.ClaimMapViews
import Derived.JoinedTies
import Derived.KernelRfl
namespace Go.Proofs.Ytogfkbkfcelgcac
/- THE CELL 'sum', in the pinned program and in every row, IS THE sha256 OF THE DUMP (.gsa) THAT YtogfkbkfcelgcacProg.lean LOADS. Nothing in Lean hashes anything: it is a label: what it is worth is what the hold of that sum in a sandbox is worth. -/
noncomputable def Try.pinned : Pinned := { name := "ytogfkbkfcelgcac", sum := "d137aa9c7c66ffd6f7149ed72e9ec86e07a7dd624259867bf2cd008794dda90b", checked := Try.checked }
namespace Rows
def none {H : Type} : Left H := { results := [], args := [] }

/-- 'laws.FnOrders': WHATEVER THE INPUT: true; the input reads as it did. -/
def fnOrdersSpec : ChangeSpec := { name := "fnOrders", fn := fun _ => fun
  | [d] => { results := [.lit (.bool true)], args := [d] }
  | _ => none }
def fnOrdersRow : OpenClaim := { program := "ytogfkbkfcelgcac", sum := "d137aa9c7c66ffd6f7149ed72e9ec86e07a7dd624259867bf2cd008794dda90b", func := "loop.example/g00245/laws.FnOrders", spec := "fnOrders", inPlace := ["sync/atomic.StoreInt64", "sync/atomic.LoadInt64", "sync/atomic.CompareAndSwapInt64", "slices.overlaps[loop.example/g00245/impl.Pair]"], unfollowed := true, recurses := true, leaving := true, apart := false }
def FnOrdersSaid : Prop := fnOrdersRow.holds Try.pinned (OpenSpec.ofChange fnOrdersSpec)

/-- ITS FALSE NEIGHBOUR: 'it returns false'. Refute it at one input. -/
def fnOrdersWrong : ChangeSpec := { name := "fnOrders", fn := fun _ => fun
  | [d] => { results := [.lit (.bool false)], args := [d] }
  | _ => none }
def FnOrdersWrongFalsely : Prop := fnOrdersRow.holds Try.pinned (OpenSpec.ofChange fnOrdersWrong)

/-- 'laws.FnDoTasks': WHATEVER THE INPUT: true; the input reads as it did. -/
def fnDoTasksSpec : ChangeSpec := { name := "fnDoTasks", fn := fun _ => fun
  | [d] => { results := [.lit (.bool true)], args := [d] }
  | _ => none }
def fnDoTasksRow : OpenClaim := { program := "ytogfkbkfcelgcac", sum := "d137aa9c7c66ffd6f7149ed72e9ec86e07a7dd624259867bf2cd008794dda90b", func := "loop.example/g00245/laws.FnDoTasks", spec := "fnDoTasks", inPlace := ["slices.overlaps[loop.example/g00245/impl.Pair]"], unfollowed := true, recurses := true, leaving := true, apart := false }
def FnDoTasksSaid : Prop := fnDoTasksRow.holds Try.pinned (OpenSpec.ofChange fnDoTasksSpec)

/-- ITS FALSE NEIGHBOUR: 'it returns false'. Refute it at one input. -/
def fnDoTasksWrong : ChangeSpec := { name := "fnDoTasks", fn := fun _ => fun
  | [d] => { results := [.lit (.bool false)], args := [d] }
  | _ => none }
def FnDoTasksWrongFalsely : Prop := fnDoTasksRow.holds Try.pinned (OpenSpec.ofChange fnDoTasksWrong)

/- THE SECOND FORM. 'bulk': how many values and letters a reading holds, each counted each time it is reached (what is shared counts as often as it is met; a slice's spare places count too). A statement '..UptoSaid' is the law's where the arguments, and the package variables that the reading takes, are together of bulk at most 1048576: NARROWER than '..Said'. Prove '..Said' where nothing that the law and all that it calls make is longer than what came in: it says more and counts as full. Else prove '..UptoSaid'. A law counts once. -/
mutual
def uptoBulk {H : Type} : DataW H → Nat
  | .lit (.string bytes) => bytes.length + 1
  | .lit _ => 1
  | .nil => 1
  | .ptr d => uptoBulk d + 1
  | .slice elems spare => uptoBulkAll elems + uptoBulkAll spare + 1
  | .agg parts => uptoBulkAll parts + 1
  | .iface _ d => uptoBulk d + 1
  | .map entries => uptoBulkEntries entries + 1
  | .held _ => 1
def uptoBulkAll {H : Type} : List (DataW H) → Nat
  | [] => 0
  | d :: r => uptoBulk d + uptoBulkAll r
def uptoBulkEntries {H : Type} : List (Lit × DataW H) → Nat
  | [] => 0
  | x :: r => uptoBulkEntry x + uptoBulkEntries r
def uptoBulkEntry {H : Type} : Lit × DataW H → Nat
  | (.string bytes, d) => bytes.length + uptoBulk d + 1
  | (_, d) => uptoBulk d + 1
 end
def uptoSmall : (H : Type) → List (DataW H) → Bool := fun _ ds => decide (uptoBulkAll ds ≤ 1048576)
def OpenSpec.upto (s : _root_.Go.ChangeSpec) : _root_.Go.OpenSpec := { _root_.Go.OpenSpec.ofChange s with cond := some uptoSmall }

/-- 'laws.FnOrders', WHERE WHAT IT READS IS OF BULK AT MOST 1048576: true; the input reads as it did. -/
def fnOrdersUptoRow : OpenClaim := { program := "ytogfkbkfcelgcac", sum := "d137aa9c7c66ffd6f7149ed72e9ec86e07a7dd624259867bf2cd008794dda90b", func := "loop.example/g00245/laws.FnOrders", spec := "fnOrders", inPlace := ["sync/atomic.StoreInt64", "sync/atomic.LoadInt64", "sync/atomic.CompareAndSwapInt64", "slices.overlaps[loop.example/g00245/impl.Pair]"], unfollowed := true, recurses := true, leaving := true, apart := false, narrowed := true }
def FnOrdersUptoSaid : Prop := fnOrdersUptoRow.holds Try.pinned (OpenSpec.upto fnOrdersSpec)

/-- 'laws.FnDoTasks', WHERE WHAT IT READS IS OF BULK AT MOST 1048576: true; the input reads as it did. -/
def fnDoTasksUptoRow : OpenClaim := { program := "ytogfkbkfcelgcac", sum := "d137aa9c7c66ffd6f7149ed72e9ec86e07a7dd624259867bf2cd008794dda90b", func := "loop.example/g00245/laws.FnDoTasks", spec := "fnDoTasks", inPlace := ["slices.overlaps[loop.example/g00245/impl.Pair]"], unfollowed := true, recurses := true, leaving := true, apart := false, narrowed := true }
def FnDoTasksUptoSaid : Prop := fnDoTasksUptoRow.holds Try.pinned (OpenSpec.upto fnDoTasksSpec)

end Rows
end Go.Proofs.Ytogfkbkfcelgcac
