/-
  No cell of these rows narrows 'for every input' (looked for: loops, veiled, ifaces, maps, wideKeys, modest, calm, conditions, laid).
  DERIVED. THE GIVEN ROWS OF THIS SEAT. 4 by the template 'for every input the law returns true; each argument reads behind the call as it read before'; 0 by the template 'total and deterministic' (their statements: YtonaaimefcgcnaaTotals.lean).
  GIVEN WITH THE SEED: the statements are not yours to turn. If you find one false, say at which input.
  Laid BY PROGRAM, IN A SANDBOX (cutbox-rows.mjs): the forced cells as the released guide's own fill.sh prints them over the translation c8f4012bea8afa79… (all of the seat's roots in one cut). By AI agents, Wed Nov 11 2026. No macro, syntax, notation, axiom, sorry.
-/
import Derived.Test.YtonaaimefcgcnaaChecked
import GoSem.Claim
import GoSem.ClaimJoined
import GoSem.ClaimMapViews
import Derived.JoinedTies
import Derived.KernelRfl
namespace Go.Proofs.Ytonaaimefcgcnaa
/- THE CELL 'sum', in the pinned program and in every row, IS THE sha256 OF THE DUMP (.gsa) THAT YtonaaimefcgcnaaProg.lean LOADS. Nothing in Lean hashes anything: it is a label: what it is worth is what the hold of that sum in a sandbox is worth. -/
noncomputable def Try.pinned : Pinned := { name := "ytonaaimefcgcnaa", sum := "c8f4012bea8afa79b3756662bd463cdbb473d5e8f327e9259002f549d16eefa7", checked := Try.checked }
namespace Rows
def none {H : Type} : Left H := { results := [], args := [] }

/-- 'laws.FnExactEventOk': WHATEVER THE INPUT: true; the input reads as it did. -/
def fnExactEventOkSpec : ChangeSpec := { name := "fnExactEventOk", fn := fun _ => fun
  | [d] => { results := [.lit (.bool true)], args := [d] }
  | _ => none }
def fnExactEventOkRow : OpenClaim := { program := "ytonaaimefcgcnaa", sum := "c8f4012bea8afa79b3756662bd463cdbb473d5e8f327e9259002f549d16eefa7", func := "loop.example/g00245/laws.FnExactEventOk", spec := "fnExactEventOk", apart := false }
def FnExactEventOkSaid : Prop := fnExactEventOkRow.holds Try.pinned (OpenSpec.ofChange fnExactEventOkSpec)

/-- ITS FALSE NEIGHBOUR: 'it returns false'. Refute it at one input. -/
def fnExactEventOkWrong : ChangeSpec := { name := "fnExactEventOk", fn := fun _ => fun
  | [d] => { results := [.lit (.bool false)], args := [d] }
  | _ => none }
def FnExactEventOkWrongFalsely : Prop := fnExactEventOkRow.holds Try.pinned (OpenSpec.ofChange fnExactEventOkWrong)

/-- 'laws.FnExactProxyOk': WHATEVER THE INPUT: true; the input reads as it did. -/
def fnExactProxyOkSpec : ChangeSpec := { name := "fnExactProxyOk", fn := fun _ => fun
  | [d] => { results := [.lit (.bool true)], args := [d] }
  | _ => none }
def fnExactProxyOkRow : OpenClaim := { program := "ytonaaimefcgcnaa", sum := "c8f4012bea8afa79b3756662bd463cdbb473d5e8f327e9259002f549d16eefa7", func := "loop.example/g00245/laws.FnExactProxyOk", spec := "fnExactProxyOk", unfollowed := true, recurses := true, apart := false }
def FnExactProxyOkSaid : Prop := fnExactProxyOkRow.holds Try.pinned (OpenSpec.ofChange fnExactProxyOkSpec)

/-- ITS FALSE NEIGHBOUR: 'it returns false'. Refute it at one input. -/
def fnExactProxyOkWrong : ChangeSpec := { name := "fnExactProxyOk", fn := fun _ => fun
  | [d] => { results := [.lit (.bool false)], args := [d] }
  | _ => none }
def FnExactProxyOkWrongFalsely : Prop := fnExactProxyOkRow.holds Try.pinned (OpenSpec.ofChange fnExactProxyOkWrong)

/-- 'laws.FnExactPassTime': WHATEVER THE INPUT: true; the input reads as it did. -/
def fnExactPassTimeSpec : ChangeSpec := { name := "fnExactPassTime", fn := fun _ => fun
  | [d1, d2] => { results := [.lit (.bool true)], args := [d1, d2] }
  | _ => none }
def fnExactPassTimeRow : OpenClaim := { program := "ytonaaimefcgcnaa", sum := "c8f4012bea8afa79b3756662bd463cdbb473d5e8f327e9259002f549d16eefa7", func := "loop.example/g00245/laws.FnExactPassTime", spec := "fnExactPassTime", apart := false }
def FnExactPassTimeSaid : Prop := fnExactPassTimeRow.holds Try.pinned (OpenSpec.ofChange fnExactPassTimeSpec)

/-- ITS FALSE NEIGHBOUR: 'it returns false'. Refute it at one input. -/
def fnExactPassTimeWrong : ChangeSpec := { name := "fnExactPassTime", fn := fun _ => fun
  | [d1, d2] => { results := [.lit (.bool false)], args := [d1, d2] }
  | _ => none }
def FnExactPassTimeWrongFalsely : Prop := fnExactPassTimeRow.holds Try.pinned (OpenSpec.ofChange fnExactPassTimeWrong)

/-- 'laws.FnExactLeaveClient': WHATEVER THE INPUT: true; the input reads as it did. -/
def fnExactLeaveClientSpec : ChangeSpec := { name := "fnExactLeaveClient", fn := fun _ => fun
  | [d1, d2] => { results := [.lit (.bool true)], args := [d1, d2] }
  | _ => none }
def fnExactLeaveClientRow : OpenClaim := { program := "ytonaaimefcgcnaa", sum := "c8f4012bea8afa79b3756662bd463cdbb473d5e8f327e9259002f549d16eefa7", func := "loop.example/g00245/laws.FnExactLeaveClient", spec := "fnExactLeaveClient", unfollowed := true, recurses := true, apart := false }
def FnExactLeaveClientSaid : Prop := fnExactLeaveClientRow.holds Try.pinned (OpenSpec.ofChange fnExactLeaveClientSpec)

/-- ITS FALSE NEIGHBOUR: 'it returns false'. Refute it at one input. -/
def fnExactLeaveClientWrong : ChangeSpec := { name := "fnExactLeaveClient", fn := fun _ => fun
  | [d1, d2] => { results := [.lit (.bool false)], args := [d1, d2] }
  | _ => none }
def FnExactLeaveClientWrongFalsely : Prop := fnExactLeaveClientRow.holds Try.pinned (OpenSpec.ofChange fnExactLeaveClientWrong)

/- THE SECOND FORM. 'bulk': how many values and letters a reading holds, each counted each time it is reached (what is shared counts as often as it is met; a slice's spare places count too). A statement '..UptoSaid' is the law's where the arguments, and the package variables that the reading takes, are together of bulk at most 1048576: NARROWER than '..Said'. Prove '..Said' where nothing that the law and all that it calls make is longer than what came in: it says more and counts as full. Else prove '..UptoSaid'. A law counts once. -/
mutual
def uptoBulk {H : Type} : DataW H → Nat
  | .lit (.string bytes) => bytes.length + 1
  | .lit _ => 1
  | .nil => 1
  | .ptr d => uptoBulk d + 1
  | .slice elems spare => uptoBulkAll elems + uptoBulkAll spare + 1
  | .agg parts => uptoBulkAll parts + 1
  | .iface _ d => uptoBulk d + 1
  | .map entries => uptoBulkEntries entries + 1
  | .held _ => 1
def uptoBulkAll {H : Type} : List (DataW H) → Nat
  | [] => 0
  | d :: r => uptoBulk d + uptoBulkAll r
def uptoBulkEntries {H : Type} : List (Lit × DataW H) → Nat
  | [] => 0
  | x :: r => uptoBulkEntry x + uptoBulkEntries r
def uptoBulkEntry {H : Type} : Lit × DataW H → Nat
  | (.string bytes, d) => bytes.length + uptoBulk d + 1
  | (_, d) => uptoBulk d + 1
 end
def uptoSmall : (H : Type) → List (DataW H) → Bool := fun _ ds => decide (uptoBulkAll ds ≤ 1048576)
def OpenSpec.upto (s : _root_.Go.ChangeSpec) : _root_.Go.OpenSpec := { _root_.Go.OpenSpec.ofChange s with cond := some uptoSmall }

/-- 'laws.FnExactEventOk', WHERE WHAT IT READS IS OF BULK AT MOST 1048576: true; the input reads as it did. -/
def fnExactEventOkUptoRow : OpenClaim := { program := "ytonaaimefcgcnaa", sum := "c8f4012bea8afa79b3756662bd463cdbb473d5e8f327e9259002f549d16eefa7", func := "loop.example/g00245/laws.FnExactEventOk", spec := "fnExactEventOk", apart := false, narrowed := true }
def FnExactEventOkUptoSaid : Prop := fnExactEventOkUptoRow.holds Try.pinned (OpenSpec.upto fnExactEventOkSpec)

/-- 'laws.FnExactProxyOk', WHERE WHAT IT READS IS OF BULK AT MOST 1048576: true; the input reads as it did. -/
def fnExactProxyOkUptoRow : OpenClaim := { program := "ytonaaimefcgcnaa", sum := "c8f4012bea8afa79b3756662bd463cdbb473d5e8f327e9259002f549d16eefa7", func := "loop.example/g00245/laws.FnExactProxyOk", spec := "fnExactProxyOk", unfollowed := true, recurses := true, apart := false, narrowed := true }
def FnExactProxyOkUptoSaid : Prop := fnExactProxyOkUptoRow.holds Try.pinned (OpenSpec.upto fnExactProxyOkSpec)

/-- 'laws.FnExactPassTime', WHERE WHAT IT READS IS OF BULK AT MOST 1048576: true; the input reads as it did. -/
def fnExactPassTimeUptoRow : OpenClaim := { program := "ytonaaimefcgcnaa", sum := "c8f4012bea8afa79b3756662bd463cdbb473d5e8f327e9259002f549d16eefa7", func := "loop.example/g00245/laws.FnExactPassTime", spec := "fnExactPassTime", apart := false, narrowed := true }
def FnExactPassTimeUptoSaid : Prop := fnExactPassTimeUptoRow.holds Try.pinned (OpenSpec.upto fnExactPassTimeSpec)

/-- 'laws.FnExactLeaveClient', WHERE WHAT IT READS IS OF BULK AT MOST 1048576: true; the input reads as it did. -/
def fnExactLeaveClientUptoRow : OpenClaim := { program := "ytonaaimefcgcnaa", sum := "c8f4012bea8afa79b3756662bd463cdbb473d5e8f327e9259002f549d16eefa7", func := "loop.example/g00245/laws.FnExactLeaveClient", spec := "fnExactLeaveClient", unfollowed := true, recurses := true, apart := false, narrowed := true }
def FnExactLeaveClientUptoSaid : Prop := fnExactLeaveClientUptoRow.holds Try.pinned (OpenSpec.upto fnExactLeaveClientSpec)

end Rows
end Go.Proofs.Ytonaaimefcgcnaa
