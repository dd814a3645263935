/-
  No cell of these rows narrows 'for every input' (looked for: loops, veiled, ifaces, maps, wideKeys, modest, calm, conditions, laid).
  DERIVED. THE GIVEN ROWS OF THIS SEAT. 5 by the template 'for every input the law returns true; each argument reads behind the call as it read before'; 0 by the template 'total and deterministic' (their statements: YtmpnjijbahjinatTotals.lean).
  GIVEN WITH THE SEED: the statements are not yours to turn. If you find one false, say at which input.
  Laid BY PROGRAM, IN A SANDBOX (cutbox-rows.mjs): the forced cells as the released guide's own fill.sh prints them over the translation 3952335fdb9deba5… (all of the seat's roots in one cut). By AI agents, Wed Nov 11 2026. No macro, syntax, notation, axiom, sorry.
-/
import Derived.Test.YtmpnjijbahjinatChecked
import GoSem.Claim
import GoSem.ClaimJoined
import GoSem.ClaimMapViews
import Derived.JoinedTies
import Derived.KernelRfl
namespace Go.Proofs.Ytmpnjijbahjinat
/- THE CELL 'sum', in the pinned program and in every row, IS THE sha256 OF THE DUMP (.gsa) THAT YtmpnjijbahjinatProg.lean LOADS. Nothing in Lean hashes anything: it is a label: what it is worth is what the hold of that sum in a sandbox is worth. -/
noncomputable def Try.pinned : Pinned := { name := "ytmpnjijbahjinat", sum := "3952335fdb9deba53519358ca7b9644691dc4bd3f70437b07d5a272fb6b13b65", checked := Try.checked }
namespace Rows
def none {H : Type} : Left H := { results := [], args := [] }

/-- 'laws.FnExactPolicyNew': WHATEVER THE INPUT: true; the input reads as it did. -/
def fnExactPolicyNewSpec : ChangeSpec := { name := "fnExactPolicyNew", fn := fun _ => fun
  | [] => { results := [.lit (.bool true)], args := [] }
  | _ => none }
def fnExactPolicyNewRow : OpenClaim := { program := "ytmpnjijbahjinat", sum := "3952335fdb9deba53519358ca7b9644691dc4bd3f70437b07d5a272fb6b13b65", func := "loop.example/g00245/laws.FnExactPolicyNew", spec := "fnExactPolicyNew", apart := false }
def FnExactPolicyNewSaid : Prop := fnExactPolicyNewRow.holds Try.pinned (OpenSpec.ofChange fnExactPolicyNewSpec)

/-- ITS FALSE NEIGHBOUR: 'it returns false'. Refute it at one input. -/
def fnExactPolicyNewWrong : ChangeSpec := { name := "fnExactPolicyNew", fn := fun _ => fun
  | [] => { results := [.lit (.bool false)], args := [] }
  | _ => none }
def FnExactPolicyNewWrongFalsely : Prop := fnExactPolicyNewRow.holds Try.pinned (OpenSpec.ofChange fnExactPolicyNewWrong)

/-- 'laws.FnExactPolicyOk': WHATEVER THE INPUT: true; the input reads as it did. -/
def fnExactPolicyOkSpec : ChangeSpec := { name := "fnExactPolicyOk", fn := fun _ => fun
  | [d] => { results := [.lit (.bool true)], args := [d] }
  | _ => none }
def fnExactPolicyOkRow : OpenClaim := { program := "ytmpnjijbahjinat", sum := "3952335fdb9deba53519358ca7b9644691dc4bd3f70437b07d5a272fb6b13b65", func := "loop.example/g00245/laws.FnExactPolicyOk", spec := "fnExactPolicyOk", apart := false }
def FnExactPolicyOkSaid : Prop := fnExactPolicyOkRow.holds Try.pinned (OpenSpec.ofChange fnExactPolicyOkSpec)

/-- ITS FALSE NEIGHBOUR: 'it returns false'. Refute it at one input. -/
def fnExactPolicyOkWrong : ChangeSpec := { name := "fnExactPolicyOk", fn := fun _ => fun
  | [d] => { results := [.lit (.bool false)], args := [d] }
  | _ => none }
def FnExactPolicyOkWrongFalsely : Prop := fnExactPolicyOkRow.holds Try.pinned (OpenSpec.ofChange fnExactPolicyOkWrong)

/-- 'laws.FnExactPolicyHas': WHATEVER THE INPUT: true; the input reads as it did. -/
def fnExactPolicyHasSpec : ChangeSpec := { name := "fnExactPolicyHas", fn := fun _ => fun
  | [d1, d2] => { results := [.lit (.bool true)], args := [d1, d2] }
  | _ => none }
def fnExactPolicyHasRow : OpenClaim := { program := "ytmpnjijbahjinat", sum := "3952335fdb9deba53519358ca7b9644691dc4bd3f70437b07d5a272fb6b13b65", func := "loop.example/g00245/laws.FnExactPolicyHas", spec := "fnExactPolicyHas", apart := false }
def FnExactPolicyHasSaid : Prop := fnExactPolicyHasRow.holds Try.pinned (OpenSpec.ofChange fnExactPolicyHasSpec)

/-- ITS FALSE NEIGHBOUR: 'it returns false'. Refute it at one input. -/
def fnExactPolicyHasWrong : ChangeSpec := { name := "fnExactPolicyHas", fn := fun _ => fun
  | [d1, d2] => { results := [.lit (.bool false)], args := [d1, d2] }
  | _ => none }
def FnExactPolicyHasWrongFalsely : Prop := fnExactPolicyHasRow.holds Try.pinned (OpenSpec.ofChange fnExactPolicyHasWrong)

/-- 'laws.FnExactPolicyDrop': WHATEVER THE INPUT: true; the input reads as it did. -/
def fnExactPolicyDropSpec : ChangeSpec := { name := "fnExactPolicyDrop", fn := fun _ => fun
  | [d1, d2] => { results := [.lit (.bool true)], args := [d1, d2] }
  | _ => none }
def fnExactPolicyDropRow : OpenClaim := { program := "ytmpnjijbahjinat", sum := "3952335fdb9deba53519358ca7b9644691dc4bd3f70437b07d5a272fb6b13b65", func := "loop.example/g00245/laws.FnExactPolicyDrop", spec := "fnExactPolicyDrop", unfollowed := true, recurses := true, apart := false }
def FnExactPolicyDropSaid : Prop := fnExactPolicyDropRow.holds Try.pinned (OpenSpec.ofChange fnExactPolicyDropSpec)

/-- ITS FALSE NEIGHBOUR: 'it returns false'. Refute it at one input. -/
def fnExactPolicyDropWrong : ChangeSpec := { name := "fnExactPolicyDrop", fn := fun _ => fun
  | [d1, d2] => { results := [.lit (.bool false)], args := [d1, d2] }
  | _ => none }
def FnExactPolicyDropWrongFalsely : Prop := fnExactPolicyDropRow.holds Try.pinned (OpenSpec.ofChange fnExactPolicyDropWrong)

/-- 'laws.FnExactStreamNew': WHATEVER THE INPUT: true; the input reads as it did. -/
def fnExactStreamNewSpec : ChangeSpec := { name := "fnExactStreamNew", fn := fun _ => fun
  | [] => { results := [.lit (.bool true)], args := [] }
  | _ => none }
def fnExactStreamNewRow : OpenClaim := { program := "ytmpnjijbahjinat", sum := "3952335fdb9deba53519358ca7b9644691dc4bd3f70437b07d5a272fb6b13b65", func := "loop.example/g00245/laws.FnExactStreamNew", spec := "fnExactStreamNew", apart := false }
def FnExactStreamNewSaid : Prop := fnExactStreamNewRow.holds Try.pinned (OpenSpec.ofChange fnExactStreamNewSpec)

/-- ITS FALSE NEIGHBOUR: 'it returns false'. Refute it at one input. -/
def fnExactStreamNewWrong : ChangeSpec := { name := "fnExactStreamNew", fn := fun _ => fun
  | [] => { results := [.lit (.bool false)], args := [] }
  | _ => none }
def FnExactStreamNewWrongFalsely : Prop := fnExactStreamNewRow.holds Try.pinned (OpenSpec.ofChange fnExactStreamNewWrong)

/- THE SECOND FORM. 'bulk': how many values and letters a reading holds, each counted each time it is reached (what is shared counts as often as it is met; a slice's spare places count too). A statement '..UptoSaid' is the law's where the arguments, and the package variables that the reading takes, are together of bulk at most 1048576: NARROWER than '..Said'. Prove '..Said' where nothing that the law and all that it calls make is longer than what came in: it says more and counts as full. Else prove '..UptoSaid'. A law counts once. -/
mutual
def uptoBulk {H : Type} : DataW H → Nat
  | .lit (.string bytes) => bytes.length + 1
  | .lit _ => 1
  | .nil => 1
  | .ptr d => uptoBulk d + 1
  | .slice elems spare => uptoBulkAll elems + uptoBulkAll spare + 1
  | .agg parts => uptoBulkAll parts + 1
  | .iface _ d => uptoBulk d + 1
  | .map entries => uptoBulkEntries entries + 1
  | .held _ => 1
def uptoBulkAll {H : Type} : List (DataW H) → Nat
  | [] => 0
  | d :: r => uptoBulk d + uptoBulkAll r
def uptoBulkEntries {H : Type} : List (Lit × DataW H) → Nat
  | [] => 0
  | x :: r => uptoBulkEntry x + uptoBulkEntries r
def uptoBulkEntry {H : Type} : Lit × DataW H → Nat
  | (.string bytes, d) => bytes.length + uptoBulk d + 1
  | (_, d) => uptoBulk d + 1
 end
def uptoSmall : (H : Type) → List (DataW H) → Bool := fun _ ds => decide (uptoBulkAll ds ≤ 1048576)
def OpenSpec.upto (s : _root_.Go.ChangeSpec) : _root_.Go.OpenSpec := { _root_.Go.OpenSpec.ofChange s with cond := some uptoSmall }

/-- 'laws.FnExactPolicyNew', WHERE WHAT IT READS IS OF BULK AT MOST 1048576: true; the input reads as it did. -/
def fnExactPolicyNewUptoRow : OpenClaim := { program := "ytmpnjijbahjinat", sum := "3952335fdb9deba53519358ca7b9644691dc4bd3f70437b07d5a272fb6b13b65", func := "loop.example/g00245/laws.FnExactPolicyNew", spec := "fnExactPolicyNew", apart := false, narrowed := true }
def FnExactPolicyNewUptoSaid : Prop := fnExactPolicyNewUptoRow.holds Try.pinned (OpenSpec.upto fnExactPolicyNewSpec)

/-- 'laws.FnExactPolicyOk', WHERE WHAT IT READS IS OF BULK AT MOST 1048576: true; the input reads as it did. -/
def fnExactPolicyOkUptoRow : OpenClaim := { program := "ytmpnjijbahjinat", sum := "3952335fdb9deba53519358ca7b9644691dc4bd3f70437b07d5a272fb6b13b65", func := "loop.example/g00245/laws.FnExactPolicyOk", spec := "fnExactPolicyOk", apart := false, narrowed := true }
def FnExactPolicyOkUptoSaid : Prop := fnExactPolicyOkUptoRow.holds Try.pinned (OpenSpec.upto fnExactPolicyOkSpec)

/-- 'laws.FnExactPolicyHas', WHERE WHAT IT READS IS OF BULK AT MOST 1048576: true; the input reads as it did. -/
def fnExactPolicyHasUptoRow : OpenClaim := { program := "ytmpnjijbahjinat", sum := "3952335fdb9deba53519358ca7b9644691dc4bd3f70437b07d5a272fb6b13b65", func := "loop.example/g00245/laws.FnExactPolicyHas", spec := "fnExactPolicyHas", apart := false, narrowed := true }
def FnExactPolicyHasUptoSaid : Prop := fnExactPolicyHasUptoRow.holds Try.pinned (OpenSpec.upto fnExactPolicyHasSpec)

/-- 'laws.FnExactPolicyDrop', WHERE WHAT IT READS IS OF BULK AT MOST 1048576: true; the input reads as it did. -/
def fnExactPolicyDropUptoRow : OpenClaim := { program := "ytmpnjijbahjinat", sum := "3952335fdb9deba53519358ca7b9644691dc4bd3f70437b07d5a272fb6b13b65", func := "loop.example/g00245/laws.FnExactPolicyDrop", spec := "fnExactPolicyDrop", unfollowed := true, recurses := true, apart := false, narrowed := true }
def FnExactPolicyDropUptoSaid : Prop := fnExactPolicyDropUptoRow.holds Try.pinned (OpenSpec.upto fnExactPolicyDropSpec)

/-- 'laws.FnExactStreamNew', WHERE WHAT IT READS IS OF BULK AT MOST 1048576: true; the input reads as it did. -/
def fnExactStreamNewUptoRow : OpenClaim := { program := "ytmpnjijbahjinat", sum := "3952335fdb9deba53519358ca7b9644691dc4bd3f70437b07d5a272fb6b13b65", func := "loop.example/g00245/laws.FnExactStreamNew", spec := "fnExactStreamNew", apart := false, narrowed := true }
def FnExactStreamNewUptoSaid : Prop := fnExactStreamNewUptoRow.holds Try.pinned (OpenSpec.upto fnExactStreamNewSpec)

end Rows
end Go.Proofs.Ytmpnjijbahjinat
