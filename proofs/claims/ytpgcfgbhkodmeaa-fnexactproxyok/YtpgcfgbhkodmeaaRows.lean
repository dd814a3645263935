/-
  No cell of these rows narrows 'for every input' (looked for: loops, veiled, ifaces, maps, wideKeys, modest, calm, conditions, laid).
  DERIVED. THE GIVEN ROWS OF THIS SEAT. 4 by the template 'for every input the law returns true; each argument reads behind the call as it read before'; 0 by the template 'total and deterministic' (their statements: YtpgcfgbhkodmeaaTotals.lean).
  GIVEN WITH THE SEED: the statements are not yours to turn. If you find one false, say at which input.
  Laid BY PROGRAM, IN A SANDBOX (cutbox-rows.mjs): the forced cells as the released guide's own fill.sh prints them over the translation 4703333ee29dc622… (all of the seat's roots in one cut). By AI agents, Wed Nov 11 2026. No macro, syntax, notation, axiom, sorry.
-/
import Derived.Test.YtpgcfgbhkodmeaaChecked
import GoSem.Claim
import GoSem.ClaimJoined
import GoSem.ClaimMapViews
import Derived.JoinedTies
import Derived.KernelRfl
namespace Go.Proofs.Ytpgcfgbhkodmeaa
/- THE CELL 'sum', in the pinned program and in every row, IS THE sha256 OF THE DUMP (.gsa) THAT YtpgcfgbhkodmeaaProg.lean LOADS. Nothing in Lean hashes anything: it is a label: what it is worth is what the hold of that sum in a sandbox is worth. -/
noncomputable def Try.pinned : Pinned := { name := "ytpgcfgbhkodmeaa", sum := "4703333ee29dc622ca3fbd4f4c424d866b9d1f744bbdda5065dc5706d056a90b", checked := Try.checked }
namespace Rows
def none {H : Type} : Left H := { results := [], args := [] }

/-- 'laws.FnExactOneEach': WHATEVER THE INPUT: true; the input reads as it did. -/
def fnExactOneEachSpec : ChangeSpec := { name := "fnExactOneEach", fn := fun _ => fun
  | [d] => { results := [.lit (.bool true)], args := [d] }
  | _ => none }
def fnExactOneEachRow : OpenClaim := { program := "ytpgcfgbhkodmeaa", sum := "4703333ee29dc622ca3fbd4f4c424d866b9d1f744bbdda5065dc5706d056a90b", func := "loop.example/g00245/laws.FnExactOneEach", spec := "fnExactOneEach", unfollowed := true, recurses := true, apart := false }
def FnExactOneEachSaid : Prop := fnExactOneEachRow.holds Try.pinned (OpenSpec.ofChange fnExactOneEachSpec)

/-- ITS FALSE NEIGHBOUR: 'it returns false'. Refute it at one input. -/
def fnExactOneEachWrong : ChangeSpec := { name := "fnExactOneEach", fn := fun _ => fun
  | [d] => { results := [.lit (.bool false)], args := [d] }
  | _ => none }
def FnExactOneEachWrongFalsely : Prop := fnExactOneEachRow.holds Try.pinned (OpenSpec.ofChange fnExactOneEachWrong)

/-- 'laws.FnExactStoredRight': WHATEVER THE INPUT: true; the input reads as it did. -/
def fnExactStoredRightSpec : ChangeSpec := { name := "fnExactStoredRight", fn := fun _ => fun
  | [d] => { results := [.lit (.bool true)], args := [d] }
  | _ => none }
def fnExactStoredRightRow : OpenClaim := { program := "ytpgcfgbhkodmeaa", sum := "4703333ee29dc622ca3fbd4f4c424d866b9d1f744bbdda5065dc5706d056a90b", func := "loop.example/g00245/laws.FnExactStoredRight", spec := "fnExactStoredRight", apart := false }
def FnExactStoredRightSaid : Prop := fnExactStoredRightRow.holds Try.pinned (OpenSpec.ofChange fnExactStoredRightSpec)

/-- ITS FALSE NEIGHBOUR: 'it returns false'. Refute it at one input. -/
def fnExactStoredRightWrong : ChangeSpec := { name := "fnExactStoredRight", fn := fun _ => fun
  | [d] => { results := [.lit (.bool false)], args := [d] }
  | _ => none }
def FnExactStoredRightWrongFalsely : Prop := fnExactStoredRightRow.holds Try.pinned (OpenSpec.ofChange fnExactStoredRightWrong)

/-- 'laws.FnExactGotRight': WHATEVER THE INPUT: true; the input reads as it did. -/
def fnExactGotRightSpec : ChangeSpec := { name := "fnExactGotRight", fn := fun _ => fun
  | [d] => { results := [.lit (.bool true)], args := [d] }
  | _ => none }
def fnExactGotRightRow : OpenClaim := { program := "ytpgcfgbhkodmeaa", sum := "4703333ee29dc622ca3fbd4f4c424d866b9d1f744bbdda5065dc5706d056a90b", func := "loop.example/g00245/laws.FnExactGotRight", spec := "fnExactGotRight", unfollowed := true, recurses := true, apart := false }
def FnExactGotRightSaid : Prop := fnExactGotRightRow.holds Try.pinned (OpenSpec.ofChange fnExactGotRightSpec)

/-- ITS FALSE NEIGHBOUR: 'it returns false'. Refute it at one input. -/
def fnExactGotRightWrong : ChangeSpec := { name := "fnExactGotRight", fn := fun _ => fun
  | [d] => { results := [.lit (.bool false)], args := [d] }
  | _ => none }
def FnExactGotRightWrongFalsely : Prop := fnExactGotRightRow.holds Try.pinned (OpenSpec.ofChange fnExactGotRightWrong)

/-- 'laws.FnExactProxyOk': WHATEVER THE INPUT: true; the input reads as it did. -/
def fnExactProxyOkSpec : ChangeSpec := { name := "fnExactProxyOk", fn := fun _ => fun
  | [d] => { results := [.lit (.bool true)], args := [d] }
  | _ => none }
def fnExactProxyOkRow : OpenClaim := { program := "ytpgcfgbhkodmeaa", sum := "4703333ee29dc622ca3fbd4f4c424d866b9d1f744bbdda5065dc5706d056a90b", func := "loop.example/g00245/laws.FnExactProxyOk", spec := "fnExactProxyOk", unfollowed := true, recurses := true, apart := false }
def FnExactProxyOkSaid : Prop := fnExactProxyOkRow.holds Try.pinned (OpenSpec.ofChange fnExactProxyOkSpec)

/-- ITS FALSE NEIGHBOUR: 'it returns false'. Refute it at one input. -/
def fnExactProxyOkWrong : ChangeSpec := { name := "fnExactProxyOk", fn := fun _ => fun
  | [d] => { results := [.lit (.bool false)], args := [d] }
  | _ => none }
def FnExactProxyOkWrongFalsely : Prop := fnExactProxyOkRow.holds Try.pinned (OpenSpec.ofChange fnExactProxyOkWrong)

/- THE SECOND FORM. 'bulk': how many values and letters a reading holds, each counted each time it is reached (what is shared counts as often as it is met; a slice's spare places count too). A statement '..UptoSaid' is the law's where the arguments, and the package variables that the reading takes, are together of bulk at most 1048576: NARROWER than '..Said'. Prove '..Said' where nothing that the law and all that it calls make is longer than what came in: it says more and counts as full. Else prove '..UptoSaid'. A law counts once. -/
mutual
def uptoBulk {H : Type} : DataW H → Nat
  | .lit (.string bytes) => bytes.length + 1
  | .lit _ => 1
  | .nil => 1
  | .ptr d => uptoBulk d + 1
  | .slice elems spare => uptoBulkAll elems + uptoBulkAll spare + 1
  | .agg parts => uptoBulkAll parts + 1
  | .iface _ d => uptoBulk d + 1
  | .map entries => uptoBulkEntries entries + 1
  | .held _ => 1
def uptoBulkAll {H : Type} : List (DataW H) → Nat
  | [] => 0
  | d :: r => uptoBulk d + uptoBulkAll r
def uptoBulkEntries {H : Type} : List (Lit × DataW H) → Nat
  | [] => 0
  | x :: r => uptoBulkEntry x + uptoBulkEntries r
def uptoBulkEntry {H : Type} : Lit × DataW H → Nat
  | (.string bytes, d) => bytes.length + uptoBulk d + 1
  | (_, d) => uptoBulk d + 1
 end
def uptoSmall : (H : Type) → List (DataW H) → Bool := fun _ ds => decide (uptoBulkAll ds ≤ 1048576)
def OpenSpec.upto (s : _root_.Go.ChangeSpec) : _root_.Go.OpenSpec := { _root_.Go.OpenSpec.ofChange s with cond := some uptoSmall }

/-- 'laws.FnExactOneEach', WHERE WHAT IT READS IS OF BULK AT MOST 1048576: true; the input reads as it did. -/
def fnExactOneEachUptoRow : OpenClaim := { program := "ytpgcfgbhkodmeaa", sum := "4703333ee29dc622ca3fbd4f4c424d866b9d1f744bbdda5065dc5706d056a90b", func := "loop.example/g00245/laws.FnExactOneEach", spec := "fnExactOneEach", unfollowed := true, recurses := true, apart := false, narrowed := true }
def FnExactOneEachUptoSaid : Prop := fnExactOneEachUptoRow.holds Try.pinned (OpenSpec.upto fnExactOneEachSpec)

/-- 'laws.FnExactStoredRight', WHERE WHAT IT READS IS OF BULK AT MOST 1048576: true; the input reads as it did. -/
def fnExactStoredRightUptoRow : OpenClaim := { program := "ytpgcfgbhkodmeaa", sum := "4703333ee29dc622ca3fbd4f4c424d866b9d1f744bbdda5065dc5706d056a90b", func := "loop.example/g00245/laws.FnExactStoredRight", spec := "fnExactStoredRight", apart := false, narrowed := true }
def FnExactStoredRightUptoSaid : Prop := fnExactStoredRightUptoRow.holds Try.pinned (OpenSpec.upto fnExactStoredRightSpec)

/-- 'laws.FnExactGotRight', WHERE WHAT IT READS IS OF BULK AT MOST 1048576: true; the input reads as it did. -/
def fnExactGotRightUptoRow : OpenClaim := { program := "ytpgcfgbhkodmeaa", sum := "4703333ee29dc622ca3fbd4f4c424d866b9d1f744bbdda5065dc5706d056a90b", func := "loop.example/g00245/laws.FnExactGotRight", spec := "fnExactGotRight", unfollowed := true, recurses := true, apart := false, narrowed := true }
def FnExactGotRightUptoSaid : Prop := fnExactGotRightUptoRow.holds Try.pinned (OpenSpec.upto fnExactGotRightSpec)

/-- 'laws.FnExactProxyOk', WHERE WHAT IT READS IS OF BULK AT MOST 1048576: true; the input reads as it did. -/
def fnExactProxyOkUptoRow : OpenClaim := { program := "ytpgcfgbhkodmeaa", sum := "4703333ee29dc622ca3fbd4f4c424d866b9d1f744bbdda5065dc5706d056a90b", func := "loop.example/g00245/laws.FnExactProxyOk", spec := "fnExactProxyOk", unfollowed := true, recurses := true, apart := false, narrowed := true }
def FnExactProxyOkUptoSaid : Prop := fnExactProxyOkUptoRow.holds Try.pinned (OpenSpec.upto fnExactProxyOkSpec)

end Rows
end Go.Proofs.Ytpgcfgbhkodmeaa
