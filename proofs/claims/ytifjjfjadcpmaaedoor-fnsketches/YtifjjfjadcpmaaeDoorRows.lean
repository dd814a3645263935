/-
  NARROWER THAN 'FOR EVERY INPUT', by the rows' own cells (each row's printed sentence says how): FnBodies: laid · FnBodiesTold: laid · FnSmuggled: laid · FnGuesses: laid · FnSketches: laid.
  DERIVED. THE GIVEN ROWS OF THIS SEAT. 5 by the template 'for every input the law returns true; each argument reads behind the call as it read before'; 0 by the template 'total and deterministic' (their statements: YtifjjfjadcpmaaeDoorTotals.lean).
  GIVEN WITH THE SEED: the statements are not yours to turn. If you find one false, say at which input.
  Laid BY PROGRAM, IN A SANDBOX (cutbox-rows.mjs): the forced cells as the released guide's own fill.sh prints them over the translation 0da90a2ce3466466… (all of the seat's roots in one cut). By AI agents, Wed Nov 11 2026. No macro, syntax, notation, axiom, sorry.
-/
import Derived.Test.YtifjjfjadcpmaaeDoorChecked
import GoSem.PinnedTables
import GoSem.Claim
import GoSem.ClaimJoined
import GoSem.ClaimMapViews
import Derived.JoinedTies
import Derived.KernelRfl
namespace Go.Proofs.YtifjjfjadcpmaaeDoor
/- THE CELL 'sum', in the pinned program and in every row, IS THE sha256 OF THE DUMP (.gsa) THAT YtifjjfjadcpmaaeDoorProg.lean LOADS. Nothing in Lean hashes anything: it is a label: what it is worth is what the hold of that sum in a sandbox is worth. -/
noncomputable def Tryd.pinned : Pinned := { name := "ytifjjfjadcpmaaedoor", sum := "0da90a2ce346646650e26f82207f3742590985c4f7f8c521701ede6d9d26d304", checked := Tryd.checked }
namespace Rows
def none {H : Type} : Left H := { results := [], args := [] }

/- WHAT THE LISTED PACKAGE-LEVEL VARIABLES READ AS WHEN THE CALL BEGINS. Each datum BY PROGRAM (the guide's laid-datum.mjs) off the statement by which the dump's own 'gosem.cut.vars' lays the variable. In a bare row this is a premise. The card (YtifjjfjadcpmaaeDoorCards.lean) ties it to the program's text. -/
def laid_unicode_utf8_acceptRanges {H : Type} : DataW H := .agg [.agg [.lit (.int .u8 128), .lit (.int .u8 191)], .agg [.lit (.int .u8 160), .lit (.int .u8 191)], .agg [.lit (.int .u8 128), .lit (.int .u8 159)], .agg [.lit (.int .u8 144), .lit (.int .u8 191)], .agg [.lit (.int .u8 128), .lit (.int .u8 143)], .agg [.lit (.int .u8 0), .lit (.int .u8 0)], .agg [.lit (.int .u8 0), .lit (.int .u8 0)], .agg [.lit (.int .u8 0), .lit (.int .u8 0)], .agg [.lit (.int .u8 0), .lit (.int .u8 0)], .agg [.lit (.int .u8 0), .lit (.int .u8 0)], .agg [.lit (.int .u8 0), .lit (.int .u8 0)], .agg [.lit (.int .u8 0), .lit (.int .u8 0)], .agg [.lit (.int .u8 0), .lit (.int .u8 0)], .agg [.lit (.int .u8 0), .lit (.int .u8 0)], .agg [.lit (.int .u8 0), .lit (.int .u8 0)], .agg [.lit (.int .u8 0), .lit (.int .u8 0)]]
def laid_errors_errorType {H : Type} : DataW H := .iface "internal/reflectlite.rtype" (.agg [.ptr (.lit (.string [101, 114, 114, 111, 114]))])
/-- One of Go's own tables, pinned by name: the form's constant. -/
def laid_unicode_utf8_first : DataW Unit := Go.Pinned.utf8First
def laid_loop_example_g00245_impl_fourSteps {H : Type} : DataW H := .agg [.lit (.int .u32 0), .lit (.int .u32 1166650509), .lit (.int .u32 2333301018), .lit (.int .u32 3466261911), .lit (.int .u32 3189058079), .lit (.int .u32 4221339282), .lit (.int .u32 889615109), .lit (.int .u32 1888477064), .lit (.int .u32 3558460437), .lit (.int .u32 2442158232), .lit (.int .u32 1594529039), .lit (.int .u32 444807554), .lit (.int .u32 1779230218), .lit (.int .u32 797264519), .lit (.int .u32 3776954128), .lit (.int .u32 2761298845)]

/-- 'laws.FnBodies': WHATEVER THE INPUT: true; the input reads as it did. -/
def fnBodiesSpec : ChangeSpec := { name := "fnBodies", fn := fun _ => fun
  | [d] => { results := [.lit (.bool true)], args := [d] }
  | _ => none }
def fnBodiesRow : OpenClaim := { program := "ytifjjfjadcpmaaedoor", sum := "0da90a2ce346646650e26f82207f3742590985c4f7f8c521701ede6d9d26d304", func := "loop.example/g00245/laws.FnBodies", spec := "fnBodies", inPlace := ["internal/bytealg.IndexByteString", "internal/bytealg.IndexString", "internal/reflectlite.ValueOf", "(internal/reflectlite.Value).Type", "(internal/reflectlite.Value).IsNil", "internal/reflectlite.TypeOf", "(internal/reflectlite.Value).Elem", "(internal/reflectlite.Value).Set"], unfollowed := true, recurses := true, named := ["unicode/utf8.first", "unicode/utf8.acceptRanges", "errors.errorType", "internal/bytealg.MaxLen"], apart := false, laid := [("unicode/utf8.acceptRanges", laid_unicode_utf8_acceptRanges), ("errors.errorType", laid_errors_errorType), ("unicode/utf8.first", laid_unicode_utf8_first)] }
def FnBodiesSaid : Prop := fnBodiesRow.holds Tryd.pinned (OpenSpec.ofChange fnBodiesSpec)

/-- ITS FALSE NEIGHBOUR: 'it returns false'. Refute it at one input. -/
def fnBodiesWrong : ChangeSpec := { name := "fnBodies", fn := fun _ => fun
  | [d] => { results := [.lit (.bool false)], args := [d] }
  | _ => none }
def FnBodiesWrongFalsely : Prop := fnBodiesRow.holds Tryd.pinned (OpenSpec.ofChange fnBodiesWrong)

/-- 'laws.FnBodiesTold': WHATEVER THE INPUT: true; the input reads as it did. -/
def fnBodiesToldSpec : ChangeSpec := { name := "fnBodiesTold", fn := fun _ => fun
  | [d] => { results := [.lit (.bool true)], args := [d] }
  | _ => none }
def fnBodiesToldRow : OpenClaim := { program := "ytifjjfjadcpmaaedoor", sum := "0da90a2ce346646650e26f82207f3742590985c4f7f8c521701ede6d9d26d304", func := "loop.example/g00245/laws.FnBodiesTold", spec := "fnBodiesTold", inPlace := ["internal/bytealg.IndexByteString", "internal/reflectlite.ValueOf", "(internal/reflectlite.Value).Type", "(internal/reflectlite.Value).IsNil", "internal/reflectlite.TypeOf", "(internal/reflectlite.Value).Elem", "(internal/reflectlite.Value).Set", "internal/bytealg.IndexString"], unfollowed := true, recurses := true, named := ["errors.errorType", "unicode/utf8.first", "unicode/utf8.acceptRanges", "internal/bytealg.MaxLen"], apart := false, laid := [("unicode/utf8.acceptRanges", laid_unicode_utf8_acceptRanges), ("errors.errorType", laid_errors_errorType), ("unicode/utf8.first", laid_unicode_utf8_first)] }
def FnBodiesToldSaid : Prop := fnBodiesToldRow.holds Tryd.pinned (OpenSpec.ofChange fnBodiesToldSpec)

/-- ITS FALSE NEIGHBOUR: 'it returns false'. Refute it at one input. -/
def fnBodiesToldWrong : ChangeSpec := { name := "fnBodiesTold", fn := fun _ => fun
  | [d] => { results := [.lit (.bool false)], args := [d] }
  | _ => none }
def FnBodiesToldWrongFalsely : Prop := fnBodiesToldRow.holds Tryd.pinned (OpenSpec.ofChange fnBodiesToldWrong)

/-- 'laws.FnSmuggled': WHATEVER THE INPUT: true; the input reads as it did. -/
def fnSmuggledSpec : ChangeSpec := { name := "fnSmuggled", fn := fun _ => fun
  | [d] => { results := [.lit (.bool true)], args := [d] }
  | _ => none }
def fnSmuggledRow : OpenClaim := { program := "ytifjjfjadcpmaaedoor", sum := "0da90a2ce346646650e26f82207f3742590985c4f7f8c521701ede6d9d26d304", func := "loop.example/g00245/laws.FnSmuggled", spec := "fnSmuggled", inPlace := ["internal/bytealg.IndexByteString", "internal/reflectlite.ValueOf", "(internal/reflectlite.Value).Type", "(internal/reflectlite.Value).IsNil", "internal/reflectlite.TypeOf", "(internal/reflectlite.Value).Elem", "(internal/reflectlite.Value).Set"], unfollowed := true, recurses := true, named := ["errors.errorType"], apart := false, laid := [("errors.errorType", laid_errors_errorType)] }
def FnSmuggledSaid : Prop := fnSmuggledRow.holds Tryd.pinned (OpenSpec.ofChange fnSmuggledSpec)

/-- ITS FALSE NEIGHBOUR: 'it returns false'. Refute it at one input. -/
def fnSmuggledWrong : ChangeSpec := { name := "fnSmuggled", fn := fun _ => fun
  | [d] => { results := [.lit (.bool false)], args := [d] }
  | _ => none }
def FnSmuggledWrongFalsely : Prop := fnSmuggledRow.holds Tryd.pinned (OpenSpec.ofChange fnSmuggledWrong)

/-- 'laws.FnGuesses': WHATEVER THE INPUT: true; the input reads as it did. -/
def fnGuessesSpec : ChangeSpec := { name := "fnGuesses", vars := ["loop.example/g00245/impl.fourSteps"], fn := fun _ => fun
  | [d, g1] => { results := [.lit (.bool true)], args := [d], vars := [g1] }
  | _ => none }
def fnGuessesRow : OpenClaim := { program := "ytifjjfjadcpmaaedoor", sum := "0da90a2ce346646650e26f82207f3742590985c4f7f8c521701ede6d9d26d304", func := "loop.example/g00245/laws.FnGuesses", spec := "fnGuesses", named := ["loop.example/g00245/impl.fourSteps"], apart := false, laid := [("loop.example/g00245/impl.fourSteps", laid_loop_example_g00245_impl_fourSteps)] }
def FnGuessesSaid : Prop := fnGuessesRow.holds Tryd.pinned (OpenSpec.ofChange fnGuessesSpec)

/-- ITS FALSE NEIGHBOUR: 'it returns false'. Refute it at one input. -/
def fnGuessesWrong : ChangeSpec := { name := "fnGuesses", vars := ["loop.example/g00245/impl.fourSteps"], fn := fun _ => fun
  | [d, g1] => { results := [.lit (.bool false)], args := [d], vars := [g1] }
  | _ => none }
def FnGuessesWrongFalsely : Prop := fnGuessesRow.holds Tryd.pinned (OpenSpec.ofChange fnGuessesWrong)

/-- 'laws.FnSketches': WHATEVER THE INPUT: true; the input reads as it did. -/
def fnSketchesSpec : ChangeSpec := { name := "fnSketches", vars := ["loop.example/g00245/impl.fourSteps"], fn := fun _ => fun
  | [d, g1] => { results := [.lit (.bool true)], args := [d], vars := [g1] }
  | _ => none }
def fnSketchesRow : OpenClaim := { program := "ytifjjfjadcpmaaedoor", sum := "0da90a2ce346646650e26f82207f3742590985c4f7f8c521701ede6d9d26d304", func := "loop.example/g00245/laws.FnSketches", spec := "fnSketches", named := ["loop.example/g00245/impl.fourSteps"], apart := false, laid := [("loop.example/g00245/impl.fourSteps", laid_loop_example_g00245_impl_fourSteps)] }
def FnSketchesSaid : Prop := fnSketchesRow.holds Tryd.pinned (OpenSpec.ofChange fnSketchesSpec)

/-- ITS FALSE NEIGHBOUR: 'it returns false'. Refute it at one input. -/
def fnSketchesWrong : ChangeSpec := { name := "fnSketches", vars := ["loop.example/g00245/impl.fourSteps"], fn := fun _ => fun
  | [d, g1] => { results := [.lit (.bool false)], args := [d], vars := [g1] }
  | _ => none }
def FnSketchesWrongFalsely : Prop := fnSketchesRow.holds Tryd.pinned (OpenSpec.ofChange fnSketchesWrong)

/- THE SECOND FORM. 'bulk': how many values and letters a reading holds, each counted each time it is reached (what is shared counts as often as it is met; a slice's spare places count too). A statement '..UptoSaid' is the law's where the arguments, and the package variables that the reading takes, are together of bulk at most 1048576: NARROWER than '..Said'. Prove '..Said' where nothing that the law and all that it calls make is longer than what came in: it says more and counts as full. Else prove '..UptoSaid'. A law counts once. -/
mutual
def uptoBulk {H : Type} : DataW H → Nat
  | .lit (.string bytes) => bytes.length + 1
  | .lit _ => 1
  | .nil => 1
  | .ptr d => uptoBulk d + 1
  | .slice elems spare => uptoBulkAll elems + uptoBulkAll spare + 1
  | .agg parts => uptoBulkAll parts + 1
  | .iface _ d => uptoBulk d + 1
  | .map entries => uptoBulkEntries entries + 1
  | .held _ => 1
def uptoBulkAll {H : Type} : List (DataW H) → Nat
  | [] => 0
  | d :: r => uptoBulk d + uptoBulkAll r
def uptoBulkEntries {H : Type} : List (Lit × DataW H) → Nat
  | [] => 0
  | x :: r => uptoBulkEntry x + uptoBulkEntries r
def uptoBulkEntry {H : Type} : Lit × DataW H → Nat
  | (.string bytes, d) => bytes.length + uptoBulk d + 1
  | (_, d) => uptoBulk d + 1
 end
def uptoSmall : (H : Type) → List (DataW H) → Bool := fun _ ds => decide (uptoBulkAll ds ≤ 1048576)
def OpenSpec.upto (s : _root_.Go.ChangeSpec) : _root_.Go.OpenSpec := { _root_.Go.OpenSpec.ofChange s with cond := some uptoSmall }

/-- 'laws.FnBodies', WHERE WHAT IT READS IS OF BULK AT MOST 1048576: true; the input reads as it did. -/
def fnBodiesUptoRow : OpenClaim := { program := "ytifjjfjadcpmaaedoor", sum := "0da90a2ce346646650e26f82207f3742590985c4f7f8c521701ede6d9d26d304", func := "loop.example/g00245/laws.FnBodies", spec := "fnBodies", inPlace := ["internal/bytealg.IndexByteString", "internal/bytealg.IndexString", "internal/reflectlite.ValueOf", "(internal/reflectlite.Value).Type", "(internal/reflectlite.Value).IsNil", "internal/reflectlite.TypeOf", "(internal/reflectlite.Value).Elem", "(internal/reflectlite.Value).Set"], unfollowed := true, recurses := true, named := ["unicode/utf8.first", "unicode/utf8.acceptRanges", "errors.errorType", "internal/bytealg.MaxLen"], apart := false, laid := [("unicode/utf8.acceptRanges", laid_unicode_utf8_acceptRanges), ("errors.errorType", laid_errors_errorType), ("unicode/utf8.first", laid_unicode_utf8_first)], narrowed := true }
def FnBodiesUptoSaid : Prop := fnBodiesUptoRow.holds Tryd.pinned (OpenSpec.upto fnBodiesSpec)

/-- 'laws.FnBodiesTold', WHERE WHAT IT READS IS OF BULK AT MOST 1048576: true; the input reads as it did. -/
def fnBodiesToldUptoRow : OpenClaim := { program := "ytifjjfjadcpmaaedoor", sum := "0da90a2ce346646650e26f82207f3742590985c4f7f8c521701ede6d9d26d304", func := "loop.example/g00245/laws.FnBodiesTold", spec := "fnBodiesTold", inPlace := ["internal/bytealg.IndexByteString", "internal/reflectlite.ValueOf", "(internal/reflectlite.Value).Type", "(internal/reflectlite.Value).IsNil", "internal/reflectlite.TypeOf", "(internal/reflectlite.Value).Elem", "(internal/reflectlite.Value).Set", "internal/bytealg.IndexString"], unfollowed := true, recurses := true, named := ["errors.errorType", "unicode/utf8.first", "unicode/utf8.acceptRanges", "internal/bytealg.MaxLen"], apart := false, laid := [("unicode/utf8.acceptRanges", laid_unicode_utf8_acceptRanges), ("errors.errorType", laid_errors_errorType), ("unicode/utf8.first", laid_unicode_utf8_first)], narrowed := true }
def FnBodiesToldUptoSaid : Prop := fnBodiesToldUptoRow.holds Tryd.pinned (OpenSpec.upto fnBodiesToldSpec)

/-- 'laws.FnSmuggled', WHERE WHAT IT READS IS OF BULK AT MOST 1048576: true; the input reads as it did. -/
def fnSmuggledUptoRow : OpenClaim := { program := "ytifjjfjadcpmaaedoor", sum := "0da90a2ce346646650e26f82207f3742590985c4f7f8c521701ede6d9d26d304", func := "loop.example/g00245/laws.FnSmuggled", spec := "fnSmuggled", inPlace := ["internal/bytealg.IndexByteString", "internal/reflectlite.ValueOf", "(internal/reflectlite.Value).Type", "(internal/reflectlite.Value).IsNil", "internal/reflectlite.TypeOf", "(internal/reflectlite.Value).Elem", "(internal/reflectlite.Value).Set"], unfollowed := true, recurses := true, named := ["errors.errorType"], apart := false, laid := [("errors.errorType", laid_errors_errorType)], narrowed := true }
def FnSmuggledUptoSaid : Prop := fnSmuggledUptoRow.holds Tryd.pinned (OpenSpec.upto fnSmuggledSpec)

/-- 'laws.FnGuesses', WHERE WHAT IT READS IS OF BULK AT MOST 1048576: true; the input reads as it did. -/
def fnGuessesUptoRow : OpenClaim := { program := "ytifjjfjadcpmaaedoor", sum := "0da90a2ce346646650e26f82207f3742590985c4f7f8c521701ede6d9d26d304", func := "loop.example/g00245/laws.FnGuesses", spec := "fnGuesses", named := ["loop.example/g00245/impl.fourSteps"], apart := false, laid := [("loop.example/g00245/impl.fourSteps", laid_loop_example_g00245_impl_fourSteps)], narrowed := true }
def FnGuessesUptoSaid : Prop := fnGuessesUptoRow.holds Tryd.pinned (OpenSpec.upto fnGuessesSpec)

/-- 'laws.FnSketches', WHERE WHAT IT READS IS OF BULK AT MOST 1048576: true; the input reads as it did. -/
def fnSketchesUptoRow : OpenClaim := { program := "ytifjjfjadcpmaaedoor", sum := "0da90a2ce346646650e26f82207f3742590985c4f7f8c521701ede6d9d26d304", func := "loop.example/g00245/laws.FnSketches", spec := "fnSketches", named := ["loop.example/g00245/impl.fourSteps"], apart := false, laid := [("loop.example/g00245/impl.fourSteps", laid_loop_example_g00245_impl_fourSteps)], narrowed := true }
def FnSketchesUptoSaid : Prop := fnSketchesUptoRow.holds Tryd.pinned (OpenSpec.upto fnSketchesSpec)

end Rows
end Go.Proofs.YtifjjfjadcpmaaeDoor
