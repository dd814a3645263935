/-
  No cell of these rows narrows 'for every input' (looked for: loops, veiled, ifaces, maps, wideKeys, modest, calm, conditions, laid).
  DERIVED. THE GIVEN ROWS OF THIS SEAT. 6 by the template 'for every input the law returns true; each argument reads behind the call as it read before'; 0 by the template 'total and deterministic' (their statements: YtmpnjijbahjinauTotals.lean).
  GIVEN WITH THE SEED: the statements are not yours to turn. If you find one false, say at which input.
  Laid BY PROGRAM, IN A SANDBOX (cutbox-rows.mjs): the forced cells as the released guide's own fill.sh prints them over the translation 2a1584b0abfe6b76… (all of the seat's roots in one cut). By AI agents, Wed Nov 11 2026. No macro, syntax, notation, axiom, sorry.
-/
import Derived.Test.YtmpnjijbahjinauChecked
import GoSem.Claim
import GoSem.ClaimJoined
import GoSem.ClaimMapViews
import Derived.JoinedTies
import Derived.KernelRfl
namespace Go.Proofs.Ytmpnjijbahjinau
/- THE CELL 'sum', in the pinned program and in every row, IS THE sha256 OF THE DUMP (.gsa) THAT YtmpnjijbahjinauProg.lean LOADS. Nothing in Lean hashes anything: it is a label: what it is worth is what the hold of that sum in a sandbox is worth. -/
noncomputable def Try.pinned : Pinned := { name := "ytmpnjijbahjinau", sum := "2a1584b0abfe6b76794e44049a57172371f740884552e443264f77446ac512fd", checked := Try.checked }
namespace Rows
def none {H : Type} : Left H := { results := [], args := [] }

/-- 'laws.FnExactStreamOk': WHATEVER THE INPUT: true; the input reads as it did. -/
def fnExactStreamOkSpec : ChangeSpec := { name := "fnExactStreamOk", fn := fun _ => fun
  | [d] => { results := [.lit (.bool true)], args := [d] }
  | _ => none }
def fnExactStreamOkRow : OpenClaim := { program := "ytmpnjijbahjinau", sum := "2a1584b0abfe6b76794e44049a57172371f740884552e443264f77446ac512fd", func := "loop.example/g00245/laws.FnExactStreamOk", spec := "fnExactStreamOk", apart := false }
def FnExactStreamOkSaid : Prop := fnExactStreamOkRow.holds Try.pinned (OpenSpec.ofChange fnExactStreamOkSpec)

/-- ITS FALSE NEIGHBOUR: 'it returns false'. Refute it at one input. -/
def fnExactStreamOkWrong : ChangeSpec := { name := "fnExactStreamOk", fn := fun _ => fun
  | [d] => { results := [.lit (.bool false)], args := [d] }
  | _ => none }
def FnExactStreamOkWrongFalsely : Prop := fnExactStreamOkRow.holds Try.pinned (OpenSpec.ofChange fnExactStreamOkWrong)

/-- 'laws.FnExactStreamPut': WHATEVER THE INPUT: true; the input reads as it did. -/
def fnExactStreamPutSpec : ChangeSpec := { name := "fnExactStreamPut", fn := fun _ => fun
  | [d1, d2] => { results := [.lit (.bool true)], args := [d1, d2] }
  | _ => none }
def fnExactStreamPutRow : OpenClaim := { program := "ytmpnjijbahjinau", sum := "2a1584b0abfe6b76794e44049a57172371f740884552e443264f77446ac512fd", func := "loop.example/g00245/laws.FnExactStreamPut", spec := "fnExactStreamPut", inPlace := ["(*internal/sync.Mutex).Lock", "internal/race.Disable", "sync/atomic.CompareAndSwapInt32", "internal/race.Enable", "internal/race.Acquire", "(*internal/sync.Mutex).lockSlow", "internal/sync.runtime_canSpin", "internal/sync.runtime_doSpin", "internal/sync.throw", "internal/sync.runtime_nanotime", "internal/sync.runtime_SemacquireMutex", "sync/atomic.AddInt32", "(*internal/sync.Mutex).Unlock", "internal/race.ReleaseMerge", "(*internal/sync.Mutex).unlockSlow", "internal/sync.fatal", "internal/sync.runtime_Semrelease"], unfollowed := true, recurses := true, apart := false }
def FnExactStreamPutSaid : Prop := fnExactStreamPutRow.holds Try.pinned (OpenSpec.ofChange fnExactStreamPutSpec)

/-- ITS FALSE NEIGHBOUR: 'it returns false'. Refute it at one input. -/
def fnExactStreamPutWrong : ChangeSpec := { name := "fnExactStreamPut", fn := fun _ => fun
  | [d1, d2] => { results := [.lit (.bool false)], args := [d1, d2] }
  | _ => none }
def FnExactStreamPutWrongFalsely : Prop := fnExactStreamPutRow.holds Try.pinned (OpenSpec.ofChange fnExactStreamPutWrong)

/-- 'laws.FnExactStreamEnd': WHATEVER THE INPUT: true; the input reads as it did. -/
def fnExactStreamEndSpec : ChangeSpec := { name := "fnExactStreamEnd", fn := fun _ => fun
  | [d1, d2] => { results := [.lit (.bool true)], args := [d1, d2] }
  | _ => none }
def fnExactStreamEndRow : OpenClaim := { program := "ytmpnjijbahjinau", sum := "2a1584b0abfe6b76794e44049a57172371f740884552e443264f77446ac512fd", func := "loop.example/g00245/laws.FnExactStreamEnd", spec := "fnExactStreamEnd", inPlace := ["(*internal/sync.Mutex).Lock", "internal/race.Disable", "sync/atomic.CompareAndSwapInt32", "internal/race.Enable", "internal/race.Acquire", "(*internal/sync.Mutex).lockSlow", "internal/sync.runtime_canSpin", "internal/sync.runtime_doSpin", "internal/sync.throw", "internal/sync.runtime_nanotime", "internal/sync.runtime_SemacquireMutex", "sync/atomic.AddInt32", "(*internal/sync.Mutex).Unlock", "internal/race.ReleaseMerge", "(*internal/sync.Mutex).unlockSlow", "internal/sync.fatal", "internal/sync.runtime_Semrelease"], unfollowed := true, recurses := true, apart := false }
def FnExactStreamEndSaid : Prop := fnExactStreamEndRow.holds Try.pinned (OpenSpec.ofChange fnExactStreamEndSpec)

/-- ITS FALSE NEIGHBOUR: 'it returns false'. Refute it at one input. -/
def fnExactStreamEndWrong : ChangeSpec := { name := "fnExactStreamEnd", fn := fun _ => fun
  | [d1, d2] => { results := [.lit (.bool false)], args := [d1, d2] }
  | _ => none }
def FnExactStreamEndWrongFalsely : Prop := fnExactStreamEndRow.holds Try.pinned (OpenSpec.ofChange fnExactStreamEndWrong)

/-- 'laws.FnExactStreamJoin': WHATEVER THE INPUT: true; the input reads as it did. -/
def fnExactStreamJoinSpec : ChangeSpec := { name := "fnExactStreamJoin", fn := fun _ => fun
  | [d1, d2] => { results := [.lit (.bool true)], args := [d1, d2] }
  | _ => none }
def fnExactStreamJoinRow : OpenClaim := { program := "ytmpnjijbahjinau", sum := "2a1584b0abfe6b76794e44049a57172371f740884552e443264f77446ac512fd", func := "loop.example/g00245/laws.FnExactStreamJoin", spec := "fnExactStreamJoin", inPlace := ["slices.overlaps[loop.example/g00245/impl.Reader]", "(*internal/sync.Mutex).Lock", "internal/race.Disable", "sync/atomic.CompareAndSwapInt32", "internal/race.Enable", "internal/race.Acquire", "(*internal/sync.Mutex).lockSlow", "internal/sync.runtime_canSpin", "internal/sync.runtime_doSpin", "internal/sync.throw", "internal/sync.runtime_nanotime", "internal/sync.runtime_SemacquireMutex", "sync/atomic.AddInt32", "(*internal/sync.Mutex).Unlock", "internal/race.ReleaseMerge", "(*internal/sync.Mutex).unlockSlow", "internal/sync.fatal", "internal/sync.runtime_Semrelease"], unfollowed := true, recurses := true, apart := false }
def FnExactStreamJoinSaid : Prop := fnExactStreamJoinRow.holds Try.pinned (OpenSpec.ofChange fnExactStreamJoinSpec)

/-- ITS FALSE NEIGHBOUR: 'it returns false'. Refute it at one input. -/
def fnExactStreamJoinWrong : ChangeSpec := { name := "fnExactStreamJoin", fn := fun _ => fun
  | [d1, d2] => { results := [.lit (.bool false)], args := [d1, d2] }
  | _ => none }
def FnExactStreamJoinWrongFalsely : Prop := fnExactStreamJoinRow.holds Try.pinned (OpenSpec.ofChange fnExactStreamJoinWrong)

/-- 'laws.FnExactStreamRead': WHATEVER THE INPUT: true; the input reads as it did. -/
def fnExactStreamReadSpec : ChangeSpec := { name := "fnExactStreamRead", fn := fun _ => fun
  | [d1, d2, d3] => { results := [.lit (.bool true)], args := [d1, d2, d3] }
  | _ => none }
def fnExactStreamReadRow : OpenClaim := { program := "ytmpnjijbahjinau", sum := "2a1584b0abfe6b76794e44049a57172371f740884552e443264f77446ac512fd", func := "loop.example/g00245/laws.FnExactStreamRead", spec := "fnExactStreamRead", inPlace := ["(*internal/sync.Mutex).Lock", "internal/race.Disable", "sync/atomic.CompareAndSwapInt32", "internal/race.Enable", "internal/race.Acquire", "(*internal/sync.Mutex).lockSlow", "internal/sync.runtime_canSpin", "internal/sync.runtime_doSpin", "internal/sync.throw", "internal/sync.runtime_nanotime", "internal/sync.runtime_SemacquireMutex", "sync/atomic.AddInt32", "(*internal/sync.Mutex).Unlock", "internal/race.ReleaseMerge", "(*internal/sync.Mutex).unlockSlow", "internal/sync.fatal", "internal/sync.runtime_Semrelease"], unfollowed := true, recurses := true, apart := false }
def FnExactStreamReadSaid : Prop := fnExactStreamReadRow.holds Try.pinned (OpenSpec.ofChange fnExactStreamReadSpec)

/-- ITS FALSE NEIGHBOUR: 'it returns false'. Refute it at one input. -/
def fnExactStreamReadWrong : ChangeSpec := { name := "fnExactStreamRead", fn := fun _ => fun
  | [d1, d2, d3] => { results := [.lit (.bool false)], args := [d1, d2, d3] }
  | _ => none }
def FnExactStreamReadWrongFalsely : Prop := fnExactStreamReadRow.holds Try.pinned (OpenSpec.ofChange fnExactStreamReadWrong)

/-- 'laws.FnExactStreamLeave': WHATEVER THE INPUT: true; the input reads as it did. -/
def fnExactStreamLeaveSpec : ChangeSpec := { name := "fnExactStreamLeave", fn := fun _ => fun
  | [d1, d2] => { results := [.lit (.bool true)], args := [d1, d2] }
  | _ => none }
def fnExactStreamLeaveRow : OpenClaim := { program := "ytmpnjijbahjinau", sum := "2a1584b0abfe6b76794e44049a57172371f740884552e443264f77446ac512fd", func := "loop.example/g00245/laws.FnExactStreamLeave", spec := "fnExactStreamLeave", inPlace := ["(*internal/sync.Mutex).Lock", "internal/race.Disable", "sync/atomic.CompareAndSwapInt32", "internal/race.Enable", "internal/race.Acquire", "(*internal/sync.Mutex).lockSlow", "internal/sync.runtime_canSpin", "internal/sync.runtime_doSpin", "internal/sync.throw", "internal/sync.runtime_nanotime", "internal/sync.runtime_SemacquireMutex", "sync/atomic.AddInt32", "(*internal/sync.Mutex).Unlock", "internal/race.ReleaseMerge", "(*internal/sync.Mutex).unlockSlow", "internal/sync.fatal", "internal/sync.runtime_Semrelease"], unfollowed := true, recurses := true, apart := false }
def FnExactStreamLeaveSaid : Prop := fnExactStreamLeaveRow.holds Try.pinned (OpenSpec.ofChange fnExactStreamLeaveSpec)

/-- ITS FALSE NEIGHBOUR: 'it returns false'. Refute it at one input. -/
def fnExactStreamLeaveWrong : ChangeSpec := { name := "fnExactStreamLeave", fn := fun _ => fun
  | [d1, d2] => { results := [.lit (.bool false)], args := [d1, d2] }
  | _ => none }
def FnExactStreamLeaveWrongFalsely : Prop := fnExactStreamLeaveRow.holds Try.pinned (OpenSpec.ofChange fnExactStreamLeaveWrong)

/- THE SECOND FORM. 'bulk': how many values and letters a reading holds, each counted each time it is reached (what is shared counts as often as it is met; a slice's spare places count too). A statement '..UptoSaid' is the law's where the arguments, and the package variables that the reading takes, are together of bulk at most 1048576: NARROWER than '..Said'. Prove '..Said' where nothing that the law and all that it calls make is longer than what came in: it says more and counts as full. Else prove '..UptoSaid'. A law counts once. -/
mutual
def uptoBulk {H : Type} : DataW H → Nat
  | .lit (.string bytes) => bytes.length + 1
  | .lit _ => 1
  | .nil => 1
  | .ptr d => uptoBulk d + 1
  | .slice elems spare => uptoBulkAll elems + uptoBulkAll spare + 1
  | .agg parts => uptoBulkAll parts + 1
  | .iface _ d => uptoBulk d + 1
  | .map entries => uptoBulkEntries entries + 1
  | .held _ => 1
def uptoBulkAll {H : Type} : List (DataW H) → Nat
  | [] => 0
  | d :: r => uptoBulk d + uptoBulkAll r
def uptoBulkEntries {H : Type} : List (Lit × DataW H) → Nat
  | [] => 0
  | x :: r => uptoBulkEntry x + uptoBulkEntries r
def uptoBulkEntry {H : Type} : Lit × DataW H → Nat
  | (.string bytes, d) => bytes.length + uptoBulk d + 1
  | (_, d) => uptoBulk d + 1
 end
def uptoSmall : (H : Type) → List (DataW H) → Bool := fun _ ds => decide (uptoBulkAll ds ≤ 1048576)
def OpenSpec.upto (s : _root_.Go.ChangeSpec) : _root_.Go.OpenSpec := { _root_.Go.OpenSpec.ofChange s with cond := some uptoSmall }

/-- 'laws.FnExactStreamOk', WHERE WHAT IT READS IS OF BULK AT MOST 1048576: true; the input reads as it did. -/
def fnExactStreamOkUptoRow : OpenClaim := { program := "ytmpnjijbahjinau", sum := "2a1584b0abfe6b76794e44049a57172371f740884552e443264f77446ac512fd", func := "loop.example/g00245/laws.FnExactStreamOk", spec := "fnExactStreamOk", apart := false, narrowed := true }
def FnExactStreamOkUptoSaid : Prop := fnExactStreamOkUptoRow.holds Try.pinned (OpenSpec.upto fnExactStreamOkSpec)

/-- 'laws.FnExactStreamPut', WHERE WHAT IT READS IS OF BULK AT MOST 1048576: true; the input reads as it did. -/
def fnExactStreamPutUptoRow : OpenClaim := { program := "ytmpnjijbahjinau", sum := "2a1584b0abfe6b76794e44049a57172371f740884552e443264f77446ac512fd", func := "loop.example/g00245/laws.FnExactStreamPut", spec := "fnExactStreamPut", inPlace := ["(*internal/sync.Mutex).Lock", "internal/race.Disable", "sync/atomic.CompareAndSwapInt32", "internal/race.Enable", "internal/race.Acquire", "(*internal/sync.Mutex).lockSlow", "internal/sync.runtime_canSpin", "internal/sync.runtime_doSpin", "internal/sync.throw", "internal/sync.runtime_nanotime", "internal/sync.runtime_SemacquireMutex", "sync/atomic.AddInt32", "(*internal/sync.Mutex).Unlock", "internal/race.ReleaseMerge", "(*internal/sync.Mutex).unlockSlow", "internal/sync.fatal", "internal/sync.runtime_Semrelease"], unfollowed := true, recurses := true, apart := false, narrowed := true }
def FnExactStreamPutUptoSaid : Prop := fnExactStreamPutUptoRow.holds Try.pinned (OpenSpec.upto fnExactStreamPutSpec)

/-- 'laws.FnExactStreamEnd', WHERE WHAT IT READS IS OF BULK AT MOST 1048576: true; the input reads as it did. -/
def fnExactStreamEndUptoRow : OpenClaim := { program := "ytmpnjijbahjinau", sum := "2a1584b0abfe6b76794e44049a57172371f740884552e443264f77446ac512fd", func := "loop.example/g00245/laws.FnExactStreamEnd", spec := "fnExactStreamEnd", inPlace := ["(*internal/sync.Mutex).Lock", "internal/race.Disable", "sync/atomic.CompareAndSwapInt32", "internal/race.Enable", "internal/race.Acquire", "(*internal/sync.Mutex).lockSlow", "internal/sync.runtime_canSpin", "internal/sync.runtime_doSpin", "internal/sync.throw", "internal/sync.runtime_nanotime", "internal/sync.runtime_SemacquireMutex", "sync/atomic.AddInt32", "(*internal/sync.Mutex).Unlock", "internal/race.ReleaseMerge", "(*internal/sync.Mutex).unlockSlow", "internal/sync.fatal", "internal/sync.runtime_Semrelease"], unfollowed := true, recurses := true, apart := false, narrowed := true }
def FnExactStreamEndUptoSaid : Prop := fnExactStreamEndUptoRow.holds Try.pinned (OpenSpec.upto fnExactStreamEndSpec)

/-- 'laws.FnExactStreamJoin', WHERE WHAT IT READS IS OF BULK AT MOST 1048576: true; the input reads as it did. -/
def fnExactStreamJoinUptoRow : OpenClaim := { program := "ytmpnjijbahjinau", sum := "2a1584b0abfe6b76794e44049a57172371f740884552e443264f77446ac512fd", func := "loop.example/g00245/laws.FnExactStreamJoin", spec := "fnExactStreamJoin", inPlace := ["slices.overlaps[loop.example/g00245/impl.Reader]", "(*internal/sync.Mutex).Lock", "internal/race.Disable", "sync/atomic.CompareAndSwapInt32", "internal/race.Enable", "internal/race.Acquire", "(*internal/sync.Mutex).lockSlow", "internal/sync.runtime_canSpin", "internal/sync.runtime_doSpin", "internal/sync.throw", "internal/sync.runtime_nanotime", "internal/sync.runtime_SemacquireMutex", "sync/atomic.AddInt32", "(*internal/sync.Mutex).Unlock", "internal/race.ReleaseMerge", "(*internal/sync.Mutex).unlockSlow", "internal/sync.fatal", "internal/sync.runtime_Semrelease"], unfollowed := true, recurses := true, apart := false, narrowed := true }
def FnExactStreamJoinUptoSaid : Prop := fnExactStreamJoinUptoRow.holds Try.pinned (OpenSpec.upto fnExactStreamJoinSpec)

/-- 'laws.FnExactStreamRead', WHERE WHAT IT READS IS OF BULK AT MOST 1048576: true; the input reads as it did. -/
def fnExactStreamReadUptoRow : OpenClaim := { program := "ytmpnjijbahjinau", sum := "2a1584b0abfe6b76794e44049a57172371f740884552e443264f77446ac512fd", func := "loop.example/g00245/laws.FnExactStreamRead", spec := "fnExactStreamRead", inPlace := ["(*internal/sync.Mutex).Lock", "internal/race.Disable", "sync/atomic.CompareAndSwapInt32", "internal/race.Enable", "internal/race.Acquire", "(*internal/sync.Mutex).lockSlow", "internal/sync.runtime_canSpin", "internal/sync.runtime_doSpin", "internal/sync.throw", "internal/sync.runtime_nanotime", "internal/sync.runtime_SemacquireMutex", "sync/atomic.AddInt32", "(*internal/sync.Mutex).Unlock", "internal/race.ReleaseMerge", "(*internal/sync.Mutex).unlockSlow", "internal/sync.fatal", "internal/sync.runtime_Semrelease"], unfollowed := true, recurses := true, apart := false, narrowed := true }
def FnExactStreamReadUptoSaid : Prop := fnExactStreamReadUptoRow.holds Try.pinned (OpenSpec.upto fnExactStreamReadSpec)

/-- 'laws.FnExactStreamLeave', WHERE WHAT IT READS IS OF BULK AT MOST 1048576: true; the input reads as it did. -/
def fnExactStreamLeaveUptoRow : OpenClaim := { program := "ytmpnjijbahjinau", sum := "2a1584b0abfe6b76794e44049a57172371f740884552e443264f77446ac512fd", func := "loop.example/g00245/laws.FnExactStreamLeave", spec := "fnExactStreamLeave", inPlace := ["(*internal/sync.Mutex).Lock", "internal/race.Disable", "sync/atomic.CompareAndSwapInt32", "internal/race.Enable", "internal/race.Acquire", "(*internal/sync.Mutex).lockSlow", "internal/sync.runtime_canSpin", "internal/sync.runtime_doSpin", "internal/sync.throw", "internal/sync.runtime_nanotime", "internal/sync.runtime_SemacquireMutex", "sync/atomic.AddInt32", "(*internal/sync.Mutex).Unlock", "internal/race.ReleaseMerge", "(*internal/sync.Mutex).unlockSlow", "internal/sync.fatal", "internal/sync.runtime_Semrelease"], unfollowed := true, recurses := true, apart := false, narrowed := true }
def FnExactStreamLeaveUptoSaid : Prop := fnExactStreamLeaveUptoRow.holds Try.pinned (OpenSpec.upto fnExactStreamLeaveSpec)

end Rows
end Go.Proofs.Ytmpnjijbahjinau
