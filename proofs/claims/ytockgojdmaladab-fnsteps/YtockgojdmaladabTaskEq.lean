/- Two tasks that are the same are told to be so. -/
import Derived.Test.YtockgojdmaladabTaskKit
import Derived.Laws.StructEq
namespace Go.Proofs.Ytockgojdmaladab
open Go.RowKit Go.Sort

set_option maxRecDepth 100000 in
set_option maxHeartbeats 4000000 in
theorem tk_eql (s : Tk) (w : World) : (binOp .eql 43 (.agg #[.int .i64 s.kind, .int .i64 s.key, .int .i64 s.val, .int .i64 s.node, .int .i64 s.pc, .int .i64 s.prev, .int .i64 s.cur, .int .i64 s.next, .int .i64 s.mark, .bool s.done, .int .i64 s.ans]) (.agg #[.int .i64 s.kind, .int .i64 s.key, .int .i64 s.val, .int .i64 s.node, .int .i64 s.pc, .int .i64 s.prev, .int .i64 s.cur, .int .i64 s.next, .int .i64 s.mark, .bool s.done, .int .i64 s.ans])).run Try.prog w = .ok (.bool true) w := by
  have h0 := Try.underlying43
  have h2 : Try.prog.stoodInHeld 43 = false := by kernel_rfl
  rw [run_eql_struct, run_equalIn_agg w 9999 43 _ _ (by unfold Program.fieldsOf; rw [h0]) h2]
  simp [go_sem, h0, Op.eqFields]

/-- The node of a task that is new. -/
theorem tk_fld (w : World) : (Instr.field 43 (.agg #[.int .i64 1, .int .i64 2, .int .i64 3, .int .i64 4, .int .i64 0, .int .i64 0, .int .i64 0, .int .i64 0, .int .i64 0, .bool false, .int .i64 0]) 3).run Try.prog w = .ok (.int .i64 4) w := by
  simp [Instr.field, go_sem, asAgg]
end Go.Proofs.Ytockgojdmaladab
