/- A whole array out of a variable, and into one: steps of a walk. No program. -/
import Derived.Laws.Rows
import Derived.Laws.Tables
import Derived.Deep.WholeRow
import Derived.WalkKit
import Derived.Deep.RegionLaw
namespace Go.Proofs.YtifjjfjadcpmaaeDoor
open Go.RowKit

theorem run_loadR {P : Program} {w : World} {T n : Nat} {t e tt : TypeId} {cs : Array Value} (hT : w.heap[T]? = some (.cells cs tt (0, 0))) (hu : P.underlying t = some (.array n e)) (hi : (P.info? t).map (·.size) = some cs.size) :
    (Instr.loadAt t (.pointer (some ⟨T, 0, none⟩))).run P w = .ok (.agg cs) w := by
  simp only [Instr.loadAt, Instr.sureAddr, Sem.run_bind, Sem.run_pure, Result.andThen]
  exact run_loadVar_row w T tt t cs (0, 0) _ hT hu rfl hi
theorem run_storeR {P : Program} {w : World} {T : Nat} {t tt : TypeId} {old cs : Array Value} (hT : w.heap[T]? = some (.cells old tt (0, 0))) (hi : (P.info? t).map (·.size) = some cs.size) (ho : old.size = cs.size) (h1 : cs.all (·.oneCell') = true) :
    (Instr.storeAt t (.pointer (some ⟨T, 0, none⟩)) (.agg cs)).run P w = .ok () (w.setRow T cs) := by
  simp only [Instr.storeAt, Instr.sureAddr, Sem.run_bind, Sem.run_pure, Result.andThen]
  exact run_storeVar_row w T tt t old cs hT hi ho h1
theorem wpList_loadR {P : Program} {ops : Array Oper} {rest : List Oper} {o : Oper} {a : Act} {w : World} {Q : Exit → Act → World → Prop} (hgd : o.guard = none) (p : Operand) (t : TypeId) (ho : o.op = .load t p) (T : Nat) (hp : a.eval p = .pointer (some ⟨T, 0, none⟩))
    (n : Nat) (e : TypeId) (hu : P.underlying t = some (.array n e)) (cs : Array Value) (tt : TypeId) (hT : w.heap[T]? = some (.cells cs tt (0, 0))) (hi : (P.info? t).map (·.size) = some cs.size) (h : wpList P ops Q rest (a.put o.dst (.agg cs)) w) : wpList P ops Q (o :: rest) a w := by
  refine wpList_plain hgd fun K hK => ?_
  have hrun := run_loadR (P := P) hT hu hi
  unfold Oper.wp
  simp only [execOp, ho, hp, Sem.run_bind, hrun, Result.andThen, Sem.run_pure]
  exact hK _ _ h
theorem wpList_storeR {P : Program} {ops : Array Oper} {rest : List Oper} {o : Oper} {a : Act} {w : World} {Q : Exit → Act → World → Prop} (hgd : o.guard = none) (p x : Operand) (t : TypeId) (ho : o.op = .store t p x) (T : Nat) (hp : a.eval p = .pointer (some ⟨T, 0, none⟩))
    (cs : Array Value) (hx : a.eval x = .agg cs) (old : Array Value) (tt : TypeId) (hT : w.heap[T]? = some (.cells old tt (0, 0))) (hi : (P.info? t).map (·.size) = some cs.size) (hol : old.size = cs.size) (h1 : cs.all (·.oneCell') = true) (h : wpList P ops Q rest (a.put o.dst undef) (w.setRow T cs)) : wpList P ops Q (o :: rest) a w := by
  refine wpList_plain hgd fun K hK => ?_
  have hrun := run_storeR (P := P) hT hi hol h1
  unfold Oper.wp
  simp only [execOp, ho, hp, hx, Sem.run_bind, hrun, Result.andThen, Sem.run_pure]
  exact hK _ _ h
theorem step_loadR {P : Program} {ops : Array Oper} {o : Oper} {a : Act} {w : World} {K : Act → World → Prop} {Q : Exit → Act → World → Prop} {E : Prop} (hgd : o.guard = none) (p : Operand) (t : TypeId) (ho : o.op = .load t p) (T : Nat) (hp : a.eval p = .pointer (some ⟨T, 0, none⟩))
    (n : Nat) (e : TypeId) (hu : P.underlying t = some (.array n e)) (cs : Array Value) (tt : TypeId) (hT : w.heap[T]? = some (.cells cs tt (0, 0))) (hi : (P.info? t).map (·.size) = some cs.size) (h : K (a.put o.dst (.agg cs)) w) :
    if Region.wanted o (yielded ops a.tmps) = true then Oper.wp P o a w K Q else E := by
  have hw : Region.wanted o (yielded ops a.tmps) = true := by simp [Region.wanted, hgd]
  rw [if_pos hw]
  have hrun := run_loadR (P := P) hT hu hi
  unfold Oper.wp
  simp only [execOp, ho, hp, Sem.run_bind, hrun, Result.andThen, Sem.run_pure]
  exact h
theorem step_storeR {P : Program} {ops : Array Oper} {o : Oper} {a : Act} {w : World} {K : Act → World → Prop} {Q : Exit → Act → World → Prop} {E : Prop} (hgd : o.guard = none) (p x : Operand) (t : TypeId) (ho : o.op = .store t p x) (T : Nat) (hp : a.eval p = .pointer (some ⟨T, 0, none⟩))
    (cs : Array Value) (hx : a.eval x = .agg cs) (old : Array Value) (tt : TypeId) (hT : w.heap[T]? = some (.cells old tt (0, 0))) (hi : (P.info? t).map (·.size) = some cs.size) (hol : old.size = cs.size) (h1 : cs.all (·.oneCell') = true) (h : K (a.put o.dst undef) (w.setRow T cs)) :
    if Region.wanted o (yielded ops a.tmps) = true then Oper.wp P o a w K Q else E := by
  have hw : Region.wanted o (yielded ops a.tmps) = true := by simp [Region.wanted, hgd]
  rw [if_pos hw]
  have hrun := run_storeR (P := P) hT hi hol h1
  unfold Oper.wp
  simp only [execOp, ho, hp, hx, Sem.run_bind, hrun, Result.andThen, Sem.run_pure]
  exact h
end Go.Proofs.YtifjjfjadcpmaaeDoor
