/- ListNew: the program's, and its law's walk. -/
import Derived.Test.YtockgojdmaladabListNewLaw
namespace Go.Proofs.Ytockgojdmaladab
open Go.RowKit Go.Sort

theorem implListNew_any (w : World) :
    Calls Try.prog 25 #[] w fun e w' => ∃ v, e = .returned v ∧ OwnV w' w.heap.size 3 v (ints newL) ∧ Below w.heap.size w w' := by
  obtain ⟨i0, hi, hz0, hz1, hz2⟩ := info_parts Try.infoInt
  obtain ⟨w0, hmk, hown0, hgr0⟩ := run_make_full (P := Try.prog) w w.heap.size 24 3 i0 (.int .i64 0) 1 Try.underlying24 hi hz0 hz1 .i64 .i64 63 (by rw [hz2]; omega) (by unfold maxLen; omega) (Nat.le_refl _)
  have hb0 : Below w.heap.size w w0 := ⟨hgr0.os, hgr0.tape, hgr0.output, hgr0.size, fun j hj => hgr0.block j hj (by simp)⟩
  have hown : OwnV w0 w.heap.size 3 (.slice (some ⟨w.heap.size, 0, none⟩) 63 63) (ints newL) := by
    have h := hown0
    rw [show (Value.int .i64 0).cells = #[Value.int .i64 0] from rfl, toList_madeCells_one, Nat.mul_one] at h
    have e : ints newL = List.replicate 63 (Value.int .i64 0) := by simp [ints, newL]
    unfold OwnV
    rw [e, List.length_replicate]
    exact h
  have hmk2 : (Instr.makeSlice 24 (.int .i64 63) (.int .i64 63)).run Try.prog w = .ok (.slice (some ⟨w.heap.size, 0, none⟩) 63 63) w0 := hmk
  clear hown0 hgr0 hi hz0 hz1 hz2 hmk
  go_enter Try.func25, Try.ntmps25
  go_wp2
  go_ret
  exact ⟨_, rfl, hown, hb0⟩

end Go.Proofs.Ytockgojdmaladab
