/- A law's Control and the program's; two of them compared. -/
import Derived.Test.YtnnaphfeeobelaqDoorCtBox
namespace Go.Proofs.YtnnaphfeeobelaqDoor
open Go.RowKit Go.Sort
theorem CtB.far {w : World} {T B : Nat} {c : Ct} (h : CtB w B c) (hne : B ≠ T) (i : Nat) (u : Value) : CtB (w.setCell ⟨T, i, none⟩ u) B c := (Below.heap_setCell _ _ _ _ (fun e => hne (by simpa using e))).trans h
set_option maxRecDepth 100000 in
set_option maxHeartbeats 4000000 in
theorem eqControl_same (w : World) (c : Ct) :
    Calls Tryd.prog 12 #[.agg #[.bool c.ns, .bool c.nc, .int .i64 c.ma, .int .i64 c.sh], .agg #[.bool c.ns, .bool c.nc, .int .i64 c.ma, .int .i64 c.sh]] w fun e w' => e = .returned (.bool true) ∧ Below w.heap.size w w' := by
  obtain ⟨wa, hwa⟩ : ∃ wa, w.alloc (.cells #[.bool c.ns, .bool c.nc, .int .i64 c.ma, .int .i64 c.sh] 35) = wa := ⟨_, rfl⟩
  obtain ⟨wb, hwb⟩ : ∃ wb, wa.alloc (.cells #[.bool c.ns, .bool c.nc, .int .i64 c.ma, .int .i64 c.sh] 35) = wb := ⟨_, rfl⟩
  obtain ⟨A, hA⟩ : ∃ A, w.heap.size = A := ⟨_, rfl⟩
  obtain ⟨B, hB⟩ : ∃ B, wa.heap.size = B := ⟨_, rfl⟩
  have ba : Below w.heap.size w wa := by rw [← hwa]; exact (Below.refl _ _).alloc (Nat.le_refl _) _
  have bb : Below wa.heap.size wa wb := by rw [← hwb]; exact (Below.refl _ _).alloc (Nat.le_refl _) _
  have y1 : CtB wb A c := by
    have h : CtB wa A c := by rw [← hwa, ← hA]; exact heap_alloc_new w _
    exact h.on bb
  have z1 : CtB wb B c := by rw [← hwb, ← hB]; exact heap_alloc_new wa _
  have HBl : Hid (Below A w wb) := by rw [← hA]; exact ba.trans (bb.mono ba.size)
  obtain ⟨q0, q1, q2, q3⟩ := z1.cells
  obtain ⟨r0, r1, r2, r3⟩ := y1.cells
  obtain ⟨d, e, f, g⟩ := c
  clear ba bb y1 z1
  dsimp only at *
  go_enter Tryd.func12, Tryd.ntmps12
  go_wp2
  go_ret
  exact ⟨rfl, by rw [hA]; exact HBl.out⟩
end Go.Proofs.YtnnaphfeeobelaqDoor
