/- A law's Control and the program's; two of them compared. -/
import Derived.Test.YtnnaphfeeobelarDoorCtBox
namespace Go.Proofs.YtnnaphfeeobelarDoor
open Go.RowKit Go.Sort
theorem CtB.far {w : World} {T B : Nat} {c : Ct} (h : CtB w B c) (hne : B ≠ T) (i : Nat) (u : Value) : CtB (w.setCell ⟨T, i, none⟩ u) B c := (Below.heap_setCell _ _ _ _ (fun e => hne (by simpa using e))).trans h
set_option maxRecDepth 100000 in
set_option maxHeartbeats 4000000 in
theorem toControl_any (w : World) (c : Ct) :
    Calls Tryd.prog 9 #[.agg #[.bool c.ns, .bool c.nc, .int .i64 c.ma, .int .i64 c.sh]] w fun e w' => e = .returned (.agg #[.bool c.ns, .bool c.nc, .int .i64 c.ma, .int .i64 c.sh]) ∧ Below w.heap.size w w' := by
  obtain ⟨wa, hwa⟩ : ∃ wa, w.alloc (.cells #[.bool c.ns, .bool c.nc, .int .i64 c.ma, .int .i64 c.sh] 23) = wa := ⟨_, rfl⟩
  obtain ⟨wb, hwb⟩ : ∃ wb, wa.alloc (.cells #[.bool false, .bool false, .int .i64 0, .int .i64 0] 25) = wb := ⟨_, rfl⟩
  obtain ⟨wc, hwc⟩ : ∃ wc, wb.alloc (.cells #[.bool false, .bool false, .int .i64 0, .int .i64 0] 25) = wc := ⟨_, rfl⟩
  obtain ⟨A, hA⟩ : ∃ A, w.heap.size = A := ⟨_, rfl⟩
  obtain ⟨B, hB⟩ : ∃ B, wa.heap.size = B := ⟨_, rfl⟩
  obtain ⟨C, hC⟩ : ∃ C, wb.heap.size = C := ⟨_, rfl⟩
  have ba : Below w.heap.size w wa := by rw [← hwa]; exact (Below.refl _ _).alloc (Nat.le_refl _) _
  have bb : Below wa.heap.size wa wb := by rw [← hwb]; exact (Below.refl _ _).alloc (Nat.le_refl _) _
  have bc : Below wb.heap.size wb wc := by rw [← hwc]; exact (Below.refl _ _).alloc (Nat.le_refl _) _
  have hAB : A < B := by rw [← hA, ← hB, ← hwa]; simp
  have hBC : B < C := by rw [← hB, ← hC, ← hwb]; simp
  have x0 : wa.heap[A]? = some (.cells #[.bool c.ns, .bool c.nc, .int .i64 c.ma, .int .i64 c.sh] 23 (0, 0)) := by rw [← hwa, ← hA]; exact heap_alloc_new w _
  have x1 : wc.heap[A]? = some (.cells #[.bool c.ns, .bool c.nc, .int .i64 c.ma, .int .i64 c.sh] 23 (0, 0)) := by rw [bc.block A (by omega), bb.block A (by omega)]; exact x0
  have y1 : CtB wc B ⟨false, false, 0, 0⟩ := by
    have h : CtB wb B ⟨false, false, 0, 0⟩ := by rw [← hwb, ← hB]; exact heap_alloc_new wa _
    exact h.on bc
  have z1 : CtB wc C ⟨false, false, 0, 0⟩ := by rw [← hwc, ← hC]; exact heap_alloc_new wb _
  have HBl : Hid (Below A w wc) := by rw [← hA]; exact ba.trans ((bb.mono (by omega)).trans (bc.mono (by omega)))
  have HX : Hid (∀ wi : World, wi.heap[A]? = some (.cells #[.bool c.ns, .bool c.nc, .int .i64 c.ma, .int .i64 c.sh] 23 (0, 0)) → wi.cell? ⟨A, 0, none⟩ = some (.bool c.ns) ∧ wi.cell? ⟨A, 1, none⟩ = some (.bool c.nc) ∧ wi.cell? ⟨A, 2, none⟩ = some (.int .i64 c.ma) ∧ wi.cell? ⟨A, 3, none⟩ = some (.int .i64 c.sh)) :=
    fun wi h => ⟨by simp [World.cell?, h], by simp [World.cell?, h], by simp [World.cell?, h], by simp [World.cell?, h]⟩
  obtain ⟨p0, p1, p2, p3⟩ := HX.out wc x1
  obtain ⟨q0, q1, q2, q3⟩ := z1.cells
  obtain ⟨r0, r1, r2, r3⟩ := y1.cells
  have tz0 := z1.thaw 0
  have tz1 := z1.thaw 1
  have tz2 := z1.thaw 2
  have tz3 := z1.thaw 3
  have ty0 := y1.thaw 0
  have ty1 := y1.thaw 1
  have ty2 := y1.thaw 2
  have ty3 := y1.thaw 3
  have n1 : ¬ A = C := by omega
  have n2 : ¬ B = C := by omega
  have n3 : ¬ C = A := by omega
  have n4 : ¬ C = B := by omega
  have HY : Hid (CtB wc B ⟨false, false, 0, 0⟩ ∧ CtB wc C ⟨false, false, 0, 0⟩ ∧ A < B ∧ B < C ∧ w.heap.size = A) := ⟨y1, z1, hAB, hBC, hA⟩
  clear ba bb bc x0 x1 y1 z1 hAB hBC HX
  go_enter Tryd.func9, Tryd.ntmps9
  go_wp2
  have HE : Hid (CtB ((((((((wc.setCell ⟨C, 0, none⟩ (.bool c.ns)).setCell ⟨C, 1, none⟩ (.bool c.nc)).setCell ⟨C, 2, none⟩ (.int .i64 c.ma)).setCell ⟨C, 3, none⟩ (.int .i64 c.sh)).setCell ⟨B, 0, none⟩ (.bool c.ns)).setCell ⟨B, 1, none⟩ (.bool c.nc)).setCell ⟨B, 2, none⟩ (.int .i64 c.ma)).setCell ⟨B, 3, none⟩ (.int .i64 c.sh)) B c ∧ Below A w ((((((((wc.setCell ⟨C, 0, none⟩ (.bool c.ns)).setCell ⟨C, 1, none⟩ (.bool c.nc)).setCell ⟨C, 2, none⟩ (.int .i64 c.ma)).setCell ⟨C, 3, none⟩ (.int .i64 c.sh)).setCell ⟨B, 0, none⟩ (.bool c.ns)).setCell ⟨B, 1, none⟩ (.bool c.nc)).setCell ⟨B, 2, none⟩ (.int .i64 c.ma)).setCell ⟨B, 3, none⟩ (.int .i64 c.sh))) := by
    obtain ⟨h1, _, h3, h4, _⟩ := HY.out
    refine ⟨((((((((h1.far n2 0 _).far n2 1 _).far n2 2 _).far n2 3 _).set0 c.ns).set1 c.nc).set2 c.ma).set3 c.sh), ?_⟩
    have gC : A ≤ C := by omega
    have gB : A ≤ B := by omega
    exact (((((((HBl.out.setCell gC _).setCell gC _).setCell gC _).setCell gC _).setCell gB _).setCell gB _).setCell gB _).setCell gB _
  generalize (((((((wc.setCell ⟨C, 0, none⟩ (.bool c.ns)).setCell ⟨C, 1, none⟩ (.bool c.nc)).setCell ⟨C, 2, none⟩ (.int .i64 c.ma)).setCell ⟨C, 3, none⟩ (.int .i64 c.sh)).setCell ⟨B, 0, none⟩ (.bool c.ns)).setCell ⟨B, 1, none⟩ (.bool c.nc)).setCell ⟨B, 2, none⟩ (.int .i64 c.ma)).setCell ⟨B, 3, none⟩ (.int .i64 c.sh) = w9 at HE ⊢
  obtain ⟨k0, k1, k2, k3⟩ := HE.out.1.cells
  refine bodyPost_ret (v := .agg #[.bool c.ns, .bool c.nc, .int .i64 c.ma, .int .i64 c.sh]) (by simp [results, Tryd.results9, go_sem, k0, k1, k2, k3]) rfl ⟨rfl, HE.out.2⟩
end Go.Proofs.YtnnaphfeeobelarDoor
