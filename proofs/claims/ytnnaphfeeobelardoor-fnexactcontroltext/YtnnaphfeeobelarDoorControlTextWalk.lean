/- Exact ControlText, walked. -/
import Derived.Test.YtnnaphfeeobelarDoorToControl
import Derived.Test.YtnnaphfeeobelarDoorControlTextSpec
import Derived.Test.YtnnaphfeeobelarDoorControlTextImpl
namespace Go.Proofs.YtnnaphfeeobelarDoor
open Go.RowKit Go.Sort
set_option maxRecDepth 100000 in
set_option maxHeartbeats 4000000 in
theorem controlText_walk (c : Ct) (w : World) (_hx : (Lit.int .i64 c.ma).wf = true) (_hy : (Lit.int .i64 c.sh).wf = true) (htab : Lib.TabIs Tryd.prog w "internal/strconv.uint64pow10" .u64 Lib.pow10Tab) :
    Calls Tryd.prog 3 #[.agg #[.bool c.ns, .bool c.nc, .int .i64 c.ma, .int .i64 c.sh]] w fun e w' => e = .returned (.bool true) ∧ Below w.heap.size w w' := by
  obtain ⟨wb, hwb⟩ : ∃ wb, w.alloc (.cells #[.bool c.ns, .bool c.nc, .int .i64 c.ma, .int .i64 c.sh] 23) = wb := ⟨_, rfl⟩
  have hb : Below w.heap.size w wb := by rw [← hwb]; exact (Below.refl _ _).alloc (Nat.le_refl _) _
  obtain ⟨A, hA⟩ : ∃ A, w.heap.size = A := ⟨_, rfl⟩
  have hx : wb.heap[A]? = some (.cells #[.bool c.ns, .bool c.nc, .int .i64 c.ma, .int .i64 c.sh] 23 (0, 0)) := by rw [← hwb, ← hA]; exact heap_alloc_new w _
  have hlt : A < wb.heap.size := (Array.getElem?_eq_some_iff.1 hx).1
  have HX : Hid (∀ wi : World, Below wb.heap.size wb wi → wi.cell? ⟨A, 0, none⟩ = some (.bool c.ns) ∧ wi.cell? ⟨A, 1, none⟩ = some (.bool c.nc) ∧ wi.cell? ⟨A, 2, none⟩ = some (.int .i64 c.ma) ∧ wi.cell? ⟨A, 3, none⟩ = some (.int .i64 c.sh)) := by
    intro wi hi
    have h := (hi.block A hlt).trans hx
    exact ⟨by simp [World.cell?, h], by simp [World.cell?, h], by simp [World.cell?, h], by simp [World.cell?, h]⟩
  have HB : Hid (Below A w wb ∧ A ≤ wb.heap.size) := ⟨by rw [← hA]; exact hb, Nat.le_of_lt hlt⟩
  have HW : Hid (Below wb.heap.size wb wb) := Below.refl _ _
  have CS : Hid (∀ wi, Calls Tryd.prog 8 #[.agg #[.bool c.ns, .bool c.nc, .int .i64 c.ma, .int .i64 c.sh]] wi fun e w' => e = .returned (.string (textC c)) ∧ Below wi.heap.size wi w') := fun wi => specControlText_any wi c
  have CI : Hid (∀ wi, Below wb.heap.size wb wi → Calls Tryd.prog 10 #[.agg #[.bool c.ns, .bool c.nc, .int .i64 c.ma, .int .i64 c.sh]] wi fun e w' => e = .returned (.string (textC c)) ∧ Below wi.heap.size wi w') := fun wi hi => implControlText_any wi c (tab_below gPow htab (hb.trans (hi.mono hb.size)))
  generalize textC c = t at CS CI
  obtain ⟨b0, b1, b2, b3⟩ := HX.out wb HW.out
  clear hb hx hlt htab
  go_enter Tryd.func3, Tryd.ntmps3
  go_wp2_with fail
  refine (toControl_any _ c).mono ?_
  rintro e w1 ⟨rfl, hb⟩
  have HW : Hid (Below wb.heap.size wb w1) := HW.out.trans (hb.mono HW.out.size)
  clear hb
  go_wp2_with fail
  refine (CS.out _).mono ?_
  rintro e w2 ⟨rfl, hb⟩
  have HW : Hid (Below wb.heap.size wb w2) := HW.out.trans (hb.mono HW.out.size)
  obtain ⟨b0, b1, b2, b3⟩ := HX.out w2 HW.out
  clear hb
  go_wp2_with fail
  refine (toControl_any _ c).mono ?_
  rintro e w3 ⟨rfl, hb⟩
  have HW : Hid (Below wb.heap.size wb w3) := HW.out.trans (hb.mono HW.out.size)
  clear hb
  go_wp2_with fail
  refine (CI.out _ HW.out).mono ?_
  rintro e w4 ⟨rfl, hb⟩
  have HW : Hid (Below wb.heap.size wb w4) := HW.out.trans (hb.mono HW.out.size)
  clear hb
  go_wp2_with fail
  go_ret
  exact ⟨rfl, by rw [hA]; exact HB.out.1.trans (HW.out.mono HB.out.2)⟩
end Go.Proofs.YtnnaphfeeobelarDoor
