/- Exact ControlOf, walked. -/
import Derived.Test.YtnnaphfeeobelaqDoorToControl
import Derived.Test.YtnnaphfeeobelaqDoorControlOfSpec
import Derived.Test.YtnnaphfeeobelaqDoorControlOfImpl
namespace Go.Proofs.YtnnaphfeeobelaqDoor
open Go.RowKit Go.Sort
set_option maxRecDepth 100000 in
set_option maxHeartbeats 4000000 in
theorem controlOf_walk (s : ByteArray) (w : World) (_hm : s.size ≤ maxLen) :
    Calls Tryd.prog 4 #[.string s] w fun e w' => e = .returned (.bool true) ∧ Below w.heap.size w w' := by
  by_cases h : s.size ≤ 1048576
  · have c1 := specControlOf_any s w h
    have HI : Hid (∀ wi, Calls Tryd.prog 11 #[.string s] wi fun e w' => e = .returned (.agg #[.bool (controlS s.data.toList).ns, .bool (controlS s.data.toList).nc, .int .i64 (controlS s.data.toList).ma, .int .i64 (controlS s.data.toList).sh]) ∧ Below wi.heap.size wi w') := fun wi => implControlOf_any s wi h
    generalize controlS s.data.toList = c at c1 HI
    have hi : ¬ (1048576 : Int) < (s.size : Int) := by omega
    clear h
    go_enter Tryd.func4, Tryd.ntmps4
    go_wp2_with fail
    refine c1.mono ?_
    rintro e w1 ⟨rfl, hb1⟩
    obtain ⟨wx, hwx⟩ : ∃ wx, w1.alloc (.cells #[.bool c.ns, .bool c.nc, .int .i64 c.ma, .int .i64 c.sh] 35) = wx := ⟨_, rfl⟩
    obtain ⟨A, hA⟩ : ∃ A, w1.heap.size = A := ⟨_, rfl⟩
    have hbx : Below w1.heap.size w1 wx := by rw [← hwx]; exact (Below.refl _ _).alloc (Nat.le_refl _) _
    have hx : CtB wx A c := by rw [← hwx, ← hA]; exact heap_alloc_new w1 _
    have HX : Hid (Below w.heap.size w wx ∧ CtB wx A c) := ⟨hb1.trans (hbx.mono hb1.size), hx⟩
    clear c1 hb1 hbx hx
    go_wp2_with fail
    refine (HI.out _).mono ?_
    rintro e w2 ⟨rfl, hb2⟩
    obtain ⟨wy, hwy⟩ : ∃ wy, w2.alloc (.cells #[.bool c.ns, .bool c.nc, .int .i64 c.ma, .int .i64 c.sh] 35) = wy := ⟨_, rfl⟩
    obtain ⟨B, hB⟩ : ∃ B, w2.heap.size = B := ⟨_, rfl⟩
    have hby : Below w2.heap.size w2 wy := by rw [← hwy]; exact (Below.refl _ _).alloc (Nat.le_refl _) _
    have hy : CtB wy B c := by rw [← hwy, ← hB]; exact heap_alloc_new w2 _
    have hbz : Below wx.heap.size wx wy := hb2.trans (hby.mono hb2.size)
    have HY : Hid (Below w.heap.size w wy) := HX.out.1.trans (hbz.mono HX.out.1.size)
    obtain ⟨q0, q1, q2, q3⟩ := hy.cells
    obtain ⟨r0, r1, r2, r3⟩ := (HX.out.2.on hbz).cells
    clear hb2 hby hy hbz HI
    have c3 := eqControl_same wy c
    go_wp2_with fail
    refine c3.mono ?_
    rintro e w3 ⟨rfl, hb3⟩
    go_wp2_with fail
    go_ret
    exact ⟨rfl, HY.out.trans (hb3.mono HY.out.size)⟩
  · have hi : (1048576 : Int) < (s.size : Int) := by omega
    clear h
    go_enter Tryd.func4, Tryd.ntmps4
    go_wp2_with fail
    go_ret
    exact ⟨rfl, Below.refl _ _⟩
end Go.Proofs.YtnnaphfeeobelaqDoor
