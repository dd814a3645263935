/- A law weighs a head: its line, then its fields. -/
import Derived.Test.YtnnaphfeeobelarDoorHeadLaw
namespace Go.Proofs.YtnnaphfeeobelarDoor
open Go.RowKit Go.Sort
set_option maxHeartbeats 2000000 in
theorem szHead_any (w : World) (a : Option Addr) (c : Nat) (H : Hd) (left : Int) (h0 : 0 ≤ left) (h1 : left ≤ 1048576) (hA : DAt w a H.flds w.heap.size) (hs : ∀ j (hj : j < H.flds.length), H.flds[j].1.size ≤ maxLen ∧ H.flds[j].2.size ≤ maxLen) (hm : H.flds.length ≤ maxLen) (hn : H.line.size ≤ maxLen) :
    Calls Tryd.prog 11 #[.agg #[.string H.line, .slice a H.flds.length c], .int .i64 left] w fun e w' => ∃ r : Int, e = .returned (.int .i64 r) ∧ (r = -1 ∨ 0 ≤ r ∧ r + (H.line.size : Int) + (H.flds.length : Int) + (wgtD H.flds : Int) = left) ∧ Below w.heap.size w w' := by
  obtain ⟨line, L⟩ := H
  dsimp only at *
  have hn' := hn
  unfold maxLen at hn'
  obtain ⟨w0, hw0⟩ : ∃ x, w.alloc (.cells #[.string line, .slice a L.length c] 30) = x := ⟨_, rfl⟩
  have hb0 : Below w.heap.size w w0 := by rw [← hw0]; exact (Below.refl _ _).alloc (Nat.le_refl _) _
  have hX : HBx w0 w.heap.size 30 (.string line) (.slice a L.length c) := by rw [← hw0]; exact HBx.new _ _ _ _
  have HW : Hid (w.alloc (.cells #[.string line, .slice a L.length c] 30) = w0) := hw0
  obtain ⟨x0, x1⟩ := hX.cells
  rw [← hw0] at x0 x1
  have hA0 := hA.on hb0
  by_cases hC : left - line.size < 0
  · go_enter Tryd.func11, Tryd.ntmps11
    clear hw0
    go_wp2
    go_ret
    exact ⟨_, rfl, .inl rfl, by rw [HW.out]; exact hb0⟩
  · have e1 := szFieldS_any w0 a c L (left - line.size) (by omega) (by omega) hA0 hs hm
    clear hw0 hA
    go_enter Tryd.func11, Tryd.ntmps11
    go_wp2_with fail
    rw [HW.out] at x0 x1 ⊢
    refine e1.mono ?_
    rintro e w2 ⟨r, rfl, hr, hb2⟩
    rcases hr with rfl | ⟨hr0, hr1⟩
    · go_wp2_with fail
      go_ret
      exact ⟨_, rfl, .inl rfl, hb0.trans (hb2.mono hb0.size)⟩
    · have hr2 : ¬ r < 0 := by omega
      go_wp2_with fail
      go_ret
      exact ⟨_, rfl, .inr ⟨hr0, by omega⟩, hb0.trans (hb2.mono hb0.size)⟩
end Go.Proofs.YtnnaphfeeobelarDoor
