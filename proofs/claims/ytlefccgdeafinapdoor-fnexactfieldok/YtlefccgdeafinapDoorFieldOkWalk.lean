/- The law on FieldOk, walked. -/
import Derived.Test.YtlefccgdeafinapDoorFieldLaw
import Derived.Test.YtlefccgdeafinapDoorFieldOkImpl
namespace Go.Proofs.YtlefccgdeafinapDoor
open Go.RowKit Go.Sort
def HBy (w : World) (T : Nat) (l v : Value) : Prop := w.heap[T]? = some (.cells #[l, v] 23 (0, 0))
theorem HBy.on {w w' : World} {T : Nat} {l v : Value} (h : HBy w T l v) (hb : Below w.heap.size w w') : HBy w' T l v := (hb.block T (Array.getElem?_eq_some_iff.1 h).1).trans h
theorem HBy.cells {w : World} {T : Nat} {l v : Value} (h : HBy w T l v) : w.cell? ⟨T, 0, none⟩ = some l ∧ w.cell? ⟨T, 1, none⟩ = some v := by
  unfold HBy at h
  exact ⟨by simp [World.cell?, h], by simp [World.cell?, h]⟩
set_option maxRecDepth 100000 in
set_option maxHeartbeats 4000000 in
theorem fieldOk_walk (f : ByteArray × ByteArray) (w : World) (hm : f.1.size ≤ maxLen) (hm' : f.2.size ≤ maxLen) :
    Calls Tryd.prog 3 #[.agg #[.string f.1, .string f.2]] w fun e w' => e = .returned (.bool true) ∧ Below w.heap.size w w' := by
  obtain ⟨wb, hwb⟩ : ∃ wb, w.alloc (.cells #[.string f.1, .string f.2] 23) = wb := ⟨_, rfl⟩
  have hb : Below w.heap.size w wb := by rw [← hwb]; exact (Below.refl _ _).alloc (Nat.le_refl _) _
  have hX : HBy wb w.heap.size (.string f.1) (.string f.2) := by rw [← hwb]; exact heap_alloc_new w _
  have HX : Hid (∀ wi, Below wb.heap.size wb wi → wi.cell? ⟨w.heap.size, 0, none⟩ = some (.string f.1) ∧ wi.cell? ⟨w.heap.size, 1, none⟩ = some (.string f.2)) := fun wi hi => (hX.on hi).cells
  have c0 := szField_any wb f 1048576 (by omega) (by omega) hm hm'
  have HW : Hid (w.alloc (.cells #[.string f.1, .string f.2] 23) = wb) := hwb
  obtain ⟨b0, b1⟩ := hX.cells
  rw [← hwb] at b0 b1
  clear hwb hX
  go_enter Tryd.func3, Tryd.ntmps3
  go_wp2_with fail
  rw [HW.out] at b0 b1 ⊢
  refine c0.mono ?_
  rintro e w1 ⟨r, rfl, hr, hb1⟩
  clear c0 b0 b1
  have hw1 := hb.trans (hb1.mono hb.size)
  rcases hr with rfl | ⟨hr0, hr1⟩
  · go_wp2_with fail
    go_ret
    exact ⟨rfl, hw1⟩
  have hs1 : f.1.size ≤ 1048576 := by omega
  have hs2 : f.2.size ≤ 1048576 := by omega
  have hr2 : ¬ r < 0 := by omega
  clear hr1 hr0 hm hm'
  obtain ⟨R, hR⟩ : ∃ R, fieldOkS f = R := ⟨_, rfl⟩
  have hbb : (R != R) = false := by simp
  have CS : Hid (∀ wi, Calls Tryd.prog 6 #[.agg #[.string f.1, .string f.2]] wi fun e w' => e = .returned (.bool R) ∧ Below wi.heap.size wi w') := by intro wi; rw [← hR]; exact specFieldOk_any f wi hs1 hs2
  have CI : Hid (∀ wi, Calls Tryd.prog 8 #[.agg #[.string f.1, .string f.2]] wi fun e w' => e = .returned (.bool R) ∧ Below wi.heap.size wi w') := by intro wi; rw [← hR]; exact implFieldOk_any f wi hs1 hs2
  clear hR
  obtain ⟨b0, b1⟩ := HX.out w1 hb1
  go_wp2_with fail
  refine (toField_any w1 f).mono ?_
  rintro e w2 ⟨rfl, hb2⟩
  clear b0 b1
  have hb12 := hb1.trans (hb2.mono hb1.size)
  go_wp2_with fail
  refine (CS.out w2).mono ?_
  rintro e w3 ⟨rfl, hb3⟩
  have hb13 := hb12.trans (hb3.mono hb12.size)
  obtain ⟨b0, b1⟩ := HX.out w3 hb13
  go_wp2_with fail
  refine (toField_any w3 f).mono ?_
  rintro e w4 ⟨rfl, hb4⟩
  clear b0 b1
  have hb14 := hb13.trans (hb4.mono hb13.size)
  go_wp2_with fail
  refine (CI.out w4).mono ?_
  rintro e w5 ⟨rfl, hb5⟩
  have hb15 := hb14.trans (hb5.mono hb14.size)
  go_wp2_with fail
  go_ret
  exact ⟨rfl, hb.trans (hb15.mono hb.size)⟩
end Go.Proofs.YtlefccgdeafinapDoor
