/- The walk of the law on ListNew, given the program's contract. -/
import Derived.Test.YtghladeamdhlhanMarkInts
namespace Go.Proofs.Ytghladeamdhlhan
open Go.RowKit Go.Sort

def newL : List Int := List.replicate 63 0
theorem specListNew_any (w : World) :
    Calls Try.prog 9 #[] w fun e w' => ∃ v, e = .returned v ∧ OwnV w' w.heap.size 3 v (ints newL) ∧ Below w.heap.size w w' := by
  obtain ⟨i0, hi, hz0, hz1, hz2⟩ := info_parts Try.infoInt
  obtain ⟨w0, hmk, hown0, hgr0⟩ := run_make_full (P := Try.prog) w w.heap.size 22 3 i0 (.int .i64 0) 1 Try.underlying22 hi hz0 hz1 .i64 .i64 63 (by rw [hz2]; omega) (by unfold maxLen; omega) (Nat.le_refl _)
  have hb0 : Below w.heap.size w w0 := ⟨hgr0.os, hgr0.tape, hgr0.output, hgr0.size, fun j hj => hgr0.block j hj (by simp)⟩
  have hown : OwnV w0 w.heap.size 3 (.slice (some ⟨w.heap.size, 0, none⟩) 63 63) (ints newL) := by
    have h := hown0
    rw [show (Value.int .i64 0).cells = #[Value.int .i64 0] from rfl, toList_madeCells_one, Nat.mul_one] at h
    have e : ints newL = List.replicate 63 (Value.int .i64 0) := by simp [ints, newL]
    unfold OwnV
    rw [e, List.length_replicate]
    exact h
  have hmk2 : (Instr.makeSlice 22 (.int .i64 63) (.int .i64 63)).run Try.prog w = .ok (.slice (some ⟨w.heap.size, 0, none⟩) 63 63) w0 := hmk
  clear hown0 hgr0 hi hz0 hz1 hz2 hmk
  go_enter Try.func9, Try.ntmps9
  go_wp2
  go_ret
  exact ⟨_, rfl, hown, hb0⟩

set_option maxHeartbeats 2000000 in
theorem listNew_given (CI0 : ∀ w : World, Calls Try.prog 10 #[] w fun e w' => ∃ v, e = .returned v ∧ OwnV w' w.heap.size 3 v (ints newL) ∧ Below w.heap.size w w') (w : World) :
    Calls Try.prog 3 #[] w fun e w' => e = .returned (.bool true) ∧ Below w.heap.size w w' := by
  have hMl : newL.length ≤ 1048576 := by decide
  have C0 : Hid (∀ w : World, Calls Try.prog 10 #[] w fun e w' => ∃ v, e = .returned v ∧ OwnV w' w.heap.size 3 v (ints newL) ∧ Below w.heap.size w w') := CI0
  clear CI0
  go_enter Try.func3, Try.ntmps3
  go_wp2_with fail
  refine (specListNew_any w).mono ?_
  rintro e w1 ⟨v1, rfl, ho1, hb1⟩
  go_wp2_with fail
  refine (C0.out w1).mono ?_
  rintro e w2 ⟨v2, rfl, ho2, hb2⟩
  have hB2 := hb1.trans (hb2.mono hb1.size)
  have h12 := ho1.below hb2 (Nat.le_refl _)
  have AP : Hid (∀ k, v2.ownBlock = some k → v1.ownBlock ≠ some k ∧ w.heap.size ≤ k) := fun k hk => ⟨fun e => by have := (ho1.lt k e).2; have := (ho2.lt k hk).1; omega, Nat.le_trans hb1.size (ho2.lt k hk).1⟩
  obtain ⟨a1, c1, hv1, hA1⟩ := h12.ints
  obtain ⟨a2, c2, hv2, hA2⟩ := ho2.ints
  subst hv1
  subst hv2
  clear ho1
  go_wp2_with fail
  refine (eqIntS_same w2 a2 a1 c2 c1 newL hA2 hA1 hMl).mono ?_
  rintro e w3 ⟨rfl, hb3⟩
  have hB3 := hB2.trans (hb3.mono hB2.size)
  have h13 := h12.below hb3 (Nat.le_refl _)
  have h23 := ho2.below hb3 (Nat.le_refl _)
  clear h12 ho2 hA1 hA2
  go_wp2_with fail
  refine (markI_any w3 _ _ newL 1 h23 hMl (by omega)).mono ?_
  rintro e w4 ⟨he4, ⟨m, hml, hmm, h24⟩, hg4⟩
  obtain ⟨k4, hk4⟩ : ∃ k4 : Nat, 1 + newL.length = k4 := ⟨_, rfl⟩
  rw [hk4] at he4
  subst he4
  have hd4 : decide ((k4 : Int) < 0) = false := decide_eq_false (by omega)
  have hB4 : Below w.heap.size w w4 := Below.grown hB3 hg4 hB3.size (fun k hk => (AP.out k hk).2)
  have h14 := h13.grown hg4 (fun k hk e => (AP.out k e).1 hk)
  have CH : Hid (∀ wi b, OwnV wi b 3 (.slice a2 newL.length c2) (ints m) → Calls Try.prog 13 #[.slice a2 newL.length c2, .int .i64 ((1 : Nat) : Int)] wi fun e w' => e = .returned (.int .i64 (k4 : Int)) ∧ w' = wi) := by
    intro wi b ho
    rw [← hk4]
    exact heldI_any wi b _ m newL.length 1 hml ho hmm hMl (by omega)
  clear h13 h23 hg4 hk4 hml hmm
  go_wp2_with fail
  refine (CH.out w4 _ h24).mono ?_
  rintro e w4' ⟨rfl, rfl⟩
  go_wp2_with fail
  refine (C0.out _).mono ?_
  rintro e w5 ⟨v5, rfl, ho5, hb5⟩
  have hB5 := hB4.trans (hb5.mono hB4.size)
  have h15 := h14.below hb5 (Nat.le_refl _)
  have h25 := h24.below hb5 (Nat.le_refl _)
  obtain ⟨a5, c5, rfl, hA5⟩ := ho5.ints
  obtain ⟨x1, u1, hx1, hA1⟩ := h15.ints
  simp only [Value.slice.injEq] at hx1
  obtain ⟨rfl, _, rfl⟩ := hx1
  go_wp2_with fail
  refine (eqIntS_same w5 a5 _ c5 _ newL hA5 hA1 hMl).mono ?_
  rintro e w6 ⟨rfl, hb6⟩
  have hB6 := hB5.trans (hb6.mono hB5.size)
  have h26 := h25.below hb6 (Nat.le_refl _)
  go_wp2_with fail
  refine (CH.out w6 _ h26).mono ?_
  rintro e w6' ⟨rfl, rfl⟩
  go_wp2
  go_ret
  exact ⟨rfl, hB6⟩
end Go.Proofs.Ytghladeamdhlhan
