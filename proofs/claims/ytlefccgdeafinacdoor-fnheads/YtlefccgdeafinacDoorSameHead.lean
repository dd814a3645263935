/- Two heads that are the same are told to be so. -/
import Derived.Test.YtlefccgdeafinacDoorHeadLaw
import Derived.Laws.StructEq
import Derived.Deep.QuietTactic
import Derived.BigQuiet
import Derived.WalkSmall
namespace Go.Proofs.YtlefccgdeafinacDoor
open Go.RowKit Go.Sort
set_option maxRecDepth 100000 in
theorem field_neq (f : ByteArray × ByteArray) (w : World) : (binOp .neq 50 (.agg #[.string f.1, .string f.2]) (.agg #[.string f.1, .string f.2])).run Tryd.prog w = .ok (.bool false) w := by
  have h0 := Tryd.underlying50
  have h2 : Tryd.prog.stoodInHeld 50 = false := by kernel_rfl
  rw [run_neq_struct, run_equalIn_agg w 9999 50 _ _ (by unfold Program.fieldsOf; rw [h0]) h2]
  simp [go_sem, h0, Op.eqFields]
set_option maxRecDepth 100000 in
set_option maxHeartbeats 4000000 in
theorem sameHead_same (w : World) (a b : Option Addr) (c d : Nat) (line : ByteArray) (L : List (ByteArray × ByteArray)) (hA : DAt w a L w.heap.size) (hB : DAt w b L w.heap.size) (hm : L.length ≤ 1048576) :
    Calls Tryd.prog 8 #[.agg #[.string line, .slice a L.length c], .agg #[.string line, .slice b L.length d]] w fun e w' => e = .returned (.bool true) ∧ Below w.heap.size w w' := by
  obtain ⟨w0, hw0⟩ : ∃ x, w.alloc (.cells #[.string line, .slice a L.length c] 26) = x := ⟨_, rfl⟩
  obtain ⟨w1, hw1⟩ : ∃ x, w0.alloc (.cells #[.string line, .slice b L.length d] 26) = x := ⟨_, rfl⟩
  have hb0 : Below w.heap.size w w0 := by rw [← hw0]; exact (Below.refl _ _).alloc (Nat.le_refl _) _
  have hb1 : Below w0.heap.size w0 w1 := by rw [← hw1]; exact (Below.refl _ _).alloc (Nat.le_refl _) _
  have s0 : w0.heap.size = w.heap.size + 1 := by rw [← hw0]; simp
  have hX : HBx w1 w.heap.size 26 (.string line) (.slice a L.length c) := by
    have h : HBx w0 w.heap.size 26 (.string line) (.slice a L.length c) := by rw [← hw0]; exact HBx.new _ _ _ _
    exact h.on hb1
  have hY : HBx w1 (w.heap.size + 1) 26 (.string line) (.slice b L.length d) := by rw [← hw1, ← s0]; exact HBx.new _ _ _ _
  have hbw : Below w.heap.size w w1 := hb0.trans (hb1.mono hb0.size)
  obtain ⟨x0, x1⟩ := hX.cells
  obtain ⟨y0, y1⟩ := hY.cells
  have HW : Hid ((w.alloc (.cells #[.string line, .slice a L.length c] 26)).alloc (.cells #[.string line, .slice b L.length d] 26) = w1) := by rw [hw0]; exact hw1
  rw [← hw1, ← hw0] at x0 x1 y0 y1
  have hgg : ((L.length : Int) != (L.length : Int)) = false := by simp
  have hP := hA.on hbw
  have hQ := hB.on hbw
  clear hw0 hw1 s0 hb0 hb1 hA hB
  go_enter Tryd.func8, Tryd.ntmps8
  go_wp2_with fail
  rw [HW.out] at x0 x1 y0 y1 ⊢
  clear x0 x1 y0 y1 HW
  go_loopw [5] (fun i wr => Box (∃ (k nq : Nat), k ≤ L.length ∧ i = .int .i64 k ∧ wr = w1.drewN nq))
    (fun i _ => L.length - (intOf i).toNat)
  case atStart => exact ⟨⟨0, 0, by omega, rfl, rfl⟩⟩
  case round =>
    obtain ⟨k, nq, hk, rfl, hwr⟩ := hrel.out
    clear hrel
    obtain ⟨x0, x1⟩ := hX.cells
    obtain ⟨y0, y1⟩ := hY.cells
    rw [hwr]
    clear hwr
    by_cases hlt : k < L.length
    · obtain ⟨g, off, hg1, _, q0, q1⟩ := hP k hlt
      obtain ⟨g2, off2, hg2, _, r0, r1⟩ := hQ k hlt
      obtain ⟨f, hf⟩ : ∃ f, L[k] = f := ⟨_, rfl⟩
      rw [hf] at q0 q1 r0 r1
      subst hg1 hg2
      have hi1 : (0 : Int) ≤ (k : Int) := by omega
      have hi2 : (k : Int) < (L.length : Int) := by omega
      have hq := fun w => field_neq f w
      have HK : Hid (k < L.length) := hlt
      have hkb : k ≤ 1048576 := by omega
      clear hf hP hQ hX hY hlt hk
      go_wp2_with fail
      go_quiet (fail)
      go_wp2_with fail
      go_roundw
      case rel =>
        try ((repeat apply Exists.intro); refine ⟨?_, rfl⟩)
        exact ⟨⟨k + 1, _, HK.out, by go_num, rfl⟩⟩
      case measure => have := HK.out; simp [intOf]; omega
    · have hi2 : ¬ (k : Int) < (L.length : Int) := by omega
      go_wp2_with fail
      go_ret
      exact ⟨rfl, hbw.trans ⟨rfl, rfl, rfl, Nat.le_refl _, fun _ _ => rfl⟩⟩
end Go.Proofs.YtlefccgdeafinacDoor
