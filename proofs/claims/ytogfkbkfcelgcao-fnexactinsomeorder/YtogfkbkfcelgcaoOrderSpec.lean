/- The other text's InSomeOrder. -/
import Derived.Test.YtogfkbkfcelgcaoTrySpec
namespace Go.Proofs.Ytogfkbkfcelgcao
open Go.RowKit Go.Sort

theorem Try.infoBool : (Try.prog.info? 4).map (fun i => (i.zero, i.size, i.bytes)) = some (some (.bool false), 1, 1) := by kernel_rfl
/-- 'make([]bool, n)'. -/
theorem make_flags (w : World) (n : Nat) (hn : n ≤ 1048576) :
    ∃ w', (Instr.makeSlice 65 (.int .i64 (n : Int)) (.int .i64 (n : Int))).run Try.prog w = .ok (.slice (some ⟨w.heap.size, 0, none⟩) n n) w' ∧ UB w' w.heap.size (List.replicate n false) ∧ Below w.heap.size w w' := by
  obtain ⟨i0, hi, hz0, hz1, hz2⟩ := info_parts Try.infoBool
  obtain ⟨w', h1, h2, h3⟩ := run_make_full w w.heap.size 65 4 i0 _ 1 Try.underlying65 hi hz0 hz1 .i64 .i64 n (by rw [hz2]; omega) (by unfold maxLen; omega) (Nat.le_refl _)
  refine ⟨w', h1, ?_, ⟨h3.os, h3.tape, h3.output, h3.size, fun j hj => h3.block j hj (by simp)⟩⟩
  rcases h2.2 with ⟨e, _⟩ | ⟨g, cap, cur, e, _, hg, _, _, hs, ht⟩
  · simp at e
  · simp only [Value.slice.injEq, Option.some.injEq, Addr.mk.injEq, and_true, true_and] at e
    obtain ⟨rfl, rfl⟩ := e
    unfold UB
    rw [hg]
    have hl : cur.toList.take (n * 1) = cur.toList := List.take_of_length_le (by rw [Array.length_toList]; omega)
    rw [hl] at ht
    have hm : (madeCells (Value.bool false).cells (n * 1)).toList = (List.replicate n false).map Value.bool := by
      apply List.ext_getElem
      · simp [madeCells]
      · intro i h1 h2
        simp [madeCells, Value.cells, Nat.mod_one]
    have : cur = ((List.replicate n false).map Value.bool).toArray := by
      rw [← Array.toArray_toList (xs := cur), ht, hm]
    rw [this]
set_option maxRecDepth 100000 in
set_option maxHeartbeats 2000000 in
theorem specOrder_any (w : World) (a : Option Addr) (cap : Nat) (L : List Cl) (hL : KAt w a L w.heap.size) (hm : L.length ≤ 1048576) :
    Calls Try.prog 19 #[.slice a L.length cap] w fun e w' => e = .returned (.bool (orderL L)) ∧ Below w.heap.size w w' := by
  by_cases h6 : L.length ≤ 6
  · have hz : ¬ ((6 : Int) < (L.length : Int)) := by omega
    obtain ⟨w1, hmk, hu1, hb1⟩ := make_flags w L.length hm
    obtain ⟨w2, hw2⟩ : ∃ w2, w1.alloc (.cells #[] 87) = w2 := ⟨_, rfl⟩
    have hb2 : Below w1.heap.size w1 w2 := by rw [← hw2]; exact (Below.refl _ _).alloc (Nat.le_refl _) _
    have hB2 : Below w.heap.size w w2 := hb1.trans (hb2.mono hb1.size)
    have hT : Uses w2 a L w.heap.size (List.replicate L.length false) (some ⟨w1.heap.size, 0, none⟩) [] L.length := ⟨hL.on hB2, hu1.kept (hb2.block _ hu1.lt), by simp, h6, fun j hj => by simp at hj, by simp; omega, by rw [left_all], fun g off e hne eg => by
        subst eg
        obtain ⟨g', off', ha, hl, _⟩ := hL 0 (List.length_pos_iff.2 hne)
        rw [e] at ha
        simp only [Option.some.injEq, Addr.mk.injEq, and_true] at ha
        omega, fun g off e => by
        simp only [Option.some.injEq, Addr.mk.injEq, and_true] at e
        have := hu1.lt
        omega⟩
    have cF := try_any L.length w2 a cap L w.heap.size (List.replicate L.length false) (some ⟨w1.heap.size, 0, none⟩) 0 [] hT
    rw [left_all] at cF
    have HW : Hid (w1.alloc (.cells #[] 87) = w2) := hw2
    have HO : Hid (orderL L = fitsL L.length [] L) := by show _ = _; simp [orderL, h6]
    have HB : Hid (Below w.heap.size w w2) := hB2
    clear hw2 hb1 hT hL hu1 hb2 hB2
    go_enter Try.func19, Try.ntmps19
    go_wp2_with fail
    rw [HW.out]
    refine cF.mono ?_
    rintro e w3 ⟨rfl, hg3, _⟩
    go_wp2_with fail
    go_ret
    refine ⟨by rw [HO.out]; rfl, ?_⟩
    exact HB.out.grown hg3 HB.out.size (fun k e => by cases e; exact Nat.le_refl _)
  · have hz : (6 : Int) < (L.length : Int) := by omega
    have HO : Hid (orderL L = false) := by show _ = _; simp [orderL, h6]
    go_enter Try.func19, Try.ntmps19
    go_wp2_with fail
    go_ret
    exact ⟨by rw [HO.out]; rfl, Below.refl _ _⟩
end Go.Proofs.Ytogfkbkfcelgcao
