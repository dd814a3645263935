/- The program's mustWait: whether one of the others had ended ahead of a call. -/
import Derived.Test.YtogfkbkfcelgcaoOrderPlain
import Derived.Test.YtogfkbkfcelgcaoCallKit
import Derived.Deep.RegionHeld3
namespace Go.Proofs.Ytogfkbkfcelgcao
open Go.RowKit Go.Sort

set_option maxRecDepth 100000 in
set_option maxHeartbeats 2000000 in
theorem mustWait_any (w : World) (a : Option Addr) (cap i : Nat) (L : List Cl) (hL : KAt w a L w.heap.size) (hi : i < L.length) (hm : L.length ≤ 6) :
    Calls Try.prog 41 #[.slice a L.length cap, .int .i64 i] w fun e w' => e = .returned (.bool (L[i].waits (L.eraseIdx i))) ∧ Below w.heap.size w w' := by
  go_enter Try.func41, Try.ntmps41
  go_wp2
  go_loopw [9] (fun k wr => Box (∃ j : Nat, j ≤ L.length ∧ k = .int .i64 j ∧ Below w.heap.size w wr ∧ ∀ q (hq : q < L.length), q < j → ¬ (q ≠ i ∧ L[q].nd < L[i].bg)))
    (fun k _ => L.length - (intOf k).toNat)
  case atStart => exact ⟨⟨0, by omega, rfl, Below.refl _ _, fun q _ hq => absurd hq (Nat.not_lt_zero _)⟩⟩
  case round =>
    obtain ⟨j, hj, rfl, hb, hno⟩ := hrel.out
    by_cases hlt : j < L.length
    · obtain ⟨g, off, rfl, hg, c0, c1, c2, c3, c4, c5, c6, c7, c8, c9, c10, c11, c12⟩ := (hL.below hb (Nat.le_refl _)) j hlt
      obtain ⟨g2, off2, hga, _, _, _, _, _, _, _, _, _, _, _, _, d11, _⟩ := (hL.below hb (Nat.le_refl _)) i hi
      simp only [Option.some.injEq, Addr.mk.injEq, and_true] at hga
      obtain ⟨rfl, rfl⟩ := hga
      obtain ⟨f, hf⟩ : ∃ f, L[j] = f := ⟨_, rfl⟩
      rw [hf] at c0 c1 c2 c3 c4 c5 c6 c7 c8 c9 c10 c11 c12
      obtain ⟨bg, hbg⟩ : ∃ bg, L[i].bg = bg := ⟨_, rfl⟩
      rw [hbg] at d11
      have HN : Hid (∀ q (hq : q < L.length), q < j → ¬ (q ≠ i ∧ L[q].nd < L[i].bg)) := hno
      have HF : Hid (L[j] = f ∧ L[i].bg = bg) := ⟨hf, hbg⟩
      clear hL hno hrel hf hbg
      have hi1 : (0 : Int) ≤ (j : Int) := by omega
      have hi2 : (j : Int) < (L.length : Int) := by omega
      have hi3 : (0 : Int) ≤ (i : Int) := by omega
      have hi4 : (i : Int) < (L.length : Int) := by omega
      obtain ⟨w1, hw1⟩ : ∃ w1, wr.alloc (.cells #[.int .i64 f.t.kind, .int .i64 f.t.key, .int .i64 f.t.val, .int .i64 f.t.node, .int .i64 f.t.pc, .int .i64 f.t.prev, .int .i64 f.t.cur, .int .i64 f.t.next, .int .i64 f.t.mark, .bool f.t.done, .int .i64 f.t.ans, .int .i64 f.bg, .int .i64 f.nd] 50) = w1 := ⟨_, rfl⟩
      have hb1 : Below wr.heap.size wr w1 := by rw [← hw1]; exact (Below.refl _ _).alloc (Nat.le_refl _) _
      have hK : KBox w1 wr.heap.size f := by rw [← hw1]; exact KBox.new wr f
      have k12 : w1.cell? ⟨wr.heap.size, 12, none⟩ = some (.int .i64 f.nd) := hK.cells.2.2.2.2.2.2.2.2.2.2.2.2
      have k11 : w1.cell? ⟨g, off + i * 13 + 11, none⟩ = some (.int .i64 bg) := (hb1.cell (p := ⟨g, off + i * 13 + 11, none⟩) (Nat.lt_of_lt_of_le hg hb.size)).trans d11
      have HB : Hid (Below w.heap.size w w1) := hb.trans (hb1.mono hb.size)
      have HW : Hid (wr.alloc (.cells #[.int .i64 f.t.kind, .int .i64 f.t.key, .int .i64 f.t.val, .int .i64 f.t.node, .int .i64 f.t.pc, .int .i64 f.t.prev, .int .i64 f.t.cur, .int .i64 f.t.next, .int .i64 f.t.mark, .bool f.t.done, .int .i64 f.t.ans, .int .i64 f.bg, .int .i64 f.nd] 50) = w1) := hw1
      clear hw1 hK d11 hb1
      go_wp2
      rw [HW.out]
      clear c0 c1 c2 c3 c4 c5 c6 c7 c8 c9 c10 c11 c12
      obtain ⟨V, hV⟩ : ∃ V, wr.heap.size = V := ⟨_, rfl⟩
      rw [hV] at k12 ⊢
      clear hV HW
      by_cases hji : j = i
      · have hji' : (j : Int) = (i : Int) := by omega
        have b1 : decide ((j : Int) = (i : Int)) = true := decide_eq_true hji'
        have b2 : ((j : Int) != (i : Int)) = false := by simp [hji']
        go_quiet (fail)
        go_wp2
        go_roundw
        case rel =>
          try ((repeat apply Exists.intro); refine ⟨?_, rfl⟩)
          refine ⟨⟨j + 1, by omega, by go_num, HB.out.trans ⟨rfl, rfl, rfl, Nat.le_refl _, fun _ _ => rfl⟩, fun q hq hqj h => ?_⟩⟩
          by_cases e : q = j
          · exact h.1 (e.trans hji)
          · exact HN.out q hq (by omega) h
        case measure => simp [intOf]; omega
      · have hji' : ¬ (j : Int) = (i : Int) := by omega
        have b1 : decide ((j : Int) = (i : Int)) = false := decide_eq_false hji'
        have b2 : ((j : Int) != (i : Int)) = true := by simp [hji']
        by_cases hnd : f.nd < bg
        · go_quiet (fail)
          go_wp2
          go_ret
          refine ⟨?_, HB.out.trans ⟨rfl, rfl, rfl, Nat.le_refl _, fun _ _ => rfl⟩⟩
          rw [(waits_iff hi).2 ⟨j, hlt, hji, by rw [HF.out.1, HF.out.2]; exact hnd⟩]
          rfl
        · go_quiet (fail)
          go_wp2
          go_roundw
          case rel =>
            try ((repeat apply Exists.intro); refine ⟨?_, rfl⟩)
            refine ⟨⟨j + 1, by omega, by go_num, HB.out.trans ⟨rfl, rfl, rfl, Nat.le_refl _, fun _ _ => rfl⟩, fun q hq hqj h => ?_⟩⟩
            by_cases e : q = j
            · subst e
              rw [HF.out.1, HF.out.2] at h
              exact hnd h.2
            · exact HN.out q hq (by omega) h
          case measure => simp [intOf]; omega
    · have hi2 : ¬ (j : Int) < (L.length : Int) := by omega
      have HN : Hid (∀ q (hq : q < L.length), q < j → ¬ (q ≠ i ∧ L[q].nd < L[i].bg)) := hno
      clear hno hrel hL
      go_wp2
      go_ret
      refine ⟨?_, hb⟩
      have hw : L[i].waits (L.eraseIdx i) = false := by
        rw [Bool.eq_false_iff]
        intro e
        obtain ⟨q, hq, h⟩ := (waits_iff hi).1 e
        exact HN.out q hq (by omega) h
      rw [hw]
      rfl
end Go.Proofs.Ytogfkbkfcelgcao
