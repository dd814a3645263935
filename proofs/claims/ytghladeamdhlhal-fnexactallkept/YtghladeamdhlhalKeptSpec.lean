/- Whether all is kept: the other text. -/
import Derived.Test.YtghladeamdhlhalDiskSpec
import Derived.Test.YtghladeamdhlhalKeptPlain
namespace Go.Proofs.Ytghladeamdhlhal
open Go.RowKit Go.Sort

set_option maxHeartbeats 1000000 in
theorem specAllKept_any (w : World) (a : Option Addr) (cap : Nat) (L : List Fil) (hL : FAt w a L w.heap.size) (hm : L.length ≤ 1048576) :
    Calls Try.prog 30 #[.agg #[.slice a L.length cap]] w fun e w' => e = .returned (.bool (aK L)) ∧ Below w.heap.size w w' := by
  obtain ⟨wb, hwb⟩ : ∃ wb, w.alloc (.cells #[.slice a L.length cap] 31) = wb := ⟨_, rfl⟩
  have hb : Below w.heap.size w wb := by rw [← hwb]; exact (Below.refl _ _).alloc (Nat.le_refl _) _
  have hbs : w.heap.size < wb.heap.size := by rw [← hwb]; simp
  have hbox : wb.cell? ⟨w.heap.size, 0, none⟩ = some (.slice a L.length cap) := by rw [← hwb]; simp
  have hLb : FAt wb a L wb.heap.size := (hL.below hb (Nat.le_refl _)).mono hb.size
  have c0 := specDiskOk_any wb a cap L hLb hm
  have HW : Hid (w.alloc (.cells #[.slice a L.length cap] 31) = wb) := hwb
  clear hL hwb
  go_enter Try.func30, Try.ntmps30
  go_wp2_with fail
  rw [HW.out]
  refine c0.mono ?_
  rintro e w1 ⟨rfl, hb1⟩
  have q1 := (hb1.cell (p := ⟨w.heap.size, 0, none⟩) hbs).trans hbox
  have hL1 : FAt w1 a L w1.heap.size := (hLb.below hb1 (Nat.le_refl _)).mono hb1.size
  have hw1 : Below w.heap.size w w1 := hb.trans (hb1.mono hb.size)
  clear c0 hbox hLb
  cases hd : dOk L with
  | false =>
    go_wp2
    go_ret
    exact ⟨by rw [aK_bad hd]; rfl, hw1⟩
  | true =>
    have HD : Hid (dOk L = true) := hd
    clear hd
    go_wp2
    go_loopw [3] (fun i wr => Box (∃ (k nq : Nat), k ≤ L.length ∧ i = .int .i64 k ∧ KeptTo L k ∧ wr = w1.drewN nq))
      (fun i _ => L.length - (intOf i).toNat)
    case atStart => exact ⟨⟨0, 0, by omega, rfl, KeptTo.zero _, rfl⟩⟩
    case round =>
      obtain ⟨k, nq, hk, rfl, hno, rfl⟩ := hrel.out
      by_cases hlt : k < L.length
      · obtain ⟨g, off, rfl, hg, hc0, hc1, hc2⟩ := hL1 k hlt
        have hle := (fOk_kp (dOk_at HD.out hlt)).2
        obtain ⟨f, hf⟩ : ∃ f, L[k] = f := ⟨_, rfl⟩
        rw [hf] at hc0 hc1 hc2 hle
        have hi1 : (0 : Int) ≤ (k : Int) := by omega
        have hi2 : (k : Int) < (L.length : Int) := by omega
        have HF : Hid (L[k] = f) := hf
        have HN : Hid (KeptTo L k) := hno
        have HL : Hid (f.kp ≤ (f.tx.size : Int)) := hle
        clear hrel hL1 hno hf hc0 hle
        by_cases he : f.kp < (f.tx.size : Int)
        · have hp : Hid (aK L = false) := aK_false hlt HF.out (by simp only [wholeF, decide_eq_false_iff_not]; omega)
          go_wp2
          go_quiet (fail)
          go_wp2
          go_ret
          exact ⟨by rw [hp.out]; rfl, hw1.trans ⟨rfl, rfl, rfl, Nat.le_refl _, fun _ _ => rfl⟩⟩
        · go_wp2
          go_quiet (fail)
          go_wp2
          go_roundw
          case rel =>
            try ((repeat apply Exists.intro); refine ⟨?_, rfl⟩)
            exact ⟨⟨k + 1, _, by omega, by go_num, HN.out.succ hlt HF.out (by have := HL.out; simp only [wholeF, decide_eq_true_eq]; omega), rfl⟩⟩
          case measure => simp [intOf]; omega
      · go_wp2
        go_ret
        have hke : k = L.length := by omega
        subst hke
        exact ⟨by rw [aK_true HD.out hno]; rfl, hw1.trans ⟨rfl, rfl, rfl, Nat.le_refl _, fun _ _ => rfl⟩⟩
end Go.Proofs.Ytghladeamdhlhal
