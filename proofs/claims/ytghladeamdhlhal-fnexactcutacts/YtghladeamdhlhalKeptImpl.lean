/- Whether all is kept: the program's. -/
import Derived.Test.YtghladeamdhlhalDiskImpl
import Derived.Test.YtghladeamdhlhalKeptPlain
namespace Go.Proofs.Ytghladeamdhlhal
open Go.RowKit Go.Sort

theorem wholeKept_any (f : Fil) (w : World) :
    Calls Try.prog 51 #[.agg #[.string f.nm, .string f.tx, .int .i64 f.kp]] w fun e w' => e = .returned (.bool (wholeF f)) ∧ Below w.heap.size w w' := by
  have hb := (Below.refl w.heap.size w).alloc (Nat.le_refl _) (.cells #[.string f.nm, .string f.tx, .int .i64 f.kp] 63)
  by_cases h : f.kp = f.tx.size
  · have hv : wholeF f = true := by simp [wholeF, h]
    have h' : (f.kp == (f.tx.size : Int)) = true := by simpa using h
    rw [hv]
    clear h
    go_enter Try.func51, Try.ntmps51
    go_wp2
    go_ret
    exact ⟨by simp, hb⟩
  · have hv : wholeF f = false := by simp [wholeF, h]
    have h' : (f.kp == (f.tx.size : Int)) = false := by simpa using h
    rw [hv]
    go_enter Try.func51, Try.ntmps51
    go_wp2
    go_ret
    exact ⟨by simp, hb⟩

set_option maxHeartbeats 1000000 in
theorem implAllKept_any (w : World) (a : Option Addr) (cap : Nat) (L : List Fil) (hL : FAt w a L w.heap.size) (hm : L.length ≤ 1048576) :
    Calls Try.prog 31 #[.agg #[.slice a L.length cap]] w fun e w' => e = .returned (.bool (aK L)) ∧ Below w.heap.size w w' := by
  obtain ⟨wb, hwb⟩ : ∃ wb, w.alloc (.cells #[.slice a L.length cap] 31) = wb := ⟨_, rfl⟩
  have hb : Below w.heap.size w wb := by rw [← hwb]; exact (Below.refl _ _).alloc (Nat.le_refl _) _
  have hbs : w.heap.size < wb.heap.size := by rw [← hwb]; simp
  have hbox : wb.cell? ⟨w.heap.size, 0, none⟩ = some (.slice a L.length cap) := by rw [← hwb]; simp
  have hLb : FAt wb a L wb.heap.size := (hL.below hb (Nat.le_refl _)).mono hb.size
  have c0 := implDiskOk_any wb a cap L hLb hm
  have HW : Hid (w.alloc (.cells #[.slice a L.length cap] 31) = wb) := hwb
  clear hL hwb
  go_enter Try.func31, Try.ntmps31
  go_wp2_with fail
  rw [HW.out]
  refine c0.mono ?_
  rintro e w1 ⟨rfl, hb1⟩
  have q1 := (hb1.cell (p := ⟨w.heap.size, 0, none⟩) hbs).trans hbox
  have hL1 : FAt w1 a L w1.heap.size := (hLb.below hb1 (Nat.le_refl _)).mono hb1.size
  have hw1 : Below w.heap.size w w1 := hb.trans (hb1.mono hb.size)
  clear c0 hbox hLb
  cases hd : dOk L with
  | false =>
    go_wp2
    go_ret
    exact ⟨by rw [aK_bad hd]; rfl, hw1⟩
  | true =>
    have HD : Hid (dOk L = true) := hd
    clear hd
    go_wp2
    go_loopw [11] (fun i wr => Box (∃ (k : Nat), k ≤ L.length ∧ i = .int .i64 k ∧ KeptTo L k ∧ Below w1.heap.size w1 wr))
      (fun i _ => L.length - (intOf i).toNat)
    case atStart => exact ⟨⟨0, by omega, rfl, KeptTo.zero _, Below.refl _ _⟩⟩
    case round =>
      obtain ⟨k, hk, rfl, hno, hbel⟩ := hrel.out
      by_cases hlt : k < L.length
      · obtain ⟨g, off, rfl, hg, hc0, hc1, hc2⟩ := (hL1.below hbel (Nat.le_refl _)) k hlt
        obtain ⟨f, hf⟩ : ∃ f, L[k] = f := ⟨_, rfl⟩
        rw [hf] at hc0 hc1 hc2
        have hi1 : (0 : Int) ≤ (k : Int) := by omega
        have hi2 : (k : Int) < (L.length : Int) := by omega
        have HF : Hid (L[k] = f) := hf
        have HN : Hid (KeptTo L k) := hno
        have hbx : Below w1.heap.size w1 (wr.alloc (.cells #[.string f.nm, .string f.tx, .int .i64 f.kp] 63)) := hbel.alloc hbel.size _
        have cC := wholeKept_any f (wr.alloc (.cells #[.string f.nm, .string f.tx, .int .i64 f.kp] 63))
        clear hrel hL1 hno hf
        go_wp2_with fail
        refine cC.mono ?_
        rintro e w2 ⟨rfl, hb2⟩
        have hbr := hbx.trans (hb2.mono hbx.size)
        clear cC
        cases he : wholeF f with
        | false =>
          have hp : Hid (aK L = false) := aK_false hlt HF.out he
          go_wp2
          go_ret
          exact ⟨by rw [hp.out]; rfl, hw1.trans (hbr.mono hw1.size)⟩
        | true =>
          go_wp2
          go_roundw
          case rel =>
            try ((repeat apply Exists.intro); refine ⟨?_, rfl⟩)
            exact ⟨⟨k + 1, by omega, by go_num, HN.out.succ hlt HF.out he, hbr⟩⟩
          case measure => simp [intOf]; omega
      · go_wp2
        go_ret
        have hke : k = L.length := by omega
        subst hke
        exact ⟨by rw [aK_true HD.out hno]; rfl, hw1.trans (hbel.mono hw1.size)⟩
end Go.Proofs.Ytghladeamdhlhal
