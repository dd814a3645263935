/- How long an entry is fresh: the program's walk and the other text's. -/
import Derived.Test.YtepfblabdibggaaEntOk
import Derived.Test.YtepfblabdibggaaEnLaw
namespace Go.Proofs.Ytepfblabdibggaa
open Go.RowKit

/-- What FreshAt answers. -/
def enFresh (E : En) (now : Int) : Bool := enOk E && (inB now E.st 1000000000 && decide (now - E.st < E.lf))
theorem enFresh_bad {E : En} {now : Int} (h : enOk E = false) : enFresh E now = false := by unfold enFresh; rw [h]; rfl
set_option maxRecDepth 100000 in
set_option maxHeartbeats 2000000 in
theorem specFreshAt_any (w : World) (k b : ByteArray) (s l now : Int) :
    Calls Try.prog 19 #[.agg #[.string k, .int .i64 s, .int .i64 l, .string b], .int .i64 now] w fun e w' => e = .returned (.bool (enFresh ⟨k, s, l, b⟩ now)) ∧ Below w.heap.size w w' := by
  obtain ⟨wb, hwb⟩ : ∃ wb, w.alloc (.cells #[.string k, .int .i64 s, .int .i64 l, .string b] 25) = wb := ⟨_, rfl⟩
  have hb : Below w.heap.size w wb := by rw [← hwb]; exact (Below.refl _ _).alloc (Nat.le_refl _) _
  obtain ⟨A, hA⟩ : ∃ A, w.heap.size = A := ⟨_, rfl⟩
  have hx : EnB wb A 25 ⟨k, s, l, b⟩ := by rw [← hwb, ← hA]; exact EnB.new w _ ⟨k, s, l, b⟩
  have c0 := specEntryOk_any wb k b s l
  obtain ⟨b0, b1, b2, b3⟩ := hx.cells
  dsimp only at b0 b1 b2 b3
  have HX : Hid (EnB wb A 25 ⟨k, s, l, b⟩ ∧ Below w.heap.size w wb ∧ w.heap.size ≤ wb.heap.size) := ⟨hx, hb, hb.size⟩
  clear hx hb
  have cI := fun w => l01In_any now s 1000000000 w
  cases hok : enOk ⟨k, s, l, b⟩
  case false =>
    rw [enFresh_bad hok]
    rw [hok] at c0
    go_enter Try.func19, Try.ntmps19
    go_wp2_with fail
    refine c0.mono ?_
    rintro e w1 ⟨rfl, hb1⟩
    have HB1 : Hid (Below w.heap.size w w1) := HX.out.2.1.trans (hb1.mono HX.out.2.2)
    clear c0 hb1
    go_wp2_with fail
    go_ret
    exact ⟨rfl, HB1.out⟩
  case true =>
    have HF : Hid (enFresh ⟨k, s, l, b⟩ now = (inB now s 1000000000 && decide (now - s < l))) := by show _ = _; unfold enFresh; rw [hok]; rfl
    have HR : Hid (enOk ⟨k, s, l, b⟩ = true) := hok
    rw [hok] at c0
    rw [HF.out]
    clear hok HF
    by_cases hin : s ≤ now ∧ now ≤ 1000000000
    · rw [inB_yes hin.1 hin.2] at cI ⊢
      obtain ⟨h1, h2, h3, h4⟩ := enOk_iff.1 HR.out
      dsimp only at h2
      obtain ⟨hi1, hi2⟩ := hin
      clear h1 h3 h4
      go_enter Try.func19, Try.ntmps19
      go_wp2_with fail
      refine c0.mono ?_
      rintro e w1 ⟨rfl, hb1⟩
      have hx1 := HX.out.1.on hb1
      have HB1 : Hid (Below w.heap.size w w1) := HX.out.2.1.trans (hb1.mono HX.out.2.2)
      clear c0 hb1 b0 b1 b2 b3
      obtain ⟨b0, b1, b2, b3⟩ := hx1.cells
      dsimp only at b0 b1 b2 b3
      clear hx1
      go_wp2_with (go_at_call 35; refine (cI _).mono ?_; rintro e w2 ⟨rfl, rfl⟩)
      go_ret
      exact ⟨rfl, HB1.out⟩
    · rw [inB_no hin] at cI ⊢
      clear hin
      go_enter Try.func19, Try.ntmps19
      go_wp2_with fail
      refine c0.mono ?_
      rintro e w1 ⟨rfl, hb1⟩
      have hx1 := HX.out.1.on hb1
      have HB1 : Hid (Below w.heap.size w w1) := HX.out.2.1.trans (hb1.mono HX.out.2.2)
      clear c0 hb1 b0 b1 b2 b3
      obtain ⟨b0, b1, b2, b3⟩ := hx1.cells
      dsimp only at b0 b1 b2 b3
      clear hx1
      go_wp2_with (go_at_call 35; refine (cI _).mono ?_; rintro e w2 ⟨rfl, rfl⟩)
      go_ret
      exact ⟨rfl, HB1.out⟩
set_option maxRecDepth 100000 in
set_option maxHeartbeats 2000000 in
theorem implFreshAt_any (w : World) (k b : ByteArray) (s l now : Int) (hk : k.size ≤ 1099511627776) (hbd : b.size ≤ 1099511627776) :
    Calls Try.prog 18 #[.agg #[.string k, .int .i64 s, .int .i64 l, .string b], .int .i64 now] w fun e w' => e = .returned (.bool (enFresh ⟨k, s, l, b⟩ now)) ∧ Below w.heap.size w w' := by
  obtain ⟨wb, hwb⟩ : ∃ wb, w.alloc (.cells #[.string k, .int .i64 s, .int .i64 l, .string b] 25) = wb := ⟨_, rfl⟩
  have hb : Below w.heap.size w wb := by rw [← hwb]; exact (Below.refl _ _).alloc (Nat.le_refl _) _
  obtain ⟨A, hA⟩ : ∃ A, w.heap.size = A := ⟨_, rfl⟩
  have hx : EnB wb A 25 ⟨k, s, l, b⟩ := by rw [← hwb, ← hA]; exact EnB.new w _ ⟨k, s, l, b⟩
  have c0 := implEntryOk_any wb k b s l hk hbd
  obtain ⟨b0, b1, b2, b3⟩ := hx.cells
  dsimp only at b0 b1 b2 b3
  have HX : Hid (EnB wb A 25 ⟨k, s, l, b⟩ ∧ Below w.heap.size w wb ∧ w.heap.size ≤ wb.heap.size) := ⟨hx, hb, hb.size⟩
  clear hx hb hk hbd
  have cI := fun w => numE_any now w
  cases hok : enOk ⟨k, s, l, b⟩
  case false =>
    rw [enFresh_bad hok]
    rw [hok] at c0
    go_enter Try.func18, Try.ntmps18
    go_wp2_with fail
    refine c0.mono ?_
    rintro e w1 ⟨rfl, hb1⟩
    have HB1 : Hid (Below w.heap.size w w1) := HX.out.2.1.trans (hb1.mono HX.out.2.2)
    clear c0 hb1
    go_wp2_with fail
    go_ret
    exact ⟨rfl, HB1.out⟩
  case true =>
    have HR : Hid (enOk ⟨k, s, l, b⟩ = true) := hok
    obtain ⟨h1, h2, h3, h4⟩ := enOk_iff.1 hok
    dsimp only at h2
    clear h1 h3 h4
    have HF : Hid (enFresh ⟨k, s, l, b⟩ now = (inB now 0 1000000000 && (decide (s ≤ now) && decide (now - s < l)))) := by
      show _ = _
      unfold enFresh inB
      rw [hok]
      by_cases q1 : s ≤ now
      · by_cases q2 : now ≤ 1000000000
        · simp only [decide_eq_true q1, decide_eq_true q2, decide_eq_true (show (0 : Int) ≤ now by omega), Bool.true_and]
        · simp only [decide_eq_false q2, Bool.and_false, Bool.false_and]
      · simp only [decide_eq_false q1, Bool.false_and, Bool.and_false]
    rw [hok] at c0
    rw [HF.out]
    clear hok HF
    by_cases hin : 0 ≤ now ∧ now ≤ 1000000000
    · rw [inB_yes hin.1 hin.2] at cI ⊢
      obtain ⟨hi1, hi2⟩ := hin
      by_cases hle : s ≤ now
      · rw [decide_eq_true hle]
        have hle' : decide (s ≤ now) = true := decide_eq_true hle
        go_enter Try.func18, Try.ntmps18
        go_wp2_with fail
        refine c0.mono ?_
        rintro e w1 ⟨rfl, hb1⟩
        have hx1 := HX.out.1.on hb1
        have HB1 : Hid (Below w.heap.size w w1) := HX.out.2.1.trans (hb1.mono HX.out.2.2)
        clear c0 hb1 b0 b1 b2 b3
        obtain ⟨b0, b1, b2, b3⟩ := hx1.cells
        dsimp only at b0 b1 b2 b3
        clear hx1
        go_wp2_with (go_at_call 37; refine (cI _).mono ?_; rintro e w2 ⟨rfl, rfl⟩)
        go_ret
        exact ⟨rfl, HB1.out⟩
      · rw [decide_eq_false hle]
        have hle' : decide (s ≤ now) = false := decide_eq_false hle
        go_enter Try.func18, Try.ntmps18
        go_wp2_with fail
        refine c0.mono ?_
        rintro e w1 ⟨rfl, hb1⟩
        have hx1 := HX.out.1.on hb1
        have HB1 : Hid (Below w.heap.size w w1) := HX.out.2.1.trans (hb1.mono HX.out.2.2)
        clear c0 hb1 b0 b1 b2 b3
        obtain ⟨b0, b1, b2, b3⟩ := hx1.cells
        dsimp only at b0 b1 b2 b3
        clear hx1
        go_wp2_with (go_at_call 37; refine (cI _).mono ?_; rintro e w2 ⟨rfl, rfl⟩)
        go_ret
        exact ⟨rfl, HB1.out⟩
    · rw [inB_no hin] at cI ⊢
      clear hin
      go_enter Try.func18, Try.ntmps18
      go_wp2_with fail
      refine c0.mono ?_
      rintro e w1 ⟨rfl, hb1⟩
      have HB1 : Hid (Below w.heap.size w w1) := HX.out.2.1.trans (hb1.mono HX.out.2.2)
      clear c0 hb1
      go_wp2_with (go_at_call 37; refine (cI _).mono ?_; rintro e w2 ⟨rfl, rfl⟩)
      go_ret
      exact ⟨rfl, HB1.out⟩
end Go.Proofs.Ytepfblabdibggaa
