/- The program's EpochsOk. -/
import Derived.Test.YtockgojdmaladacEpochOkSpec
namespace Go.Proofs.Ytockgojdmaladac
open Go.RowKit Go.Sort

theorem nodeOk_any (x : Int) (w : World) :
    Calls Try.prog 73 #[.int .i64 x] w fun e w' => e = .returned (.bool (inN x 1 20)) ∧ w' = w := by
  by_cases h1 : 1 ≤ x
  · by_cases h2 : x ≤ 20
    · go_enter Try.func73, Try.ntmps73
      go_wp2
      go_ret
      exact ⟨by rw [show inN x 1 20 = true from decide_eq_true ⟨h1, h2⟩]; rfl, rfl⟩
    · go_enter Try.func73, Try.ntmps73
      go_wp2
      go_ret
      exact ⟨by rw [show inN x 1 20 = false from decide_eq_false (by omega)]; rfl, rfl⟩
  · go_enter Try.func73, Try.ntmps73
    go_wp2
    go_ret
    exact ⟨by rw [show inN x 1 20 = false from decide_eq_false (by omega)]; rfl, rfl⟩
theorem pinFrom_any (x : Int) (w : World) (h0 : 0 ≤ x) (h1 : x ≤ 2000000000) :
    Calls Try.prog 71 #[.int .i64 x] w fun e w' => e = .returned (.int .i64 (x + 1)) ∧ w' = w := by
  go_enter Try.func71, Try.ntmps71
  go_wp2
  go_ret
  exact ⟨rfl, rfl⟩
set_option maxRecDepth 100000 in
set_option maxHeartbeats 4000000 in
theorem pinsOk_any (w : World) (pa : Option Addr) (pc : Nat) (pins : List Int) (now : Int) (hP : IAt w pa pins w.heap.size) (hm : pins.length ≤ 1048576) (hn : 2 ≤ now ∧ now ≤ 1000000000) :
    Calls Try.prog 75 #[.slice pa pins.length pc, .int .i64 now] w fun e w' => e = .returned (.bool (decide (1 ≤ pins.length ∧ pins.length ≤ 4) && pins.all (pinOk now))) ∧ w' = w := by
  have cF := fun x (h0 : 0 ≤ x) (h1 : x ≤ 2000000000) => pinFrom_any x w h0 h1
  have c1 := cF now (by omega) (by omega)
  have c2 := cF (now - 1) (by omega) (by omega)
  rw [show now - 1 + 1 = now by omega] at c2
  have hsub : IntKind.i64.wrap (now - 1) = now - 1 := by rw [IntKind.wrap_i64]; omega
  clear cF
  obtain ⟨R, hR⟩ : ∃ R, (decide (1 ≤ pins.length ∧ pins.length ≤ 4) && pins.all (pinOk now)) = R := ⟨_, rfl⟩
  rw [hR]
  by_cases h1 : pins.length < 1
  · have h1' : (pins.length : Int) < 1 := by omega
    have h1'' : decide ((pins.length : Int) < 1) = true := decide_eq_true h1'
    have HO : Hid (R = false) := by show _ = _; rw [← hR, decide_eq_false (by omega)]; rfl
    clear hR
    go_enter Try.func75, Try.ntmps75
    go_wp2_with fail
    go_ret
    exact ⟨by rw [HO.out]; rfl, rfl⟩
  · have h1' : ¬ (pins.length : Int) < 1 := by omega
    have h1'' : decide ((pins.length : Int) < 1) = false := decide_eq_false h1'
    by_cases h4 : 4 < pins.length
    · have h4' : (4 : Int) < (pins.length : Int) := by omega
      have h4'' : decide ((4 : Int) < (pins.length : Int)) = true := decide_eq_true h4'
      have HO : Hid (R = false) := by show _ = _; rw [← hR, decide_eq_false (by omega)]; rfl
      clear hR
      go_enter Try.func75, Try.ntmps75
      go_wp2_with fail
      go_ret
      exact ⟨by rw [HO.out]; rfl, rfl⟩
    · have h4' : ¬ (4 : Int) < (pins.length : Int) := by omega
      have h4'' : decide ((4 : Int) < (pins.length : Int)) = false := decide_eq_false h4'
      have HO : Hid (R = pins.all (pinOk now)) := by show _ = _; rw [← hR, decide_eq_true (by omega)]; rfl
      clear h1 h4 hR
      go_enter Try.func75, Try.ntmps75
      go_wp2_with fail
      go_loopw [17] (fun i wr => Box (∃ k : Nat, k ≤ pins.length ∧ i = .int .i64 k ∧ (∀ q (hq : q < pins.length), q < k → pinOk now pins[q] = true) ∧ wr = w))
        (fun i _ => pins.length - (intOf i).toNat)
      case atStart => exact ⟨⟨0, by omega, rfl, fun q _ hq => absurd hq (Nat.not_lt_zero _), rfl⟩⟩
      case round =>
        obtain ⟨k, hk, rfl, hno, hwr⟩ := hrel.out
        have HN : Hid (∀ q (hq : q < pins.length), q < k → pinOk now pins[q] = true) := hno
        clear hno hrel
        rw [hwr]
        clear hwr
        by_cases hlt : k < pins.length
        · obtain ⟨gp, offp, hpa, _, q0⟩ := hP k hlt
          obtain ⟨p, hp⟩ : ∃ p, pins[k] = p := ⟨_, rfl⟩
          have HX : Hid (pins[k] = p ∧ (k : Int) < (pins.length : Int)) := ⟨hp, by omega⟩
          rw [hp] at q0
          have hi1 : (0 : Int) ≤ (k : Int) := by omega
          have hi2 : (k : Int) < (pins.length : Int) := by omega
          subst hpa
          clear hP hp
          by_cases e0 : p = 0
          · have HPO : Hid (pinOk now p = true) := by show _ = _; simp [pinOk, e0]
            have d0 : (p != 0) = false := by simp [e0]
            have d0' : decide (p = 0) = true := decide_eq_true e0
            clear e0
            go_wp2_with fail
            go_roundw
            case rel =>
              try ((repeat apply Exists.intro); refine ⟨?_, rfl⟩)
              refine ⟨⟨k + 1, by have := HX.out.2; omega, by go_num, fun q hq hqk => ?_, by first | rfl | trivial⟩⟩
              by_cases e : q = k
              · subst e
                rw [HX.out.1]; exact HPO.out
              · exact HN.out q hq (by omega)
            case measure => have := HX.out.2; simp [intOf]; omega
          · have d0 : (p != 0) = true := by simp [e0]
            have d0' : decide (p = 0) = false := decide_eq_false e0
            by_cases e1 : p = now + 1
            · have HPO : Hid (pinOk now p = true) := by show _ = _; simp [pinOk, e1]
              have d1 : (p != now + 1) = false := by simp [e1]
              have d1' : decide (p = now + 1) = true := decide_eq_true e1
              clear e1 e0
              go_wp2_with fail
              refine c1.mono ?_
              rintro e w' ⟨rfl, rfl⟩
              go_wp2_with fail
              go_roundw
              case rel =>
                try ((repeat apply Exists.intro); refine ⟨?_, rfl⟩)
                refine ⟨⟨k + 1, by have := HX.out.2; omega, by go_num, fun q hq hqk => ?_, by first | rfl | trivial⟩⟩
                by_cases e : q = k
                · subst e
                  rw [HX.out.1]; exact HPO.out
                · exact HN.out q hq (by omega)
              case measure => have := HX.out.2; simp [intOf]; omega
            · have d1 : (p != now + 1) = true := by simp [e1]
              have d1' : decide (p = now + 1) = false := decide_eq_false e1
              by_cases e2 : p = now
              · have HPO : Hid (pinOk now p = true) := by show _ = _; simp [pinOk, e2]
                have d2 : (p != now) = false := by simp [e2]
                have d2' : decide (p = now) = true := decide_eq_true e2
                clear e2 e1 e0
                go_wp2_with fail
                refine c1.mono ?_
                rintro e w' ⟨rfl, rfl⟩
                go_wp2_with fail
                refine c2.mono ?_
                rintro e w'' ⟨rfl, rfl⟩
                go_wp2_with fail
                go_roundw
                case rel =>
                  try ((repeat apply Exists.intro); refine ⟨?_, rfl⟩)
                  refine ⟨⟨k + 1, by have := HX.out.2; omega, by go_num, fun q hq hqk => ?_, by first | rfl | trivial⟩⟩
                  by_cases e : q = k
                  · subst e
                    rw [HX.out.1]; exact HPO.out
                  · exact HN.out q hq (by omega)
                case measure => have := HX.out.2; simp [intOf]; omega
              · have HPO : Hid (pinOk now p = false) := by show _ = _; simp [pinOk, e0, e1, e2]
                have d2 : (p != now) = true := by simp [e2]
                have d2' : decide (p = now) = false := decide_eq_false e2
                clear e2 e1 e0
                go_wp2_with fail
                refine c1.mono ?_
                rintro e w' ⟨rfl, rfl⟩
                go_wp2_with fail
                refine c2.mono ?_
                rintro e w'' ⟨rfl, rfl⟩
                go_wp2_with fail
                go_ret
                refine ⟨?_, rfl⟩
                rw [HO.out, all_no (k := k) (by have := HX.out.2; omega) (by rw [HX.out.1]; exact HPO.out)]
                rfl
        · have hi2 : ¬ (k : Int) < (pins.length : Int) := by omega
          go_wp2_with fail
          go_ret
          refine ⟨?_, rfl⟩
          rw [HO.out, all_go fun q hq => HN.out q hq (by omega)]
          rfl
set_option maxRecDepth 100000 in
set_option maxHeartbeats 4000000 in
theorem goneOk_any (w : World) (ga : Option Addr) (gc : Nat) (gone : List (Int × Int)) (now : Int) (hG : PAt w ga gone w.heap.size) (hm : gone.length ≤ 1048576) :
    Calls Try.prog 76 #[.slice ga gone.length gc, .int .i64 now] w fun e w' => e = .returned (.bool (decide (gone.length ≤ 40) && gone.all (goneOk now))) ∧ Below w.heap.size w w' := by
  obtain ⟨R, hR⟩ : ∃ R, (decide (gone.length ≤ 40) && gone.all (goneOk now)) = R := ⟨_, rfl⟩
  rw [hR]
  by_cases h4 : 40 < gone.length
  · have h4' : (40 : Int) < (gone.length : Int) := by omega
    have h4'' : decide ((40 : Int) < (gone.length : Int)) = true := decide_eq_true h4'
    have HO : Hid (R = false) := by show _ = _; rw [← hR, decide_eq_false (by omega)]; rfl
    clear hR
    go_enter Try.func76, Try.ntmps76
    go_wp2_with fail
    go_ret
    exact ⟨by rw [HO.out]; rfl, Below.refl _ _⟩
  · have h4' : ¬ (40 : Int) < (gone.length : Int) := by omega
    have h4'' : decide ((40 : Int) < (gone.length : Int)) = false := decide_eq_false h4'
    have HO : Hid (R = gone.all (goneOk now)) := by show _ = _; rw [← hR, decide_eq_true (by omega)]; rfl
    clear h4 hR
    go_enter Try.func76, Try.ntmps76
    go_wp2_with fail
    go_loopw [12] (fun i wr => Box (∃ k : Nat, k ≤ gone.length ∧ i = .int .i64 k ∧ (∀ q (hq : q < gone.length), q < k → goneOk now gone[q] = true) ∧ Below w.heap.size w wr))
      (fun i _ => gone.length - (intOf i).toNat)
    case atStart => exact ⟨⟨0, by omega, rfl, fun q _ hq => absurd hq (Nat.not_lt_zero _), Below.refl _ _⟩⟩
    case round =>
      obtain ⟨k, hk, rfl, hno, hbr⟩ := hrel.out
      have HN : Hid (∀ q (hq : q < gone.length), q < k → goneOk now gone[q] = true) := hno
      clear hno hrel
      by_cases hlt : k < gone.length
      · obtain ⟨gp, offp, hpa, _, q0, q1⟩ := (hG.below hbr (Nat.le_refl _)) k hlt
        obtain ⟨f, hf⟩ : ∃ f, gone[k] = f := ⟨_, rfl⟩
        have HX : Hid (gone[k] = f ∧ (k : Int) < (gone.length : Int)) := ⟨hf, by omega⟩
        rw [hf] at q0 q1
        have hi1 : (0 : Int) ≤ (k : Int) := by omega
        have hi2 : (k : Int) < (gone.length : Int) := by omega
        subst hpa
        obtain ⟨wx, hwx⟩ : ∃ x, wr.alloc (.cells #[.int .i64 f.1, .int .i64 f.2] 101) = x := ⟨_, rfl⟩
        have x0 : wx.cell? ⟨wr.heap.size, 0, none⟩ = some (.int .i64 f.1) := by rw [← hwx]; simp
        have x1 : wx.cell? ⟨wr.heap.size, 1, none⟩ = some (.int .i64 f.2) := by rw [← hwx]; simp
        have hbx : Below w.heap.size w wx := by rw [← hwx]; exact hbr.alloc hbr.size _
        have HWX : Hid (wr.alloc (.cells #[.int .i64 f.1, .int .i64 f.2] 101) = wx) := hwx
        have c1 := nodeOk_any f.1 wx
        clear hG hf hwx hbr
        cases hA1 : inN f.1 1 20 with
        | false =>
          have HPO : Hid (goneOk now f = false) := by show _ = _; unfold goneOk; rw [show decide (1 ≤ f.1 ∧ f.1 ≤ 20) = false from hA1]; rfl
          rw [hA1] at c1
          clear hA1
          go_wp2_with fail
          rw [HWX.out]
          refine c1.mono ?_
          rintro e w' ⟨rfl, rfl⟩
          go_wp2_with fail
          go_ret
          refine ⟨?_, hbx⟩
          rw [HO.out, all_no (k := k) (by have := HX.out.2; omega) (by rw [HX.out.1]; exact HPO.out)]
          rfl
        | true =>
          rw [hA1] at c1
          by_cases h0 : f.2 < 0
          · have HPO : Hid (goneOk now f = false) := by show _ = _; unfold goneOk; rw [decide_eq_false (p := 0 ≤ f.2 ∧ f.2 ≤ now) (by omega), Bool.and_false]
            have d0 : decide (f.2 < 0) = true := decide_eq_true h0
            clear hA1
            go_wp2_with fail
            rw [HWX.out]
            refine c1.mono ?_
            rintro e w' ⟨rfl, rfl⟩
            go_wp2_with fail
            go_ret
            refine ⟨?_, hbx⟩
            rw [HO.out, all_no (k := k) (by have := HX.out.2; omega) (by rw [HX.out.1]; exact HPO.out)]
            rfl
          · have d0 : decide (f.2 < 0) = false := decide_eq_false h0
            by_cases hn : now < f.2
            · have HPO : Hid (goneOk now f = false) := by show _ = _; unfold goneOk; rw [decide_eq_false (p := 0 ≤ f.2 ∧ f.2 ≤ now) (by omega), Bool.and_false]
              have d1 : decide (now < f.2) = true := decide_eq_true hn
              clear hA1
              go_wp2_with fail
              rw [HWX.out]
              refine c1.mono ?_
              rintro e w' ⟨rfl, rfl⟩
              go_wp2_with fail
              go_ret
              refine ⟨?_, hbx⟩
              rw [HO.out, all_no (k := k) (by have := HX.out.2; omega) (by rw [HX.out.1]; exact HPO.out)]
              rfl
            · have HPO : Hid (goneOk now f = true) := by show _ = _; unfold goneOk; rw [show decide (1 ≤ f.1 ∧ f.1 ≤ 20) = true from hA1, decide_eq_true (p := 0 ≤ f.2 ∧ f.2 ≤ now) (by omega)]; rfl
              have d1 : decide (now < f.2) = false := decide_eq_false hn
              clear hA1
              go_wp2_with fail
              rw [HWX.out]
              refine c1.mono ?_
              rintro e w' ⟨rfl, rfl⟩
              go_wp2_with fail
              go_roundw
              case rel =>
                try ((repeat apply Exists.intro); refine ⟨?_, rfl⟩)
                refine ⟨⟨k + 1, by have := HX.out.2; omega, by go_num, fun q hq hqk => ?_, hbx⟩⟩
                by_cases e : q = k
                · subst e
                  rw [HX.out.1]; exact HPO.out
                · exact HN.out q hq (by omega)
              case measure => have := HX.out.2; simp [intOf]; omega
      · have hi2 : ¬ (k : Int) < (gone.length : Int) := by omega
        go_wp2_with fail
        go_ret
        refine ⟨?_, hbr⟩
        rw [HO.out, all_go fun q hq => HN.out q hq (by omega)]
        rfl
set_option maxRecDepth 100000 in
set_option maxHeartbeats 4000000 in
theorem implEpochsOk_any (w : World) (pa ga : Option Addr) (pc gc : Nat) (E : Ep) (hE : EAt w pa ga E w.heap.size) (hm : E.pins.length ≤ 1048576) (hm' : E.gone.length ≤ 1048576) :
    Calls Try.prog 28 #[.agg #[.int .i64 E.now, .slice pa E.pins.length pc, .slice ga E.gone.length gc]] w fun e w' => e = .returned (.bool (okE E)) ∧ Below w.heap.size w w' := by
  obtain ⟨now, pins, gone⟩ := E
  dsimp only at hE hm hm' ⊢
  obtain ⟨w1, hw1⟩ : ∃ w1, w.alloc (.cells #[.int .i64 now, .slice pa pins.length pc, .slice ga gone.length gc] 50) = w1 := ⟨_, rfl⟩
  have hb1 : Below w.heap.size w w1 := by rw [← hw1]; exact (Below.refl _ _).alloc (Nat.le_refl _) _
  have hB1 : EBox w1 w.heap.size (.int .i64 now) (.slice pa pins.length pc) (.slice ga gone.length gc) := by rw [← hw1]; exact EBox.new _ _ _ _
  have hE1 : EAt w1 pa ga ⟨now, pins, gone⟩ w1.heap.size := hE.on hb1
  have HW : Hid (w.alloc (.cells #[.int .i64 now, .slice pa pins.length pc, .slice ga gone.length gc] 50) = w1) := hw1
  obtain ⟨b0, b1, b2⟩ := hB1.cells
  rw [← hw1] at b0 b1 b2
  clear hw1
  by_cases h2 : 2 ≤ now
  · by_cases h3 : now ≤ 1000000000
    · have c1 := pinsOk_any w1 pa pc pins now hE1.1 hm ⟨h2, h3⟩
      have c2 := goneOk_any w1 ga gc gone now hE1.2 hm'
      have d2 : decide (2 ≤ now) = true := decide_eq_true h2
      have d3 : decide (now ≤ 1000000000) = true := decide_eq_true h3
      have HO : Hid (okE ⟨now, pins, gone⟩ = ((decide (1 ≤ pins.length ∧ pins.length ≤ 4) && pins.all (pinOk now)) && (decide (gone.length ≤ 40) && gone.all (goneOk now)))) := by
        show _ = _
        unfold okE
        dsimp only
        rw [decide_eq_true (p := 2 ≤ now ∧ now ≤ 1000000000) ⟨h2, h3⟩]
        generalize decide (1 ≤ pins.length ∧ pins.length ≤ 4) = A
        generalize pins.all (pinOk now) = B
        generalize decide (gone.length ≤ 40) = C
        generalize gone.all (goneOk now) = D
        cases A <;> cases B <;> cases C <;> cases D <;> rfl
      obtain ⟨R, hR⟩ : ∃ R, okE ⟨now, pins, gone⟩ = R := ⟨_, rfl⟩
      rw [hR] at HO ⊢
      obtain ⟨A, hA⟩ : ∃ A, (decide (1 ≤ pins.length ∧ pins.length ≤ 4) && pins.all (pinOk now)) = A := ⟨_, rfl⟩
      obtain ⟨B, hB⟩ : ∃ B, (decide (gone.length ≤ 40) && gone.all (goneOk now)) = B := ⟨_, rfl⟩
      rw [hA] at c1 HO
      rw [hB] at c2 HO
      have HB : Hid (Below w.heap.size w w1) := hb1
      clear hR hA hB hE hE1 hB1 hb1
      cases A with
      | false =>
        go_enter Try.func28, Try.ntmps28
        go_wp2_with fail
        rw [HW.out] at b0 b1 b2 ⊢
        refine c1.mono ?_
        rintro e w' ⟨rfl, rfl⟩
        go_wp2_with fail
        go_ret
        exact ⟨by rw [HO.out]; rfl, HB.out⟩
      | true =>
        go_enter Try.func28, Try.ntmps28
        go_wp2_with fail
        rw [HW.out] at b0 b1 b2 ⊢
        refine c1.mono ?_
        rintro e w' ⟨rfl, rfl⟩
        go_wp2_with fail
        refine c2.mono ?_
        rintro e w'' ⟨rfl, hb2⟩
        go_wp2_with fail
        go_ret
        exact ⟨by rw [HO.out]; rfl, HB.out.trans (hb2.mono HB.out.size)⟩
    · have d2 : decide (2 ≤ now) = true := decide_eq_true h2
      have d3 : decide (now ≤ 1000000000) = false := decide_eq_false h3
      have HO : Hid (okE ⟨now, pins, gone⟩ = false) := by show _ = _; unfold okE; rw [show decide (2 ≤ now ∧ now ≤ 1000000000) = false from decide_eq_false (by omega)]; simp
      have HB : Hid (Below w.heap.size w w1) := hb1
      go_enter Try.func28, Try.ntmps28
      go_wp2_with fail
      go_ret
      exact ⟨by rw [HO.out]; rfl, by rw [HW.out]; exact HB.out⟩
  · have d2 : decide (2 ≤ now) = false := decide_eq_false h2
    have HO : Hid (okE ⟨now, pins, gone⟩ = false) := by show _ = _; unfold okE; rw [show decide (2 ≤ now ∧ now ≤ 1000000000) = false from decide_eq_false (by omega)]; simp
    have HB : Hid (Below w.heap.size w w1) := hb1
    go_enter Try.func28, Try.ntmps28
    go_wp2_with fail
    go_ret
    exact ⟨by rw [HO.out]; rfl, by rw [HW.out]; exact HB.out⟩
end Go.Proofs.Ytockgojdmaladac
