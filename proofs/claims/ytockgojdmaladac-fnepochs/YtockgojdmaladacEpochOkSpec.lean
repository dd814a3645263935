/- The other text's EpochsOk. -/
import Derived.Test.YtockgojdmaladacEpochPlain
import Derived.Test.YtockgojdmaladacBase
import Derived.Lib.QuietBelow
import Derived.BigQuiet
namespace Go.Proofs.Ytockgojdmaladac
open Go.RowKit Go.Sort

theorem all_go {α : Type} {p : α → Bool} {L : List α} (h : ∀ q (hq : q < L.length), p L[q] = true) : L.all p = true := by
  rw [List.all_eq_true]
  intro x hx
  obtain ⟨j, hj, rfl⟩ := List.getElem_of_mem hx
  exact h j hj
theorem all_no {α : Type} {p : α → Bool} {L : List α} {k : Nat} (hk : k < L.length) (h : p L[k] = false) : L.all p = false := by
  rw [Bool.eq_false_iff]
  intro e
  rw [List.all_eq_true] at e
  rw [e L[k] (List.getElem_mem hk)] at h
  cases h
set_option maxRecDepth 100000 in
set_option maxHeartbeats 4000000 in
theorem specEpochsOk_any (w : World) (pa ga : Option Addr) (pc gc : Nat) (E : Ep) (hE : EAt w pa ga E w.heap.size) (hm : E.pins.length ≤ 1048576) (hm' : E.gone.length ≤ 1048576) :
    Calls Try.prog 40 #[.agg #[.int .i64 E.now, .slice pa E.pins.length pc, .slice ga E.gone.length gc]] w fun e w' => e = .returned (.bool (okE E)) ∧ Below w.heap.size w w' := by
  obtain ⟨now, pins, gone⟩ := E
  dsimp only at hE hm hm' ⊢
  obtain ⟨w1, hw1⟩ : ∃ w1, w.alloc (.cells #[.int .i64 now, .slice pa pins.length pc, .slice ga gone.length gc] 50) = w1 := ⟨_, rfl⟩
  have hb1 : Below w.heap.size w w1 := by rw [← hw1]; exact (Below.refl _ _).alloc (Nat.le_refl _) _
  have hB1 : EBox w1 w.heap.size (.int .i64 now) (.slice pa pins.length pc) (.slice ga gone.length gc) := by rw [← hw1]; exact EBox.new _ _ _ _
  have hE1 : EAt w1 pa ga ⟨now, pins, gone⟩ w1.heap.size := hE.on hb1
  have HW : Hid (w.alloc (.cells #[.int .i64 now, .slice pa pins.length pc, .slice ga gone.length gc] 50) = w1) := hw1
  obtain ⟨b0, b1, b2⟩ := hB1.cells
  have cI := fun x a b => in_any x a b w1
  obtain ⟨S, hS⟩ : ∃ S, w.heap.size = S := ⟨_, rfl⟩
  rw [hS] at b0 b1 b2 hB1
  have HS : Hid (w.heap.size = S) := hS
  have HB : Hid (Below w.heap.size w w1) := hb1
  clear hw1 hE hb1
  by_cases h1 : 2 ≤ now ∧ now ≤ 1000000000
  · have c1 := cI now 2 1000000000
    rw [show inN now 2 1000000000 = true from decide_eq_true h1] at c1
    by_cases h2 : 1 ≤ pins.length ∧ pins.length ≤ 4
    · have c2 := cI (pins.length : Int) 1 4
      rw [show inN (pins.length : Int) 1 4 = true from decide_eq_true (by omega)] at c2
      by_cases h3 : gone.length ≤ 40
      · have h3' : ¬ ((40 : Int) < (gone.length : Int)) := by omega
        have b3 : decide ((40 : Int) < (gone.length : Int)) = false := decide_eq_false h3'
        have HO : Hid (okE ⟨now, pins, gone⟩ = (pins.all (pinOk now) && gone.all (goneOk now))) := by show _ = _; unfold okE; simp [h1, h2, h3]
        have HL : Hid (pins.length ≤ 4 ∧ gone.length ≤ 40) := ⟨h2.2, h3⟩
        have hl4 : (pins.length : Int) ≤ 4 := by omega
        have hl40 : (gone.length : Int) ≤ 40 := by omega
        have hwr : IntKind.i64.wrap (now + 1) = now + 1 := by rw [IntKind.wrap_i64]; omega
        have HP := hE1.1
        have HQ := hE1.2
        go_enter Try.func40, Try.ntmps40
        go_wp2_with fail
        rw [HW.out]
        refine c1.mono ?_
        rintro e w' ⟨rfl, rfl⟩
        go_wp2_with fail
        refine c2.mono ?_
        rintro e w' ⟨rfl, rfl⟩
        clear c1 c2 cI hS
        go_wp2_with fail
        go_loopw [3] (fun i wr => Box (∃ k nq : Nat, k ≤ pins.length ∧ i = .int .i64 k ∧ (∀ q (hq : q < pins.length), q < k → pinOk now pins[q] = true) ∧ wr = w'.drewN nq))
          (fun i _ => pins.length - (intOf i).toNat)
        case atStart => exact ⟨⟨0, 0, by omega, rfl, fun q _ hq => absurd hq (Nat.not_lt_zero _), rfl⟩⟩
        case round =>
          obtain ⟨k, nq, hk, rfl, hno, hwr'⟩ := hrel.out
          have HN : Hid (∀ q (hq : q < pins.length), q < k → pinOk now pins[q] = true) := hno
          clear hno hrel
          rw [hwr']
          clear hwr'
          by_cases hlt : k < pins.length
          · obtain ⟨gp, offp, hpa, _, q0⟩ := HP k hlt
            obtain ⟨p, hp⟩ : ∃ p, pins[k] = p := ⟨_, rfl⟩
            have HX : Hid (pins[k] = p) := hp
            rw [hp] at q0
            have hi1 : (0 : Int) ≤ (k : Int) := by omega
            have hi2 : (k : Int) < (pins.length : Int) := by omega
            have HK : Hid ((k : Int) < (pins.length : Int)) := hi2
            subst hpa
            clear HP hp
            by_cases e0 : p = 0
            · have HPO : Hid (pinOk now p = true) := by show _ = _; simp [pinOk, e0]
              have d0 : (p != 0) = false := by simp [e0]
              have d0' : decide (p = 0) = true := decide_eq_true e0
              clear e0
              go_wp2_with fail
              go_quiet (fail)
              go_wp2_with fail
              go_roundw
              case rel =>
                try ((repeat apply Exists.intro); refine ⟨?_, rfl⟩)
                refine ⟨⟨k + 1, _, by have := HK.out; omega, by go_num, fun q hq hqk => ?_, rfl⟩⟩
                by_cases e : q = k
                · subst e
                  rw [HX.out]; exact HPO.out
                · exact HN.out q hq (by omega)
              case measure => have := HK.out; simp [intOf]; omega
            · have d0 : (p != 0) = true := by simp [e0]
              have d0' : decide (p = 0) = false := decide_eq_false e0
              by_cases e1 : p = now
              · have HPO : Hid (pinOk now p = true) := by show _ = _; simp [pinOk, e1]
                have d1 : (p != now) = false := by simp [e1]
                have d1' : decide (p = now) = true := decide_eq_true e1
                clear e1 e0
                go_wp2_with fail
                go_quiet (fail)
                go_wp2_with fail
                go_roundw
                case rel =>
                  try ((repeat apply Exists.intro); refine ⟨?_, rfl⟩)
                  refine ⟨⟨k + 1, _, by have := HK.out; omega, by go_num, fun q hq hqk => ?_, rfl⟩⟩
                  by_cases e : q = k
                  · subst e
                    rw [HX.out]; exact HPO.out
                  · exact HN.out q hq (by omega)
                case measure => have := HK.out; simp [intOf]; omega
              · have d1 : (p != now) = true := by simp [e1]
                have d1' : decide (p = now) = false := decide_eq_false e1
                by_cases e2 : p = now + 1
                · have HPO : Hid (pinOk now p = true) := by show _ = _; simp [pinOk, e2]
                  have d2 : (p != now + 1) = false := by simp [e2]
                  have d2' : decide (p = now + 1) = true := decide_eq_true e2
                  clear e2 e1 e0
                  go_wp2_with fail
                  go_quiet (fail)
                  go_wp2_with fail
                  go_roundw
                  case rel =>
                    try ((repeat apply Exists.intro); refine ⟨?_, rfl⟩)
                    refine ⟨⟨k + 1, _, by have := HK.out; omega, by go_num, fun q hq hqk => ?_, rfl⟩⟩
                    by_cases e : q = k
                    · subst e
                      rw [HX.out]; exact HPO.out
                    · exact HN.out q hq (by omega)
                  case measure => have := HK.out; simp [intOf]; omega
                · have HPO : Hid (pinOk now p = false) := by show _ = _; simp [pinOk, e0, e1, e2]
                  have d2 : (p != now + 1) = true := by simp [e2]
                  have d2' : decide (p = now + 1) = false := decide_eq_false e2
                  go_wp2_with fail
                  go_quiet (fail)
                  go_wp2_with fail
                  go_ret
                  refine ⟨?_, HB.out.trans ⟨rfl, rfl, rfl, Nat.le_refl _, fun _ _ => rfl⟩⟩
                  rw [HO.out, all_no (k := k) (by have := HK.out; omega) (by rw [HX.out]; exact HPO.out)]
                  rfl
          · have hi2 : ¬ (k : Int) < (pins.length : Int) := by omega
            have HA : Hid (pins.all (pinOk now) = true) := all_go fun q hq => HN.out q hq (by omega)
            obtain ⟨wq, hwq⟩ : ∃ wq, w'.drewN nq = wq := ⟨_, rfl⟩
            have hbq : Below w'.heap.size w' wq := by rw [← hwq]; exact ⟨rfl, rfl, rfl, Nat.le_refl _, fun _ _ => rfl⟩
            have HQ2 := HQ.on hbq
            obtain ⟨y0, y1, y2⟩ := (hB1.on hbq).cells
            have HBQ : Hid (Below w.heap.size w wq) := HB.out.trans (hbq.mono HB.out.size)
            rw [hwq]
            clear hwq hbq b0 b1 b2 hB1 HP HQ hE1 HN HW
            go_wp2_with fail
            go_loopw [4] (fun i wr => Box (∃ k : Nat, k ≤ gone.length ∧ i = .int .i64 k ∧ (∀ q (hq : q < gone.length), q < k → goneOk now gone[q] = true) ∧ Below wq.heap.size wq wr))
              (fun i _ => gone.length - (intOf i).toNat)
            case atStart => exact ⟨⟨0, by omega, rfl, fun q _ hq => absurd hq (Nat.not_lt_zero _), Below.refl _ _⟩⟩
            case round =>
              obtain ⟨k2, hk2, rfl, hno2, hbr⟩ := hrel.out
              obtain ⟨wo, hwo⟩ : ∃ wo, wo = wr := ⟨_, rfl⟩
              subst hwo
              have HN2 : Hid (∀ q (hq : q < gone.length), q < k2 → goneOk now gone[q] = true) := hno2
              have HBR : Hid (Below w.heap.size w wo) := HBQ.out.trans (hbr.mono HBQ.out.size)
              have HBR2 : Hid (Below wq.heap.size wq wo) := hbr
              clear hno2 hrel
              have hsz : S < wq.heap.size := World.block_lt_of_cell? wq _ y0
              have t0 := (hbr.cell (p := ⟨S, 0, none⟩) hsz).trans y0
              have t1 := (hbr.cell (p := ⟨S, 1, none⟩) hsz).trans y1
              have t2 := (hbr.cell (p := ⟨S, 2, none⟩) hsz).trans y2
              by_cases hlt2 : k2 < gone.length
              · obtain ⟨gg, offg, hga, _, q0, q1⟩ := (HQ2.on hbr) k2 hlt2
                obtain ⟨f, hf⟩ : ∃ f, gone[k2] = f := ⟨_, rfl⟩
                have HX2 : Hid (gone[k2] = f ∧ (k2 : Int) < (gone.length : Int)) := ⟨hf, by omega⟩
                rw [hf] at q0 q1
                have hi1 : (0 : Int) ≤ (k2 : Int) := by omega
                have hi3 : (k2 : Int) < (gone.length : Int) := by omega
                subst hga
                have z0 := cell_regrown t0
                have z2 := cell_regrown t2
                have z3 := cell_regrown q0
                have z4 := cell_regrown q1
                have cV : ∀ (x a b : Int) d os, Calls Try.prog 52 #[.int .i64 x, .int .i64 a, .int .i64 b] (grow (redrawn wo d) os) fun e w'' => e = .returned (.bool (inN x a b)) ∧ ∃ p : Regrown, w'' = grow (redrawn wo p.d) p.os := fun x a b d os => Calls.regrown_of ((in_any x a b (grow (redrawn wo d) os)).mono (by rintro e w'' ⟨rfl, rfl⟩; exact ⟨rfl, Below.refl _ _⟩))
                have cA := cV f.1 1 20
                have cB := cV f.2 0 now
                clear HQ2 hf q0 q1 y0 y1 y2 hbr cV
                cases hA1 : inN f.1 1 20 with
                | false =>
                  have HPO : Hid (goneOk now f = false) := by show _ = _; unfold goneOk; rw [show decide (1 ≤ f.1 ∧ f.1 ≤ 20) = false from hA1]; rfl
                  rw [hA1] at cA
                  clear hA1 cB
                  go_wp2_with fail
                  refine wp_region_quiet_below (by kernel_rfl) (by kernel_rfl) ?_
                  repeat (first | go_big_quiet_step (exact cA _ _) | quiet_step (exact cA _ _))
                  refine wpQuiet_nil ?_
                  intro _ hw'
                  obtain ⟨⟨dq, osq⟩, hw''⟩ := hw'
                  subst hw''
                  go_wp2_with fail
                  go_ret
                  refine ⟨?_, HBR.out.trans ((below_regrown wo dq osq).mono HBR.out.size)⟩
                  rw [HO.out, HA.out, all_no (k := k2) (by have := HX2.out.2; omega) (by rw [HX2.out.1]; exact HPO.out)]
                  rfl
                | true =>
                  rw [hA1] at cA
                  cases hA2 : inN f.2 0 now with
                  | false =>
                    have HPO : Hid (goneOk now f = false) := by show _ = _; unfold goneOk; rw [show decide (0 ≤ f.2 ∧ f.2 ≤ now) = false from hA2, Bool.and_false]
                    rw [hA2] at cB
                    clear hA1 hA2
                    go_wp2_with fail
                    refine wp_region_quiet_below (by kernel_rfl) (by kernel_rfl) ?_
                    repeat (first | go_big_quiet_step (first | with_reducible exact cA _ _ | with_reducible exact cB _ _) | quiet_step (first | with_reducible exact cA _ _ | with_reducible exact cB _ _))
                    refine wpQuiet_nil ?_
                    intro _ hw'
                    obtain ⟨⟨dq, osq⟩, hw''⟩ := hw'
                    subst hw''
                    go_wp2_with fail
                    go_ret
                    refine ⟨?_, HBR.out.trans ((below_regrown wo dq osq).mono HBR.out.size)⟩
                    rw [HO.out, HA.out, all_no (k := k2) (by have := HX2.out.2; omega) (by rw [HX2.out.1]; exact HPO.out)]
                    rfl
                  | true =>
                    have HPO : Hid (goneOk now f = true) := by show _ = _; unfold goneOk; rw [show decide (1 ≤ f.1 ∧ f.1 ≤ 20) = true from hA1, show decide (0 ≤ f.2 ∧ f.2 ≤ now) = true from hA2]; rfl
                    rw [hA2] at cB
                    clear hA1 hA2
                    go_wp2_with fail
                    refine wp_region_quiet_below (by kernel_rfl) (by kernel_rfl) ?_
                    repeat (first | go_big_quiet_step (first | with_reducible exact cA _ _ | with_reducible exact cB _ _) | quiet_step (first | with_reducible exact cA _ _ | with_reducible exact cB _ _))
                    refine wpQuiet_nil ?_
                    intro _ hw'
                    obtain ⟨⟨dq, osq⟩, hw''⟩ := hw'
                    subst hw''
                    go_wp2_with fail
                    go_roundw
                    case rel =>
                      try ((repeat apply Exists.intro); refine ⟨?_, rfl⟩)
                      refine ⟨⟨k2 + 1, by have := HX2.out.2; omega, by go_num, fun q hq hqk => ?_, HBR2.out.trans ((below_regrown wo dq osq).mono HBR2.out.size)⟩⟩
                      by_cases e : q = k2
                      · subst e
                        rw [HX2.out.1]; exact HPO.out
                      · exact HN2.out q hq (by omega)
                    case measure => have := HX2.out.2; simp [intOf]; omega
              · have hi3 : ¬ (k2 : Int) < (gone.length : Int) := by omega
                go_wp2_with fail
                go_ret
                refine ⟨?_, HBR.out⟩
                rw [HO.out, HA.out, all_go fun q hq => HN2.out q hq (by omega)]
                rfl
      · have h3' : (40 : Int) < (gone.length : Int) := by omega
        have b3 : decide ((40 : Int) < (gone.length : Int)) = true := decide_eq_true h3'
        have HO : Hid (okE ⟨now, pins, gone⟩ = false) := by show _ = _; unfold okE; simp [h3]
        go_enter Try.func40, Try.ntmps40
        go_wp2_with fail
        rw [HW.out]
        refine c1.mono ?_
        rintro e w' ⟨rfl, rfl⟩
        go_wp2_with fail
        refine c2.mono ?_
        rintro e w' ⟨rfl, rfl⟩
        clear c1 c2 cI
        go_wp2_with fail
        go_ret
        exact ⟨by rw [HO.out]; rfl, HB.out⟩
    · have c2 := cI (pins.length : Int) 1 4
      rw [show inN (pins.length : Int) 1 4 = false from decide_eq_false (by omega)] at c2
      have HO : Hid (okE ⟨now, pins, gone⟩ = false) := by show _ = _; unfold okE; rw [show decide (1 ≤ pins.length ∧ pins.length ≤ 4) = false from decide_eq_false h2]; simp
      go_enter Try.func40, Try.ntmps40
      go_wp2_with fail
      rw [HW.out]
      refine c1.mono ?_
      rintro e w' ⟨rfl, rfl⟩
      go_wp2_with fail
      refine c2.mono ?_
      rintro e w' ⟨rfl, rfl⟩
      clear c1 c2 cI
      go_wp2_with fail
      go_ret
      exact ⟨by rw [HO.out]; rfl, HB.out⟩
  · have c1 := cI now 2 1000000000
    rw [show inN now 2 1000000000 = false from decide_eq_false h1] at c1
    have HO : Hid (okE ⟨now, pins, gone⟩ = false) := by show _ = _; unfold okE; rw [show decide (2 ≤ now ∧ now ≤ 1000000000) = false from decide_eq_false h1]; simp
    go_enter Try.func40, Try.ntmps40
    go_wp2_with fail
    rw [HW.out]
    refine c1.mono ?_
    rintro e w' ⟨rfl, rfl⟩
    clear c1 cI
    go_wp2_with fail
    go_ret
    exact ⟨by rw [HO.out]; rfl, HB.out⟩
end Go.Proofs.Ytockgojdmaladac
