/- Which events are right: the program's walk and the other text's. Written by mkevent.py. -/
import Derived.Test.YtonaaimefcgcnaaEvBase
import Derived.Test.YtonaaimefcgcnaaVar
namespace Go.Proofs.Ytonaaimefcgcnaa
open Go.RowKit
set_option maxRecDepth 100000 in
set_option maxHeartbeats 4000000 in
theorem implEventOk_any (w : World) (a : Option Addr) (c : Nat) (S : Ev) :
    Calls Try.prog 10 #[.agg #[.int .i64 S.kind, .int .i64 S.id, .string S.tx, .int .i64 S.n, .slice a S.left.length c]] w fun e w' => e = .returned (.bool (okEv S)) ∧ Below w.heap.size w w' := by
  obtain ⟨w1, hw1⟩ : ∃ x, w.alloc (.cells #[.int .i64 S.kind, .int .i64 S.id, .string S.tx, .int .i64 S.n, .slice a S.left.length c] 27) = x := ⟨_, rfl⟩
  have hb1 : Below w.heap.size w w1 := by rw [← hw1]; exact (Below.refl _ _).alloc (Nat.le_refl _) _
  have hB : EBox w1 w.heap.size (.int .i64 S.kind) (.int .i64 S.id) (.string S.tx) (.int .i64 S.n) (.slice a S.left.length c) := by rw [← hw1]; exact EBox.new _ _ _ _ _ _
  obtain ⟨b0, b1, b2, b3, b4⟩ := hB.cells
  have HW : Hid (w.alloc (.cells #[.int .i64 S.kind, .int .i64 S.id, .string S.tx, .int .i64 S.n, .slice a S.left.length c] 27) = w1) := hw1
  have HB1 : Hid (Below w.heap.size w w1) := hb1
  obtain ⟨res, hres⟩ : ∃ r, okEv S = r := ⟨_, rfl⟩
  rw [hres]
  obtain ⟨y5, hy5⟩ : ∃ b, decide ((S.tx.size : Int) ≤ 60) = b := ⟨_, rfl⟩
  obtain ⟨y6, hy6⟩ : ∃ b, decide (0 ≤ S.n) = b := ⟨_, rfl⟩
  obtain ⟨y7, hy7⟩ : ∃ b, decide ((S.left.length : Int) ≤ 4) = b := ⟨_, rfl⟩
  have e5 : decide (S.tx.size ≤ 60) = y5 := by rw [← hy5]; exact decide_eq_decide.2 (by omega)
  have e7 : decide (S.left.length ≤ 4) = y7 := by rw [← hy7]; exact decide_eq_decide.2 (by omega)
  obtain ⟨y1, hy1⟩ : ∃ b, decide (1 ≤ S.kind) = b := ⟨_, rfl⟩
  obtain ⟨y2, hy2⟩ : ∃ b, decide (S.kind ≤ 7) = b := ⟨_, rfl⟩
  obtain ⟨y3, hy3⟩ : ∃ b, decide (0 ≤ S.id) = b := ⟨_, rfl⟩
  obtain ⟨y4, hy4⟩ : ∃ b, decide (S.id ≤ 30) = b := ⟨_, rfl⟩
  have HE : Hid (res = ((y1 && y2) && ((y3 && y4) && (y5 && (y6 && y7))))) := by
    show _ = _
    rw [← hres]
    unfold okEv inB
    rw [e5, e7, hy1, hy2, hy3, hy4, hy6]
  rw [← hw1] at b0 b1 b2 b3 b4
  clear hw1 hB hb1 hres e5 e7
  go_enter Try.func10, Try.ntmps10
  cases y1 with
  | false =>
    have HR : Hid (res = false) := by show _ = _; rw [HE.out]; simp
    go_wp2_with fail
    try rw [HW.out]
    go_ret
    exact ⟨by rw [HR.out]; rfl, HB1.out⟩
  | true =>
    cases y2 with
    | false =>
      have HR : Hid (res = false) := by show _ = _; rw [HE.out]; simp
      go_wp2_with fail
      try rw [HW.out]
      go_ret
      exact ⟨by rw [HR.out]; rfl, HB1.out⟩
    | true =>
      cases y3 with
      | false =>
        have HR : Hid (res = false) := by show _ = _; rw [HE.out]; simp
        go_wp2_with fail
        try rw [HW.out]
        go_ret
        exact ⟨by rw [HR.out]; rfl, HB1.out⟩
      | true =>
        cases y4 with
        | false =>
          have HR : Hid (res = false) := by show _ = _; rw [HE.out]; simp
          go_wp2_with fail
          try rw [HW.out]
          go_ret
          exact ⟨by rw [HR.out]; rfl, HB1.out⟩
        | true =>
          cases y5 with
          | false =>
            have HR : Hid (res = false) := by show _ = _; rw [HE.out]; simp
            go_wp2_with fail
            try rw [HW.out]
            go_ret
            exact ⟨by rw [HR.out]; rfl, HB1.out⟩
          | true =>
            cases y6 with
            | false =>
              have HR : Hid (res = false) := by show _ = _; rw [HE.out]; simp
              go_wp2_with fail
              try rw [HW.out]
              go_ret
              exact ⟨by rw [HR.out]; rfl, HB1.out⟩
            | true =>
              cases y7 with
              | false =>
                have HR : Hid (res = false) := by show _ = _; rw [HE.out]; simp
                go_wp2_with fail
                try rw [HW.out]
                go_ret
                exact ⟨by rw [HR.out]; rfl, HB1.out⟩
              | true =>
                have HR : Hid (res = true) := by show _ = _; rw [HE.out]; rfl
                go_wp2_with fail
                try rw [HW.out]
                go_ret
                exact ⟨by rw [HR.out]; rfl, HB1.out⟩
set_option maxRecDepth 100000 in
set_option maxHeartbeats 4000000 in
theorem specEventOk_any (w : World) (a : Option Addr) (c : Nat) (S : Ev) :
    Calls Try.prog 8 #[.agg #[.int .i64 S.kind, .int .i64 S.id, .string S.tx, .int .i64 S.n, .slice a S.left.length c]] w fun e w' => e = .returned (.bool (okEv S)) ∧ Below w.heap.size w w' := by
  obtain ⟨w1, hw1⟩ : ∃ x, w.alloc (.cells #[.int .i64 S.kind, .int .i64 S.id, .string S.tx, .int .i64 S.n, .slice a S.left.length c] 27) = x := ⟨_, rfl⟩
  have hb1 : Below w.heap.size w w1 := by rw [← hw1]; exact (Below.refl _ _).alloc (Nat.le_refl _) _
  have hB : EBox w1 w.heap.size (.int .i64 S.kind) (.int .i64 S.id) (.string S.tx) (.int .i64 S.n) (.slice a S.left.length c) := by rw [← hw1]; exact EBox.new _ _ _ _ _ _
  obtain ⟨b0, b1, b2, b3, b4⟩ := hB.cells
  have HW : Hid (w.alloc (.cells #[.int .i64 S.kind, .int .i64 S.id, .string S.tx, .int .i64 S.n, .slice a S.left.length c] 27) = w1) := hw1
  have HB1 : Hid (Below w.heap.size w w1) := hb1
  obtain ⟨res, hres⟩ : ∃ r, okEv S = r := ⟨_, rfl⟩
  rw [hres]
  obtain ⟨y5, hy5⟩ : ∃ b, decide ((S.tx.size : Int) ≤ 60) = b := ⟨_, rfl⟩
  obtain ⟨y6, hy6⟩ : ∃ b, decide (0 ≤ S.n) = b := ⟨_, rfl⟩
  obtain ⟨y7, hy7⟩ : ∃ b, decide ((S.left.length : Int) ≤ 4) = b := ⟨_, rfl⟩
  have e5 : decide (S.tx.size ≤ 60) = y5 := by rw [← hy5]; exact decide_eq_decide.2 (by omega)
  have e7 : decide (S.left.length ≤ 4) = y7 := by rw [← hy7]; exact decide_eq_decide.2 (by omega)
  have c1 := l01In_any S.kind 1 7 w1
  have c2 := l01In_any S.id 0 30 w1
  have HE : Hid (res = (inB S.kind 1 7 && (inB S.id 0 30 && (y5 && (y6 && y7))))) := by
    show _ = _
    rw [← hres]
    unfold okEv
    rw [e5, e7, hy6]
  generalize inB S.kind 1 7 = z1 at c1 HE
  generalize inB S.id 0 30 = z2 at c2 HE
  rw [← hw1] at b0
  clear hw1 hB hb1 hres e5 e7
  go_enter Try.func8, Try.ntmps8
  go_wp2_with fail
  rw [HW.out]
  refine c1.mono ?_
  rintro e w' ⟨rfl, rfl⟩
  cases z1 with
  | false =>
    have HR : Hid (res = false) := by show _ = _; rw [HE.out]; simp
    go_wp2_with fail
    go_ret
    exact ⟨by rw [HR.out]; rfl, HB1.out⟩
  | true =>
    go_wp2_with fail
    refine c2.mono ?_
    rintro e w' ⟨rfl, rfl⟩
    cases z2 with
    | false =>
      have HR : Hid (res = false) := by show _ = _; rw [HE.out]; simp
      go_wp2_with fail
      go_ret
      exact ⟨by rw [HR.out]; rfl, HB1.out⟩
    | true =>
      cases y5 with
      | false =>
        have HR : Hid (res = false) := by show _ = _; rw [HE.out]; simp
        go_wp2_with fail
        go_ret
        exact ⟨by rw [HR.out]; rfl, HB1.out⟩
      | true =>
        cases y6 with
        | false =>
          have HR : Hid (res = false) := by show _ = _; rw [HE.out]; simp
          go_wp2_with fail
          go_ret
          exact ⟨by rw [HR.out]; rfl, HB1.out⟩
        | true =>
          cases y7 with
          | false =>
            have HR : Hid (res = false) := by show _ = _; rw [HE.out]; simp
            go_wp2_with fail
            go_ret
            exact ⟨by rw [HR.out]; rfl, HB1.out⟩
          | true =>
            have HR : Hid (res = true) := by show _ = _; rw [HE.out]; rfl
            go_wp2_with fail
            go_ret
            exact ⟨by rw [HR.out]; rfl, HB1.out⟩
end Go.Proofs.Ytonaaimefcgcnaa
