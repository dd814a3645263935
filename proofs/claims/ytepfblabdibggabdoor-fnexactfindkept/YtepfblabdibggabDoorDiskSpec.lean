/- The walk over a right disk: the other text. -/
import Derived.Test.YtepfblabdibggabDoorFilesLaw
import Derived.Test.YtepfblabdibggabDoorDiskPlainJ
import Derived.Laws.Cover1
namespace Go.Proofs.YtepfblabdibggabDoor
open Go.RowKit Go.Sort

theorem nOk_in (s : ByteArray) : inN (s.size : Int) 1 8 = nOk s := by
  unfold inN nOk
  by_cases h : 1 ≤ s.size ∧ s.size ≤ 8
  · rw [decide_eq_true h, decide_eq_true (by omega)]
  · rw [decide_eq_false h, decide_eq_false (by omega)]

theorem l03Name_any (s : ByteArray) (w : World) :
    Calls Tryd.prog 61 #[.string s] w fun e w' => e = .returned (.bool (nOk s)) ∧ w' = w := by
  go_enter Tryd.func61, Tryd.ntmps61
  go_wp2_with fail
  refine (in_any _ _ _ _).mono ?_
  rintro e w1 ⟨rfl, rfl⟩
  go_wp2
  go_ret
  exact ⟨by rw [← nOk_in]; rfl, rfl⟩

theorem zero_or_succ (k : Nat) : k = 0 ∨ ∃ m, k = m + 1 := by cases k with | zero => exact .inl rfl | succ m => exact .inr ⟨m, rfl⟩

set_option maxHeartbeats 2000000 in
theorem specDiskOk_any (w : World) (a : Option Addr) (cap : Nat) (L : List Fil) (hL : FAt w a L w.heap.size) (hm : L.length ≤ 1048576) :
    Calls Tryd.prog 33 #[.agg #[.slice a L.length cap]] w fun e w' => e = .returned (.bool (dOk L)) ∧ Below w.heap.size w w' := by
  have hb0 := (Below.refl w.heap.size w).alloc (Nat.le_refl _) (.cells #[.slice a L.length cap] 41)
  by_cases hA : L.length ≤ 30
  · go_enter Tryd.func33, Tryd.ntmps33
    go_wp2
    go_loopw [3] (fun i wr => Box (∃ (k : Nat), k ≤ L.length ∧ i = .int .i64 k ∧ okTo L k = true ∧ wr.heap[w.heap.size]? = some (.cells #[.slice a L.length cap] 41 (0, 0)) ∧ Below w.heap.size w wr))
      (fun i _ => L.length - (intOf i).toNat)
    case atStart => exact ⟨⟨0, by omega, rfl, rfl, heap_alloc_new _ _, hb0⟩⟩
    case round =>
      obtain ⟨k, hk, rfl, hok, hbox, hbel⟩ := hrel.out
      have hq0 : wr.cell? ⟨w.heap.size, 0, none⟩ = some (.slice a L.length cap) := by simp [World.cell?, hbox]
      by_cases hlt : k < L.length
      · obtain ⟨g, off, rfl, hg, hc0, hc1, hc2⟩ := (hL.below hbel (Nat.le_refl _)) k hlt
        obtain ⟨f, hf⟩ : ∃ f, L[k] = f := ⟨_, rfl⟩
        rw [hf] at hc0 hc1 hc2
        have hi1 : (0 : Int) ≤ (k : Int) := by omega
        have hi2 : (k : Int) < (L.length : Int) := by omega
        clear hrel
        have HOK : Hid (okTo L k = true) := hok
        obtain ⟨wx, hwx⟩ : ∃ wx, wr.alloc (.cells #[.string f.nm, .string f.tx, .int .i64 f.kp] 90) = wx := ⟨_, rfl⟩
        have hbx : Below w.heap.size w wx := by rw [← hwx]; exact hbel.alloc hbel.size _
        have hwr : w.heap.size < wr.heap.size := (Array.getElem?_eq_some_iff.1 hbox).1
        have HSZ : Hid (w.heap.size + 1 ≤ wx.heap.size) := by rw [← hwx]; simp [Hid]; omega
        have HBX : Hid (wx.heap[w.heap.size]? = some (.cells #[.slice (some ⟨g, off, none⟩) L.length cap] 41 (0, 0))) := by rw [← hwx]; exact (Below.heap_alloc _ _ _ hwr).trans hbox
        have x0 : wx.cell? ⟨wr.heap.size, 0, none⟩ = some (.string f.nm) := by rw [← hwx]; simp
        have x1 : wx.cell? ⟨wr.heap.size, 1, none⟩ = some (.string f.tx) := by rw [← hwx]; simp
        have x2 : wx.cell? ⟨wr.heap.size, 2, none⟩ = some (.int .i64 f.kp) := by rw [← hwx]; simp
        have x3 : wx.cell? ⟨w.heap.size, 0, none⟩ = some (.slice (some ⟨g, off, none⟩) L.length cap) := by simp [World.cell?, HBX.out]
        have k0 := cell_regrown x0
        have k1 := cell_regrown x1
        have k2 := cell_regrown x2
        have k3 := cell_regrown x3
        have cN : ∀ d os, Calls Tryd.prog 61 #[.string f.nm] (grow (redrawn wx d) os) fun e w'' => e = .returned (.bool (nOk f.nm)) ∧ ∃ p : Regrown, w'' = grow (redrawn wx p.d) p.os := fun d os => Calls.regrown_of ((l03Name_any f.nm _).mono (by rintro e w1 ⟨rfl, rfl⟩; exact ⟨rfl, Below.refl _ _⟩))
        have cI : ∀ d os, Calls Tryd.prog 52 #[.int .i64 f.kp, .int .i64 0, .int .i64 (f.tx.size : Int)] (grow (redrawn wx d) os) fun e w'' => e = .returned (.bool (inN f.kp 0 f.tx.size)) ∧ ∃ p : Regrown, w'' = grow (redrawn wx p.d) p.os := fun d os => Calls.regrown_of ((in_any f.kp 0 f.tx.size _).mono (by rintro e w1 ⟨rfl, rfl⟩; exact ⟨rfl, Below.refl _ _⟩))
        have HR : Hid (fOk f = false → rOk L k = false) := by
          intro h
          match k, hlt, hf with
          | 0, hlt, hf => rw [rOk_zero hlt hf]; exact h
          | m + 1, hlt, hf => rw [rOk_succ hlt hf rfl, h]; rfl
        have HF : Hid (fOk f = (nOk f.nm && (decide (f.tx.size ≤ 20000) && inN f.kp 0 f.tx.size))) := rfl
        have HWX : Hid (wr.alloc (.cells #[.string f.nm, .string f.tx, .int .i64 f.kp] 90) = wx) := hwx
        have HFK : Hid (L[k] = f) := hf
        have HFA : Hid (∀ m (hm : m < L.length), wx.cell? ⟨g, off + m * 3, none⟩ = some (.string L[m].nm)) := by
          intro m hm
          obtain ⟨g', off', ha, hg', hz, _⟩ := hL m hm
          simp only [Option.some.injEq, Addr.mk.injEq, and_true] at ha
          obtain ⟨rfl, rfl⟩ := ha
          exact (hbx.cell (p := ⟨g, off + m * 3, none⟩) hg').trans hz
        clear hwx hL hbox hok x0 x1 x2 x3 hf
        go_wp2
        rw [HWX.out]
        clear hq0 hc0 hc1 hc2 hwr HWX
        cases hn : nOk f.nm with
        | false =>
          have hbad : rOk L k = false := HR.out (by rw [HF.out, hn]; rfl)
          clear HR HF
          simp only [hn] at cN
          refine wp_region_quiet_below (by kernel_rfl) (by kernel_rfl) ?_
          repeat (first | go_big_quiet_step (first | exact cN _ _ | exact cI _ _) | quiet_step (first | exact cN _ _ | exact cI _ _))
          refine wpQuiet_nil ?_
          intro _ hw'
          obtain ⟨⟨dq, osq⟩, hw''⟩ := hw'
          subst hw''
          go_wp2
          go_ret
          exact ⟨by rw [dOk_false hbad hlt]; rfl, hbx.trans ((below_regrown wx dq osq).mono hbx.size)⟩
        | true =>
          simp only [hn] at cN
          by_cases ht : f.tx.size ≤ 20000
          · have HT : decide ((20000 : Int) < (f.tx.size : Int)) = false := decide_eq_false (by omega)
            cases hi : inN f.kp 0 f.tx.size with
            | false =>
              have hbad : rOk L k = false := HR.out (by rw [HF.out, hn, hi]; simp)
              clear HR HF
              simp only [hi] at cI
              refine wp_region_quiet_below (by kernel_rfl) (by kernel_rfl) ?_
              repeat (first | go_big_quiet_step (first | exact cN _ _ | exact cI _ _) | quiet_step (first | exact cN _ _ | exact cI _ _))
              refine wpQuiet_nil ?_
              intro _ hw'
              obtain ⟨⟨dq, osq⟩, hw''⟩ := hw'
              subst hw''
              go_wp2
              go_ret
              exact ⟨by rw [dOk_false hbad hlt]; rfl, hbx.trans ((below_regrown wx dq osq).mono hbx.size)⟩
            | true =>
              have hgood : Hid (fOk f = true) := by rw [HF.out, hn, hi]; simpa [Hid] using ht
              clear HR HF
              simp only [hi] at cI
              rcases zero_or_succ k with rfl | ⟨m, rfl⟩
              · skip
                refine wp_region_quiet_below (by kernel_rfl) (by kernel_rfl) ?_
                repeat (first | go_big_quiet_step (first | exact cN _ _ | exact cI _ _) | quiet_step (first | exact cN _ _ | exact cI _ _))
                refine wpQuiet_nil ?_
                intro _ hw'
                obtain ⟨⟨dq, osq⟩, hw''⟩ := hw'
                subst hw''
                go_wp2
                go_roundw
                case rel =>
                  try ((repeat apply Exists.intro); refine ⟨?_, rfl⟩)
                  have hbr := hbx.trans ((below_regrown wx dq osq).mono hbx.size)
                  exact ⟨⟨0 + 1, by omega, by go_num, okTo_succ HOK.out (by rw [rOk_zero hlt HFK.out]; exact hgood.out), ((below_regrown wx dq osq).block w.heap.size (Nat.lt_of_lt_of_le (Nat.lt_succ_self _) HSZ.out)).trans HBX.out, hbr⟩⟩
                case measure => simp [intOf]; omega
              · skip
                obtain ⟨p, hp⟩ : ∃ p, L[m] = p := ⟨_, rfl⟩
                have HP : Hid (L[m] = p) := hp
                have kp := cell_regrown ((HFA.out m (by omega)).trans (by rw [hp]))
                clear hp
                have hj0 : decide ((0 : Int) < (m : Int) + 1) = true := decide_eq_true (by omega)
                have hj3 : decide ((0 : Int) < ((m + 1 : Nat) : Int)) = true := decide_eq_true (by omega)
                have hj1 : (0 : Int) ≤ (m : Int) := by omega
                have hj2 : (m : Int) < (L.length : Int) := by omega
                cases hlt2 : Op.bytesLess p.nm.toList f.nm.toList with
                | false =>
                  have hbad : rOk L (m + 1) = false := by rw [rOk_succ hlt HFK.out HP.out, ltS, hlt2]; simp
                  refine wp_region_quiet_below (by kernel_rfl) (by kernel_rfl) ?_
                  repeat (first | go_big_quiet_step (first | exact cN _ _ | exact cI _ _) | quiet_step (first | exact cN _ _ | exact cI _ _))
                  refine wpQuiet_nil ?_
                  intro _ hw'
                  obtain ⟨⟨dq, osq⟩, hw''⟩ := hw'
                  subst hw''
                  go_wp2
                  go_ret
                  exact ⟨by rw [dOk_false hbad hlt]; rfl, hbx.trans ((below_regrown wx dq osq).mono hbx.size)⟩
                | true =>
                  refine wp_region_quiet_below (by kernel_rfl) (by kernel_rfl) ?_
                  repeat (first | go_big_quiet_step (first | exact cN _ _ | exact cI _ _) | quiet_step (first | exact cN _ _ | exact cI _ _))
                  refine wpQuiet_nil ?_
                  intro _ hw'
                  obtain ⟨⟨dq, osq⟩, hw''⟩ := hw'
                  subst hw''
                  go_wp2
                  go_roundw
                  case rel =>
                    try ((repeat apply Exists.intro); refine ⟨?_, rfl⟩)
                    have hbr := hbx.trans ((below_regrown wx dq osq).mono hbx.size)
                    exact ⟨⟨m + 1 + 1, by omega, by go_num, okTo_succ HOK.out (by rw [rOk_succ hlt HFK.out HP.out, ltS, hlt2, hgood.out]; rfl), ((below_regrown wx dq osq).block w.heap.size (Nat.lt_of_lt_of_le (Nat.lt_succ_self _) HSZ.out)).trans HBX.out, hbr⟩⟩
                  case measure => simp [intOf]; omega
          · have hbad : rOk L k = false := HR.out (by rw [HF.out, hn]; simp [ht])
            have HT : decide ((20000 : Int) < (f.tx.size : Int)) = true := decide_eq_true (by omega)
            clear HR HF
            refine wp_region_quiet_below (by kernel_rfl) (by kernel_rfl) ?_
            repeat (first | go_big_quiet_step (first | exact cN _ _ | exact cI _ _) | quiet_step (first | exact cN _ _ | exact cI _ _))
            refine wpQuiet_nil ?_
            intro _ hw'
            obtain ⟨⟨dq, osq⟩, hw''⟩ := hw'
            subst hw''
            go_wp2
            go_ret
            exact ⟨by rw [dOk_false hbad hlt]; rfl, hbx.trans ((below_regrown wx dq osq).mono hbx.size)⟩
      · go_wp2
        go_ret
        have hke : k = L.length := by omega
        subst hke
        exact ⟨by rw [dOk_true hA hok]; rfl, hbel⟩
  · rw [dOk_long hA]
    go_enter Tryd.func33, Tryd.ntmps33
    go_wp2
    go_ret
    exact ⟨rfl, hb0⟩
end Go.Proofs.YtepfblabdibggabDoor
