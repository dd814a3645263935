/- The figures that a text begins with, as the program reads them. -/
import Derived.Test.YtnnaphfeeobelaeDoorChunkEnd
namespace Go.Proofs.YtnnaphfeeobelaeDoor
open Go.RowKit Go.Sort
theorem hexP_some {b : UInt8} (h : 0 ≤ hexI b) : ∃ x : Nat, hexV b = some x ∧ hexI b = (x : Int) ∧ x < 16 := by
  unfold hexI at h ⊢
  cases hv : hexV b with
  | none => rw [hv] at h; simp at h
  | some x => exact ⟨x, rfl, rfl, hexV_lt hv⟩
theorem hexP_none {b : UInt8} (h : hexI b < 0) : hexV b = none ∧ hexI b = -1 := by
  unfold hexI at h ⊢
  cases hv : hexV b with
  | none => exact ⟨rfl, rfl⟩
  | some x => rw [hv] at h; simp at h; omega
set_option maxHeartbeats 4000000 in
theorem figsAhead_any (s : ByteArray) (w : World) :
    Calls Tryd.prog 71 #[.string s] w fun e w' => e = .returned (.tuple #[.int .i64 ((figsAt s.data.toList 0).2 : Nat), .int .i64 ((figsAt s.data.toList 0).1 : Nat)]) ∧ w' = w := by
  obtain ⟨l, hl⟩ : ∃ l, s.data.toList = l := ⟨_, rfl⟩
  rw [hl]
  have hsz : s.size = l.length := by rw [← hl]; exact Lib.size_eq s
  obtain ⟨R, hR⟩ : ∃ R, figsAt l 0 = R := ⟨_, rfl⟩
  rw [hR]
  have HR : Hid (figsAt l 0 = R) := hR
  have gt : ∀ j (hj : j < s.size), l[j]? = some s[j] := by
    intro j hj
    subst hl
    rw [List.getElem?_eq_getElem (by rw [← Lib.size_eq]; exact hj)]
    rfl
  clear hR
  by_cases h0 : 0 < s.size
  case neg =>
    have HE : Hid (R = (0, 0)) := by show _ = _; rw [← HR.out]; unfold figsAt; rw [List.getElem?_eq_none (by omega)]; rfl
    have hz : (s.size : Int) = 0 := by omega
    clear HR gt hl hsz h0
    go_enter Tryd.func71, Tryd.ntmps71
    go_wp2_with fail
    refine wp_loop_rounds 3 ?_
    rw [rounds_succ]
    go_wp2_with fail
    go_ret2
    exact ⟨by rw [HE.out]; rfl, rfl⟩
  obtain ⟨b, hb⟩ : ∃ b, s[0] = b := ⟨_, rfl⟩
  have gb : l[0]? = some b := by rw [gt 0 h0, hb]
  have hx0 : ∀ W : World, (Instr.index 9 (.string s) (.int .i64 0)).run Tryd.prog W = .ok (.int .u8 (b.toNat : Int)) W := by
    intro W
    rw [run_index_string W 9 s .i64 0 Tryd.underlying9, dif_pos ⟨by omega, by omega⟩]
    rw [← hb]
    rfl
  have c0 := figureOf_any b w
  have hlt0 : (0 : Int) < (s.size : Int) := by omega
  by_cases hn : hexI b < 0
  · obtain ⟨hv, hi⟩ := hexP_none hn
    have HE : Hid (R = (0, 0)) := by show _ = _; rw [← HR.out]; unfold figsAt; rw [gb]; simp [hv]
    rw [hi] at c0
    have hmin : (0 : Int) < min (s.size : Int) 2 := by omega
    clear HR gt hl hsz h0 gb hb hv hn
    go_enter Tryd.func71, Tryd.ntmps71
    go_wp2_with fail
    refine wp_loop_rounds 3 ?_
    rw [rounds_succ]
    go_wp2_with fail
    refine c0.mono ?_
    rintro e w1 ⟨rfl, hw⟩
    rw [hw]
    go_wp2_with fail
    go_ret2
    exact ⟨by rw [HE.out]; rfl, rfl⟩
  obtain ⟨x, hv, hi, hx16⟩ := hexP_some (b := b) (by omega)
  rw [hi] at c0
  by_cases h1 : 1 < s.size
  case neg =>
    have HE : Hid (R = (1, x)) := by show _ = _; rw [← HR.out]; unfold figsAt; rw [gb, List.getElem?_eq_none (by omega)]; simp [hv]
    have hz : (s.size : Int) = 1 := by omega
    clear HR gt hl hsz h0 gb hb hv hn hi h1
    go_enter Tryd.func71, Tryd.ntmps71
    go_wp2_with fail
    refine wp_loop_rounds 3 ?_
    rw [rounds_succ]
    go_wp2_with fail
    refine c0.mono ?_
    rintro e w1 ⟨rfl, hw⟩
    rw [hw]
    go_wp2_with fail
    rw [rounds_succ]
    go_wp2_with fail
    go_ret2
    exact ⟨by rw [HE.out]; rfl, rfl⟩
  obtain ⟨c, hc⟩ : ∃ c, s[1] = c := ⟨_, rfl⟩
  have gc : l[1]? = some c := by rw [gt 1 h1, hc]
  have hx1 : ∀ W : World, (Instr.index 9 (.string s) (.int .i64 1)).run Tryd.prog W = .ok (.int .u8 (c.toNat : Int)) W := by
    intro W
    rw [run_index_string W 9 s .i64 1 Tryd.underlying9, dif_pos ⟨by omega, by omega⟩]
    rw [← hc]
    rfl
  have c1 := figureOf_any c w
  have hge2 : (2 : Int) ≤ (s.size : Int) := by omega
  have hmin : min (s.size : Int) 2 = 2 := by omega
  by_cases hn1 : hexI c < 0
  · obtain ⟨hv1, hi1⟩ := hexP_none hn1
    have HE : Hid (R = (1, x)) := by show _ = _; rw [← HR.out]; unfold figsAt; rw [gb, gc]; simp [hv, hv1]
    rw [hi1] at c1
    clear HR gt hl hsz h0 gb hb hv hn hi h1 hc gc hv1 hn1 hi1
    go_enter Tryd.func71, Tryd.ntmps71
    go_wp2_with fail
    refine wp_loop_rounds 3 ?_
    rw [rounds_succ]
    go_wp2_with fail
    refine c0.mono ?_
    rintro e w1 ⟨rfl, hw⟩
    rw [hw]
    go_wp2_with fail
    rw [rounds_succ]
    go_wp2_with fail
    refine c1.mono ?_
    rintro e w1 ⟨rfl, hw⟩
    rw [hw]
    go_wp2_with fail
    go_ret2
    exact ⟨by rw [HE.out]; rfl, rfl⟩
  · obtain ⟨y, hv1, hi1, hy16⟩ := hexP_some (b := c) (by omega)
    rw [hi1] at c1
    have HE : Hid (R = (2, 16 * x + y)) := by show _ = _; rw [← HR.out]; unfold figsAt; rw [gb, gc]; simp [hv, hv1]
    clear HR gt hl hsz h0 gb hb hv hn hi h1 hc gc hv1 hn1 hi1
    go_enter Tryd.func71, Tryd.ntmps71
    go_wp2_with fail
    refine wp_loop_rounds 3 ?_
    rw [rounds_succ]
    go_wp2_with fail
    refine c0.mono ?_
    rintro e w1 ⟨rfl, hw⟩
    rw [hw]
    go_wp2_with fail
    rw [rounds_succ]
    go_wp2_with fail
    refine c1.mono ?_
    rintro e w1 ⟨rfl, hw⟩
    rw [hw]
    go_wp2_with fail
    rw [rounds_succ]
    go_wp2_with fail
    go_ret2
    refine ⟨?_, rfl⟩
    rw [HE.out]
    show _ = Ending.returned (.tuple #[.int .i64 ((16 * x + y : Nat) : Int), .int .i64 2])
    rw [show ((16 * x + y : Nat) : Int) = (x : Int) * 16 + (y : Int) by omega]
    rfl
end Go.Proofs.YtnnaphfeeobelaeDoor
