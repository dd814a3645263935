/- The value of a key: the program's. -/
import Derived.Test.YtockgojdmaladabNodesImpl
import Derived.Test.YtockgojdmaladabStillRound
import Derived.RegionIn
import Derived.BigRegionIn
namespace Go.Proofs.Ytockgojdmaladab
open Go.RowKit Go.Shelf Go.Sort

attribute [local go_sem] Oper.semAt_some

theorem valueL_hit {L : List Int} {key : Int} {pre : List Nd} {x : Nd} {rest : List Int} (h : liveL L = ndv (pre ++ [x]) ++ rest) (hp : ∀ y ∈ pre, cellL6 L (3 * y.1) ≠ key) (hx : cellL6 L (3 * x.1) = key) : valueL L key = wrap64 (cellL6 L (3 * x.1 + 1) + 1) := by
  have hf : (liveL L).find? (fun n => decide (cellL6 L (3 * n) = key)) = some x.1 := by
    rw [h, ndv_snoc, List.append_assoc, List.find?_append]
    have h1 : (ndv pre).find? (fun n => decide (cellL6 L (3 * n) = key)) = none := by
      rw [List.find?_eq_none]
      intro n hn
      unfold ndv at hn
      obtain ⟨y, hy, rfl⟩ := List.mem_map.1 hn
      simpa using hp y hy
    rw [h1]
    simp [hx]
  unfold valueL
  rw [hf]
theorem valueL_miss {L : List Int} {key : Int} {pre : List Nd} (h : ndv pre = liveL L) (hp : ∀ y ∈ pre, cellL6 L (3 * y.1) ≠ key) : valueL L key = 0 := by
  have hf : (liveL L).find? (fun n => decide (cellL6 L (3 * n) = key)) = none := by
    rw [← h, List.find?_eq_none]
    intro n hn
    unfold ndv at hn
    obtain ⟨y, hy, rfl⟩ := List.mem_map.1 hn
    simpa using hp y hy
  unfold valueL
  rw [hf]

set_option maxRecDepth 100000 in
set_option maxHeartbeats 4000000 in
theorem implValue_any (w : World) (a : Option Addr) (cap : Nat) (L : List Int) (key : Int) (hL : IAt w a L w.heap.size) (_hm : L.length ≤ 1048576) (hbd : Bd L) :
    Calls Try.prog 30 #[.slice a L.length cap, .int .i64 key] w fun e w' => e = .returned (.int .i64 (valueL L key)) ∧ Below w.heap.size w w' := by
  refine (callsIn_wide (n := 6)).1 ?_
  refine callsIn_of_wp_marks Try.func30 rfl trivial ?_ rfl
  simp only [Try.ntmps30, List.size_toArray, List.length_cons, List.length_nil, Nat.reduceAdd, Nat.reduceSub, Array.replicate_succ, Array.replicate_zero, List.push_toArray, List.append_toArray, List.nil_append, List.cons_append]
  gi_wp2_with (refine ⟨trivial, ?_⟩; gi_at_call 66; refine (nodesThere_in _ a cap L.length _).mono ?_; rintro e w' ⟨rfl, rfl⟩)
  obtain ⟨w4, hw4⟩ : ∃ w4, (((w.alloc (.cells #[.slice a L.length cap] 24)).alloc (.cells #[.int .i64 key] 3)).alloc (.cells #[.int .i64 0] 3)).alloc (.cells #[.slice a L.length cap] 24) = w4 := ⟨_, rfl⟩
  have hB0 : Below w.heap.size w w4 := by rw [← hw4]; exact ((((Below.refl _ w).alloc (Nat.le_refl _) _).alloc (by simp) _).alloc (by simp; omega) _).alloc (by simp; omega) _
  have hs4 : w4.heap.size = w.heap.size + 4 := by rw [← hw4]; simp
  have bL : Boxed w4 w.heap.size 24 (.slice a L.length cap) := by
    have := (((Boxed.new w 24 (.slice a L.length cap)).alloc (.cells #[.int .i64 key] 3)).alloc (.cells #[.int .i64 0] 3)).alloc (.cells #[.slice a L.length cap] 24)
    rw [hw4] at this
    exact this
  have bK : Boxed w4 (w.heap.size + 1) 3 (.int .i64 key) := by
    have := ((Boxed.new (w.alloc (.cells #[.slice a L.length cap] 24)) 3 (.int .i64 key)).alloc (.cells #[.int .i64 0] 3)).alloc (.cells #[.slice a L.length cap] 24)
    rw [hw4, World.size_alloc] at this
    exact this
  have bR : Boxed w4 (w.heap.size + 2) 3 (.int .i64 0) := by
    have := (Boxed.new ((w.alloc (.cells #[.slice a L.length cap] 24)).alloc (.cells #[.int .i64 key] 3)) 3 (.int .i64 0)).alloc (.cells #[.slice a L.length cap] 24)
    rw [hw4, World.size_alloc, World.size_alloc] at this
    exact this
  have bN : Boxed w4 (w.heap.size + 3) 24 (.slice a L.length cap) := by
    have := Boxed.new (((w.alloc (.cells #[.slice a L.length cap] 24)).alloc (.cells #[.int .i64 key] 3)).alloc (.cells #[.int .i64 0] 3)) 24 (.slice a L.length cap)
    rw [hw4, World.size_alloc, World.size_alloc, World.size_alloc] at this
    exact this
  rw [hw4]
  have hL4 : IAt w4 a L w.heap.size := hL.below hB0 (Nat.le_refl _)
  clear hw4
  refine wpIn_rangeFunc_ownG (F := Fence.wide) rfl (by omega) (gf := 99) (lb := #[.pointer (some ⟨w.heap.size + 1 + 1 + 1, 0, none⟩)]) rfl trivial (enters_of Try.func99 (by kernel_rfl) rfl)
    (nodes_stops _ (by omega) (w.heap.size + 1 + 1 + 1) w.heap.size a cap L hbd _ (by omega) bN hL4) KeepN.trans (KeepN.put (by omega) (by omega)) (Below.refl _ _) (fun _ => rfl)
    (fun pre W => Boxed W w.heap.size 24 (.slice a L.length cap) ∧ Boxed W (w.heap.size + 1) 3 (.int .i64 key) ∧ Boxed W (w.heap.size + 2) 3 (.int .i64 0) ∧ Boxed W (w.heap.size + 3) 24 (.slice a L.length cap) ∧ (∀ y ∈ pre, cellL6 L (3 * y.1) ≠ key) ∧ Below w.heap.size w W)
    (fun c pre W => c = .ret ∧ (∃ pre0 x, pre = pre0 ++ [x] ∧ (∀ y ∈ pre0, cellL6 L (3 * y.1) ≠ key) ∧ cellL6 L (3 * x.1) = key ∧ Boxed W (w.heap.size + 2) 3 (.int .i64 (wrap64 (cellL6 L (3 * x.1 + 1) + 1)))) ∧ Below w.heap.size w W)
    (OwnFrom.and (Own.from (boxed_own _ _ _) _) (OwnFrom.and (Own.from (boxed_own _ _ _) _) (OwnFrom.and (Own.from (boxed_own _ _ _) _) (OwnFrom.and (Own.from (boxed_own _ _ _) _) (OwnFrom.and (fun _ _ _ _ hs _ _ => hs) (ownFrom_below (Nat.le_refl _) (by omega)))))))
    (fun c => fun pre W W' row hs hg hr => by
      obtain ⟨rfl, ⟨pre0, x, rfl, h1, h2, h3⟩, h4⟩ := hs
      exact ⟨rfl, ⟨pre0, x, rfl, h1, h2, Own.from (boxed_own (β := Unit) _ _ (fun _ => _)) _ () W W' row h3 hg hr⟩, ownFrom_below (β := Unit) (Nat.le_refl _) (by omega) () W W' row h4 hg hr⟩)
    ⟨bL, bK, bR, bN, (fun y hy => by cases hy), hB0⟩
    (fun x => { tmps := #[.slice a L.length cap, .int .i64 key, .pointer (some ⟨w.heap.size, 0, none⟩), .pointer (some ⟨w.heap.size + 1, 0, none⟩), .pointer (some ⟨w.heap.size + 1 + 1, 0, none⟩), .int .i64 x.1, .slice a L.length cap, .func (.func 99) #[] #[.pointer (some ⟨w.heap.size + 1 + 1 + 1, 0, none⟩)], .int .i64 x.1, undef, undef, undef, undef, undef, undef, undef, undef, undef, undef, undef, undef, undef], defers := [] }) ?assign ?body ?done ?stop
  case assign =>
    intro l x W K hK
    gi_wp2
    exact hK
  case body =>
    rintro l pre x W ⟨hbL, hbK, hbR, hbN, hpre, hB⟩ hlt
    obtain ⟨h63, _⟩ := nbL_lt hlt
    obtain ⟨xv, hxv⟩ := x
    obtain ⟨m, rfl⟩ : ∃ m : Nat, xv = (m : Int) := ⟨xv.toNat, by omega⟩
    dsimp only
    have hm1 : 1 ≤ m := by omega
    have hm2 : m ≤ 20 := by omega
    have hLW := hL.below hB (Nat.le_refl _)
    obtain ⟨g, off, rfl, q1⟩ := hLW.cellD (j := 3 * m) (by omega)
    obtain ⟨g', off', hga, q2⟩ := hLW.cellD (j := 3 * m + 1) (by omega)
    simp only [Option.some.injEq, Addr.mk.injEq, and_true] at hga
    obtain ⟨rfl, rfl⟩ := hga
    obtain ⟨z, hz⟩ : ∃ z, L.getD (3 * m) 0 = z := ⟨_, rfl⟩
    obtain ⟨y, hy⟩ : ∃ y, L.getD (3 * m + 1) 0 = y := ⟨_, rfl⟩
    have HZ : Hid (cellL6 L (3 * (m : Int)) = z) := by show _ = _; unfold cellL6; rw [show (3 * (m : Int)).toNat = 3 * m by omega]; exact hz
    have HY : Hid (cellL6 L (3 * (m : Int) + 1) = y) := by show _ = _; unfold cellL6; rw [show (3 * (m : Int) + 1).toNat = 3 * m + 1 by omega]; exact hy
    rw [hz] at q1
    rw [hy] at q2
    have hcL := hbL.cell
    have hcK := hbK.cell
    have hcR := hbR.cell
    have hfR := hbR.frozen
    have hji3 : 3 * (m : Int) < 63 := by omega
    have hji0 : (0 : Int) ≤ 3 * (m : Int) := by omega
    have hji5 : (3 * (m : Int)).toNat = 3 * m := by omega
    have hjj3 : 3 * (m : Int) + 1 < 63 := by omega
    have hjj0 : (0 : Int) ≤ 3 * (m : Int) + 1 := by omega
    have hjj5 : (3 * (m : Int) + 1).toNat = 3 * m + 1 := by omega
    have C1 : Hid (∀ w, Calls Try.prog 67 #[.int .i64 (m : Int)] w fun e w' => e = .returned (.int .i64 (3 * (m : Int))) ∧ w' = w) := fun w => keyCell_any _ (by omega) w
    have C2 : Hid (∀ w, Calls Try.prog 68 #[.int .i64 (m : Int)] w fun e w' => e = .returned (.int .i64 (3 * (m : Int) + 1)) ∧ w' = w) := fun w => valueCell_any _ (by omega) w
    have HI : Hid (Boxed W w.heap.size 24 (.slice (some ⟨g, off, none⟩) L.length cap) ∧ Boxed W (w.heap.size + 1) 3 (.int .i64 key) ∧ Boxed W (w.heap.size + 2) 3 (.int .i64 0) ∧ Boxed W (w.heap.size + 3) 24 (.slice (some ⟨g, off, none⟩) L.length cap) ∧ (∀ y ∈ pre, cellL6 L (3 * y.1) ≠ key) ∧ Below w.heap.size w W) := ⟨hbL, hbK, hbR, hbN, hpre, hB⟩
    clear hbL hbK hbR hbN hpre hB hLW hz hy hL hL4 bL bK bR bN hB0 hlt
    by_cases hzk : z = key
    · subst hzk
      gi_wp2
      refine wpIn_round_still_tail 6 (by kernel_rfl) (by kernel_rfl) (by kernel_rfl) ?_
      simp only [List.take_succ_cons, List.take_zero, List.drop_succ_cons, List.drop_zero]
      repeat (first | still_step | still_call (C1.out _))
      try refine wpStill_nil ?_
      gi_wp2
      obtain ⟨WA, hWA⟩ : ∃ WA, W.drew = WA := ⟨_, rfl⟩
      rw [hWA]
      have hcL2 : WA.cell? ⟨w.heap.size, 0, none⟩ = some (.slice (some ⟨g, off, none⟩) L.length cap) := by rw [← hWA]; exact hcL
      have q22 : WA.cell? ⟨g, off + (3 * m + 1), none⟩ = some (.int .i64 y) := by rw [← hWA]; exact q2
      have q23 : WA.cell? ⟨g, off + 3 * m + 1, none⟩ = some (.int .i64 y) := q22
      have hcR2 : WA.cell? ⟨w.heap.size + 1 + 1, 0, none⟩ = some (.int .i64 0) := by rw [← hWA]; exact hcR
      have hfR2 : WA.frozen? ⟨w.heap.size + 1 + 1, 0, none⟩ = false := by rw [← hWA]; exact hfR
      have HWA : Hid (W.drew = WA) := hWA
      clear hcL hcK hcR hfR q1 q2 hWA C1
      refine wpIn_round_still_tail 6 (by kernel_rfl) (by kernel_rfl) (by kernel_rfl) ?_
      simp only [List.take_succ_cons, List.take_zero, List.drop_succ_cons, List.drop_zero]
      repeat (first | still_step | still_call (C2.out _))
      try refine wpStill_nil ?_
      gi_wp2
      rw [← HWA.out]
      have hbox : Boxed ((W.drew.setCell ⟨w.heap.size + 2, 0, none⟩ (.int .i64 (wrap64 (y + 1)))).drew) (w.heap.size + 2) 3 (.int .i64 (wrap64 (y + 1))) := (show Boxed W.drew (w.heap.size + 2) 3 (.int .i64 0) from HI.out.2.2.1).set _
      refine ⟨((KeepsOthers.drew W).trans ((KeepsOthers.setCell _ _ _).trans (KeepsOthers.drew _))).from _, rfl, ⟨pre, ⟨(m : Int), hxv⟩, rfl, HI.out.2.2.2.2.1, HZ.out, ?_⟩, ((HI.out.2.2.2.2.2.drew).setCell (p := ⟨w.heap.size + 2, 0, none⟩) (by simp) _).drew⟩
      rw [HY.out]
      exact hbox
    · have hzk2 : (z == key) = false := by simpa using hzk
      gi_wp2
      refine wpIn_round_still_tail 6 (by kernel_rfl) (by kernel_rfl) (by kernel_rfl) ?_
      simp only [List.take_succ_cons, List.take_zero, List.drop_succ_cons, List.drop_zero]
      repeat (first | still_step | still_call (C1.out _))
      try refine wpStill_nil ?_
      gi_wp2
      refine ⟨((KeepsOthers.drew W).from _), ⟨HI.out.2.2.2.2.2.drew |> fun _ => ⟨rfl, rfl, rfl, Nat.le_refl _, fun _ _ => rfl⟩, rfl⟩, HI.out.1, HI.out.2.1, HI.out.2.2.1, HI.out.2.2.2.1, ?_, HI.out.2.2.2.2.2.drew⟩
      intro y hy
      rcases List.mem_append.1 hy with h | h
      · exact HI.out.2.2.2.2.1 y h
      · rw [List.mem_singleton.1 h, HZ.out]
        exact hzk
  case done =>
    rintro D ys W hD hys ⟨hbL, hbK, hbR, hbN, hpre, hB⟩ hK
    have hc := hbR.cell
    have hf := hbR.frozen
    have hK' : (W.setCell ⟨w.heap.size + 2, 0, none⟩ (.int .i64 0)).heap[D]? = some (.deferred (some [])) := by rw [heap_setCell_other _ _ _ _ (by simp; omega)]; exact hK
    have hb2 := hB.setCell (p := ⟨w.heap.size + 2, 0, none⟩) (by simp) (.int .i64 0)
    have hR2 : Boxed (W.setCell ⟨w.heap.size + 2, 0, none⟩ (.int .i64 0)) (w.heap.size + 2) 3 (.int .i64 0) := hbR.set _
    have hfin : Boxed ((W.setCell ⟨w.heap.size + 2, 0, none⟩ (.int .i64 0)).putObj D (.deferred none)) (w.heap.size + 2) 3 (.int .i64 0) := (World.putObj_heap_other (by omega)).trans hR2
    have hq := hfin.cell
    gi_wp2
    refine ⟨by simp, .inl ⟨_, _, rfl, run_takeDeferred hK', ?_⟩⟩
    refine ⟨.int .i64 0, by simp [results, Try.results30, go_sem, hq], ?_, hb2.trans (belowK_b (w := w) (Nat.le_refl _) _ D _ _ (by omega) hK' rfl rfl)⟩
    rw [valueL_miss hys hpre]
  case stop =>
    rintro D c pre W hD ⟨rest, hpr⟩ ⟨rfl, ⟨pre0, x, rfl, h1, h2, h3⟩, h4⟩ hK
    have hfin : Boxed (W.putObj D (.deferred none)) (w.heap.size + 2) 3 (.int .i64 (wrap64 (cellL6 L (3 * x.1 + 1) + 1))) := (World.putObj_heap_other (by omega)).trans h3
    have hq := hfin.cell
    gi_wp2
    refine ⟨by simp, .inl ⟨_, _, rfl, run_takeDeferred hK, ?_⟩⟩
    exact ⟨.int .i64 (wrap64 (cellL6 L (3 * x.1 + 1) + 1)), by simp [results, Try.results30, go_sem, hq], by rw [valueL_hit hpr h1 h2], h4.trans (belowK_b (w := w) (Nat.le_refl _) _ D _ _ (by omega) hK rfl rfl)⟩
end Go.Proofs.Ytockgojdmaladab
