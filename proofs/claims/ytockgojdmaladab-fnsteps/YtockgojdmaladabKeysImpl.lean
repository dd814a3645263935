/- The keys of a list: the program's. -/
import Derived.Test.YtockgojdmaladabNodesImpl
import Derived.RegionIn
import Derived.BigRegionIn
namespace Go.Proofs.Ytockgojdmaladab
open Go.RowKit Go.Shelf Go.Sort

theorem wide_fn (f : FuncId) : Fence.wide.fn f = True := rfl
theorem calls_round (l n : Nat) (P : Program) (f : FuncId) (args : Array Value) (w : World) (R : Ending → World → Prop) : CallsIn (Fence.wide.inRound l) n P f args w R = CallsIn Fence.wide n P f args w R := rfl
attribute [local go_sem] Oper.semAt_some wide_fn calls_round

theorem ite_wanted {c : Bool} {A B : Prop} (h : c = true) (hA : A) : if c then A else B := by rw [if_pos h]; exact hA
/-- An append whose run is known. -/
theorem wpIn_append_run {F : Fence} {n : Nat} {P : Program} {o : Oper} {a : Act} {w : World} {K : Act → World → Prop} {Q : Exit → Act → World → Prop} (s x : Operand) (t : TypeId) (hop : o.op = Op.call { callee := Callee.builtin Builtin.append, args := #[s, x], argTypes := #[t, t] })
    (v' : Value) (w' : World) (hrun : (Builtin.append_ #[t, t] o.type #[a.eval s, a.eval x]).run P w = .ok v' w') (h : K (a.put o.dst v') w') : o.wpIn F n P a w K Q := by
  unfold Oper.wpIn
  refine ⟨?_, ?_⟩
  · simp [Oper.about, hop, resolve, Target.leads, Sem.run_pure]
  · rw [Oper.semAt_plain F _ _ (by rw [hop]; intro c hc'; cases hc')]
    simp [execOp, hop, resolve, invoke, builtin, hrun, Result.andThen]
    exact h

def ksL (L : List Int) (ys : List Nd) : List Int := (ndv ys).map fun n => cellL6 L (3 * n)
theorem ksL_snoc (L : List Int) (ys : List Nd) (x : Nd) : ksL L (ys ++ [x]) = ksL L ys ++ [cellL6 L (3 * x.1)] := by simp [ksL, ndv_snoc]
theorem ksL_length (L : List Int) (ys : List Nd) : (ksL L ys).length = ys.length := by simp [ksL, ndv]
theorem ksL_all {L : List Int} {ys : List Nd} (h : ndv ys = liveL L) : ksL L ys = keysL L := by unfold ksL keysL; rw [h]
theorem ints_snoc6 (l : List Int) (z : Int) : ints (l ++ [z]) = ints l ++ [.int .i64 z] := by simp [ints]
theorem ownsRow_mono6 {w : World} {base base' : Nat} {e : TypeId} {size k : Nat} {v : Value} {xs : List Value} (h : w.ownsRow base e size v k xs) (hb : base' ≤ base) : w.ownsRow base' e size v k xs := by
  refine ⟨h.1, ?_⟩
  rcases h.2 with h | ⟨g, cap, cur, hv, hg, rest⟩
  · exact .inl h
  · exact .inr ⟨g, cap, cur, hv, Nat.le_trans hb hg, rest⟩

set_option maxRecDepth 100000 in
set_option maxHeartbeats 4000000 in
theorem implKeys_any (w : World) (a : Option Addr) (cap : Nat) (L : List Int) (hL : IAt w a L w.heap.size) (_hm : L.length ≤ 1048576) (hbd : Bd L) :
    Calls Try.prog 29 #[.slice a L.length cap] w fun e w' => ∃ v, e = .returned v ∧ OwnV w' w.heap.size 3 v (ints (keysL L)) ∧ Below w.heap.size w w' := by
  refine (callsIn_wide (n := 6)).1 ?_
  obtain ⟨i0, hi, hz0, hz1, hz2⟩ := info_parts Try.infoInt
  refine callsIn_of_wp_marks Try.func29 rfl trivial ?_ rfl
  simp only [Try.ntmps29, List.size_toArray, List.length_cons, List.length_nil, Nat.reduceAdd, Nat.reduceSub, Array.replicate_succ, Array.replicate_zero, List.push_toArray, List.append_toArray, List.nil_append, List.cons_append]
  gi_wp2_with (gi_at_call 66; refine (nodesThere_in _ a cap L.length _).mono ?_; rintro e w' ⟨rfl, rfl⟩)
  obtain ⟨w4, hw4⟩ : ∃ w4, (((w.alloc (.cells #[.slice a L.length cap] 24)).alloc (.cells #[] 3)).alloc (.cells #[.slice (some ⟨w.heap.size + 1, 0, none⟩) 0 0] 24)).alloc (.cells #[.slice a L.length cap] 24) = w4 := ⟨_, rfl⟩
  have hB0 : Below w.heap.size w w4 := by rw [← hw4]; exact ((((Below.refl _ w).alloc (Nat.le_refl _) _).alloc (by simp) _).alloc (by simp; omega) _).alloc (by simp; omega) _
  have hs4 : w4.heap.size = w.heap.size + 4 := by rw [← hw4]; simp
  have bL : Boxed w4 w.heap.size 24 (.slice a L.length cap) := by
    have := (((Boxed.new w 24 (.slice a L.length cap)).alloc (.cells #[] 3)).alloc (.cells #[.slice (some ⟨w.heap.size + 1, 0, none⟩) 0 0] 24)).alloc (.cells #[.slice a L.length cap] 24)
    rw [hw4] at this
    exact this
  have bK : Boxed w4 (w.heap.size + 2) 24 (.slice (some ⟨w.heap.size + 1, 0, none⟩) 0 0) := by
    have := (Boxed.new ((w.alloc (.cells #[.slice a L.length cap] 24)).alloc (.cells #[] 3)) 24 (.slice (some ⟨w.heap.size + 1, 0, none⟩) 0 0)).alloc (.cells #[.slice a L.length cap] 24)
    rw [hw4, World.size_alloc, World.size_alloc] at this
    exact this
  have bN : Boxed w4 (w.heap.size + 3) 24 (.slice a L.length cap) := by
    have := Boxed.new (((w.alloc (.cells #[.slice a L.length cap] 24)).alloc (.cells #[] 3)).alloc (.cells #[.slice (some ⟨w.heap.size + 1, 0, none⟩) 0 0] 24)) 24 (.slice a L.length cap)
    rw [hw4, World.size_alloc, World.size_alloc, World.size_alloc] at this
    exact this
  have row0 : w4.ownsRow (w.heap.size + 1) 3 1 (.slice (some ⟨w.heap.size + 1, 0, none⟩) 0 0) 0 [] := by
    have h := World.ownsRow_made (e := 3) (size := 1) (w.alloc (.cells #[.slice a L.length cap] 24)) #[] 0 (Nat.le_refl _) (by simp [maxLen]) (by simp)
    rw [World.size_alloc] at h
    have := (h.alloc (.cells #[.slice (some ⟨w.heap.size + 1, 0, none⟩) 0 0] 24)).alloc (.cells #[.slice a L.length cap] 24)
    rw [hw4] at this
    exact this
  rw [hw4]
  have hL4 : IAt w4 a L w.heap.size := hL.below hB0 (Nat.le_refl _)
  clear hw4
  refine wpIn_rangeFunc_ownG (F := Fence.wide) rfl (by omega) (gf := 99) (lb := #[.pointer (some ⟨w.heap.size + 1 + 1 + 1, 0, none⟩)]) rfl trivial (enters_of Try.func99 (by kernel_rfl) rfl)
    (nodes_stops _ (by omega) (w.heap.size + 1 + 1 + 1) w.heap.size a cap L hbd _ (by omega) bN hL4) KeepN.trans (KeepN.put (by omega) (by omega)) (Below.refl _ _) (fun _ => rfl)
    (fun pre W => (∃ v, Boxed W (w.heap.size + 2) 24 v ∧ W.ownsRow (w.heap.size + 1) 3 1 v (ints (ksL L pre)).length (ints (ksL L pre)) ∧ True) ∧ Boxed W w.heap.size 24 (.slice a L.length cap) ∧ Boxed W (w.heap.size + 3) 24 (.slice a L.length cap) ∧ w.heap.size + 4 ≤ W.heap.size ∧ Below w.heap.size w W)
    (fun _ _ _ => False)
    (OwnFrom.and (Own.from (holdsRow_own (w.heap.size + 1) (w.heap.size + 2) 24 3 1 (fun pre => (ints (ksL L pre)).length) (fun pre => ints (ksL L pre)) (fun _ _ => True)) _) (OwnFrom.and (Own.from (boxed_own _ _ _) _) (OwnFrom.and (Own.from (boxed_own _ _ _) _) (OwnFrom.and (fun _ _ _ _ hs hg _ => Nat.le_trans hs hg.size) (ownFrom_below (Nat.le_refl _) (by omega))))))
    (fun _ _ _ _ _ hs _ _ => hs)
    ⟨⟨_, bK, row0, trivial⟩, bL, bN, by omega, hB0⟩
    (fun x => { tmps := #[.slice a L.length cap, .pointer (some ⟨w.heap.size, 0, none⟩), .slice none 0 0, .pointer (some ⟨w.heap.size + 1 + 1, 0, none⟩), .int .i64 x.1, .slice (some ⟨w.heap.size + 1, 0, none⟩) 0 0, .slice a L.length cap, .func (.func 99) #[] #[.pointer (some ⟨w.heap.size + 1 + 1 + 1, 0, none⟩)], .int .i64 x.1, undef, undef, undef, undef, undef, undef, undef, undef, undef], defers := [] }) ?assign ?body ?done ?stop
  case assign =>
    intro l x W K hK
    gi_wp2
    exact hK
  case body =>
    rintro l pre x W ⟨⟨v, hv, hrow, _⟩, hLb, hNb, h4, hB⟩ hlt
    obtain ⟨h63, hlt2⟩ := nbL_lt hlt
    obtain ⟨xv, hxv⟩ := x
    obtain ⟨m, rfl⟩ : ∃ m : Nat, xv = (m : Int) := ⟨xv.toNat, by omega⟩
    dsimp only
    have hc := hv.cell
    have hcL := hLb.cell
    have hm1 : 1 ≤ m := by omega
    have hm2 : m ≤ 20 := by omega
    obtain ⟨g, off, rfl, q1⟩ := (hL.below hB (Nat.le_refl _)).cellD (j := 3 * m) (by omega)
    obtain ⟨z, hz⟩ : ∃ z, L.getD (3 * m) 0 = z := ⟨_, rfl⟩
    have HZ : Hid (cellL6 L (3 * (m : Int)) = z) := by show _ = _; unfold cellL6; rw [show (3 * (m : Int)).toNat = 3 * m by omega]; exact hz
    rw [hz] at q1
    have hPl : (ints (ksL L pre)).length ≤ 20 := by rw [ints_length, ksL_length]; omega
    have hji2 : 3 * (m : Int) < (L.length : Int) := by omega
    have hji3 : 3 * (m : Int) < 63 := by omega
    have hji0 : (0 : Int) ≤ 3 * (m : Int) := by omega
    have hji4 : decide (3 * (m : Int) < 63) = true := decide_eq_true hji3
    have hji5 : (3 * (m : Int)).toNat = 3 * m := by omega
    have hwr : IntKind.i64.wrap (3 * (m : Int)) = 3 * (m : Int) := by rw [IntKind.wrap_i64]; omega
    have hwr2 : wrap64 (3 * (m : Int)) = 3 * (m : Int) := by unfold wrap64; omega
    have hrowA : ((W.alloc (.cells #[.int .i64 z] 3)).drew).ownsRow (w.heap.size + 1) 3 1 v (ints (ksL L pre)).length (ints (ksL L pre)) := hrow.alloc _
    obtain ⟨v', w1, hrun, hown', hgrow0, _⟩ := run_append_own (P := Try.prog) ((W.alloc (.cells #[.int .i64 z] 3)).drew) (w.heap.size + 1) 24 24 3 i0 (.int .i64 0) 1 8 Try.underlying24 hi hz0 hz1 hz2 rfl (by decide) v _ _ hrowA ⟨W.heap.size, 0, none⟩ 1 1 [.int .i64 z] rfl (cell_one_new W _ _) (by simp [Value.oneCell']) (by unfold maxLen; omega) (by omega) (by simp [World.drew]; omega)
    have hgrow : (W.alloc (.cells #[.int .i64 z] 3)).grownBy w1 v.ownBlock := ⟨hgrow0.os, hgrow0.tape, hgrow0.output, hgrow0.size, hgrow0.block⟩
    obtain ⟨g', cap', rfl⟩ := ownsRow_succ hown'
    obtain ⟨hv1, hv2, hr2, hk2, hb2⟩ := hv.appended (n₀ := w.heap.size) (by decide) (ownsRow_mono6 hrow (base' := w.heap.size) (by omega)) hB.size (by omega) (ownsRow_mono6 hown' (by omega)) hgrow
    have hcA := (hv.alloc (.cells #[.int .i64 z] 3)).cell
    have hc1 := hv1.cell
    have hf1 := hv1.frozen
    have HF : Hid (KeepsOthers W (w1.setCell ⟨w.heap.size + 2, 0, none⟩ (.slice (some ⟨g', 0, none⟩) ((ints (ksL L pre)).length + 1) cap'))) := hk2
    have HG : Hid (Boxed (w1.setCell ⟨w.heap.size + 2, 0, none⟩ (.slice (some ⟨g', 0, none⟩) ((ints (ksL L pre)).length + 1) cap')) (w.heap.size + 2) 24 (.slice (some ⟨g', 0, none⟩) ((ints (ksL L pre)).length + 1) cap') ∧ (w1.setCell ⟨w.heap.size + 2, 0, none⟩ (.slice (some ⟨g', 0, none⟩) ((ints (ksL L pre)).length + 1) cap')).ownsRow (w.heap.size + 1) 3 1 (.slice (some ⟨g', 0, none⟩) ((ints (ksL L pre)).length + 1) cap') ((ints (ksL L pre)).length + 1) (ints (ksL L pre) ++ [.int .i64 z]) ∧ Below w.heap.size W (w1.setCell ⟨w.heap.size + 2, 0, none⟩ (.slice (some ⟨g', 0, none⟩) ((ints (ksL L pre)).length + 1) cap'))) :=
      ⟨hv2, hown'.kept (grownBy_setCell' w1 (w.heap.size + 2) _) (.inr (hv1.not_row (by decide) hown').symm), hb2⟩
    have HLb : Hid (∀ B, B ≠ w.heap.size + 2 → Boxed W B 24 (.slice (some ⟨g, off, none⟩) L.length cap) → Boxed (w1.setCell ⟨w.heap.size + 2, 0, none⟩ (.slice (some ⟨g', 0, none⟩) ((ints (ksL L pre)).length + 1) cap')) B 24 (.slice (some ⟨g, off, none⟩) L.length cap)) := fun B hB hb => ((hb.alloc _).kept hgrow (hb.not_row (by decide) hrow)).other (B' := w.heap.size + 2) (fun e => hB e) _
    have HI : Hid (Boxed W w.heap.size 24 (.slice (some ⟨g, off, none⟩) L.length cap) ∧ Boxed W (w.heap.size + 3) 24 (.slice (some ⟨g, off, none⟩) L.length cap) ∧ w.heap.size + 4 ≤ W.heap.size ∧ Below w.heap.size w W) := ⟨hLb, hNb, h4, hB⟩
    clear hv hrow hLb hNb hB hrowA hown' hgrow hgrow0 hv1 hv2 hr2 hk2 hb2 hz hlt hL hL4 bL bK bN row0 hB0
    gi_wp2
    refine wpIn_region_any (by kernel_rfl) ?_
    change wpAnyIn _ _ _ _ _ _ _ _ _ (World.drew _)
    refine wpAnyIn_ready (rs := [0, 1, 2]) (by kernel_rfl) (by simp) ?_
    refine AllReadyIn.cons rfl (fun K hK => ?_) ?_
    · go_simp
      refine hK _ _ ?_
      clear hK K
      refine wpAnyIn_ready (rs := [1, 2]) (by kernel_rfl) (by simp) ?_
      refine AllReadyIn.cons rfl (fun K hK => ?_) ?_
      · go_simp
        refine hK _ _ ?_
        clear hK K
        refine wpAnyIn_ready (rs := [2]) (by kernel_rfl) (by simp) ?_
        refine AllReadyIn.cons rfl (fun K hK => ?_) ?_
        · go_simp
          refine hK _ _ ?_
          clear hK K
          refine wpAnyIn_ready (rs := [3]) (by kernel_rfl) (by simp) ?_
          refine AllReadyIn.cons rfl (fun K hK => ?_) ?_
          · go_simp
            refine (callsIn_wide.2 (keyCell_any (m : Int) (by omega) _)).mono ?_
            rintro e wk ⟨rfl, rfl⟩
            refine hK _ _ ?_
            clear hK K
            refine wpAnyIn_ready (rs := [4]) (by kernel_rfl) (by simp) ?_
            refine AllReadyIn.cons rfl (fun K hK => ?_) ?_
            · go_simp
              refine hK _ _ ?_
              clear hK K
              refine wpAnyIn_ready (rs := [5]) (by kernel_rfl) (by simp) ?_
              refine AllReadyIn.cons rfl (fun K hK => ?_) ?_
              · go_simp
                refine hK _ _ ?_
                clear hK K
                refine wpAnyIn_ready (rs := [6]) (by kernel_rfl) (by simp) ?_
                refine AllReadyIn.cons rfl (fun K hK => ?_) ?_
                · go_simp
                  refine hK _ _ ?_
                  clear hK K
                  refine wpAnyIn_ready (rs := [7]) (by kernel_rfl) (by simp) ?_
                  refine AllReadyIn.cons rfl (fun K hK => ?_) ?_
                  · refine ite_wanted rfl ?_
                    refine wpIn_append_run (.tmp 9) (.tmp 15) 24 rfl _ _ hrun ?_
                    refine hK _ _ ?_
                    clear hK K
                    refine wpAnyIn_ready (rs := [8]) (by kernel_rfl) (by simp) ?_
                    refine AllReadyIn.cons rfl (fun K hK => ?_) ?_
                    · go_simp
                      refine hK _ _ ?_
                      clear hK K
                      refine wpAnyIn_done (by kernel_rfl) ?_ _
                      gi_wp2
                      refine ⟨HF.out.from _, ⟨HG.out.2.2, (HLb.out (w.heap.size + 3) (by omega) HI.out.2.1).trans HI.out.2.1.symm⟩, ⟨_, HG.out.1, ?_, trivial⟩, HLb.out _ (by omega) HI.out.1, HLb.out _ (by omega) HI.out.2.1, Nat.le_trans HI.out.2.2.1 HG.out.2.2.size, HI.out.2.2.2.trans HG.out.2.2⟩
                      rw [ksL_snoc, ints_snoc6, HZ.out, List.length_append]
                      exact HG.out.2.1
                    exact AllReadyIn.nil
                  exact AllReadyIn.nil
                exact AllReadyIn.nil
              exact AllReadyIn.nil
            exact AllReadyIn.nil
          exact AllReadyIn.nil
        exact AllReadyIn.nil
      refine AllReadyIn.cons rfl (fun K hK => ?_) ?_
      · go_simp
        refine hK _ _ ?_
        clear hK K
        refine wpAnyIn_ready (rs := [1, 3]) (by kernel_rfl) (by simp) ?_
        refine AllReadyIn.cons rfl (fun K hK => ?_) ?_
        · go_simp
          refine hK _ _ ?_
          clear hK K
          refine wpAnyIn_ready (rs := [3]) (by kernel_rfl) (by simp) ?_
          refine AllReadyIn.cons rfl (fun K hK => ?_) ?_
          · go_simp
            refine (callsIn_wide.2 (keyCell_any (m : Int) (by omega) _)).mono ?_
            rintro e wk ⟨rfl, rfl⟩
            refine hK _ _ ?_
            clear hK K
            refine wpAnyIn_ready (rs := [4]) (by kernel_rfl) (by simp) ?_
            refine AllReadyIn.cons rfl (fun K hK => ?_) ?_
            · go_simp
              refine hK _ _ ?_
              clear hK K
              refine wpAnyIn_ready (rs := [5]) (by kernel_rfl) (by simp) ?_
              refine AllReadyIn.cons rfl (fun K hK => ?_) ?_
              · go_simp
                refine hK _ _ ?_
                clear hK K
                refine wpAnyIn_ready (rs := [6]) (by kernel_rfl) (by simp) ?_
                refine AllReadyIn.cons rfl (fun K hK => ?_) ?_
                · go_simp
                  refine hK _ _ ?_
                  clear hK K
                  refine wpAnyIn_ready (rs := [7]) (by kernel_rfl) (by simp) ?_
                  refine AllReadyIn.cons rfl (fun K hK => ?_) ?_
                  · refine ite_wanted rfl ?_
                    refine wpIn_append_run (.tmp 9) (.tmp 15) 24 rfl _ _ hrun ?_
                    refine hK _ _ ?_
                    clear hK K
                    refine wpAnyIn_ready (rs := [8]) (by kernel_rfl) (by simp) ?_
                    refine AllReadyIn.cons rfl (fun K hK => ?_) ?_
                    · go_simp
                      refine hK _ _ ?_
                      clear hK K
                      refine wpAnyIn_done (by kernel_rfl) ?_ _
                      gi_wp2
                      refine ⟨HF.out.from _, ⟨HG.out.2.2, (HLb.out (w.heap.size + 3) (by omega) HI.out.2.1).trans HI.out.2.1.symm⟩, ⟨_, HG.out.1, ?_, trivial⟩, HLb.out _ (by omega) HI.out.1, HLb.out _ (by omega) HI.out.2.1, Nat.le_trans HI.out.2.2.1 HG.out.2.2.size, HI.out.2.2.2.trans HG.out.2.2⟩
                      rw [ksL_snoc, ints_snoc6, HZ.out, List.length_append]
                      exact HG.out.2.1
                    exact AllReadyIn.nil
                  exact AllReadyIn.nil
                exact AllReadyIn.nil
              exact AllReadyIn.nil
            exact AllReadyIn.nil
          exact AllReadyIn.nil
        refine AllReadyIn.cons rfl (fun K hK => ?_) ?_
        · go_simp
          refine (callsIn_wide.2 (keyCell_any (m : Int) (by omega) _)).mono ?_
          rintro e wk ⟨rfl, rfl⟩
          refine hK _ _ ?_
          clear hK K
          refine wpAnyIn_ready (rs := [1]) (by kernel_rfl) (by simp) ?_
          refine AllReadyIn.cons rfl (fun K hK => ?_) ?_
          · go_simp
            refine hK _ _ ?_
            clear hK K
            refine wpAnyIn_ready (rs := [4]) (by kernel_rfl) (by simp) ?_
            refine AllReadyIn.cons rfl (fun K hK => ?_) ?_
            · go_simp
              refine hK _ _ ?_
              clear hK K
              refine wpAnyIn_ready (rs := [5]) (by kernel_rfl) (by simp) ?_
              refine AllReadyIn.cons rfl (fun K hK => ?_) ?_
              · go_simp
                refine hK _ _ ?_
                clear hK K
                refine wpAnyIn_ready (rs := [6]) (by kernel_rfl) (by simp) ?_
                refine AllReadyIn.cons rfl (fun K hK => ?_) ?_
                · go_simp
                  refine hK _ _ ?_
                  clear hK K
                  refine wpAnyIn_ready (rs := [7]) (by kernel_rfl) (by simp) ?_
                  refine AllReadyIn.cons rfl (fun K hK => ?_) ?_
                  · refine ite_wanted rfl ?_
                    refine wpIn_append_run (.tmp 9) (.tmp 15) 24 rfl _ _ hrun ?_
                    refine hK _ _ ?_
                    clear hK K
                    refine wpAnyIn_ready (rs := [8]) (by kernel_rfl) (by simp) ?_
                    refine AllReadyIn.cons rfl (fun K hK => ?_) ?_
                    · go_simp
                      refine hK _ _ ?_
                      clear hK K
                      refine wpAnyIn_done (by kernel_rfl) ?_ _
                      gi_wp2
                      refine ⟨HF.out.from _, ⟨HG.out.2.2, (HLb.out (w.heap.size + 3) (by omega) HI.out.2.1).trans HI.out.2.1.symm⟩, ⟨_, HG.out.1, ?_, trivial⟩, HLb.out _ (by omega) HI.out.1, HLb.out _ (by omega) HI.out.2.1, Nat.le_trans HI.out.2.2.1 HG.out.2.2.size, HI.out.2.2.2.trans HG.out.2.2⟩
                      rw [ksL_snoc, ints_snoc6, HZ.out, List.length_append]
                      exact HG.out.2.1
                    exact AllReadyIn.nil
                  exact AllReadyIn.nil
                exact AllReadyIn.nil
              exact AllReadyIn.nil
            exact AllReadyIn.nil
          exact AllReadyIn.nil
        exact AllReadyIn.nil
      exact AllReadyIn.nil
    refine AllReadyIn.cons rfl (fun K hK => ?_) ?_
    · go_simp
      refine hK _ _ ?_
      clear hK K
      refine wpAnyIn_ready (rs := [0, 2]) (by kernel_rfl) (by simp) ?_
      refine AllReadyIn.cons rfl (fun K hK => ?_) ?_
      · go_simp
        refine hK _ _ ?_
        clear hK K
        refine wpAnyIn_ready (rs := [2]) (by kernel_rfl) (by simp) ?_
        refine AllReadyIn.cons rfl (fun K hK => ?_) ?_
        · go_simp
          refine hK _ _ ?_
          clear hK K
          refine wpAnyIn_ready (rs := [3]) (by kernel_rfl) (by simp) ?_
          refine AllReadyIn.cons rfl (fun K hK => ?_) ?_
          · go_simp
            refine (callsIn_wide.2 (keyCell_any (m : Int) (by omega) _)).mono ?_
            rintro e wk ⟨rfl, rfl⟩
            refine hK _ _ ?_
            clear hK K
            refine wpAnyIn_ready (rs := [4]) (by kernel_rfl) (by simp) ?_
            refine AllReadyIn.cons rfl (fun K hK => ?_) ?_
            · go_simp
              refine hK _ _ ?_
              clear hK K
              refine wpAnyIn_ready (rs := [5]) (by kernel_rfl) (by simp) ?_
              refine AllReadyIn.cons rfl (fun K hK => ?_) ?_
              · go_simp
                refine hK _ _ ?_
                clear hK K
                refine wpAnyIn_ready (rs := [6]) (by kernel_rfl) (by simp) ?_
                refine AllReadyIn.cons rfl (fun K hK => ?_) ?_
                · go_simp
                  refine hK _ _ ?_
                  clear hK K
                  refine wpAnyIn_ready (rs := [7]) (by kernel_rfl) (by simp) ?_
                  refine AllReadyIn.cons rfl (fun K hK => ?_) ?_
                  · refine ite_wanted rfl ?_
                    refine wpIn_append_run (.tmp 9) (.tmp 15) 24 rfl _ _ hrun ?_
                    refine hK _ _ ?_
                    clear hK K
                    refine wpAnyIn_ready (rs := [8]) (by kernel_rfl) (by simp) ?_
                    refine AllReadyIn.cons rfl (fun K hK => ?_) ?_
                    · go_simp
                      refine hK _ _ ?_
                      clear hK K
                      refine wpAnyIn_done (by kernel_rfl) ?_ _
                      gi_wp2
                      refine ⟨HF.out.from _, ⟨HG.out.2.2, (HLb.out (w.heap.size + 3) (by omega) HI.out.2.1).trans HI.out.2.1.symm⟩, ⟨_, HG.out.1, ?_, trivial⟩, HLb.out _ (by omega) HI.out.1, HLb.out _ (by omega) HI.out.2.1, Nat.le_trans HI.out.2.2.1 HG.out.2.2.size, HI.out.2.2.2.trans HG.out.2.2⟩
                      rw [ksL_snoc, ints_snoc6, HZ.out, List.length_append]
                      exact HG.out.2.1
                    exact AllReadyIn.nil
                  exact AllReadyIn.nil
                exact AllReadyIn.nil
              exact AllReadyIn.nil
            exact AllReadyIn.nil
          exact AllReadyIn.nil
        exact AllReadyIn.nil
      refine AllReadyIn.cons rfl (fun K hK => ?_) ?_
      · go_simp
        refine hK _ _ ?_
        clear hK K
        refine wpAnyIn_ready (rs := [0, 3]) (by kernel_rfl) (by simp) ?_
        refine AllReadyIn.cons rfl (fun K hK => ?_) ?_
        · go_simp
          refine hK _ _ ?_
          clear hK K
          refine wpAnyIn_ready (rs := [3]) (by kernel_rfl) (by simp) ?_
          refine AllReadyIn.cons rfl (fun K hK => ?_) ?_
          · go_simp
            refine (callsIn_wide.2 (keyCell_any (m : Int) (by omega) _)).mono ?_
            rintro e wk ⟨rfl, rfl⟩
            refine hK _ _ ?_
            clear hK K
            refine wpAnyIn_ready (rs := [4]) (by kernel_rfl) (by simp) ?_
            refine AllReadyIn.cons rfl (fun K hK => ?_) ?_
            · go_simp
              refine hK _ _ ?_
              clear hK K
              refine wpAnyIn_ready (rs := [5]) (by kernel_rfl) (by simp) ?_
              refine AllReadyIn.cons rfl (fun K hK => ?_) ?_
              · go_simp
                refine hK _ _ ?_
                clear hK K
                refine wpAnyIn_ready (rs := [6]) (by kernel_rfl) (by simp) ?_
                refine AllReadyIn.cons rfl (fun K hK => ?_) ?_
                · go_simp
                  refine hK _ _ ?_
                  clear hK K
                  refine wpAnyIn_ready (rs := [7]) (by kernel_rfl) (by simp) ?_
                  refine AllReadyIn.cons rfl (fun K hK => ?_) ?_
                  · refine ite_wanted rfl ?_
                    refine wpIn_append_run (.tmp 9) (.tmp 15) 24 rfl _ _ hrun ?_
                    refine hK _ _ ?_
                    clear hK K
                    refine wpAnyIn_ready (rs := [8]) (by kernel_rfl) (by simp) ?_
                    refine AllReadyIn.cons rfl (fun K hK => ?_) ?_
                    · go_simp
                      refine hK _ _ ?_
                      clear hK K
                      refine wpAnyIn_done (by kernel_rfl) ?_ _
                      gi_wp2
                      refine ⟨HF.out.from _, ⟨HG.out.2.2, (HLb.out (w.heap.size + 3) (by omega) HI.out.2.1).trans HI.out.2.1.symm⟩, ⟨_, HG.out.1, ?_, trivial⟩, HLb.out _ (by omega) HI.out.1, HLb.out _ (by omega) HI.out.2.1, Nat.le_trans HI.out.2.2.1 HG.out.2.2.size, HI.out.2.2.2.trans HG.out.2.2⟩
                      rw [ksL_snoc, ints_snoc6, HZ.out, List.length_append]
                      exact HG.out.2.1
                    exact AllReadyIn.nil
                  exact AllReadyIn.nil
                exact AllReadyIn.nil
              exact AllReadyIn.nil
            exact AllReadyIn.nil
          exact AllReadyIn.nil
        refine AllReadyIn.cons rfl (fun K hK => ?_) ?_
        · go_simp
          refine (callsIn_wide.2 (keyCell_any (m : Int) (by omega) _)).mono ?_
          rintro e wk ⟨rfl, rfl⟩
          refine hK _ _ ?_
          clear hK K
          refine wpAnyIn_ready (rs := [0, 4]) (by kernel_rfl) (by simp) ?_
          refine AllReadyIn.cons rfl (fun K hK => ?_) ?_
          · go_simp
            refine hK _ _ ?_
            clear hK K
            refine wpAnyIn_ready (rs := [4]) (by kernel_rfl) (by simp) ?_
            refine AllReadyIn.cons rfl (fun K hK => ?_) ?_
            · go_simp
              refine hK _ _ ?_
              clear hK K
              refine wpAnyIn_ready (rs := [5]) (by kernel_rfl) (by simp) ?_
              refine AllReadyIn.cons rfl (fun K hK => ?_) ?_
              · go_simp
                refine hK _ _ ?_
                clear hK K
                refine wpAnyIn_ready (rs := [6]) (by kernel_rfl) (by simp) ?_
                refine AllReadyIn.cons rfl (fun K hK => ?_) ?_
                · go_simp
                  refine hK _ _ ?_
                  clear hK K
                  refine wpAnyIn_ready (rs := [7]) (by kernel_rfl) (by simp) ?_
                  refine AllReadyIn.cons rfl (fun K hK => ?_) ?_
                  · refine ite_wanted rfl ?_
                    refine wpIn_append_run (.tmp 9) (.tmp 15) 24 rfl _ _ hrun ?_
                    refine hK _ _ ?_
                    clear hK K
                    refine wpAnyIn_ready (rs := [8]) (by kernel_rfl) (by simp) ?_
                    refine AllReadyIn.cons rfl (fun K hK => ?_) ?_
                    · go_simp
                      refine hK _ _ ?_
                      clear hK K
                      refine wpAnyIn_done (by kernel_rfl) ?_ _
                      gi_wp2
                      refine ⟨HF.out.from _, ⟨HG.out.2.2, (HLb.out (w.heap.size + 3) (by omega) HI.out.2.1).trans HI.out.2.1.symm⟩, ⟨_, HG.out.1, ?_, trivial⟩, HLb.out _ (by omega) HI.out.1, HLb.out _ (by omega) HI.out.2.1, Nat.le_trans HI.out.2.2.1 HG.out.2.2.size, HI.out.2.2.2.trans HG.out.2.2⟩
                      rw [ksL_snoc, ints_snoc6, HZ.out, List.length_append]
                      exact HG.out.2.1
                    exact AllReadyIn.nil
                  exact AllReadyIn.nil
                exact AllReadyIn.nil
              exact AllReadyIn.nil
            exact AllReadyIn.nil
          refine AllReadyIn.cons rfl (fun K hK => ?_) ?_
          · go_simp
            refine hK _ _ ?_
            clear hK K
            refine wpAnyIn_ready (rs := [0, 5]) (by kernel_rfl) (by simp) ?_
            refine AllReadyIn.cons rfl (fun K hK => ?_) ?_
            · go_simp
              refine hK _ _ ?_
              clear hK K
              refine wpAnyIn_ready (rs := [5]) (by kernel_rfl) (by simp) ?_
              refine AllReadyIn.cons rfl (fun K hK => ?_) ?_
              · go_simp
                refine hK _ _ ?_
                clear hK K
                refine wpAnyIn_ready (rs := [6]) (by kernel_rfl) (by simp) ?_
                refine AllReadyIn.cons rfl (fun K hK => ?_) ?_
                · go_simp
                  refine hK _ _ ?_
                  clear hK K
                  refine wpAnyIn_ready (rs := [7]) (by kernel_rfl) (by simp) ?_
                  refine AllReadyIn.cons rfl (fun K hK => ?_) ?_
                  · refine ite_wanted rfl ?_
                    refine wpIn_append_run (.tmp 9) (.tmp 15) 24 rfl _ _ hrun ?_
                    refine hK _ _ ?_
                    clear hK K
                    refine wpAnyIn_ready (rs := [8]) (by kernel_rfl) (by simp) ?_
                    refine AllReadyIn.cons rfl (fun K hK => ?_) ?_
                    · go_simp
                      refine hK _ _ ?_
                      clear hK K
                      refine wpAnyIn_done (by kernel_rfl) ?_ _
                      gi_wp2
                      refine ⟨HF.out.from _, ⟨HG.out.2.2, (HLb.out (w.heap.size + 3) (by omega) HI.out.2.1).trans HI.out.2.1.symm⟩, ⟨_, HG.out.1, ?_, trivial⟩, HLb.out _ (by omega) HI.out.1, HLb.out _ (by omega) HI.out.2.1, Nat.le_trans HI.out.2.2.1 HG.out.2.2.size, HI.out.2.2.2.trans HG.out.2.2⟩
                      rw [ksL_snoc, ints_snoc6, HZ.out, List.length_append]
                      exact HG.out.2.1
                    exact AllReadyIn.nil
                  exact AllReadyIn.nil
                exact AllReadyIn.nil
              exact AllReadyIn.nil
            refine AllReadyIn.cons rfl (fun K hK => ?_) ?_
            · go_simp
              refine hK _ _ ?_
              clear hK K
              refine wpAnyIn_ready (rs := [0, 6]) (by kernel_rfl) (by simp) ?_
              refine AllReadyIn.cons rfl (fun K hK => ?_) ?_
              · go_simp
                refine hK _ _ ?_
                clear hK K
                refine wpAnyIn_ready (rs := [6]) (by kernel_rfl) (by simp) ?_
                refine AllReadyIn.cons rfl (fun K hK => ?_) ?_
                · go_simp
                  refine hK _ _ ?_
                  clear hK K
                  refine wpAnyIn_ready (rs := [7]) (by kernel_rfl) (by simp) ?_
                  refine AllReadyIn.cons rfl (fun K hK => ?_) ?_
                  · refine ite_wanted rfl ?_
                    refine wpIn_append_run (.tmp 9) (.tmp 15) 24 rfl _ _ hrun ?_
                    refine hK _ _ ?_
                    clear hK K
                    refine wpAnyIn_ready (rs := [8]) (by kernel_rfl) (by simp) ?_
                    refine AllReadyIn.cons rfl (fun K hK => ?_) ?_
                    · go_simp
                      refine hK _ _ ?_
                      clear hK K
                      refine wpAnyIn_done (by kernel_rfl) ?_ _
                      gi_wp2
                      refine ⟨HF.out.from _, ⟨HG.out.2.2, (HLb.out (w.heap.size + 3) (by omega) HI.out.2.1).trans HI.out.2.1.symm⟩, ⟨_, HG.out.1, ?_, trivial⟩, HLb.out _ (by omega) HI.out.1, HLb.out _ (by omega) HI.out.2.1, Nat.le_trans HI.out.2.2.1 HG.out.2.2.size, HI.out.2.2.2.trans HG.out.2.2⟩
                      rw [ksL_snoc, ints_snoc6, HZ.out, List.length_append]
                      exact HG.out.2.1
                    exact AllReadyIn.nil
                  exact AllReadyIn.nil
                exact AllReadyIn.nil
              refine AllReadyIn.cons rfl (fun K hK => ?_) ?_
              · go_simp
                refine hK _ _ ?_
                clear hK K
                refine wpAnyIn_ready (rs := [0]) (by kernel_rfl) (by simp) ?_
                refine AllReadyIn.cons rfl (fun K hK => ?_) ?_
                · go_simp
                  refine hK _ _ ?_
                  clear hK K
                  refine wpAnyIn_ready (rs := [7]) (by kernel_rfl) (by simp) ?_
                  refine AllReadyIn.cons rfl (fun K hK => ?_) ?_
                  · refine ite_wanted rfl ?_
                    refine wpIn_append_run (.tmp 9) (.tmp 15) 24 rfl _ _ hrun ?_
                    refine hK _ _ ?_
                    clear hK K
                    refine wpAnyIn_ready (rs := [8]) (by kernel_rfl) (by simp) ?_
                    refine AllReadyIn.cons rfl (fun K hK => ?_) ?_
                    · go_simp
                      refine hK _ _ ?_
                      clear hK K
                      refine wpAnyIn_done (by kernel_rfl) ?_ _
                      gi_wp2
                      refine ⟨HF.out.from _, ⟨HG.out.2.2, (HLb.out (w.heap.size + 3) (by omega) HI.out.2.1).trans HI.out.2.1.symm⟩, ⟨_, HG.out.1, ?_, trivial⟩, HLb.out _ (by omega) HI.out.1, HLb.out _ (by omega) HI.out.2.1, Nat.le_trans HI.out.2.2.1 HG.out.2.2.size, HI.out.2.2.2.trans HG.out.2.2⟩
                      rw [ksL_snoc, ints_snoc6, HZ.out, List.length_append]
                      exact HG.out.2.1
                    exact AllReadyIn.nil
                  exact AllReadyIn.nil
                exact AllReadyIn.nil
              exact AllReadyIn.nil
            exact AllReadyIn.nil
          exact AllReadyIn.nil
        exact AllReadyIn.nil
      exact AllReadyIn.nil
    refine AllReadyIn.cons rfl (fun K hK => ?_) ?_
    · go_simp
      refine hK _ _ ?_
      clear hK K
      refine wpAnyIn_ready (rs := [0, 1, 3]) (by kernel_rfl) (by simp) ?_
      refine AllReadyIn.cons rfl (fun K hK => ?_) ?_
      · go_simp
        refine hK _ _ ?_
        clear hK K
        refine wpAnyIn_ready (rs := [1, 3]) (by kernel_rfl) (by simp) ?_
        refine AllReadyIn.cons rfl (fun K hK => ?_) ?_
        · go_simp
          refine hK _ _ ?_
          clear hK K
          refine wpAnyIn_ready (rs := [3]) (by kernel_rfl) (by simp) ?_
          refine AllReadyIn.cons rfl (fun K hK => ?_) ?_
          · go_simp
            refine (callsIn_wide.2 (keyCell_any (m : Int) (by omega) _)).mono ?_
            rintro e wk ⟨rfl, rfl⟩
            refine hK _ _ ?_
            clear hK K
            refine wpAnyIn_ready (rs := [4]) (by kernel_rfl) (by simp) ?_
            refine AllReadyIn.cons rfl (fun K hK => ?_) ?_
            · go_simp
              refine hK _ _ ?_
              clear hK K
              refine wpAnyIn_ready (rs := [5]) (by kernel_rfl) (by simp) ?_
              refine AllReadyIn.cons rfl (fun K hK => ?_) ?_
              · go_simp
                refine hK _ _ ?_
                clear hK K
                refine wpAnyIn_ready (rs := [6]) (by kernel_rfl) (by simp) ?_
                refine AllReadyIn.cons rfl (fun K hK => ?_) ?_
                · go_simp
                  refine hK _ _ ?_
                  clear hK K
                  refine wpAnyIn_ready (rs := [7]) (by kernel_rfl) (by simp) ?_
                  refine AllReadyIn.cons rfl (fun K hK => ?_) ?_
                  · refine ite_wanted rfl ?_
                    refine wpIn_append_run (.tmp 9) (.tmp 15) 24 rfl _ _ hrun ?_
                    refine hK _ _ ?_
                    clear hK K
                    refine wpAnyIn_ready (rs := [8]) (by kernel_rfl) (by simp) ?_
                    refine AllReadyIn.cons rfl (fun K hK => ?_) ?_
                    · go_simp
                      refine hK _ _ ?_
                      clear hK K
                      refine wpAnyIn_done (by kernel_rfl) ?_ _
                      gi_wp2
                      refine ⟨HF.out.from _, ⟨HG.out.2.2, (HLb.out (w.heap.size + 3) (by omega) HI.out.2.1).trans HI.out.2.1.symm⟩, ⟨_, HG.out.1, ?_, trivial⟩, HLb.out _ (by omega) HI.out.1, HLb.out _ (by omega) HI.out.2.1, Nat.le_trans HI.out.2.2.1 HG.out.2.2.size, HI.out.2.2.2.trans HG.out.2.2⟩
                      rw [ksL_snoc, ints_snoc6, HZ.out, List.length_append]
                      exact HG.out.2.1
                    exact AllReadyIn.nil
                  exact AllReadyIn.nil
                exact AllReadyIn.nil
              exact AllReadyIn.nil
            exact AllReadyIn.nil
          exact AllReadyIn.nil
        refine AllReadyIn.cons rfl (fun K hK => ?_) ?_
        · go_simp
          refine (callsIn_wide.2 (keyCell_any (m : Int) (by omega) _)).mono ?_
          rintro e wk ⟨rfl, rfl⟩
          refine hK _ _ ?_
          clear hK K
          refine wpAnyIn_ready (rs := [1]) (by kernel_rfl) (by simp) ?_
          refine AllReadyIn.cons rfl (fun K hK => ?_) ?_
          · go_simp
            refine hK _ _ ?_
            clear hK K
            refine wpAnyIn_ready (rs := [4]) (by kernel_rfl) (by simp) ?_
            refine AllReadyIn.cons rfl (fun K hK => ?_) ?_
            · go_simp
              refine hK _ _ ?_
              clear hK K
              refine wpAnyIn_ready (rs := [5]) (by kernel_rfl) (by simp) ?_
              refine AllReadyIn.cons rfl (fun K hK => ?_) ?_
              · go_simp
                refine hK _ _ ?_
                clear hK K
                refine wpAnyIn_ready (rs := [6]) (by kernel_rfl) (by simp) ?_
                refine AllReadyIn.cons rfl (fun K hK => ?_) ?_
                · go_simp
                  refine hK _ _ ?_
                  clear hK K
                  refine wpAnyIn_ready (rs := [7]) (by kernel_rfl) (by simp) ?_
                  refine AllReadyIn.cons rfl (fun K hK => ?_) ?_
                  · refine ite_wanted rfl ?_
                    refine wpIn_append_run (.tmp 9) (.tmp 15) 24 rfl _ _ hrun ?_
                    refine hK _ _ ?_
                    clear hK K
                    refine wpAnyIn_ready (rs := [8]) (by kernel_rfl) (by simp) ?_
                    refine AllReadyIn.cons rfl (fun K hK => ?_) ?_
                    · go_simp
                      refine hK _ _ ?_
                      clear hK K
                      refine wpAnyIn_done (by kernel_rfl) ?_ _
                      gi_wp2
                      refine ⟨HF.out.from _, ⟨HG.out.2.2, (HLb.out (w.heap.size + 3) (by omega) HI.out.2.1).trans HI.out.2.1.symm⟩, ⟨_, HG.out.1, ?_, trivial⟩, HLb.out _ (by omega) HI.out.1, HLb.out _ (by omega) HI.out.2.1, Nat.le_trans HI.out.2.2.1 HG.out.2.2.size, HI.out.2.2.2.trans HG.out.2.2⟩
                      rw [ksL_snoc, ints_snoc6, HZ.out, List.length_append]
                      exact HG.out.2.1
                    exact AllReadyIn.nil
                  exact AllReadyIn.nil
                exact AllReadyIn.nil
              exact AllReadyIn.nil
            exact AllReadyIn.nil
          exact AllReadyIn.nil
        exact AllReadyIn.nil
      refine AllReadyIn.cons rfl (fun K hK => ?_) ?_
      · go_simp
        refine hK _ _ ?_
        clear hK K
        refine wpAnyIn_ready (rs := [0, 3]) (by kernel_rfl) (by simp) ?_
        refine AllReadyIn.cons rfl (fun K hK => ?_) ?_
        · go_simp
          refine hK _ _ ?_
          clear hK K
          refine wpAnyIn_ready (rs := [3]) (by kernel_rfl) (by simp) ?_
          refine AllReadyIn.cons rfl (fun K hK => ?_) ?_
          · go_simp
            refine (callsIn_wide.2 (keyCell_any (m : Int) (by omega) _)).mono ?_
            rintro e wk ⟨rfl, rfl⟩
            refine hK _ _ ?_
            clear hK K
            refine wpAnyIn_ready (rs := [4]) (by kernel_rfl) (by simp) ?_
            refine AllReadyIn.cons rfl (fun K hK => ?_) ?_
            · go_simp
              refine hK _ _ ?_
              clear hK K
              refine wpAnyIn_ready (rs := [5]) (by kernel_rfl) (by simp) ?_
              refine AllReadyIn.cons rfl (fun K hK => ?_) ?_
              · go_simp
                refine hK _ _ ?_
                clear hK K
                refine wpAnyIn_ready (rs := [6]) (by kernel_rfl) (by simp) ?_
                refine AllReadyIn.cons rfl (fun K hK => ?_) ?_
                · go_simp
                  refine hK _ _ ?_
                  clear hK K
                  refine wpAnyIn_ready (rs := [7]) (by kernel_rfl) (by simp) ?_
                  refine AllReadyIn.cons rfl (fun K hK => ?_) ?_
                  · refine ite_wanted rfl ?_
                    refine wpIn_append_run (.tmp 9) (.tmp 15) 24 rfl _ _ hrun ?_
                    refine hK _ _ ?_
                    clear hK K
                    refine wpAnyIn_ready (rs := [8]) (by kernel_rfl) (by simp) ?_
                    refine AllReadyIn.cons rfl (fun K hK => ?_) ?_
                    · go_simp
                      refine hK _ _ ?_
                      clear hK K
                      refine wpAnyIn_done (by kernel_rfl) ?_ _
                      gi_wp2
                      refine ⟨HF.out.from _, ⟨HG.out.2.2, (HLb.out (w.heap.size + 3) (by omega) HI.out.2.1).trans HI.out.2.1.symm⟩, ⟨_, HG.out.1, ?_, trivial⟩, HLb.out _ (by omega) HI.out.1, HLb.out _ (by omega) HI.out.2.1, Nat.le_trans HI.out.2.2.1 HG.out.2.2.size, HI.out.2.2.2.trans HG.out.2.2⟩
                      rw [ksL_snoc, ints_snoc6, HZ.out, List.length_append]
                      exact HG.out.2.1
                    exact AllReadyIn.nil
                  exact AllReadyIn.nil
                exact AllReadyIn.nil
              exact AllReadyIn.nil
            exact AllReadyIn.nil
          exact AllReadyIn.nil
        refine AllReadyIn.cons rfl (fun K hK => ?_) ?_
        · go_simp
          refine (callsIn_wide.2 (keyCell_any (m : Int) (by omega) _)).mono ?_
          rintro e wk ⟨rfl, rfl⟩
          refine hK _ _ ?_
          clear hK K
          refine wpAnyIn_ready (rs := [0, 4]) (by kernel_rfl) (by simp) ?_
          refine AllReadyIn.cons rfl (fun K hK => ?_) ?_
          · go_simp
            refine hK _ _ ?_
            clear hK K
            refine wpAnyIn_ready (rs := [4]) (by kernel_rfl) (by simp) ?_
            refine AllReadyIn.cons rfl (fun K hK => ?_) ?_
            · go_simp
              refine hK _ _ ?_
              clear hK K
              refine wpAnyIn_ready (rs := [5]) (by kernel_rfl) (by simp) ?_
              refine AllReadyIn.cons rfl (fun K hK => ?_) ?_
              · go_simp
                refine hK _ _ ?_
                clear hK K
                refine wpAnyIn_ready (rs := [6]) (by kernel_rfl) (by simp) ?_
                refine AllReadyIn.cons rfl (fun K hK => ?_) ?_
                · go_simp
                  refine hK _ _ ?_
                  clear hK K
                  refine wpAnyIn_ready (rs := [7]) (by kernel_rfl) (by simp) ?_
                  refine AllReadyIn.cons rfl (fun K hK => ?_) ?_
                  · refine ite_wanted rfl ?_
                    refine wpIn_append_run (.tmp 9) (.tmp 15) 24 rfl _ _ hrun ?_
                    refine hK _ _ ?_
                    clear hK K
                    refine wpAnyIn_ready (rs := [8]) (by kernel_rfl) (by simp) ?_
                    refine AllReadyIn.cons rfl (fun K hK => ?_) ?_
                    · go_simp
                      refine hK _ _ ?_
                      clear hK K
                      refine wpAnyIn_done (by kernel_rfl) ?_ _
                      gi_wp2
                      refine ⟨HF.out.from _, ⟨HG.out.2.2, (HLb.out (w.heap.size + 3) (by omega) HI.out.2.1).trans HI.out.2.1.symm⟩, ⟨_, HG.out.1, ?_, trivial⟩, HLb.out _ (by omega) HI.out.1, HLb.out _ (by omega) HI.out.2.1, Nat.le_trans HI.out.2.2.1 HG.out.2.2.size, HI.out.2.2.2.trans HG.out.2.2⟩
                      rw [ksL_snoc, ints_snoc6, HZ.out, List.length_append]
                      exact HG.out.2.1
                    exact AllReadyIn.nil
                  exact AllReadyIn.nil
                exact AllReadyIn.nil
              exact AllReadyIn.nil
            exact AllReadyIn.nil
          refine AllReadyIn.cons rfl (fun K hK => ?_) ?_
          · go_simp
            refine hK _ _ ?_
            clear hK K
            refine wpAnyIn_ready (rs := [0, 5]) (by kernel_rfl) (by simp) ?_
            refine AllReadyIn.cons rfl (fun K hK => ?_) ?_
            · go_simp
              refine hK _ _ ?_
              clear hK K
              refine wpAnyIn_ready (rs := [5]) (by kernel_rfl) (by simp) ?_
              refine AllReadyIn.cons rfl (fun K hK => ?_) ?_
              · go_simp
                refine hK _ _ ?_
                clear hK K
                refine wpAnyIn_ready (rs := [6]) (by kernel_rfl) (by simp) ?_
                refine AllReadyIn.cons rfl (fun K hK => ?_) ?_
                · go_simp
                  refine hK _ _ ?_
                  clear hK K
                  refine wpAnyIn_ready (rs := [7]) (by kernel_rfl) (by simp) ?_
                  refine AllReadyIn.cons rfl (fun K hK => ?_) ?_
                  · refine ite_wanted rfl ?_
                    refine wpIn_append_run (.tmp 9) (.tmp 15) 24 rfl _ _ hrun ?_
                    refine hK _ _ ?_
                    clear hK K
                    refine wpAnyIn_ready (rs := [8]) (by kernel_rfl) (by simp) ?_
                    refine AllReadyIn.cons rfl (fun K hK => ?_) ?_
                    · go_simp
                      refine hK _ _ ?_
                      clear hK K
                      refine wpAnyIn_done (by kernel_rfl) ?_ _
                      gi_wp2
                      refine ⟨HF.out.from _, ⟨HG.out.2.2, (HLb.out (w.heap.size + 3) (by omega) HI.out.2.1).trans HI.out.2.1.symm⟩, ⟨_, HG.out.1, ?_, trivial⟩, HLb.out _ (by omega) HI.out.1, HLb.out _ (by omega) HI.out.2.1, Nat.le_trans HI.out.2.2.1 HG.out.2.2.size, HI.out.2.2.2.trans HG.out.2.2⟩
                      rw [ksL_snoc, ints_snoc6, HZ.out, List.length_append]
                      exact HG.out.2.1
                    exact AllReadyIn.nil
                  exact AllReadyIn.nil
                exact AllReadyIn.nil
              exact AllReadyIn.nil
            refine AllReadyIn.cons rfl (fun K hK => ?_) ?_
            · go_simp
              refine hK _ _ ?_
              clear hK K
              refine wpAnyIn_ready (rs := [0, 6]) (by kernel_rfl) (by simp) ?_
              refine AllReadyIn.cons rfl (fun K hK => ?_) ?_
              · go_simp
                refine hK _ _ ?_
                clear hK K
                refine wpAnyIn_ready (rs := [6]) (by kernel_rfl) (by simp) ?_
                refine AllReadyIn.cons rfl (fun K hK => ?_) ?_
                · go_simp
                  refine hK _ _ ?_
                  clear hK K
                  refine wpAnyIn_ready (rs := [7]) (by kernel_rfl) (by simp) ?_
                  refine AllReadyIn.cons rfl (fun K hK => ?_) ?_
                  · refine ite_wanted rfl ?_
                    refine wpIn_append_run (.tmp 9) (.tmp 15) 24 rfl _ _ hrun ?_
                    refine hK _ _ ?_
                    clear hK K
                    refine wpAnyIn_ready (rs := [8]) (by kernel_rfl) (by simp) ?_
                    refine AllReadyIn.cons rfl (fun K hK => ?_) ?_
                    · go_simp
                      refine hK _ _ ?_
                      clear hK K
                      refine wpAnyIn_done (by kernel_rfl) ?_ _
                      gi_wp2
                      refine ⟨HF.out.from _, ⟨HG.out.2.2, (HLb.out (w.heap.size + 3) (by omega) HI.out.2.1).trans HI.out.2.1.symm⟩, ⟨_, HG.out.1, ?_, trivial⟩, HLb.out _ (by omega) HI.out.1, HLb.out _ (by omega) HI.out.2.1, Nat.le_trans HI.out.2.2.1 HG.out.2.2.size, HI.out.2.2.2.trans HG.out.2.2⟩
                      rw [ksL_snoc, ints_snoc6, HZ.out, List.length_append]
                      exact HG.out.2.1
                    exact AllReadyIn.nil
                  exact AllReadyIn.nil
                exact AllReadyIn.nil
              refine AllReadyIn.cons rfl (fun K hK => ?_) ?_
              · go_simp
                refine hK _ _ ?_
                clear hK K
                refine wpAnyIn_ready (rs := [0]) (by kernel_rfl) (by simp) ?_
                refine AllReadyIn.cons rfl (fun K hK => ?_) ?_
                · go_simp
                  refine hK _ _ ?_
                  clear hK K
                  refine wpAnyIn_ready (rs := [7]) (by kernel_rfl) (by simp) ?_
                  refine AllReadyIn.cons rfl (fun K hK => ?_) ?_
                  · refine ite_wanted rfl ?_
                    refine wpIn_append_run (.tmp 9) (.tmp 15) 24 rfl _ _ hrun ?_
                    refine hK _ _ ?_
                    clear hK K
                    refine wpAnyIn_ready (rs := [8]) (by kernel_rfl) (by simp) ?_
                    refine AllReadyIn.cons rfl (fun K hK => ?_) ?_
                    · go_simp
                      refine hK _ _ ?_
                      clear hK K
                      refine wpAnyIn_done (by kernel_rfl) ?_ _
                      gi_wp2
                      refine ⟨HF.out.from _, ⟨HG.out.2.2, (HLb.out (w.heap.size + 3) (by omega) HI.out.2.1).trans HI.out.2.1.symm⟩, ⟨_, HG.out.1, ?_, trivial⟩, HLb.out _ (by omega) HI.out.1, HLb.out _ (by omega) HI.out.2.1, Nat.le_trans HI.out.2.2.1 HG.out.2.2.size, HI.out.2.2.2.trans HG.out.2.2⟩
                      rw [ksL_snoc, ints_snoc6, HZ.out, List.length_append]
                      exact HG.out.2.1
                    exact AllReadyIn.nil
                  exact AllReadyIn.nil
                exact AllReadyIn.nil
              exact AllReadyIn.nil
            exact AllReadyIn.nil
          exact AllReadyIn.nil
        exact AllReadyIn.nil
      refine AllReadyIn.cons rfl (fun K hK => ?_) ?_
      · go_simp
        refine (callsIn_wide.2 (keyCell_any (m : Int) (by omega) _)).mono ?_
        rintro e wk ⟨rfl, rfl⟩
        refine hK _ _ ?_
        clear hK K
        refine wpAnyIn_ready (rs := [0, 1]) (by kernel_rfl) (by simp) ?_
        refine AllReadyIn.cons rfl (fun K hK => ?_) ?_
        · go_simp
          refine hK _ _ ?_
          clear hK K
          refine wpAnyIn_ready (rs := [1]) (by kernel_rfl) (by simp) ?_
          refine AllReadyIn.cons rfl (fun K hK => ?_) ?_
          · go_simp
            refine hK _ _ ?_
            clear hK K
            refine wpAnyIn_ready (rs := [4]) (by kernel_rfl) (by simp) ?_
            refine AllReadyIn.cons rfl (fun K hK => ?_) ?_
            · go_simp
              refine hK _ _ ?_
              clear hK K
              refine wpAnyIn_ready (rs := [5]) (by kernel_rfl) (by simp) ?_
              refine AllReadyIn.cons rfl (fun K hK => ?_) ?_
              · go_simp
                refine hK _ _ ?_
                clear hK K
                refine wpAnyIn_ready (rs := [6]) (by kernel_rfl) (by simp) ?_
                refine AllReadyIn.cons rfl (fun K hK => ?_) ?_
                · go_simp
                  refine hK _ _ ?_
                  clear hK K
                  refine wpAnyIn_ready (rs := [7]) (by kernel_rfl) (by simp) ?_
                  refine AllReadyIn.cons rfl (fun K hK => ?_) ?_
                  · refine ite_wanted rfl ?_
                    refine wpIn_append_run (.tmp 9) (.tmp 15) 24 rfl _ _ hrun ?_
                    refine hK _ _ ?_
                    clear hK K
                    refine wpAnyIn_ready (rs := [8]) (by kernel_rfl) (by simp) ?_
                    refine AllReadyIn.cons rfl (fun K hK => ?_) ?_
                    · go_simp
                      refine hK _ _ ?_
                      clear hK K
                      refine wpAnyIn_done (by kernel_rfl) ?_ _
                      gi_wp2
                      refine ⟨HF.out.from _, ⟨HG.out.2.2, (HLb.out (w.heap.size + 3) (by omega) HI.out.2.1).trans HI.out.2.1.symm⟩, ⟨_, HG.out.1, ?_, trivial⟩, HLb.out _ (by omega) HI.out.1, HLb.out _ (by omega) HI.out.2.1, Nat.le_trans HI.out.2.2.1 HG.out.2.2.size, HI.out.2.2.2.trans HG.out.2.2⟩
                      rw [ksL_snoc, ints_snoc6, HZ.out, List.length_append]
                      exact HG.out.2.1
                    exact AllReadyIn.nil
                  exact AllReadyIn.nil
                exact AllReadyIn.nil
              exact AllReadyIn.nil
            exact AllReadyIn.nil
          exact AllReadyIn.nil
        refine AllReadyIn.cons rfl (fun K hK => ?_) ?_
        · go_simp
          refine hK _ _ ?_
          clear hK K
          refine wpAnyIn_ready (rs := [0, 4]) (by kernel_rfl) (by simp) ?_
          refine AllReadyIn.cons rfl (fun K hK => ?_) ?_
          · go_simp
            refine hK _ _ ?_
            clear hK K
            refine wpAnyIn_ready (rs := [4]) (by kernel_rfl) (by simp) ?_
            refine AllReadyIn.cons rfl (fun K hK => ?_) ?_
            · go_simp
              refine hK _ _ ?_
              clear hK K
              refine wpAnyIn_ready (rs := [5]) (by kernel_rfl) (by simp) ?_
              refine AllReadyIn.cons rfl (fun K hK => ?_) ?_
              · go_simp
                refine hK _ _ ?_
                clear hK K
                refine wpAnyIn_ready (rs := [6]) (by kernel_rfl) (by simp) ?_
                refine AllReadyIn.cons rfl (fun K hK => ?_) ?_
                · go_simp
                  refine hK _ _ ?_
                  clear hK K
                  refine wpAnyIn_ready (rs := [7]) (by kernel_rfl) (by simp) ?_
                  refine AllReadyIn.cons rfl (fun K hK => ?_) ?_
                  · refine ite_wanted rfl ?_
                    refine wpIn_append_run (.tmp 9) (.tmp 15) 24 rfl _ _ hrun ?_
                    refine hK _ _ ?_
                    clear hK K
                    refine wpAnyIn_ready (rs := [8]) (by kernel_rfl) (by simp) ?_
                    refine AllReadyIn.cons rfl (fun K hK => ?_) ?_
                    · go_simp
                      refine hK _ _ ?_
                      clear hK K
                      refine wpAnyIn_done (by kernel_rfl) ?_ _
                      gi_wp2
                      refine ⟨HF.out.from _, ⟨HG.out.2.2, (HLb.out (w.heap.size + 3) (by omega) HI.out.2.1).trans HI.out.2.1.symm⟩, ⟨_, HG.out.1, ?_, trivial⟩, HLb.out _ (by omega) HI.out.1, HLb.out _ (by omega) HI.out.2.1, Nat.le_trans HI.out.2.2.1 HG.out.2.2.size, HI.out.2.2.2.trans HG.out.2.2⟩
                      rw [ksL_snoc, ints_snoc6, HZ.out, List.length_append]
                      exact HG.out.2.1
                    exact AllReadyIn.nil
                  exact AllReadyIn.nil
                exact AllReadyIn.nil
              exact AllReadyIn.nil
            exact AllReadyIn.nil
          refine AllReadyIn.cons rfl (fun K hK => ?_) ?_
          · go_simp
            refine hK _ _ ?_
            clear hK K
            refine wpAnyIn_ready (rs := [0, 5]) (by kernel_rfl) (by simp) ?_
            refine AllReadyIn.cons rfl (fun K hK => ?_) ?_
            · go_simp
              refine hK _ _ ?_
              clear hK K
              refine wpAnyIn_ready (rs := [5]) (by kernel_rfl) (by simp) ?_
              refine AllReadyIn.cons rfl (fun K hK => ?_) ?_
              · go_simp
                refine hK _ _ ?_
                clear hK K
                refine wpAnyIn_ready (rs := [6]) (by kernel_rfl) (by simp) ?_
                refine AllReadyIn.cons rfl (fun K hK => ?_) ?_
                · go_simp
                  refine hK _ _ ?_
                  clear hK K
                  refine wpAnyIn_ready (rs := [7]) (by kernel_rfl) (by simp) ?_
                  refine AllReadyIn.cons rfl (fun K hK => ?_) ?_
                  · refine ite_wanted rfl ?_
                    refine wpIn_append_run (.tmp 9) (.tmp 15) 24 rfl _ _ hrun ?_
                    refine hK _ _ ?_
                    clear hK K
                    refine wpAnyIn_ready (rs := [8]) (by kernel_rfl) (by simp) ?_
                    refine AllReadyIn.cons rfl (fun K hK => ?_) ?_
                    · go_simp
                      refine hK _ _ ?_
                      clear hK K
                      refine wpAnyIn_done (by kernel_rfl) ?_ _
                      gi_wp2
                      refine ⟨HF.out.from _, ⟨HG.out.2.2, (HLb.out (w.heap.size + 3) (by omega) HI.out.2.1).trans HI.out.2.1.symm⟩, ⟨_, HG.out.1, ?_, trivial⟩, HLb.out _ (by omega) HI.out.1, HLb.out _ (by omega) HI.out.2.1, Nat.le_trans HI.out.2.2.1 HG.out.2.2.size, HI.out.2.2.2.trans HG.out.2.2⟩
                      rw [ksL_snoc, ints_snoc6, HZ.out, List.length_append]
                      exact HG.out.2.1
                    exact AllReadyIn.nil
                  exact AllReadyIn.nil
                exact AllReadyIn.nil
              exact AllReadyIn.nil
            refine AllReadyIn.cons rfl (fun K hK => ?_) ?_
            · go_simp
              refine hK _ _ ?_
              clear hK K
              refine wpAnyIn_ready (rs := [0, 6]) (by kernel_rfl) (by simp) ?_
              refine AllReadyIn.cons rfl (fun K hK => ?_) ?_
              · go_simp
                refine hK _ _ ?_
                clear hK K
                refine wpAnyIn_ready (rs := [6]) (by kernel_rfl) (by simp) ?_
                refine AllReadyIn.cons rfl (fun K hK => ?_) ?_
                · go_simp
                  refine hK _ _ ?_
                  clear hK K
                  refine wpAnyIn_ready (rs := [7]) (by kernel_rfl) (by simp) ?_
                  refine AllReadyIn.cons rfl (fun K hK => ?_) ?_
                  · refine ite_wanted rfl ?_
                    refine wpIn_append_run (.tmp 9) (.tmp 15) 24 rfl _ _ hrun ?_
                    refine hK _ _ ?_
                    clear hK K
                    refine wpAnyIn_ready (rs := [8]) (by kernel_rfl) (by simp) ?_
                    refine AllReadyIn.cons rfl (fun K hK => ?_) ?_
                    · go_simp
                      refine hK _ _ ?_
                      clear hK K
                      refine wpAnyIn_done (by kernel_rfl) ?_ _
                      gi_wp2
                      refine ⟨HF.out.from _, ⟨HG.out.2.2, (HLb.out (w.heap.size + 3) (by omega) HI.out.2.1).trans HI.out.2.1.symm⟩, ⟨_, HG.out.1, ?_, trivial⟩, HLb.out _ (by omega) HI.out.1, HLb.out _ (by omega) HI.out.2.1, Nat.le_trans HI.out.2.2.1 HG.out.2.2.size, HI.out.2.2.2.trans HG.out.2.2⟩
                      rw [ksL_snoc, ints_snoc6, HZ.out, List.length_append]
                      exact HG.out.2.1
                    exact AllReadyIn.nil
                  exact AllReadyIn.nil
                exact AllReadyIn.nil
              refine AllReadyIn.cons rfl (fun K hK => ?_) ?_
              · go_simp
                refine hK _ _ ?_
                clear hK K
                refine wpAnyIn_ready (rs := [0]) (by kernel_rfl) (by simp) ?_
                refine AllReadyIn.cons rfl (fun K hK => ?_) ?_
                · go_simp
                  refine hK _ _ ?_
                  clear hK K
                  refine wpAnyIn_ready (rs := [7]) (by kernel_rfl) (by simp) ?_
                  refine AllReadyIn.cons rfl (fun K hK => ?_) ?_
                  · refine ite_wanted rfl ?_
                    refine wpIn_append_run (.tmp 9) (.tmp 15) 24 rfl _ _ hrun ?_
                    refine hK _ _ ?_
                    clear hK K
                    refine wpAnyIn_ready (rs := [8]) (by kernel_rfl) (by simp) ?_
                    refine AllReadyIn.cons rfl (fun K hK => ?_) ?_
                    · go_simp
                      refine hK _ _ ?_
                      clear hK K
                      refine wpAnyIn_done (by kernel_rfl) ?_ _
                      gi_wp2
                      refine ⟨HF.out.from _, ⟨HG.out.2.2, (HLb.out (w.heap.size + 3) (by omega) HI.out.2.1).trans HI.out.2.1.symm⟩, ⟨_, HG.out.1, ?_, trivial⟩, HLb.out _ (by omega) HI.out.1, HLb.out _ (by omega) HI.out.2.1, Nat.le_trans HI.out.2.2.1 HG.out.2.2.size, HI.out.2.2.2.trans HG.out.2.2⟩
                      rw [ksL_snoc, ints_snoc6, HZ.out, List.length_append]
                      exact HG.out.2.1
                    exact AllReadyIn.nil
                  exact AllReadyIn.nil
                exact AllReadyIn.nil
              exact AllReadyIn.nil
            exact AllReadyIn.nil
          exact AllReadyIn.nil
        exact AllReadyIn.nil
      exact AllReadyIn.nil
    exact AllReadyIn.nil
  case done =>
    rintro D ys W hD hys ⟨⟨v, hv, hrow, _⟩, hLb, hNb, h4, hB⟩ hK
    have hc := hv.cell
    gi_wp2
    rw [ksL_all hys] at hrow
    refine ⟨by simp, .inl ⟨_, _, rfl, run_takeDeferred hK, ?_⟩⟩
    exact ⟨_, results_tmp rfl _ _ _, v, rfl, ownsRow_mono6 (ownsRow_putObj hrow _ hK rfl) (by omega), hB.trans (belowK_b (w := w) (Nat.le_refl _) W D _ _ (by omega) hK rfl rfl)⟩
  case stop =>
    rintro D c pre W _ _ h _
    exact h.elim
end Go.Proofs.Ytockgojdmaladab
