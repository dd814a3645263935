/- The walk over Unframe: the program's own text. -/
import Derived.Test.YtepfblabdibggabDoorUnframeIter
import Derived.RegionIn
import Derived.BigRegionIn
namespace Go.Proofs.YtepfblabdibggabDoor
open Go.RowKit Go.Shelf Go.Sort

attribute [local go_sem] Oper.semAt_some

theorem Tryd.infoS : (Tryd.prog.info? 9).map (fun i => (i.zero, i.size, i.bytes)) = some (some (.string ⟨#[]⟩), 1, 16) := by kernel_rfl

theorem ownsRow_mono {w : World} {base base' : Nat} {e : TypeId} {size k : Nat} {v : Value} {xs : List Value} (h : w.ownsRow base e size v k xs) (hb : base' ≤ base) : w.ownsRow base' e size v k xs := by
  refine ⟨h.1, ?_⟩
  rcases h.2 with h | ⟨g, cap, cur, hv, hg, rest⟩
  · exact .inl h
  · exact .inr ⟨g, cap, cur, hv, Nat.le_trans hb hg, rest⟩

set_option maxHeartbeats 1000000 in
theorem wholeFrames_in (n : Nat) (s : ByteArray) (w : World) :
    CallsIn Fence.wide n Tryd.prog 68 #[.string s] w fun e w' => e = .returned (.func (.func 82) #[] #[.pointer (some ⟨w.heap.size, 0, none⟩)]) ∧ w' = w.alloc (.cells #[.string s] 9) := by
  refine callsIn_of_wp Tryd.func68 rfl trivial ?_ rfl
  simp only [Tryd.ntmps68, List.size_toArray, List.length_cons, List.length_nil, Nat.reduceAdd, Nat.reduceSub, Array.replicate_succ, Array.replicate_zero, List.push_toArray, List.append_toArray, List.nil_append, List.cons_append]
  gi_wp2
  go_ret
  exact ⟨rfl, rfl⟩

theorem frames_stops (n : Nat) (hn : 1 ≤ n) (Bn n₀ : Nat) (s : ByteArray) (hs : s.size ≤ 20000) (hg : 1 < n₀) (w : World) (hn₀ : n₀ ≤ w.heap.size) (hB : Boxed w Bn 9 (.string s)) (ht : Tab w) :
    SeqStopsK Fence.wide n Tryd.prog 82 #[.pointer (some ⟨Bn, 0, none⟩)] (fun x : ByteArray × Nat => #[Value.string x.1, Value.int .i64 (x.2 : Int)]) (KeepF n₀ Bn) (fun ys => ys = ufAll s) (fun _ => True) (s.size + 1) w :=
  fun l J Jx W hW hJ _ hY h0 => frames1_in n hn l Bn n₀ s hs hg J Jx W hJ hY (Nat.le_trans hn₀ hW.size) ((hW.block Bn hB.lt).trans hB) (ht.below hW (Nat.le_refl _)) h0

set_option maxRecDepth 100000 in
set_option maxHeartbeats 4000000 in
theorem implUnframe_in (s : ByteArray) (w : World) (hs : s.size ≤ 20000) (ht : Tab w) :
    Calls Tryd.prog 41 #[.string s] w fun e w' => ∃ v, e = .returned (.tuple #[v, .int .i64 (endOf (ufAll s) : Nat)]) ∧ OwnV w' w.heap.size 9 v (strs (recs (ufAll s))) ∧ Below w.heap.size w w' := by
  refine (callsIn_wide (n := 6)).1 ?_
  obtain ⟨i0, hi, hz0, hz1, hz2⟩ := info_parts Tryd.infoS
  refine callsIn_of_wp_marks Tryd.func41 rfl trivial ?_ rfl
  simp only [Tryd.ntmps41, List.size_toArray, List.length_cons, List.length_nil, Nat.reduceAdd, Nat.reduceSub, Array.replicate_succ, Array.replicate_zero, List.push_toArray, List.append_toArray, List.nil_append, List.cons_append]
  gi_wp2_with (refine ⟨trivial, ?_⟩; gi_at_call 68; refine (wholeFrames_in _ s _).mono ?_; rintro e w' ⟨rfl, rfl⟩)
  have bR := Boxed.new w 65 (.slice none 0 0)
  have bE := Boxed.new (w.alloc (.cells #[.slice none 0 0] 65)) 3 (.int .i64 0)
  have bF := Boxed.new ((w.alloc (.cells #[.slice none 0 0] 65)).alloc (.cells #[.int .i64 0] 3)) 9 (.string s)
  rw [World.size_alloc] at bE bF
  rw [World.size_alloc] at bF
  have hB0 : Below w.heap.size w (((w.alloc (.cells #[.slice none 0 0] 65)).alloc (.cells #[.int .i64 0] 3)).alloc (.cells #[.string s] 9)) := (((Below.refl _ w).alloc (Nat.le_refl _) _).alloc (by simp) _).alloc (by simp; omega) _
  have hsz0 : (((w.alloc (.cells #[.slice none 0 0] 65)).alloc (.cells #[.int .i64 0] 3)).alloc (.cells #[.string s] 9)).heap.size = w.heap.size + 3 := by simp
  have ht0 := ht.below hB0 (Nat.le_refl _)
  have bR0 := (bR.alloc (.cells #[.int .i64 0] 3)).alloc (.cells #[.string s] 9)
  have bE0 := bE.alloc (.cells #[.string s] 9)
  refine wpIn_rangeFunc_ownG (F := Fence.wide) rfl (by omega) (gf := 82) (lb := #[.pointer (some ⟨w.heap.size + 1 + 1, 0, none⟩)]) rfl trivial (enters_of Tryd.func82 (by kernel_rfl) rfl)
    (frames_stops _ (by omega) (w.heap.size + 1 + 1) w.heap.size s hs ht.lt _ (by omega) bF ht0) KeepF.trans (KeepF.put (by omega) (by omega)) (Below.refl _ _) (fun _ => rfl)
    (fun pre W => (∃ v, Boxed W w.heap.size 65 v ∧ W.ownsRow (w.heap.size + 3) 9 1 v (strs (recs pre)).length (strs (recs pre)) ∧ True) ∧ Boxed W (w.heap.size + 1) 3 (.int .i64 (endOf pre : Nat)) ∧ w.heap.size + 3 ≤ W.heap.size ∧ Below w.heap.size w W)
    (fun _ _ _ => False)
    (OwnFrom.and (Own.from (holdsRow_own (w.heap.size + 3) w.heap.size 65 9 1 (fun pre => (strs (recs pre)).length) (fun pre => strs (recs pre)) (fun _ _ => True)) _) (OwnFrom.and (Own.from (boxed_own _ _ _) _) (OwnFrom.and (fun _ _ _ _ hs hg _ => Nat.le_trans hs hg.size) (ownFrom_below (Nat.le_refl _) (by omega)))))
    (fun _ _ _ _ _ hs _ _ => hs)
    ⟨⟨_, bR0, World.ownsRow_nil _ _ _ _, trivial⟩, bE0, by omega, hB0⟩
    (fun x => { tmps := #[.string s, undef, .slice none 0 0, .int .i64 0, .pointer (some ⟨w.heap.size, 0, none⟩), .pointer (some ⟨w.heap.size + 1, 0, none⟩), .string x.1, .int .i64 (x.2 : Int), .string s,
      .int .i64 (s.size : Int), .bool (decide (20000 < (s.size : Int))), .string s, .func (.func 82) #[] #[.pointer (some ⟨w.heap.size + 1 + 1, 0, none⟩)], .string x.1, .int .i64 (x.2 : Int), undef, undef, undef, undef, undef, undef, undef], defers := [] }) ?assign ?body ?done ?stop
  case assign =>
    intro l x W K hK
    gi_wp2
    exact hK
  case body =>
    rintro l pre x W ⟨⟨v, hv, hrow, _⟩, hE, h3, hB⟩ hlt
    have hc := hv.cell
    have hPl : (strs (recs pre)).length ≤ 20000 := by rw [strs_length, recs_length]; omega
    have hne : ∀ k, v.ownBlock = some k → w.heap.size + 3 ≤ k := fun k hk => (World.ownsRow.lt hrow k hk).1
    gi_wp2_with (gi_at_builtin; refine wpListIn_append_own _ rfl _ _ 65 rfl (w.heap.size + 3) 9 i0 (.string ⟨#[]⟩) 1 16 Tryd.underlying65 hi hz0 hz1 hz2 rfl (by decide) _ _ _ rfl (hrow.alloc _) ⟨W.heap.size, 0, none⟩ 1 1 [.string x.1] rfl rfl (cell_one_new _ _ _) (by simp [Value.oneCell']) (by unfold maxLen; omega) (by omega) (by simp; omega) ?_; intro v' w1 hown' hgrow _; obtain ⟨g', cap', rfl⟩ := ownsRow_succ hown'; obtain ⟨hv1, hv2, hr2, hk2, hb2⟩ := hv.appended (by decide) (ownsRow_mono hrow (base' := w.heap.size) (by omega)) hB.size (Nat.le_refl _) (ownsRow_mono hown' (by omega)) hgrow; have hc1 := hv1.cell; have hf1 := hv1.frozen; have hE1 := (((hE.alloc _).kept hgrow (hE.not_row (by decide) hrow)).other (B' := w.heap.size) (by omega) (.slice (some ⟨g', 0, none⟩) ((strs (recs pre)).length + 1) cap')); have hc2 := hE1.cell; have hf2 := hE1.frozen)
    have hr3 : (w1.setCell ⟨w.heap.size, 0, none⟩ (.slice (some ⟨g', 0, none⟩) ((strs (recs pre)).length + 1) cap')).ownsRow (w.heap.size + 3) 9 1 (.slice (some ⟨g', 0, none⟩) ((strs (recs pre)).length + 1) cap') ((strs (recs pre)).length + 1) (strs (recs pre) ++ [.string x.1]) := hown'.kept (grownBy_setCell' w1 w.heap.size _) (.inr (hv1.not_row (by decide) hown').symm)
    refine ⟨(hk2.trans (KeepsOthers.setCell _ _ _)).from _, ⟨hb2.setCell (p := ⟨w.heap.size + 1, 0, none⟩) (by simp) _, ?_⟩, ⟨_, hv2.other (by omega) _, ?_, trivial⟩, ?_, ?_, hB.trans (hb2.setCell (p := ⟨w.heap.size + 1, 0, none⟩) (by simp) _)⟩
    · rw [Below.heap_setCell _ _ _ _ (by simp), Below.heap_setCell _ _ _ _ (by simp; omega)]
      refine (hgrow.block _ (by simp; omega) ?_).trans (Below.heap_alloc W _ _ (by omega))
      intro e
      have := hne _ e.symm
      omega
    · rw [recs_snoc, strs_append]
      have := hr3.kept (grownBy_setCell' _ (w.heap.size + 1) (.int .i64 (x.2 : Int))) (.inr (hE1.not_row (by decide) hr3).symm)
      simpa [strs] using this
    · rw [endOf_snoc]
      exact hE1.set _
    · have h1 := hk2.size
      have h2 := (KeepsOthers.setCell (w1.setCell ⟨w.heap.size, 0, none⟩ (.slice (some ⟨g', 0, none⟩) ((strs (recs pre)).length + 1) cap')) ⟨w.heap.size + 1, 0, none⟩ (.int .i64 (x.2 : Int))).size
      omega
  case done =>
    rintro D ys W hD rfl ⟨⟨v, hv, hrow, _⟩, hE, h3, hB⟩ hK
    have hc := hv.cell
    have hcE := hE.cell
    gi_wp2
    gi_region
    all_goals gi_wp2
    have hK' : W.drew.heap[D]? = some (.deferred (some [])) := hK
    have hrow' : W.drew.ownsRow (w.heap.size + 3) 9 1 v (strs (recs (ufAll s))).length (strs (recs (ufAll s))) := hrow
    have hBd : Below w.heap.size w W.drew := hB.drew
    refine ⟨by simp, .inl ⟨_, _, rfl, run_takeDeferred hK', ?_⟩⟩
    exact ⟨_, results_tmp2 rfl _ _ _, v, rfl, ownsRow_mono (ownsRow_putObj hrow' _ hK' rfl) (by omega), hBd.trans (belowK_b (w := w) (Nat.le_refl _) W.drew D _ _ (by omega) hK' rfl rfl)⟩
  case stop =>
    rintro D c pre W _ _ h _
    exact h.elim

theorem implUnframe_any (s : ByteArray) (w : World) (hs : s.size ≤ 1048576) (ht : Tab w) :
    Calls Tryd.prog 41 #[.string s] w fun e w' => ∃ v, e = .returned (.tuple #[v, .int .i64 (ufE s : Nat)]) ∧ OwnV w' w.heap.size 9 v (strs (ufL s)) ∧ Below w.heap.size w w' := by
  by_cases h : s.size ≤ 20000
  · rw [show ufE s = endOf (ufAll s) by unfold ufE; rw [if_pos h], show ufL s = recs (ufAll s) by unfold ufL; rw [if_pos h]]
    exact implUnframe_in s w h ht
  · rw [show ufE s = 0 by unfold ufE; rw [if_neg h], show ufL s = [] by unfold ufL; rw [if_neg h]]
    refine (callsIn_wide (n := 6)).1 ?_
    refine callsIn_of_wp_marks Tryd.func41 rfl trivial ?_ rfl
    simp only [Tryd.ntmps41, List.size_toArray, List.length_cons, List.length_nil, Nat.reduceAdd, Nat.reduceSub, Array.replicate_succ, Array.replicate_zero, List.push_toArray, List.append_toArray, List.nil_append, List.cons_append]
    gi_wp2
    exact ⟨_, results_tmp2 rfl _ _ _, _, rfl, OwnV.nil _ _ _, Below.refl _ _⟩
end Go.Proofs.YtepfblabdibggabDoor
