/- One act on a folder: the program's. -/
import Derived.Test.YtghladeamdhlhalDoImpl
namespace Go.Proofs.Ytghladeamdhlhal
open Go.RowKit Go.Sort

theorem Res.from {w wB : World} {b base : Nat} {L : List Fil} {o : Option (List Fil)} {e : Ending} {w' : World} (hb : Below base w wB) (h : Res wB b base L o e w') : Res w b base L o e w' := by
  obtain ⟨he, M', h1, h2, h3⟩ := h
  exact ⟨he, M', h1, h2, hb.trans h3⟩
theorem res_none {w : World} {b base : Nat} {M : List (Fil × Nat)} {o : Option (List Fil)} (ho : o = none) {w' : World} (h : Fo w' b base M) (hb : Below base w w') : Res w b base (M.map (·.1)) o (.returned (.bool false)) w' := by
  subst ho
  exact ⟨rfl, M, h, rfl, hb⟩
theorem res_some {w : World} {b base : Nat} {L X : List Fil} {M' : List (Fil × Nat)} {o : Option (List Fil)} (ho : o = some X) {w' : World} (h : Fo w' b base M') (hx : M'.map (·.1) = X) (hb : Below base w w') : Res w b base L o (.returned (.bool true)) w' := by
  subst ho
  exact ⟨rfl, M', h, hx, hb⟩
theorem doL_bad {L : List Fil} {a : Ac} (h : (isE a.tx = false ∧ a.kd ≠ 1) ∨ (isE a.to = false ∧ a.kd ≠ 3)) : doL L a = none := by unfold doL; rw [if_pos h]
theorem doL_new {L : List Fil} {a : Ac} (h : ¬ ((isE a.tx = false ∧ a.kd ≠ 1) ∨ (isE a.to = false ∧ a.kd ≠ 3))) (hf : L.find? (fun f => eqS f.nm a.nm) = none) : doL L a = if a.kd = 1 then newL L a.nm a.tx else none := by
  unfold doL; rw [if_neg h, hf]
theorem doL_old {L : List Fil} {a : Ac} {f : Fil} (h : ¬ ((isE a.tx = false ∧ a.kd ≠ 1) ∨ (isE a.to = false ∧ a.kd ≠ 3))) (hf : L.find? (fun f => eqS f.nm a.nm) = some f) :
    doL L a = if a.kd = 1 then addL L f a.tx else if a.kd = 2 then some (putL L ⟨f.nm, f.tx, f.tx.size⟩) else if a.kd = 3 then moveL L f a.to else if a.kd = 4 then some (woL L f.nm) else none := by
  unfold doL; rw [if_neg h, hf]

set_option maxRecDepth 100000 in
set_option maxHeartbeats 4000000 in
theorem do_any (w : World) (b base : Nat) (M : List (Fil × Nat)) (kd : Int) (nm tx to : ByteArray) (h : Fo w b base M) (hM : M.length ≤ 30) (hf : ∀ p ∈ M, fOk p.1 = true) (hn : nm.size ≤ maxLen) :
    Calls Try.prog 41 #[.map (some b), .agg #[.int .i64 kd, .string nm, .string tx, .string to]] w (Res w b base (M.map (·.1)) (doL (M.map (·.1)) ⟨kd, nm, tx, to⟩)) := by
  obtain ⟨wB, hwB⟩ : ∃ wB, w.alloc (.cells #[.int .i64 kd, .string nm, .string tx, .string to] 35) = wB := ⟨_, rfl⟩
  have hb0 : Below w.heap.size w wB := by rw [← hwB]; exact (Below.refl _ w).alloc (Nat.le_refl _) _
  have hF := h.below hb0
  have hle := h.le
  have hlt := h.own.lt
  have hbb : Below base w wB := hb0.mono (by omega)
  have HFo : Hid (Fo wB b base M) := hF
  have x0 : wB.cell? ⟨w.heap.size, 0, none⟩ = some (.int .i64 kd) := by rw [← hwB]; simp
  have x1 : wB.cell? ⟨w.heap.size, 1, none⟩ = some (.string nm) := by rw [← hwB]; simp
  have x2 : wB.cell? ⟨w.heap.size, 2, none⟩ = some (.string tx) := by rw [← hwB]; simp
  have x3 : wB.cell? ⟨w.heap.size, 3, none⟩ = some (.string to) := by rw [← hwB]; simp
  have HW : Hid (w.alloc (.cells #[.int .i64 kd, .string nm, .string tx, .string to] 35) = wB) := hwB
  clear hwB hb0
  by_cases hbad : (isE tx = false ∧ kd ≠ 1) ∨ (isE to = false ∧ kd ≠ 3)
  · have HD : Hid (doL (M.map (·.1)) ⟨kd, nm, tx, to⟩ = none) := doL_bad hbad
    have hs : (tx.toList.isEmpty = false ∧ (kd != 1) = true) ∨ (tx.toList.isEmpty = true ∧ to.toList.isEmpty = false ∧ (kd != 3) = true) ∨ (tx.toList.isEmpty = false ∧ (kd != 1) = false ∧ to.toList.isEmpty = false ∧ (kd != 3) = true) := by
      unfold isE at hbad
      rcases hbad with ⟨h1, h2⟩ | ⟨h1, h2⟩
      · exact .inl ⟨h1, by simpa using h2⟩
      · cases h3 : tx.toList.isEmpty with
        | true => exact .inr (.inl ⟨rfl, h1, by simpa using h2⟩)
        | false =>
          by_cases h4 : kd = 1
          · exact .inr (.inr ⟨rfl, by simpa using h4, h1, by simpa using h2⟩)
          · exact .inl ⟨rfl, by simpa using h4⟩
    clear hbad h hF hf
    rcases hs with ⟨h1, h2⟩ | ⟨h1, h2, h3⟩ | ⟨h1, h2, h3, h4⟩
    all_goals
      go_enter Try.func41, Try.ntmps41
      go_wp2_with (rw [HW.out])
      go_ret
      exact res_none HD.out HFo.out hbb
  · have hs : (kd = 1 ∧ to.toList.isEmpty = true) ∨ (kd = 3 ∧ tx.toList.isEmpty = true) ∨ (kd ≠ 1 ∧ kd ≠ 3 ∧ tx.toList.isEmpty = true ∧ to.toList.isEmpty = true) := by
      unfold isE at hbad
      cases h1 : tx.toList.isEmpty <;> cases h2 : to.toList.isEmpty <;> simp [h1, h2] at hbad ⊢ <;> omega
    rcases hF.look nm hn with ⟨f, g, hm, hfn, hfind, hlook⟩ | ⟨hfind, hlook⟩
    · have HD : Hid (doL (M.map (·.1)) ⟨kd, nm, tx, to⟩ = if kd = 1 then addL (M.map (·.1)) f tx else if kd = 2 then some (putL (M.map (·.1)) ⟨f.nm, f.tx, f.tx.size⟩) else if kd = 3 then moveL (M.map (·.1)) f to else if kd = 4 then some (woL (M.map (·.1)) f.nm) else none) := doL_old hbad hfind
      have hfo := hf _ hm
      have hft := fOk_tx hfo
      have hfn2 := (fOk_nm hfo).2
      have hB := (hF.blk _ hm).2
      have hbg : base ≤ g := (hF.blk _ hm).1
      clear hbad hfind hf h
      rcases hs with ⟨rfl, h2⟩ | ⟨rfl, h2⟩ | ⟨k1, k3, h1, h2⟩
      · have cA := addText_any wB b base M f g tx hF hm hft
        rw [show doL (M.map (·.1)) ⟨1, nm, tx, to⟩ = addL (M.map (·.1)) f tx from HD.out]
        generalize addL (M.map (·.1)) f tx = o at cA ⊢
        clear HD hB hF hm hfo
        cases h1 : tx.toList.isEmpty
        all_goals
          go_enter Try.func41, Try.ntmps41
          go_wp2_with (first | (rw [HW.out]) | (go_at_call 56; refine cA.mono ?_; intro e w2 hres; obtain ⟨rfl, M', hr1, hr2, hr3⟩ := hres))
          go_ret
          exact ⟨rfl, M', hr1, hr2, hbb.trans hr3⟩
      · have cA := move_any wB b base M f g to hF hm hM hfn2
        rw [show doL (M.map (·.1)) ⟨3, nm, tx, to⟩ = moveL (M.map (·.1)) f to from HD.out]
        generalize moveL (M.map (·.1)) f to = o at cA ⊢
        clear HD hB hF hm hfo
        cases h1 : to.toList.isEmpty
        all_goals
          go_enter Try.func41, Try.ntmps41
          go_wp2_with (first | (rw [HW.out]) | (go_at_call 57; refine cA.mono ?_; intro e w2 hres; obtain ⟨rfl, M', hr1, hr2, hr3⟩ := hres))
          go_ret
          exact ⟨rfl, M', hr1, hr2, hbb.trans hr3⟩
      · have b1 : (kd == 1) = false := beq_eq_false_iff_ne.2 k1
        have b3 : (kd == 3) = false := beq_eq_false_iff_ne.2 k3
        by_cases k2 : kd = 2
        · subst k2
          obtain ⟨_, hc1, hc2⟩ := hB.cells
          have hz := hB.thaw 2
          have hgl := hB.lt
          have HF : Hid (Fo (wB.setCell ⟨g, 2, none⟩ (.int .i64 (f.tx.size : Int))) b base (edM M ⟨f.nm, f.tx, f.tx.size⟩)) := hF.edit hm (grownBy_set wB g 2 _) (hB.set 2 _ rfl) rfl
          have HM : Hid ((edM M ⟨f.nm, f.tx, f.tx.size⟩).map (·.1) = putL (M.map (·.1)) ⟨f.nm, f.tx, f.tx.size⟩) := edM_fst hF.rise hm rfl
          have HB : Hid (Below base w (wB.setCell ⟨g, 2, none⟩ (.int .i64 (f.tx.size : Int)))) := hbb.trans (below_grown (grownBy_set wB g 2 _) hbg (by omega))
          dsimp only at hc1 hc2 hz
          clear hB hF hm hfo k1 k3
          go_enter Try.func41, Try.ntmps41
          go_wp2_with (rw [HW.out])
          go_ret
          exact res_some HD.out HF.out HM.out HB.out
        · have b2 : (kd == 2) = false := beq_eq_false_iff_ne.2 k2
          by_cases k4 : kd = 4
          · subst k4
            obtain ⟨w2, hr2, hF2, hg2⟩ := hF.drop nm hn 0
            have hr2' : ∀ ty, (Builtin.delete_ #[68, 9] ty #[.map (some b), .string nm]).run Try.prog wB = .ok (.tuple #[]) w2 := fun ty => hr2
            have HF : Hid (Fo w2 b base (woM M nm)) := hF2
            have HM : Hid ((woM M nm).map (·.1) = woL (M.map (·.1)) f.nm) := by show _ = _; rw [woM_fst, hfn]
            have HB : Hid (Below base w w2) := hbb.trans (below_grown hg2 hle (by have := hF.own.lt; omega))
            clear hB hF hm hfo k1 k3 k2 hr2 hF2 hg2
            go_enter Try.func41, Try.ntmps41
            go_wp2_with (rw [HW.out])
            go_ret
            exact res_some HD.out HF.out HM.out HB.out
          · have b4 : (kd == 4) = false := beq_eq_false_iff_ne.2 k4
            have HN : Hid (doL (M.map (·.1)) ⟨kd, nm, tx, to⟩ = none) := by
              show _ = _
              rw [HD.out, if_neg k1, if_neg k2, if_neg k3, if_neg k4]
            clear hB hF hm hfo k1 k3 k2 k4 HD
            go_enter Try.func41, Try.ntmps41
            go_wp2_with (rw [HW.out])
            go_ret
            exact res_none HN.out HFo.out hbb
    · have HD : Hid (doL (M.map (·.1)) ⟨kd, nm, tx, to⟩ = if kd = 1 then newL (M.map (·.1)) nm tx else none) := doL_new hbad hfind
      have cA := addNew_any wB b base M nm tx hF hM
      clear hbad hfind hf h hF
      rcases hs with ⟨rfl, h2⟩ | ⟨rfl, h2⟩ | ⟨k1, k3, h1, h2⟩
      · rw [show doL (M.map (·.1)) ⟨1, nm, tx, to⟩ = newL (M.map (·.1)) nm tx from HD.out]
        generalize newL (M.map (·.1)) nm tx = o at cA ⊢
        clear HD
        cases h1 : tx.toList.isEmpty
        all_goals
          go_enter Try.func41, Try.ntmps41
          go_wp2_with (first | (rw [HW.out]) | (go_at_call 55; refine cA.mono ?_; intro e w2 hres; obtain ⟨rfl, M', hr1, hr2, hr3⟩ := hres))
          go_ret
          exact ⟨rfl, M', hr1, hr2, hbb.trans hr3⟩
      · have HN : Hid (doL (M.map (·.1)) ⟨3, nm, tx, to⟩ = none) := HD.out
        clear HD cA
        cases h1 : to.toList.isEmpty
        all_goals
          go_enter Try.func41, Try.ntmps41
          go_wp2_with (rw [HW.out])
          go_ret
          exact res_none HN.out HFo.out hbb
      · have b1 : (kd == 1) = false := beq_eq_false_iff_ne.2 k1
        have HN : Hid (doL (M.map (·.1)) ⟨kd, nm, tx, to⟩ = none) := by
          show _ = _
          rw [HD.out, if_neg k1]
        clear HD cA k1 k3
        go_enter Try.func41, Try.ntmps41
        go_wp2_with (rw [HW.out])
        go_ret
        exact res_none HN.out HFo.out hbb
end Go.Proofs.Ytghladeamdhlhal
