/- The acts on a folder: the program's. -/
import Derived.Test.YtghladeamdhlhalDoPlain
import Derived.Test.YtghladeamdhlhalFolder
import Derived.Test.YtghladeamdhlhalKeptImpl
namespace Go.Proofs.Ytghladeamdhlhal
open Go.RowKit Go.Sort

/-- What an act on a folder leaves. -/
def Res (w : World) (b base : Nat) (L : List Fil) (o : Option (List Fil)) (e : Ending) (w' : World) : Prop := e = .returned (.bool o.isSome) ∧ ∃ M', Fo w' b base M' ∧ M'.map (·.1) = o.getD L ∧ Below base w w'

theorem newL_yes {L : List Fil} {nm tx : ByteArray} (h1 : L.length ≠ 30) (h2 : nOk nm = true) (h3 : tx.size ≤ 20000) : newL L nm tx = some (putL L ⟨nm, tx, 0⟩) := by unfold newL; rw [if_pos ⟨h1, h2, h3⟩]
theorem newL_no {L : List Fil} {nm tx : ByteArray} (h : ¬ (L.length ≠ 30 ∧ nOk nm = true ∧ tx.size ≤ 20000)) : newL L nm tx = none := by unfold newL; rw [if_neg h]
theorem nOk_size {s : ByteArray} (h : nOk s = true) : s.size ≤ 8 := by simp only [nOk, decide_eq_true_eq] at h; exact h.2
theorem below_grown {base : Nat} {w w' : World} {g : Nat} (h : w.grownBy w' (some g)) (hb : base ≤ g) (hs : base ≤ w.heap.size) : Below base w w' := (Below.refl base w).grown h hs (fun k e => by cases e; exact hb)

set_option maxRecDepth 100000 in
set_option maxHeartbeats 2000000 in
theorem addNew_any (w : World) (b base : Nat) (M : List (Fil × Nat)) (nm tx : ByteArray) (h : Fo w b base M) (hM : M.length ≤ 30) :
    Calls Try.prog 55 #[.map (some b), .string nm, .string tx] w (Res w b base (M.map (·.1)) (newL (M.map (·.1)) nm tx)) := by
  have hlen : ∀ ty, (Builtin.len_ #[68] ty #[.map (some b)]).run Try.prog w = .ok (.int .i64 (M.length : Nat)) w := fun ty => by
    have := h.own.len (t := 68) (e := 83) Try.underlying68 ty
    rwa [mOf_size] at this
  have hml : (M.map (·.1)).length = M.length := List.length_map _
  have cN := fun w => nameOk_any nm w
  have hle := h.le
  have hlt := h.own.lt
  by_cases h1 : M.length = 30
  · rw [newL_no (by omega)]
    have hb : ((M.length : Int) == 30) = true := by simp [h1]
    have HFo : Hid (Fo w b base M) := h
    clear h hml h1
    unfold Res
    go_enter Try.func55, Try.ntmps55
    go_wp2
    go_ret
    exact ⟨rfl, M, HFo.out, rfl, Below.refl _ _⟩
  · have hb : ((M.length : Int) == 30) = false := beq_eq_false_iff_ne.2 (by omega)
    cases hnm : nOk nm with
    | false =>
      rw [newL_no (by simp [hnm])]
      rw [hnm] at cN
      have HFo : Hid (Fo w b base M) := h
      clear h hml h1 hnm
      unfold Res
      go_enter Try.func55, Try.ntmps55
      go_wp2_with (go_at_call 62; refine (cN _).mono ?_; rintro e w' ⟨rfl, rfl⟩)
      go_ret
      exact ⟨rfl, M, HFo.out, rfl, Below.refl _ _⟩
    | true =>
      rw [hnm] at cN
      by_cases h3 : tx.size ≤ 20000
      · rw [newL_yes (by omega) hnm h3]
        have hns := nOk_size hnm
        have hnew := heap_alloc_new w (.cells #[.string nm, .string tx, .int .i64 0] 63)
        have hF1 := h.below ((Below.refl w.heap.size w).alloc (Nat.le_refl _) (.cells #[.string nm, .string tx, .int .i64 0] 63))
        obtain ⟨w2, hrun, hF2, hgr⟩ := hF1.put (f := ⟨nm, tx, 0⟩) (g := w.heap.size) hnew (by omega) (fun p hp => by have := (h.blk p hp).2.lt; omega) (by simp only [maxLen]; omega) (by simp only [maxLen]; omega)
        have HF2 : Hid (Fo w2 b base (putM M (⟨nm, tx, 0⟩, w.heap.size))) := hF2
        have HB : Hid (Below base w w2) := ((Below.refl base w).alloc (by omega) _).trans (below_grown hgr hle (by simp; omega))
        dsimp only at hrun
        clear h hml h1 hnm hF1 hF2 hgr hnew
        unfold Res
        go_enter Try.func55, Try.ntmps55
        go_wp2_with (go_at_call 62; refine (cN _).mono ?_; rintro e w' ⟨rfl, rfl⟩)
        go_ret
        exact ⟨rfl, _, HF2.out, putM_fst _ _, HB.out⟩
      · rw [newL_no (by omega)]
        have HFo : Hid (Fo w b base M) := h
        clear h hml h1 hnm
        unfold Res
        go_enter Try.func55, Try.ntmps55
        go_wp2_with (go_at_call 62; refine (cN _).mono ?_; rintro e w' ⟨rfl, rfl⟩)
        go_ret
        exact ⟨rfl, M, HFo.out, rfl, Below.refl _ _⟩

theorem addL_yes {L : List Fil} {f : Fil} {tx : ByteArray} (h : tx.size + f.tx.size ≤ 20000) : addL L f tx = some (putL L ⟨f.nm, f.tx ++ tx, f.kp⟩) := by unfold addL; rw [if_pos h]
theorem addL_no {L : List Fil} {f : Fil} {tx : ByteArray} (h : ¬ tx.size + f.tx.size ≤ 20000) : addL L f tx = none := by unfold addL; rw [if_neg h]

set_option maxRecDepth 100000 in
set_option maxHeartbeats 2000000 in
theorem addText_any (w : World) (b base : Nat) (M : List (Fil × Nat)) (f : Fil) (g : Nat) (tx : ByteArray) (h : Fo w b base M) (hm : (f, g) ∈ M) (hf : f.tx.size ≤ 20000) :
    Calls Try.prog 56 #[.pointer (some ⟨g, 0, none⟩), .string tx] w (Res w b base (M.map (·.1)) (addL (M.map (·.1)) f tx)) := by
  have hB := (h.blk _ hm).2
  have hbg : base ≤ g := (h.blk _ hm).1
  obtain ⟨_, hc1, _⟩ := hB.cells
  have hz := hB.thaw 1
  have hgl := hB.lt
  dsimp only at hc1 hz
  by_cases h1 : tx.size + f.tx.size ≤ 20000
  · rw [addL_yes h1]
    have HF : Hid (Fo (w.setCell ⟨g, 1, none⟩ (.string (f.tx ++ tx))) b base (edM M ⟨f.nm, f.tx ++ tx, f.kp⟩)) := h.edit hm (grownBy_set w g 1 _) (hB.set 1 _ rfl) rfl
    have HM : Hid ((edM M ⟨f.nm, f.tx ++ tx, f.kp⟩).map (·.1) = putL (M.map (·.1)) ⟨f.nm, f.tx ++ tx, f.kp⟩) := edM_fst h.rise hm rfl
    have HB : Hid (Below base w (w.setCell ⟨g, 1, none⟩ (.string (f.tx ++ tx)))) := below_grown (grownBy_set w g 1 _) hbg (by omega)
    have hf2 : (f.tx ++ tx).size ≤ 20000 := by simp; omega
    clear h hm hB
    unfold Res
    go_enter Try.func56, Try.ntmps56
    go_wp2
    go_ret
    exact ⟨rfl, _, HF.out, HM.out, HB.out⟩
  · rw [addL_no h1]
    have HFo : Hid (Fo w b base M) := h
    clear h hm hB
    unfold Res
    go_enter Try.func56, Try.ntmps56
    go_wp2
    go_ret
    exact ⟨rfl, M, HFo.out, rfl, Below.refl _ _⟩

theorem moveL_yes {L : List Fil} {f : Fil} {to : ByteArray} (h1 : eqS to f.nm = false) (h2 : nOk to = true) (h3 : wholeF f = true) : moveL L f to = some (putL (woL L f.nm) ⟨to, f.tx, f.kp⟩) := by unfold moveL; rw [if_pos ⟨h1, h2, h3⟩]
theorem moveL_no {L : List Fil} {f : Fil} {to : ByteArray} (h : ¬ (eqS to f.nm = false ∧ nOk to = true ∧ wholeF f = true)) : moveL L f to = none := by unfold moveL; rw [if_neg h]

set_option maxRecDepth 100000 in
set_option maxHeartbeats 2000000 in
theorem move_any (w : World) (b base : Nat) (M : List (Fil × Nat)) (f : Fil) (g : Nat) (to : ByteArray) (h : Fo w b base M) (hm : (f, g) ∈ M) (hM : M.length ≤ 30) (hn : f.nm.size ≤ 8) :
    Calls Try.prog 57 #[.map (some b), .pointer (some ⟨g, 0, none⟩), .string to] w (Res w b base (M.map (·.1)) (moveL (M.map (·.1)) f to)) := by
  have hB := (h.blk _ hm).2
  have hbg : base ≤ g := (h.blk _ hm).1
  obtain ⟨hc0, hc1, hc2⟩ := hB.cells
  have hz := hB.thaw 0
  have hgl := hB.lt
  have hle := h.le
  have hlt := h.own.lt
  dsimp only at hc0 hc1 hc2 hz
  have cN := fun w => nameOk_any to w
  have cW := wholeKept_any f w
  have HFo : Hid (Fo w b base M) := h
  cases h1 : eqS to f.nm with
  | true =>
    rw [moveL_no (by simp [h1])]
    have he : (to.toList == f.nm.toList) = true := h1
    clear h hm hB h1
    unfold Res
    go_enter Try.func57, Try.ntmps57
    go_wp2
    go_ret
    exact ⟨rfl, M, HFo.out, rfl, Below.refl _ _⟩
  | false =>
    have he : (to.toList == f.nm.toList) = false := h1
    cases h2 : nOk to with
    | false =>
      rw [moveL_no (by simp [h2])]
      rw [h2] at cN
      clear h hm hB h1 h2
      unfold Res
      go_enter Try.func57, Try.ntmps57
      go_wp2_with (go_at_call 62; refine (cN _).mono ?_; rintro e w' ⟨rfl, rfl⟩)
      go_ret
      exact ⟨rfl, M, HFo.out, rfl, Below.refl _ _⟩
    | true =>
      rw [h2] at cN
      cases h3 : wholeF f with
      | false =>
        rw [moveL_no (by simp [h3])]
        rw [h3] at cW
        clear h hm hB h1 h2 h3
        unfold Res
        go_enter Try.func57, Try.ntmps57
        go_wp2_with (first | (go_at_call 62; refine (cN _).mono ?_; rintro e w' ⟨rfl, rfl⟩) | (go_at_call 51; refine cW.mono ?_; rintro e w1 ⟨rfl, hb1⟩))
        go_ret
        exact ⟨rfl, M, HFo.out.below hb1, rfl, hb1.mono (by omega)⟩
      | true =>
        rw [moveL_yes h1 h2 h3]
        rw [h3] at cW
        have hto := nOk_size h2
        have HS : Hid (∀ w1, Below w.heap.size w w1 → ∃ w2 w3, (∀ ty, (Builtin.delete_ #[68, 9] ty #[.map (some b), .string f.nm]).run Try.prog w1 = .ok (.tuple #[]) w2) ∧ w2.cell? ⟨g, 0, none⟩ = some (.string f.nm) ∧ w2.frozen? ⟨g, 0, none⟩ = false ∧
            (Instr.mapUpdate 68 (.map (some b)) (.string to) (.pointer (some ⟨g, 0, none⟩))).run Try.prog (w2.setCell ⟨g, 0, none⟩ (.string to)) = .ok () w3 ∧ Fo w3 b base (putM (woM M f.nm) (⟨to, f.tx, f.kp⟩, g)) ∧ Below base w w3) := by
          intro w1 hb1
          have hF1 := h.below hb1
          obtain ⟨w2, hr2, hF2, hg2⟩ := hF1.drop f.nm (by unfold maxLen; omega) 0
          have hB1 : FBlk w1 g f := (hb1.block g hgl).trans hB
          have hB2 : FBlk w2 g f := (hg2.block g hB1.lt (fun e => hF1.ne hB1 (by simpa using e))).trans hB1
          have hni : ∀ p ∈ woM M f.nm, p.2 ≠ g := by
            intro p hp e
            have hpm := (List.mem_filter.1 hp).1
            have := h.dis p hpm _ hm e
            subst this
            have := (List.mem_filter.1 hp).2
            simp [eqS_refl] at this
          have hB3 : FBlk (w2.setCell ⟨g, 0, none⟩ (.string to)) g ⟨to, f.tx, f.kp⟩ := hB2.set 0 _ rfl
          have hgs := grownBy_set w2 g 0 (.string to)
          have hF3 : Fo (w2.setCell ⟨g, 0, none⟩ (.string to)) b base (woM M f.nm) := hF2.kept (hgs.block b hF2.own.lt (fun e => hF2.ne hB2 (by simpa using e.symm))) (fun p hp => hgs.block p.2 (hF2.blk p hp).2.lt (fun e => hni p hp (by simpa using e)))
          have hlw : (woM M f.nm).length ≤ 30 := Nat.le_trans (List.length_filter_le _ _) hM
          obtain ⟨w3, hr3, hF4, hg3⟩ := hF3.put hB3 hbg hni (by simp only [maxLen]; omega) (by unfold maxLen; omega)
          refine ⟨w2, w3, fun ty => ?_, hB2.cells.1, hB2.thaw 0, hr3, hF4, ?_⟩
          · obtain ⟨w2', hr2', _, _⟩ := hF1.drop f.nm (by unfold maxLen; omega) ty
            rw [hr2']
            have e : (Builtin.delete_ #[68, 9] ty #[.map (some b), .string f.nm]).run Try.prog w1 = (Builtin.delete_ #[68, 9] 0 #[.map (some b), .string f.nm]).run Try.prog w1 := rfl
            rw [← hr2', e, hr2]
          · have hs1 := hb1.size
            have hs2 := hg2.size
            have hs3 := hgs.size
            exact (hb1.mono (by omega)).trans ((below_grown hg2 hle (by omega)).trans ((below_grown hgs hbg (by omega)).trans (below_grown hg3 hle (by omega))))
        have HM : Hid ((putM (woM M f.nm) (⟨to, f.tx, f.kp⟩, g)).map (·.1) = putL (woL (M.map (·.1)) f.nm) ⟨to, f.tx, f.kp⟩) := by
          show _ = _
          rw [putM_fst, woM_fst]
        clear h hm hB h1 h2 h3
        unfold Res
        go_enter Try.func57, Try.ntmps57
        go_wp2_with (first | (go_at_call 62; refine (cN _).mono ?_; rintro e w' ⟨rfl, rfl⟩) | (go_at_call 51; refine cW.mono ?_; rintro e w1 ⟨rfl, hb1⟩; have hc01 : w1.cell? ⟨g, 0, none⟩ = some (.string f.nm) := (hb1.cell (p := ⟨g, 0, none⟩) hgl).trans hc0; obtain ⟨w2, w3, hr2, hd0, hdz, hr3, hF4, hB4⟩ := HS.out w1 hb1))
        go_ret
        exact ⟨rfl, _, hF4, HM.out, hB4⟩
end Go.Proofs.Ytghladeamdhlhal
