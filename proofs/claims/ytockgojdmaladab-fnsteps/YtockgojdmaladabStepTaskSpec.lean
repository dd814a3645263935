/- StepTask, KeysOf, ValueOf: the other text. -/
import Derived.Test.YtockgojdmaladabStepSpec
import Derived.Test.YtockgojdmaladabCellSpec
namespace Go.Proofs.Ytockgojdmaladab
open Go.RowKit Go.Sort

def Tk.zero : Tk := ⟨0, 0, 0, 0, 0, 0, 0, 0, 0, false, 0⟩

set_option maxRecDepth 100000 in
set_option maxHeartbeats 4000000 in
theorem specStep_any (w : World) (a : Option Addr) (cap : Nat) (l : List Int) (t : Tk) (hL : IAt w a l w.heap.size) (hm : l.length ≤ 1048576) :
    Calls Try.prog 32 #[.slice a l.length cap, .agg (tcs t)] w fun e w' => ∃ v, e = .returned (.tuple #[v, .agg (tcs (stepL l t).2)]) ∧ OwnV w' w.heap.size 3 v (ints (stepL l t).1) ∧ Below w.heap.size w w' := by
  obtain ⟨w1, hw1⟩ : ∃ w1, w.alloc (.cells (tcs t) 43) = w1 := ⟨_, rfl⟩
  have hb1 : Below w.heap.size w w1 := by rw [← hw1]; exact (Below.refl _ _).alloc (Nat.le_refl _) _
  have hT1 : TBox w1 w.heap.size t := by rw [← hw1]; exact TBox.new _ _
  obtain ⟨w2, hw2⟩ : ∃ w2, w1.alloc (.cells (tcs Tk.zero) 43) = w2 := ⟨_, rfl⟩
  have hb2 : Below w1.heap.size w1 w2 := by rw [← hw2]; exact (Below.refl _ _).alloc (Nat.le_refl _) _
  have hR2 : TBox w2 w1.heap.size Tk.zero := by rw [← hw2]; exact TBox.new _ _
  have hT2 := hT1.on hb2
  have hs1 : w1.heap.size = w.heap.size + 1 := by rw [← hw1]; simp
  have hB2 : Below w.heap.size w w2 := hb1.trans (hb2.mono hb1.size)
  rw [hs1] at hR2
  have hL2 : IAt w2 a l w2.heap.size := hL.on hB2
  have HW : Hid ((w.alloc (.cells (tcs t) 43)).alloc (.cells (tcs Tk.zero) 43) = w2) := by rw [← hw2, ← hw1]; rfl
  unfold tcs Tk.zero at HW
  clear hw1 hw2 hb1 hb2 hT1 hL hs1
  have hti : tcs t = #[.int .i64 t.kind, .int .i64 t.key, .int .i64 t.val, .int .i64 t.node, .int .i64 t.pc, .int .i64 t.prev, .int .i64 t.cur, .int .i64 t.next, .int .i64 t.mark, .bool t.done, .int .i64 t.ans] := rfl
  rw [hti]
  clear hti
  go_enter Try.func32, Try.ntmps32
  go_upto_region 1 with fail
  rw [HW.out]
  go_cut [6] (fun v wc => OwnV wc w2.heap.size 3 v (ints l) ∧ Below w2.heap.size w2 wc)
  case first =>
    have hb1 : Below w2.heap.size w2 (w2.alloc (.cells #[] 3)) := (Below.refl _ _).alloc (Nat.le_refl _) _
    cases a with
    | none =>
      have := hL2.none_nil
      subst this
      go_wp2
      go_meet
      exact ⟨own_empty w2, hb1⟩
    | some ad =>
      go_wp2_with (at_builtin; refine wpList_allI rfl (.tmp 7) (.tmp 8) 24 rfl w2.heap.size 3 Try.underlying24 Try.infoInt w2.heap.size rfl (own_empty w2) ad cap l _ rfl (hL2.alloc _) hm (by simp) ?_; intro v4 w4 hown4 hgr4)
      go_meet
      exact ⟨hown4, hb1.grown hgr4 (by simp) (fun k e => by cases e; exact Nat.le_refl _)⟩
  case rest =>
    obtain ⟨ho, hb⟩ := hcut
    obtain ⟨wq, hwq⟩ : ∃ wq, wq = wc := ⟨_, rfl⟩
    subst hwq
    have hT := hT2.on hb
    have hR := hR2.on hb
    have hB := hB2.trans (hb.mono hB2.size)
    have hLc : IAt wq a l wq.heap.size := hL2.on hb
    have hbs := hB2.size
    have ho1 := ho.mono hB2.size
    have hz2 : w.heap.size + 1 < w2.heap.size := hR2.lt
    have HO : Hid (∀ k, u6.ownBlock = some k → w.heap.size + 1 < k) := fun k hk => Nat.lt_of_lt_of_le hz2 (ho.lt k hk).1
    clear hT2 hR2 hB2 hL2 ho hb hz2
    obtain ⟨b0, b1, b2, b3, b4, b5, b6, b7, b8, b9, b10⟩ := hT.cells
    have cT := specTaskOk_any t wq
    unfold tcs at cT
    go_upto_region 2 with fail
    go_cut [26] (fun c wd => c = .bool (!ready l t) ∧ Below wq.heap.size wq wd)
    case first =>
      have HRD : Hid (ready l t = (!t.done && (t.ok && (decide (l.length = 63) && okC l)))) := rfl
      clear hT hR hB ho1 HO
      by_cases hd : t.done = true
      · rw [hd] at b9
        have HD : Hid (t.done = true) := hd
        clear cT hd
        go_wp2
        go_meet
        exact ⟨by rw [HRD.out, HD.out]; rfl, Below.refl _ _⟩
      · have hd' : t.done = false := by simpa using hd
        rw [hd'] at b9 cT
        have HD : Hid (t.done = false) := hd'
        clear hd hd'
        by_cases hok : t.ok = true
        · rw [hok] at cT
          have HK : Hid (t.ok = true) := hok
          clear hok
          go_wp2_with fail
          refine cT.mono ?_
          rintro e w3 ⟨rfl, hb3⟩
          clear cT
          by_cases h63 : l.length = 63
          · have cC := specOk_any w3 a cap l (hLc.on hb3) hm
            have HL : Hid (l.length = 63) := h63
            have e1 : decide ((l.length : Int) = 63) = true := decide_eq_true (by omega)
            have e2 : ((l.length : Int) != 63) = false := by simp; omega
            clear h63
            go_wp2_with fail
            refine cC.mono ?_
            rintro e w4 ⟨rfl, rfl⟩
            clear cC
            go_wp2
            go_meet
            exact ⟨by rw [HRD.out, HD.out, HK.out, decide_eq_true HL.out]; cases okC l <;> rfl, hb3⟩
          · have e1 : decide ((l.length : Int) = 63) = false := decide_eq_false (by omega)
            have e2 : ((l.length : Int) != 63) = true := by simp; omega
            have HL : Hid (¬ l.length = 63) := h63
            clear h63
            go_wp2
            go_meet
            exact ⟨by rw [HRD.out, HD.out, HK.out, decide_eq_false HL.out]; rfl, hb3⟩
        · have hok' : t.ok = false := by simpa using hok
          rw [hok'] at cT
          have HK : Hid (t.ok = false) := hok'
          clear hok hok'
          go_wp2_with fail
          refine cT.mono ?_
          rintro e w3 ⟨rfl, hb3⟩
          clear cT
          go_wp2
          go_meet
          exact ⟨by rw [HRD.out, HD.out, HK.out]; rfl, hb3⟩
    case rest =>
      obtain ⟨rfl, hb3⟩ := hcut
      have hT3 := hT.on hb3
      have hR3 := hR.on hb3
      have hB3 := hB.trans (hb3.mono hB.size)
      have ho3 := ho1.below hb3 (Nat.le_refl _)
      clear hT hR hB ho1 b0 b1 b2 b3 b4 b5 b6 b7 b8 b9 b10 cT hb3 hLc
      cases hr : ready l t with
      | false =>
        have HST : Hid (stepL l t = (l, t)) := by show _ = _; unfold stepL; rw [hr]; rfl
        obtain ⟨b0, b1, b2, b3, b4, b5, b6, b7, b8, b9, b10⟩ := hT3.cells
        obtain ⟨r0, r1, r2, r3, r4, r5, r6, r7, r8, r9, r10⟩ := hR3.cells
        dsimp only [Tk.zero] at r0 r1 r2 r3 r4 r5 r6 r7 r8 r9 r10
        have z0 := hR3.thaw 0
        have z1 := hR3.thaw 1
        have z2 := hR3.thaw 2
        have z3 := hR3.thaw 3
        have z4 := hR3.thaw 4
        have z5 := hR3.thaw 5
        have z6 := hR3.thaw 6
        have z7 := hR3.thaw 7
        have z8 := hR3.thaw 8
        have z9 := hR3.thaw 9
        have z10 := hR3.thaw 10
        have HA : Hid (TBox wc (w.heap.size + 1) Tk.zero ∧ Below w.heap.size w wc ∧ OwnV wc w.heap.size 3 u6 (ints l)) := ⟨hR3, hB3, ho3⟩
        clear hT3 hR3 hB3 ho3
        go_wp2
        go_still_tail 3, (by kernel_rfl)
        go_wp2
        obtain ⟨hR3, hB3, ho3⟩ := HA.out
        clear b0 b1 b2 b3 b4 b5 b6 b7 b8 b9 b10 r0 r1 r2 r3 r4 r5 r6 r7 r8 r9 r10 z0 z1 z2 z3 z4 z5 z6 z7 z8 z9 z10
        have hbd : ∀ x : World, Below x.heap.size x x.drew := fun x => ⟨rfl, rfl, rfl, Nat.le_refl _, fun _ _ => rfl⟩
        obtain ⟨s0, s1, s2, s3, s4, s5, s6, s7, s8, s9, s10⟩ := ((put11_box hR3 t).on (hbd _)).cells
        unfold put11 at s0 s1 s2 s3 s4 s5 s6 s7 s8 s9 s10
        have HF : Hid (OwnV (put11 wc (w.heap.size + 1) t).drew w.heap.size 3 u6 (ints l) ∧ Below w.heap.size w (put11 wc (w.heap.size + 1) t).drew) := by
          refine ⟨(ho3.kept fun k hk => put11_other _ _ _ (Nat.ne_of_gt (HO.out k hk))).below (hbd _) (Nat.le_refl _), ?_⟩
          have h1 := put11_below hB3 (Nat.le_succ _) t
          exact h1.trans ((hbd _).mono h1.size)
        unfold put11 at HF
        refine bodyPost_ret (v := .tuple #[u6, .agg #[.int .i64 t.kind, .int .i64 t.key, .int .i64 t.val, .int .i64 t.node, .int .i64 t.pc, .int .i64 t.prev, .int .i64 t.cur, .int .i64 t.next, .int .i64 t.mark, .bool t.done, .int .i64 t.ans]]) (by simp [results, Try.results32, go_sem, s0, s1, s2, s3, s4, s5, s6, s7, s8, s9, s10]) rfl ?_
        rw [HST.out]
        exact ⟨u6, rfl, HF.out.1, HF.out.2⟩
      | true =>
        have hr2 := hr
        unfold ready at hr2
        simp only [Bool.and_eq_true, Bool.not_eq_true', decide_eq_true_eq] at hr2
        obtain ⟨_, hok, h63, hokl⟩ := hr2
        obtain ⟨M, s, hMs⟩ : ∃ M s, goL l t = (M, s) := ⟨_, _, rfl⟩
        have HST : Hid (stepL l t = (M, s)) := by show _ = _; unfold stepL; rw [hr]; exact hMs
        obtain ⟨g, cp, hu6, HO2⟩ : ∃ g cp, u6 = .slice (some ⟨g, 0, none⟩) 63 cp ∧ Hid (∀ k, (Value.slice (some ⟨g, 0, none⟩) 63 cp).ownBlock = some k → w.heap.size + 1 < k) := by
          obtain ⟨av, cv, hv, hc⟩ := ho3.shape
          rw [ints_length, h63] at hv
          obtain ⟨g, ha, _⟩ := hc 0 (by rw [ints_length]; omega)
          subst ha
          exact ⟨g, cv, hv, by rw [← hv]; exact HO.out⟩
        subst hu6
        have hg1 : w.heap.size + 1 < g := HO2.out g rfl
        have hLT : LT w wc g cp l w.heap.size t wc := ⟨ho3, hT3, Nat.le_refl _, hB3, fun _ _ _ _ => rfl, Nat.le_refl _⟩
        have c5 := l06Step_any hLT hok hokl
        rw [hMs] at c5
        dsimp only at c5
        have HR3 : Hid (TBox wc (w.heap.size + 1) Tk.zero) := hR3
        clear hLT hT3 hR3 hB3 ho3 hr hok h63 hokl hMs HO
        go_wp2_with fail
        refine c5.mono ?_
        rintro e w5 ⟨rfl, hL5⟩
        have hT5 := hL5.box
        have hR5 : TBox w5 (w.heap.size + 1) Tk.zero := HR3.out.kept (hL5.keep _ HR3.out.lt (by omega) (by omega))
        have hB5 := hL5.bel
        have ho5 := hL5.own
        clear c5 hL5 HR3 hg1
        obtain ⟨b0, b1, b2, b3, b4, b5, b6, b7, b8, b9, b10⟩ := hT5.cells
        obtain ⟨r0, r1, r2, r3, r4, r5, r6, r7, r8, r9, r10⟩ := hR5.cells
        dsimp only [Tk.zero] at r0 r1 r2 r3 r4 r5 r6 r7 r8 r9 r10
        have z0 := hR5.thaw 0
        have z1 := hR5.thaw 1
        have z2 := hR5.thaw 2
        have z3 := hR5.thaw 3
        have z4 := hR5.thaw 4
        have z5 := hR5.thaw 5
        have z6 := hR5.thaw 6
        have z7 := hR5.thaw 7
        have z8 := hR5.thaw 8
        have z9 := hR5.thaw 9
        have z10 := hR5.thaw 10
        have HA : Hid (TBox w5 (w.heap.size + 1) Tk.zero ∧ Below w.heap.size w w5 ∧ OwnV w5 w.heap.size 3 (.slice (some ⟨g, 0, none⟩) 63 cp) (ints M)) := ⟨hR5, hB5, ho5⟩
        clear hT5 hR5 hB5 ho5
        go_wp2
        go_still_tail 3, (by kernel_rfl)
        go_wp2
        obtain ⟨hR3, hB3, ho3⟩ := HA.out
        clear b0 b1 b2 b3 b4 b5 b6 b7 b8 b9 b10 r0 r1 r2 r3 r4 r5 r6 r7 r8 r9 r10 z0 z1 z2 z3 z4 z5 z6 z7 z8 z9 z10
        have hbd : ∀ x : World, Below x.heap.size x x.drew := fun x => ⟨rfl, rfl, rfl, Nat.le_refl _, fun _ _ => rfl⟩
        obtain ⟨s0, s1, s2, s3, s4, s5, s6, s7, s8, s9, s10⟩ := ((put11_box hR3 s).on (hbd _)).cells
        unfold put11 at s0 s1 s2 s3 s4 s5 s6 s7 s8 s9 s10
        have HF : Hid (OwnV (put11 w5 (w.heap.size + 1) s).drew w.heap.size 3 (.slice (some ⟨g, 0, none⟩) 63 cp) (ints M) ∧ Below w.heap.size w (put11 w5 (w.heap.size + 1) s).drew) := by
          refine ⟨(ho3.kept fun k hk => put11_other _ _ _ (Nat.ne_of_gt (HO2.out k hk))).below (hbd _) (Nat.le_refl _), ?_⟩
          have h1 := put11_below hB3 (Nat.le_succ _) s
          exact h1.trans ((hbd _).mono h1.size)
        unfold put11 at HF
        refine bodyPost_ret (v := .tuple #[.slice (some ⟨g, 0, none⟩) 63 cp, .agg #[.int .i64 s.kind, .int .i64 s.key, .int .i64 s.val, .int .i64 s.node, .int .i64 s.pc, .int .i64 s.prev, .int .i64 s.cur, .int .i64 s.next, .int .i64 s.mark, .bool s.done, .int .i64 s.ans]]) (by simp [results, Try.results32, go_sem, s0, s1, s2, s3, s4, s5, s6, s7, s8, s9, s10]) rfl ?_
        rw [HST.out]
        exact ⟨.slice (some ⟨g, 0, none⟩) 63 cp, rfl, HF.out.1, HF.out.2⟩
end Go.Proofs.Ytockgojdmaladab
