/- Texts that stand in one: PartOfS, PolSizes, PartOfR. -/
import Derived.Test.YtcaakommnglnbaaGreatDoorSpecOpenJ
import Derived.Test.YtcaakommnglnbaaGreatDoorStmOkSpecJ
import Derived.Test.YtcaakommnglnbaaGreatDoorL16Copy
import Derived.Test.YtcaakommnglnbaaGreatDoorMarkTextJ
namespace Go.Proofs.YtcaakommnglnbaaGreatDoor
open Go.RowKit Go.Sort
/-- The fetch at this place gets a part: the other text's. -/
def partS (R : Prx) (z : Int) (part : ByteArray) : Prx × Bool :=
  if openB R z = true then
    if (putM (stmOf (fetAt R z.toNat)) part).2 = true then (⟨R.now, R.ents, R.pol, R.fes.set z.toNat ((fetAt R z.toNat).w_tx (putM (stmOf (fetAt R z.toNat)) part).1.text), tellX R.cls z.toNat (fun c => (c.w_got (putM (stmOf (fetAt R z.toNat)) part).1.text).w_st 1), R.hits⟩, true) else (R, false)
  else (R, false)
theorem partS_eq (R : Prx) (z : Int) (part : ByteArray) : partS R z part = partR R z part := by
  unfold partS partR openB
  cases ht : turnB R z with
  | false => rfl
  | true =>
    obtain ⟨f, hf⟩ : ∃ f, fetAt R z.toNat = f := ⟨_, rfl⟩
    unfold partP
    rw [hf]
    by_cases h1 : f.st = 1
    · rw [show (f.st == 1) = true by simp [h1]]
      cases h2 : (putM (stmOf f) part).2 with
      | false => rfl
      | true =>
        have e1 : (putM (stmOf f) part).1.st = f.st := by
          unfold putM
          split <;> rfl
        have e2 : ∀ t, (fun c : Cli => (c.w_got t).w_st 1) = fun c => (c.w_got t).w_st 1 := fun t => rfl
        simp only [Bool.and_self, if_true]
        rw [e1]
        have e3 : tellX R.cls z.toNat (fun c => (c.w_got (putM (stmOf f) part).1.text).w_st 1) = tellX R.cls z.toNat (fun c => c.w_got (putM (stmOf f) part).1.text) := by
          unfold tellX
          refine List.map_congr_left fun c _ => ?_
          unfold tellF
          by_cases hw : waitsB z.toNat c = true
          · rw [if_pos hw, if_pos hw]
            have hst : c.st = 1 := by unfold waitsB at hw; rw [Bool.and_eq_true, beq_iff_eq] at hw; exact hw.1
            show (⟨c.id, c.key, c.fe, c.fr, 1, (putM (stmOf f) part).1.text, c.ag⟩ : Cli) = ⟨c.id, c.key, c.fe, c.fr, c.st, (putM (stmOf f) part).1.text, c.ag⟩
            rw [hst]
          · rw [if_neg hw, if_neg hw]
        rw [e3]
        rfl
    · rw [show (f.st == 1) = false by simp [h1]]
      have e2 : (putM (stmOf f) part).2 = false := by
        unfold putM stmOf
        rw [if_neg]
        intro h
        simp only [Bool.and_eq_true, decide_eq_true_eq] at h
        exact h1 h.1.1.2
      rw [e2]
      rfl
set_option maxRecDepth 100000 in
set_option maxHeartbeats 8000000 in
theorem specPartOf_any (w : World) (X : Pc) (R : Prx) (z : Int) (part : ByteArray) (hA : PxAt w X R w.heap.size) (hsz : PxSz R) (hz : (Lit.int .i64 z).wf = true) (hp : part.size ≤ 1048576) :
    Calls Tryz.prog 5 #[.agg #[.int .i64 R.now, X.e, X.w, X.m, X.k, .int .i64 R.pol.sk.added, X.f, X.c, .int .i64 R.hits], .int .i64 z, .string part] w fun e w' => ∃ Y : Pc, e = .returned (.tuple #[.agg #[.int .i64 (partS R z part).1.now, Y.e, Y.w, Y.m, Y.k, .int .i64 (partS R z part).1.pol.sk.added, Y.f, Y.c, .int .i64 (partS R z part).1.hits], .bool (partS R z part).2]) ∧ PxOwn w' w.heap.size w'.heap.size Y (partS R z part).1 ∧ Below w.heap.size w w' := by
  obtain ⟨e0, e1, p0, p1, m0, m1, k0, k1, f0, f1, c0, c1, rfl⟩ := hA.slices
  dsimp only
  obtain ⟨_, _, hl1, hl2⟩ := hsz.parts
  obtain ⟨A, hAA⟩ : ∃ A, w.heap.size = A := ⟨_, rfl⟩
  obtain ⟨w0, hw0⟩ : ∃ x, w.alloc (.cells #[.int .i64 R.now, .slice e0 R.ents.length e1, .slice p0 R.pol.win.length p1, .slice m0 R.pol.main.length m1, .slice k0 R.pol.sk.rows.length k1, .int .i64 R.pol.sk.added, .slice f0 R.fes.length f1, .slice c0 R.cls.length c1, .int .i64 R.hits] 41) = x := ⟨_, rfl⟩
  obtain ⟨w1, hw1⟩ : ∃ x, w0.alloc (.cells #[.int .i64 0, .slice none 0 0, .slice none 0 0, .slice none 0 0, .slice none 0 0, .int .i64 0, .slice none 0 0, .slice none 0 0, .int .i64 0] 41) = x := ⟨_, rfl⟩
  have hb0 : Below w.heap.size w w0 := by rw [← hw0]; exact (Below.refl _ _).alloc (Nat.le_refl _) _
  have hb01 : Below w0.heap.size w0 w1 := by rw [← hw1]; exact (Below.refl _ _).alloc (Nat.le_refl _) _
  have s0 : w0.heap.size = A + 1 := by rw [← hw0]; simp [hAA]
  have s1 : w1.heap.size = A + 2 := by rw [← hw1]; simp; omega
  have hb1 : Below w.heap.size w w1 := hb0.trans (hb01.mono hb0.size)
  have hB : NB w1 A 41 (.int .i64 R.now) (.slice e0 R.ents.length e1) (.slice p0 R.pol.win.length p1) (.slice m0 R.pol.main.length m1) (.slice k0 R.pol.sk.rows.length k1) (.int .i64 R.pol.sk.added) (.slice f0 R.fes.length f1) (.slice c0 R.cls.length c1) (.int .i64 R.hits) := by
    have h : NB w0 A 41 (.int .i64 R.now) (.slice e0 R.ents.length e1) (.slice p0 R.pol.win.length p1) (.slice m0 R.pol.main.length m1) (.slice k0 R.pol.sk.rows.length k1) (.int .i64 R.pol.sk.added) (.slice f0 R.fes.length f1) (.slice c0 R.cls.length c1) (.int .i64 R.hits) := by rw [← hw0, ← hAA]; exact NB.new _ _ _ _ _ _ _ _ _ _ _
    exact h.on hb01
  have hR : NB w1 (A + 1) 41 (.int .i64 0) (.slice none 0 0) (.slice none 0 0) (.slice none 0 0) (.slice none 0 0) (.int .i64 0) (.slice none 0 0) (.slice none 0 0) (.int .i64 0) := by rw [← hw1, ← s0]; exact NB.new _ _ _ _ _ _ _ _ _ _ _
  have HW : Hid ((w.alloc (.cells #[.int .i64 R.now, .slice e0 R.ents.length e1, .slice p0 R.pol.win.length p1, .slice m0 R.pol.main.length m1, .slice k0 R.pol.sk.rows.length k1, .int .i64 R.pol.sk.added, .slice f0 R.fes.length f1, .slice c0 R.cls.length c1, .int .i64 R.hits] 41)).alloc (.cells #[.int .i64 0, .slice none 0 0, .slice none 0 0, .slice none 0 0, .slice none 0 0, .int .i64 0, .slice none 0 0, .slice none 0 0, .int .i64 0] 41) = w1) := by show _ = _; rw [hw0]; exact hw1
  have HI : Hid (∀ W, Below w1.heap.size w1 W → NB W A 41 (.int .i64 R.now) (.slice e0 R.ents.length e1) (.slice p0 R.pol.win.length p1) (.slice m0 R.pol.main.length m1) (.slice k0 R.pol.sk.rows.length k1) (.int .i64 R.pol.sk.added) (.slice f0 R.fes.length f1) (.slice c0 R.cls.length c1) (.int .i64 R.hits) ∧ NB W (A + 1) 41 (.int .i64 0) (.slice none 0 0) (.slice none 0 0) (.slice none 0 0) (.slice none 0 0) (.int .i64 0) (.slice none 0 0) (.slice none 0 0) (.int .i64 0) ∧ PxAt W ⟨.slice e0 R.ents.length e1, .slice p0 R.pol.win.length p1, .slice m0 R.pol.main.length m1, .slice k0 R.pol.sk.rows.length k1, .slice f0 R.fes.length f1, .slice c0 R.cls.length c1⟩ R W.heap.size ∧ Below A w W ∧ A + 2 ≤ W.heap.size) := fun W h => ⟨hB.on h, hR.on h, (hA.on hb1).on h, by rw [← hAA]; exact hb1.trans (h.mono hb1.size), by have := h.size; omega⟩
  have HSZ : Hid (PxSz R) := hsz
  have HL : Hid (R.fes.length ≤ 1048576 ∧ R.cls.length ≤ 1048576 ∧ w.heap.size = A ∧ w1.heap.size = A + 2) := ⟨hl1, hl2, hAA, s1⟩
  have cH := l16Copy_any w1 ⟨.slice e0 R.ents.length e1, .slice p0 R.pol.win.length p1, .slice m0 R.pol.main.length m1, .slice k0 R.pol.sk.rows.length k1, .slice f0 R.fes.length f1, .slice c0 R.cls.length c1⟩ R (hA.on hb1) hsz
  dsimp only at cH
  obtain ⟨b0, b1, b2, b3, b4, b5, b6, b7, b8⟩ := hB.cells
  rw [← hw1, ← hw0] at b0 b1 b2 b3 b4 b5 b6 b7 b8
  clear hw0 hw1 hb0 hb01 s0 hb1 hB hR hA hsz s1
  go_enter Tryz.func5, Tryz.ntmps5
  go_wp2_with fail
  rw [HW.out] at b0 b1 b2 b3 b4 b5 b6 b7 b8 ⊢
  refine cH.mono ?_
  rintro e w2 ⟨Y, he, ho2, hb2⟩
  clear cH b0 b1 b2 b3 b4 b5 b6 b7 b8
  obtain ⟨ye0, ye1, yw0, yw1, ym0, ym1, yk0, yk1, yf0, yf1, yc0, yc1, rfl⟩ := ho2.slices
  dsimp only at he
  subst he
  obtain ⟨T, hT⟩ : ∃ T, w2.heap.size = T := ⟨_, rfl⟩
  obtain ⟨w3, hw3⟩ : ∃ x, w2.alloc (.cells #[.int .i64 R.now, .slice ye0 R.ents.length ye1, .slice yw0 R.pol.win.length yw1, .slice ym0 R.pol.main.length ym1, .slice yk0 R.pol.sk.rows.length yk1, .int .i64 R.pol.sk.added, .slice yf0 R.fes.length yf1, .slice yc0 R.cls.length yc1, .int .i64 R.hits] 41) = x := ⟨_, rfl⟩
  have hb3 : Below w2.heap.size w2 w3 := by rw [← hw3]; exact (Below.refl _ _).alloc (Nat.le_refl _) _
  have HV3 : Hid (PvAt w3 w1.heap.size T ⟨.slice ye0 R.ents.length ye1, .slice yw0 R.pol.win.length yw1, .slice ym0 R.pol.main.length ym1, .slice yk0 R.pol.sk.rows.length yk1, .slice yf0 R.fes.length yf1, .slice yc0 R.cls.length yc1⟩ R) := ⟨by rw [← hw3, ← hT]; exact NB.new _ _ _ _ _ _ _ _ _ _ _, (ho2.below hb3 (Nat.le_refl _)).up, by rw [← hT]; exact hb2.size⟩
  have HB3 : Hid (Below w1.heap.size w1 w3) := hb2.trans (hb3.mono hb2.size)
  have HW3 : Hid (w2.alloc (.cells #[.int .i64 R.now, .slice ye0 R.ents.length ye1, .slice yw0 R.pol.win.length yw1, .slice ym0 R.pol.main.length ym1, .slice yk0 R.pol.sk.rows.length yk1, .int .i64 R.pol.sk.added, .slice yf0 R.fes.length yf1, .slice yc0 R.cls.length yc1, .int .i64 R.hits] 41) = w3) := hw3
  have cO := l16Open_any w3 ⟨.slice e0 R.ents.length e1, .slice p0 R.pol.win.length p1, .slice m0 R.pol.main.length m1, .slice k0 R.pol.sk.rows.length k1, .slice f0 R.fes.length f1, .slice c0 R.cls.length c1⟩ R z (HI.out w3 HB3.out).2.2.1 HSZ.out hz
  dsimp only at cO
  obtain ⟨b0, b1, b2, b3, b4, b5, b6, b7, b8⟩ := (HI.out w3 HB3.out).1.cells
  obtain ⟨x1, hx1⟩ : ∃ b, openB R z = b := ⟨_, rfl⟩
  rw [hx1] at cO
  have HX1 : Hid (openB R z = x1) := hx1
  rw [← hw3] at b0 b1 b2 b3 b4 b5 b6 b7 b8
  clear hw3 hb3 ho2 hb2 hx1
  go_wp2_with fail
  rw [HW3.out] at b0 b1 b2 b3 b4 b5 b6 b7 b8 ⊢
  refine cO.mono ?_
  rintro e w4 ⟨rfl, hb4⟩
  clear cO b0 b1 b2 b3 b4 b5 b6 b7 b8
  have HV4 : Hid (PvAt w4 w1.heap.size T ⟨.slice ye0 R.ents.length ye1, .slice yw0 R.pol.win.length yw1, .slice ym0 R.pol.main.length ym1, .slice yk0 R.pol.sk.rows.length yk1, .slice yf0 R.fes.length yf1, .slice yc0 R.cls.length yc1⟩ R) := HV3.out.on hb4
  have HB4 : Hid (Below w1.heap.size w1 w4) := HB3.out.trans (hb4.mono HB3.out.size)
  clear hb4 HV3 HB3 HW3
  cases x1 with
  | false =>
    have HRR : Hid (partS R z part = (R, false)) := by show _ = _; unfold partS; rw [HX1.out]; rfl
    obtain ⟨g0, g1, g2, g3, g4, g5, g6, g7, g8⟩ := HV4.out.box.cells
    dsimp only at g1 g2 g3 g4 g6 g7
    obtain ⟨r0, r1, r2, r3, r4, r5, r6, r7, r8⟩ := (HI.out w4 HB4.out).2.1.cells
    have t0 := (HI.out w4 HB4.out).2.1.thaw 0
    have t1 := (HI.out w4 HB4.out).2.1.thaw 1
    have t2 := (HI.out w4 HB4.out).2.1.thaw 2
    have t3 := (HI.out w4 HB4.out).2.1.thaw 3
    have t4 := (HI.out w4 HB4.out).2.1.thaw 4
    have t5 := (HI.out w4 HB4.out).2.1.thaw 5
    have t6 := (HI.out w4 HB4.out).2.1.thaw 6
    have t7 := (HI.out w4 HB4.out).2.1.thaw 7
    have t8 := (HI.out w4 HB4.out).2.1.thaw 8
    have HQ : Hid (NB (((((((((w4.setCell ⟨A + 1, 0, none⟩ (.int .i64 R.now)).setCell ⟨A + 1, 1, none⟩ (.slice ye0 R.ents.length ye1)).setCell ⟨A + 1, 2, none⟩ (.slice yw0 R.pol.win.length yw1)).setCell ⟨A + 1, 3, none⟩ (.slice ym0 R.pol.main.length ym1)).setCell ⟨A + 1, 4, none⟩ (.slice yk0 R.pol.sk.rows.length yk1)).setCell ⟨A + 1, 5, none⟩ (.int .i64 R.pol.sk.added)).setCell ⟨A + 1, 6, none⟩ (.slice yf0 R.fes.length yf1)).setCell ⟨A + 1, 7, none⟩ (.slice yc0 R.cls.length yc1)).setCell ⟨A + 1, 8, none⟩ (.int .i64 R.hits)) (A + 1) 41 (.int .i64 R.now) (.slice ye0 R.ents.length ye1) (.slice yw0 R.pol.win.length yw1) (.slice ym0 R.pol.main.length ym1) (.slice yk0 R.pol.sk.rows.length yk1) (.int .i64 R.pol.sk.added) (.slice yf0 R.fes.length yf1) (.slice yc0 R.cls.length yc1) (.int .i64 R.hits)) := (HI.out w4 HB4.out).2.1.put _ _ _ _ _ _ _ _ _
    have HOQ : Hid (PxOwn (((((((((w4.setCell ⟨A + 1, 0, none⟩ (.int .i64 R.now)).setCell ⟨A + 1, 1, none⟩ (.slice ye0 R.ents.length ye1)).setCell ⟨A + 1, 2, none⟩ (.slice yw0 R.pol.win.length yw1)).setCell ⟨A + 1, 3, none⟩ (.slice ym0 R.pol.main.length ym1)).setCell ⟨A + 1, 4, none⟩ (.slice yk0 R.pol.sk.rows.length yk1)).setCell ⟨A + 1, 5, none⟩ (.int .i64 R.pol.sk.added)).setCell ⟨A + 1, 6, none⟩ (.slice yf0 R.fes.length yf1)).setCell ⟨A + 1, 7, none⟩ (.slice yc0 R.cls.length yc1)).setCell ⟨A + 1, 8, none⟩ (.int .i64 R.hits)) w1.heap.size (((((((((w4.setCell ⟨A + 1, 0, none⟩ (.int .i64 R.now)).setCell ⟨A + 1, 1, none⟩ (.slice ye0 R.ents.length ye1)).setCell ⟨A + 1, 2, none⟩ (.slice yw0 R.pol.win.length yw1)).setCell ⟨A + 1, 3, none⟩ (.slice ym0 R.pol.main.length ym1)).setCell ⟨A + 1, 4, none⟩ (.slice yk0 R.pol.sk.rows.length yk1)).setCell ⟨A + 1, 5, none⟩ (.int .i64 R.pol.sk.added)).setCell ⟨A + 1, 6, none⟩ (.slice yf0 R.fes.length yf1)).setCell ⟨A + 1, 7, none⟩ (.slice yc0 R.cls.length yc1)).setCell ⟨A + 1, 8, none⟩ (.int .i64 R.hits)).heap.size ⟨.slice ye0 R.ents.length ye1, .slice yw0 R.pol.win.length yw1, .slice ym0 R.pol.main.length ym1, .slice yk0 R.pol.sk.rows.length yk1, .slice yf0 R.fes.length yf1, .slice yc0 R.cls.length yc1⟩ R) := ((HV4.out.own).box (HI.out w4 HB4.out).2.1 (by unfold PxT; decide) (fun j hj => put9_other w4 (A + 1) _ _ _ _ _ _ _ _ _ j hj)).up
    have HBQ : Hid (Below A w (((((((((w4.setCell ⟨A + 1, 0, none⟩ (.int .i64 R.now)).setCell ⟨A + 1, 1, none⟩ (.slice ye0 R.ents.length ye1)).setCell ⟨A + 1, 2, none⟩ (.slice yw0 R.pol.win.length yw1)).setCell ⟨A + 1, 3, none⟩ (.slice ym0 R.pol.main.length ym1)).setCell ⟨A + 1, 4, none⟩ (.slice yk0 R.pol.sk.rows.length yk1)).setCell ⟨A + 1, 5, none⟩ (.int .i64 R.pol.sk.added)).setCell ⟨A + 1, 6, none⟩ (.slice yf0 R.fes.length yf1)).setCell ⟨A + 1, 7, none⟩ (.slice yc0 R.cls.length yc1)).setCell ⟨A + 1, 8, none⟩ (.int .i64 R.hits))) := Below.put9 (HI.out w4 HB4.out).2.2.2.1 (T := A + 1) (by omega) _ _ _ _ _ _ _ _ _
    clear HV4 HB4
    go_wp2_with fail
    obtain ⟨q0, q1, q2, q3, q4, q5, q6, q7, q8⟩ := HQ.out.cells
    refine bodyPost_ret (v := .tuple #[.agg #[.int .i64 R.now, .slice ye0 R.ents.length ye1, .slice yw0 R.pol.win.length yw1, .slice ym0 R.pol.main.length ym1, .slice yk0 R.pol.sk.rows.length yk1, .int .i64 R.pol.sk.added, .slice yf0 R.fes.length yf1, .slice yc0 R.cls.length yc1, .int .i64 R.hits], .bool false]) (by simp [results, Tryz.results5, go_sem, q0, q1, q2, q3, q4, q5, q6, q7, q8]) rfl ?_
    rw [HRR.out]
    refine ⟨⟨.slice ye0 R.ents.length ye1, .slice yw0 R.pol.win.length yw1, .slice ym0 R.pol.main.length ym1, .slice yk0 R.pol.sk.rows.length yk1, .slice yf0 R.fes.length yf1, .slice yc0 R.cls.length yc1⟩, rfl, HOQ.out.mono (by have := HL.out; omega) (Nat.le_refl _), ?_⟩
    rw [HL.out.2.2.1]
    exact HBQ.out
  | true =>
    have hop := HX1.out
    have hop2 : turnB R z = true ∧ (fetAt R z.toNat).st = 1 := by
      unfold openB at hop
      rw [Bool.and_eq_true, beq_iff_eq] at hop
      exact hop
    have hzk : 0 ≤ z ∧ z < (R.fes.length : Int) := by
      have h := hop2.1
      unfold turnB at h
      rw [Bool.and_eq_true, Bool.and_eq_true, decide_eq_true_eq, decide_eq_true_eq] at h
      exact h.2
    obtain ⟨k, rfl⟩ : ∃ k : Nat, z = (k : Int) := ⟨z.toNat, by omega⟩
    rw [Int.toNat_natCast] at hop2
    have hk : k < R.fes.length := by omega
    obtain ⟨f, hf⟩ : ∃ f, fetAt R k = f := ⟨_, rfl⟩
    have hfk : R.fes[k] = f := by rw [← hf]; unfold fetAt; rw [getD_of hk]
    have hfs : f.tx.size ≤ 1048576 := by rw [← hf]; exact fet_sz HSZ.out k
    have HTB : Hid (turnB R (k : Int) = true) := hop2.1
    have HST : Hid (f.st = 1) := by show _ = _; rw [← hf]; exact hop2.2
    have HF : Hid (fetAt R k = f) := hf
    have HFK : Hid (∀ (h : k < R.fes.length), R.fes[k] = f) := fun h => hfk
    have hi1 : (0 : Int) ≤ (k : Int) := by omega
    have hi3 : (k : Int) < (R.fes.length : Int) := by omega
    obtain ⟨gg, off, hga, hgl0, q0, q1, q2, hgr0⟩ := FetV.at' (HI.out w4 HB4.out).2.2.1.f k hk
    rw [hfk] at q1
    clear hgl0 hgr0 q0 q2
    obtain ⟨b0, b1, b2, b3, b4, b5, b6, b7, b8⟩ := (HI.out w4 HB4.out).1.cells
    have cP := specStreamPut_any w4 none 0 ⟨1, f.tx, []⟩ part (fun j hj => absurd hj (Nat.not_lt_zero _)) hfs (by simp) hp
    dsimp only at cP
    obtain ⟨S', hS'⟩ : ∃ S, putM ⟨1, f.tx, []⟩ part = S := ⟨_, rfl⟩
    have HPS : Hid (S'.1.text.size ≤ 1048576) := by show _ ≤ _; rw [← hS']; exact putM_size _ _ hfs
    have HS' : Hid (putM (stmOf f) part = S') := by show _ = _; unfold stmOf; rw [HST.out]; exact hS'
    rw [hS'] at cP
    have HKL : Hid (k < R.fes.length) := hk
    subst hga
    clear hf hfk hfs hk hS' hop hop2 hzk
    go_wp2_with fail
    refine cP.mono ?_
    rintro e w5 ⟨v, rfl, ho5, hb5⟩
    obtain ⟨a2, c2, rfl, _⟩ := ho5.at
    clear cP b0 b1 b2 b3 b4 b5 b6 b7 b8 q1
    obtain ⟨n2, hn2⟩ : ∃ n, S'.1.rd.length = n := ⟨_, rfl⟩
    rw [hn2]
    obtain ⟨w6, hw6⟩ : ∃ x, w5.alloc (.cells #[.int .i64 S'.1.st, .string S'.1.text, .slice a2 n2 c2] 56) = x := ⟨_, rfl⟩
    have hb6 : Below w5.heap.size w5 w6 := by rw [← hw6]; exact (Below.refl _ _).alloc (Nat.le_refl _) _
    have hb46 : Below w4.heap.size w4 w6 := hb5.trans (hb6.mono hb5.size)
    have HV6 : Hid (PvAt w6 w1.heap.size T ⟨.slice ye0 R.ents.length ye1, .slice yw0 R.pol.win.length yw1, .slice ym0 R.pol.main.length ym1, .slice yk0 R.pol.sk.rows.length yk1, .slice yf0 R.fes.length yf1, .slice yc0 R.cls.length yc1⟩ R) := HV4.out.on hb46
    have HB6 : Hid (Below w1.heap.size w1 w6) := HB4.out.trans (hb46.mono HB4.out.size)
    have HW6 : Hid (w5.alloc (.cells #[.int .i64 S'.1.st, .string S'.1.text, .slice a2 n2 c2] 56) = w6) := hw6
    have n1 : w6.cell? ⟨w5.heap.size, 1, none⟩ = some (.string S'.1.text) := stmCell1 (by rw [← hw6]; exact heap_alloc_new w5 _)
    have HN1 : Hid (w6.heap[w5.heap.size]? = some (.cells #[.int .i64 S'.1.st, .string S'.1.text, .slice a2 n2 c2] 56 (0, 0))) := by show _ = _; rw [← hw6]; exact heap_alloc_new w5 _
    clear hw6 hb6 hb46 hb5 ho5 hn2 HV4 HB4
    obtain ⟨bo, hbo⟩ : ∃ b, S'.2 = b := ⟨_, rfl⟩
    rw [hbo]
    have HBO : Hid (S'.2 = bo) := hbo
    clear hbo
    cases bo with
    | false =>
      obtain ⟨g0, g1, g2, g3, g4, g5, g6, g7, g8⟩ := HV6.out.box.cells
      dsimp only at g1 g2 g3 g4 g6 g7
      have HRR : Hid (partS R (k : Int) part = (R, false)) := by show _ = _; unfold partS; rw [HX1.out, Int.toNat_natCast, HF.out, HS'.out, HBO.out]; rfl
      obtain ⟨r0, r1, r2, r3, r4, r5, r6, r7, r8⟩ := (HI.out w6 HB6.out).2.1.cells
      have t0 := (HI.out w6 HB6.out).2.1.thaw 0
      have t1 := (HI.out w6 HB6.out).2.1.thaw 1
      have t2 := (HI.out w6 HB6.out).2.1.thaw 2
      have t3 := (HI.out w6 HB6.out).2.1.thaw 3
      have t4 := (HI.out w6 HB6.out).2.1.thaw 4
      have t5 := (HI.out w6 HB6.out).2.1.thaw 5
      have t6 := (HI.out w6 HB6.out).2.1.thaw 6
      have t7 := (HI.out w6 HB6.out).2.1.thaw 7
      have t8 := (HI.out w6 HB6.out).2.1.thaw 8
      have HQ : Hid (NB (((((((((w6.setCell ⟨A + 1, 0, none⟩ (.int .i64 R.now)).setCell ⟨A + 1, 1, none⟩ (.slice ye0 R.ents.length ye1)).setCell ⟨A + 1, 2, none⟩ (.slice yw0 R.pol.win.length yw1)).setCell ⟨A + 1, 3, none⟩ (.slice ym0 R.pol.main.length ym1)).setCell ⟨A + 1, 4, none⟩ (.slice yk0 R.pol.sk.rows.length yk1)).setCell ⟨A + 1, 5, none⟩ (.int .i64 R.pol.sk.added)).setCell ⟨A + 1, 6, none⟩ (.slice yf0 R.fes.length yf1)).setCell ⟨A + 1, 7, none⟩ (.slice yc0 R.cls.length yc1)).setCell ⟨A + 1, 8, none⟩ (.int .i64 R.hits)) (A + 1) 41 (.int .i64 R.now) (.slice ye0 R.ents.length ye1) (.slice yw0 R.pol.win.length yw1) (.slice ym0 R.pol.main.length ym1) (.slice yk0 R.pol.sk.rows.length yk1) (.int .i64 R.pol.sk.added) (.slice yf0 R.fes.length yf1) (.slice yc0 R.cls.length yc1) (.int .i64 R.hits)) := (HI.out w6 HB6.out).2.1.put _ _ _ _ _ _ _ _ _
      have HOQ : Hid (PxOwn (((((((((w6.setCell ⟨A + 1, 0, none⟩ (.int .i64 R.now)).setCell ⟨A + 1, 1, none⟩ (.slice ye0 R.ents.length ye1)).setCell ⟨A + 1, 2, none⟩ (.slice yw0 R.pol.win.length yw1)).setCell ⟨A + 1, 3, none⟩ (.slice ym0 R.pol.main.length ym1)).setCell ⟨A + 1, 4, none⟩ (.slice yk0 R.pol.sk.rows.length yk1)).setCell ⟨A + 1, 5, none⟩ (.int .i64 R.pol.sk.added)).setCell ⟨A + 1, 6, none⟩ (.slice yf0 R.fes.length yf1)).setCell ⟨A + 1, 7, none⟩ (.slice yc0 R.cls.length yc1)).setCell ⟨A + 1, 8, none⟩ (.int .i64 R.hits)) w1.heap.size (((((((((w6.setCell ⟨A + 1, 0, none⟩ (.int .i64 R.now)).setCell ⟨A + 1, 1, none⟩ (.slice ye0 R.ents.length ye1)).setCell ⟨A + 1, 2, none⟩ (.slice yw0 R.pol.win.length yw1)).setCell ⟨A + 1, 3, none⟩ (.slice ym0 R.pol.main.length ym1)).setCell ⟨A + 1, 4, none⟩ (.slice yk0 R.pol.sk.rows.length yk1)).setCell ⟨A + 1, 5, none⟩ (.int .i64 R.pol.sk.added)).setCell ⟨A + 1, 6, none⟩ (.slice yf0 R.fes.length yf1)).setCell ⟨A + 1, 7, none⟩ (.slice yc0 R.cls.length yc1)).setCell ⟨A + 1, 8, none⟩ (.int .i64 R.hits)).heap.size ⟨.slice ye0 R.ents.length ye1, .slice yw0 R.pol.win.length yw1, .slice ym0 R.pol.main.length ym1, .slice yk0 R.pol.sk.rows.length yk1, .slice yf0 R.fes.length yf1, .slice yc0 R.cls.length yc1⟩ R) := ((HV6.out.own).box (HI.out w6 HB6.out).2.1 (by unfold PxT; decide) (fun j hj => put9_other w6 (A + 1) _ _ _ _ _ _ _ _ _ j hj)).up
      have HBQ : Hid (Below A w (((((((((w6.setCell ⟨A + 1, 0, none⟩ (.int .i64 R.now)).setCell ⟨A + 1, 1, none⟩ (.slice ye0 R.ents.length ye1)).setCell ⟨A + 1, 2, none⟩ (.slice yw0 R.pol.win.length yw1)).setCell ⟨A + 1, 3, none⟩ (.slice ym0 R.pol.main.length ym1)).setCell ⟨A + 1, 4, none⟩ (.slice yk0 R.pol.sk.rows.length yk1)).setCell ⟨A + 1, 5, none⟩ (.int .i64 R.pol.sk.added)).setCell ⟨A + 1, 6, none⟩ (.slice yf0 R.fes.length yf1)).setCell ⟨A + 1, 7, none⟩ (.slice yc0 R.cls.length yc1)).setCell ⟨A + 1, 8, none⟩ (.int .i64 R.hits))) := Below.put9 (HI.out w6 HB6.out).2.2.2.1 (T := A + 1) (by omega) _ _ _ _ _ _ _ _ _
      clear HV6 HB6
      rw [← HW6.out] at g0 g1 g2 g3 g4 g5 g6 g7 g8 r0 r1 r2 r3 r4 r5 r6 r7 r8 t0 t1 t2 t3 t4 t5 t6 t7 t8
      go_wp2_with fail
      rw [HW6.out]
      obtain ⟨q0, q1, q2, q3, q4, q5, q6, q7, q8⟩ := HQ.out.cells
      refine bodyPost_ret (v := .tuple #[.agg #[.int .i64 R.now, .slice ye0 R.ents.length ye1, .slice yw0 R.pol.win.length yw1, .slice ym0 R.pol.main.length ym1, .slice yk0 R.pol.sk.rows.length yk1, .int .i64 R.pol.sk.added, .slice yf0 R.fes.length yf1, .slice yc0 R.cls.length yc1, .int .i64 R.hits], .bool false]) (by simp [results, Tryz.results5, go_sem, q0, q1, q2, q3, q4, q5, q6, q7, q8]) rfl ?_
      rw [HRR.out]
      refine ⟨⟨.slice ye0 R.ents.length ye1, .slice yw0 R.pol.win.length yw1, .slice ym0 R.pol.main.length ym1, .slice yk0 R.pol.sk.rows.length yk1, .slice yf0 R.fes.length yf1, .slice yc0 R.cls.length yc1⟩, rfl, HOQ.out.mono (by have := HL.out; omega) (Nat.le_refl _), ?_⟩
      rw [HL.out.2.2.1]
      exact HBQ.out
    | true =>
      obtain ⟨g0, g1, g2, g3, g4, g5, g6, g7, g8⟩ := HV6.out.box.cells
      dsimp only at g1 g2 g3 g4 g6 g7
      have hof := HV6.out.own.f
      dsimp only at hof
      obtain ⟨GF, hGF, hGs, hGl⟩ := row5_addr hof (by have := HKL.out; omega)
      subst hGF
      obtain ⟨q0, q1, q2, q3, q4⟩ := hof.cellP k HKL.out
      have t1 := hof.thaw (k * 5 + 1)
      obtain ⟨H7, hB7⟩ := HV6.out.setFes (tch_setV (v := .slice (some ⟨GF, 0, none⟩) R.fes.length yf1) (G := GF) (i := k * 5 + 1) (u := .string S'.1.text) rfl (Tch.of_below (Below.refl w6.heap.size w6))) (hof.set_tx k HKL.out S'.1.text)
      have HV7 : Hid (PvAt (w6.setCell ⟨GF, k * 5 + 1, none⟩ (.string S'.1.text)) w1.heap.size T ⟨.slice ye0 R.ents.length ye1, .slice yw0 R.pol.win.length yw1, .slice ym0 R.pol.main.length ym1, .slice yk0 R.pol.sk.rows.length yk1, .slice (some ⟨GF, 0, none⟩) R.fes.length yf1, .slice yc0 R.cls.length yc1⟩ ⟨R.now, R.ents, R.pol, R.fes.set k (f.w_tx S'.1.text), R.cls, R.hits⟩) := by rw [← HFK.out HKL.out]; exact H7
      have HB7 : Hid (Below w1.heap.size w1 (w6.setCell ⟨GF, k * 5 + 1, none⟩ (.string S'.1.text))) := HB6.out.trans hB7
      rw [← HW6.out] at n1 g0 g1 g2 g3 g4 g5 g6 g7 g8 q0 q1 q2 q3 q4 t1
      obtain ⟨w7, hw7⟩ : ∃ x, w6.setCell ⟨GF, k * 5 + 1, none⟩ (.string S'.1.text) = x := ⟨_, rfl⟩
      rw [hw7] at HV7 HB7
      have HW7 : Hid (w6.setCell ⟨GF, k * 5 + 1, none⟩ (.string S'.1.text) = w7) := hw7
      have cT := l16Tell_any w7 w1.heap.size T ⟨.slice ye0 R.ents.length ye1, .slice yw0 R.pol.win.length yw1, .slice ym0 R.pol.main.length ym1, .slice yk0 R.pol.sk.rows.length yk1, .slice (some ⟨GF, 0, none⟩) R.fes.length yf1, .slice yc0 R.cls.length yc1⟩ ⟨R.now, R.ents, R.pol, R.fes.set k (f.w_tx S'.1.text), R.cls, R.hits⟩ k 1 HV7.out (by rw [List.length_set]; exact HKL.out) (by rw [List.length_set]; exact HL.out.1) HL.out.2.1
      rw [List.getElem_set_self] at cT
      clear hof hGs hGl H7 hB7 hw7 HV6 HB6
      go_wp2_with fail
      rw [HW6.out, HW7.out]
      refine cT.mono ?_
      rintro e w8 ⟨rfl, hV8, hb8⟩
      clear cT n1 g0 g1 g2 g3 g4 g5 g6 g7 g8 q0 q1 q2 q3 q4 t1 HV7
      obtain ⟨R', hR'⟩ : ∃ r, Prx.mk R.now R.ents R.pol (R.fes.set k (f.w_tx S'.1.text)) (tellX R.cls k (fun c => (c.w_got (f.w_tx S'.1.text).tx).w_st 1)) R.hits = r := ⟨_, rfl⟩
      have HR' : Hid (Prx.mk R.now R.ents R.pol (R.fes.set k (f.w_tx S'.1.text)) (tellX R.cls k (fun c => (c.w_got (f.w_tx S'.1.text).tx).w_st 1)) R.hits = R') := hR'
      have HV8 : Hid (PvAt w8 w1.heap.size T ⟨.slice ye0 R.ents.length ye1, .slice yw0 R.pol.win.length yw1, .slice ym0 R.pol.main.length ym1, .slice yk0 R.pol.sk.rows.length yk1, .slice (some ⟨GF, 0, none⟩) R.fes.length yf1, .slice yc0 R.cls.length yc1⟩ R') := by rw [← hR']; exact hV8
      have HB8 : Hid (Below w1.heap.size w1 w8) := HB7.out.trans hb8
      have HRE : Hid (partS R (k : Int) part = (R', true)) := by
        show _ = _
        unfold partS
        rw [HX1.out, Int.toNat_natCast, HF.out, HS'.out, HBO.out, ← HR'.out]
        rfl
      clear hV8 hb8 hR' HB7 HW7 HW6
      have HRR : Hid (partS R (k : Int) part = (R', true)) := by show _ = _; exact HRE.out
      obtain ⟨g0, g1, g2, g3, g4, g5, g6, g7, g8⟩ := HV8.out.box.cells
      dsimp only at g1 g2 g3 g4 g6 g7
      obtain ⟨r0, r1, r2, r3, r4, r5, r6, r7, r8⟩ := (HI.out w8 HB8.out).2.1.cells
      have t0 := (HI.out w8 HB8.out).2.1.thaw 0
      have t1 := (HI.out w8 HB8.out).2.1.thaw 1
      have t2 := (HI.out w8 HB8.out).2.1.thaw 2
      have t3 := (HI.out w8 HB8.out).2.1.thaw 3
      have t4 := (HI.out w8 HB8.out).2.1.thaw 4
      have t5 := (HI.out w8 HB8.out).2.1.thaw 5
      have t6 := (HI.out w8 HB8.out).2.1.thaw 6
      have t7 := (HI.out w8 HB8.out).2.1.thaw 7
      have t8 := (HI.out w8 HB8.out).2.1.thaw 8
      have HQ : Hid (NB (((((((((w8.setCell ⟨A + 1, 0, none⟩ (.int .i64 R'.now)).setCell ⟨A + 1, 1, none⟩ (.slice ye0 R.ents.length ye1)).setCell ⟨A + 1, 2, none⟩ (.slice yw0 R.pol.win.length yw1)).setCell ⟨A + 1, 3, none⟩ (.slice ym0 R.pol.main.length ym1)).setCell ⟨A + 1, 4, none⟩ (.slice yk0 R.pol.sk.rows.length yk1)).setCell ⟨A + 1, 5, none⟩ (.int .i64 R'.pol.sk.added)).setCell ⟨A + 1, 6, none⟩ (.slice (some ⟨GF, 0, none⟩) R.fes.length yf1)).setCell ⟨A + 1, 7, none⟩ (.slice yc0 R.cls.length yc1)).setCell ⟨A + 1, 8, none⟩ (.int .i64 R'.hits)) (A + 1) 41 (.int .i64 R'.now) (.slice ye0 R.ents.length ye1) (.slice yw0 R.pol.win.length yw1) (.slice ym0 R.pol.main.length ym1) (.slice yk0 R.pol.sk.rows.length yk1) (.int .i64 R'.pol.sk.added) (.slice (some ⟨GF, 0, none⟩) R.fes.length yf1) (.slice yc0 R.cls.length yc1) (.int .i64 R'.hits)) := (HI.out w8 HB8.out).2.1.put _ _ _ _ _ _ _ _ _
      have HOQ : Hid (PxOwn (((((((((w8.setCell ⟨A + 1, 0, none⟩ (.int .i64 R'.now)).setCell ⟨A + 1, 1, none⟩ (.slice ye0 R.ents.length ye1)).setCell ⟨A + 1, 2, none⟩ (.slice yw0 R.pol.win.length yw1)).setCell ⟨A + 1, 3, none⟩ (.slice ym0 R.pol.main.length ym1)).setCell ⟨A + 1, 4, none⟩ (.slice yk0 R.pol.sk.rows.length yk1)).setCell ⟨A + 1, 5, none⟩ (.int .i64 R'.pol.sk.added)).setCell ⟨A + 1, 6, none⟩ (.slice (some ⟨GF, 0, none⟩) R.fes.length yf1)).setCell ⟨A + 1, 7, none⟩ (.slice yc0 R.cls.length yc1)).setCell ⟨A + 1, 8, none⟩ (.int .i64 R'.hits)) w1.heap.size (((((((((w8.setCell ⟨A + 1, 0, none⟩ (.int .i64 R'.now)).setCell ⟨A + 1, 1, none⟩ (.slice ye0 R.ents.length ye1)).setCell ⟨A + 1, 2, none⟩ (.slice yw0 R.pol.win.length yw1)).setCell ⟨A + 1, 3, none⟩ (.slice ym0 R.pol.main.length ym1)).setCell ⟨A + 1, 4, none⟩ (.slice yk0 R.pol.sk.rows.length yk1)).setCell ⟨A + 1, 5, none⟩ (.int .i64 R'.pol.sk.added)).setCell ⟨A + 1, 6, none⟩ (.slice (some ⟨GF, 0, none⟩) R.fes.length yf1)).setCell ⟨A + 1, 7, none⟩ (.slice yc0 R.cls.length yc1)).setCell ⟨A + 1, 8, none⟩ (.int .i64 R'.hits)).heap.size ⟨.slice ye0 R.ents.length ye1, .slice yw0 R.pol.win.length yw1, .slice ym0 R.pol.main.length ym1, .slice yk0 R.pol.sk.rows.length yk1, .slice (some ⟨GF, 0, none⟩) R.fes.length yf1, .slice yc0 R.cls.length yc1⟩ R') := ((HV8.out.own).box (HI.out w8 HB8.out).2.1 (by unfold PxT; decide) (fun j hj => put9_other w8 (A + 1) _ _ _ _ _ _ _ _ _ j hj)).up
      have HBQ : Hid (Below A w (((((((((w8.setCell ⟨A + 1, 0, none⟩ (.int .i64 R'.now)).setCell ⟨A + 1, 1, none⟩ (.slice ye0 R.ents.length ye1)).setCell ⟨A + 1, 2, none⟩ (.slice yw0 R.pol.win.length yw1)).setCell ⟨A + 1, 3, none⟩ (.slice ym0 R.pol.main.length ym1)).setCell ⟨A + 1, 4, none⟩ (.slice yk0 R.pol.sk.rows.length yk1)).setCell ⟨A + 1, 5, none⟩ (.int .i64 R'.pol.sk.added)).setCell ⟨A + 1, 6, none⟩ (.slice (some ⟨GF, 0, none⟩) R.fes.length yf1)).setCell ⟨A + 1, 7, none⟩ (.slice yc0 R.cls.length yc1)).setCell ⟨A + 1, 8, none⟩ (.int .i64 R'.hits))) := Below.put9 (HI.out w8 HB8.out).2.2.2.1 (T := A + 1) (by omega) _ _ _ _ _ _ _ _ _
      clear HV8 HB8
      go_wp2_with fail
      obtain ⟨q0, q1, q2, q3, q4, q5, q6, q7, q8⟩ := HQ.out.cells
      refine bodyPost_ret (v := .tuple #[.agg #[.int .i64 R'.now, .slice ye0 R.ents.length ye1, .slice yw0 R.pol.win.length yw1, .slice ym0 R.pol.main.length ym1, .slice yk0 R.pol.sk.rows.length yk1, .int .i64 R'.pol.sk.added, .slice (some ⟨GF, 0, none⟩) R.fes.length yf1, .slice yc0 R.cls.length yc1, .int .i64 R'.hits], .bool true]) (by simp [results, Tryz.results5, go_sem, q0, q1, q2, q3, q4, q5, q6, q7, q8]) rfl ?_
      rw [HRR.out]
      refine ⟨⟨.slice ye0 R.ents.length ye1, .slice yw0 R.pol.win.length yw1, .slice ym0 R.pol.main.length ym1, .slice yk0 R.pol.sk.rows.length yk1, .slice (some ⟨GF, 0, none⟩) R.fes.length yf1, .slice yc0 R.cls.length yc1⟩, rfl, HOQ.out.mono (by have := HL.out; omega) (Nat.le_refl _), ?_⟩
      rw [HL.out.2.2.1]
      exact HBQ.out

end Go.Proofs.YtcaakommnglnbaaGreatDoor

namespace Go.Proofs.YtcaakommnglnbaaGreatDoor
open Go.RowKit

theorem wgtL_without (l : List ByteArray) (s : ByteArray) : (without l s).length + wgtL (without l s) ≤ l.length + wgtL l := by
  induction l with
  | nil => simp [without, wgtL]
  | cons a r ih =>
    by_cases e : a = s
    · have h1 : without (a :: r) s = without r s := by simp [without, e]
      rw [h1]
      simp only [List.length_cons, wgtL, List.map_cons, List.sum_cons] at ih ⊢
      omega
    · have h1 : without (a :: r) s = a :: without r s := by simp [without, e]
      rw [h1]
      simp only [List.length_cons, wgtL, List.map_cons, List.sum_cons] at ih ⊢
      omega
theorem dropP_sz {P : Pol} (key : ByteArray) (h : PolSz P) : PolSz (dropP P key) := by
  unfold PolSz wgtP dropP at *
  have h1 := wgtL_without P.win key
  have h2 := wgtL_without P.main key
  dsimp only
  omega
theorem wgtL_keys {l : List ByteArray} (h : ∀ z ∈ l, keyOk z = true) : wgtL l ≤ 30 * l.length := by
  induction l with
  | nil => simp [wgtL]
  | cons a r ih =>
    have h1 := ih (fun z hz => h z (List.mem_cons_of_mem _ hz))
    have h2 := h a (List.mem_cons_self ..)
    simp only [keyOk, decide_eq_true_eq] at h2
    simp only [wgtL, List.map_cons, List.sum_cons, List.length_cons] at h1 ⊢
    omega
/-- A right policy is small. -/
theorem okP_wgt {P : Pol} (h : okP P = true) : wgtP P ≤ 300 := by
  obtain ⟨h1, h2, _, _, _, h6, h7, h8⟩ := okP_iff.1 h
  obtain ⟨a, b, c, e, ra, rb, rc, _, _⟩ := okK_parts h8
  have w1 := wgtL_keys h1
  have w2 := wgtL_keys h2
  have hl : P.sk.rows.length = 3 := by rw [e]; rfl
  have ht : tot P.sk.rows P.sk.rows.length = 48 := by
    rw [hl, e]
    simp [tot, rowOk_len ra, rowOk_len rb, rowOk_len rc]
  unfold wgtP
  omega
theorem okP_sz {P : Pol} (h : okP P = true) : PolSz P := by
  have := okP_wgt h
  unfold PolSz
  omega
end Go.Proofs.YtcaakommnglnbaaGreatDoor

namespace Go.Proofs.YtcaakommnglnbaaGreatDoor
open Go.RowKit Go.Sort
theorem ftwg_set (L : List Fet) (k : Nat) (f : Fet) : ftwg (L.set k f) ≤ ftwg L + f.wg := by
  induction L generalizing k with
  | nil => simp
  | cons a r ih =>
    cases k with
    | zero => simp [ftwg]; omega
    | succ k => have := ih k; simp [ftwg]; omega
theorem clwg_tell (L : List Cli) (k : Int) (F : Cli → Cli) (b : Nat) (hF : ∀ c ∈ L, (F c).wg ≤ b + c.wg) : clwg (tellX L k F) ≤ clwg L + L.length * b := by
  induction L with
  | nil => simp [tellX, clwg]
  | cons a r ih =>
    have h := ih (fun c hc => hF c (List.mem_cons_of_mem _ hc))
    have ha := hF a (by simp)
    unfold tellX at h ⊢
    simp only [List.map_cons, List.length_cons, clwg]
    have h1 : (tellF k F a).wg ≤ b + a.wg := by
      unfold tellF
      split
      · exact ha
      · omega
    have e : (r.length + 1) * b = r.length * b + b := Nat.succ_mul _ _
    omega
theorem ewg_le {b : Nat} : ∀ {L : List En}, (∀ e ∈ L, e.wg ≤ b) → ewg L ≤ L.length * b
  | [], _ => Nat.zero_le _
  | a :: r, h => by
    have h1 := ewg_le (fun e he => h e (List.mem_cons_of_mem _ he))
    have h2 := h a (by simp)
    simp only [ewg, List.length_cons, Nat.succ_mul]
    omega
theorem ftwg_le {b : Nat} : ∀ {L : List Fet}, (∀ e ∈ L, e.wg ≤ b) → ftwg L ≤ L.length * b
  | [], _ => Nat.zero_le _
  | a :: r, h => by
    have h1 := ftwg_le (fun e he => h e (List.mem_cons_of_mem _ he))
    have h2 := h a (by simp)
    simp only [ftwg, List.length_cons, Nat.succ_mul]
    omega
theorem clwg_le {b : Nat} : ∀ {L : List Cli}, (∀ e ∈ L, e.wg ≤ b) → clwg L ≤ L.length * b
  | [], _ => Nat.zero_le _
  | a :: r, h => by
    have h1 := clwg_le (fun e he => h e (List.mem_cons_of_mem _ he))
    have h2 := h a (by simp)
    simp only [clwg, List.length_cons, Nat.succ_mul]
    omega
theorem enKey_sz {s : ByteArray} (h : enKey s = true) : s.size ≤ 30 := by
  unfold enKey at h
  rw [decide_eq_true_eq] at h
  exact h.2
/-- A right proxy weighs little. -/
theorem okX_wgt {R : Prx} (h : okX R = true) : wgtX R ≤ 20000 ∧ ewg R.ents ≤ 2600 ∧ ftwg R.fes ≤ 8600 ∧ clwg R.cls ≤ 2600 := by
  have H := okX_iff.1 h
  have hp := okP_wgt H.pol
  obtain ⟨_, _, _, _, _, hw, hm, _⟩ := okP_iff.1 H.pol
  have he := ewg_le (b := 430) (L := R.ents) (fun e he => by
    obtain ⟨h1, _, _, h4⟩ := enOk_iff.1 (H.ents e he)
    unfold En.wg; omega)
  have hf := ftwg_le (b := 430) (L := R.fes) (fun e he => by
    obtain ⟨h1, h2, _⟩ := H.fes e he
    have := enKey_sz h1
    unfold Fet.wg; omega)
  have hc := clwg_le (b := 430) (L := R.cls) (fun e he => by
    obtain ⟨_, h1, _, h2, _⟩ := H.cls e he
    have := enKey_sz h1
    unfold Cli.wg; omega)
  have l1 := H.len
  have l2 := H.flen
  have l3 := H.clen
  have e1 : R.ents.length * 430 ≤ 6 * 430 := Nat.mul_le_mul_right _ (by omega)
  have e2 : R.fes.length * 430 ≤ 20 * 430 := Nat.mul_le_mul_right _ (by omega)
  have e3 : R.cls.length * 430 ≤ 6 * 430 := Nat.mul_le_mul_right _ (by omega)
  unfold wgtX
  omega
theorem putM_text {S : Stm} {part : ByteArray} (h : (putM S part).2 = true) : (putM S part).1.text.size ≤ 400 := by
  unfold putM at h ⊢
  split
  · rename_i h1
    simp only [Bool.and_eq_true, decide_eq_true_eq] at h1
    show (S.text ++ part).size ≤ _
    rw [ByteArray.size_append]; omega
  · rename_i h1
    rw [if_neg h1] at h
    cases h
theorem partR_sz (z : Int) (part : ByteArray) {R : Prx} (h : PxSz R) : PxSz (partR R z part).1 := by
  unfold partR
  split
  · rename_i h1
    rw [Bool.and_eq_true] at h1
    have hok : okX R = true := by
      have h2 := h1.1
      unfold turnB at h2
      rw [Bool.and_eq_true] at h2
      exact h2.1
    have H := okX_iff.1 hok
    obtain ⟨hw, h3, h4, h5⟩ := okX_wgt hok
    have ht := putM_text h1.2
    have hk : (fetAt R z.toNat).key.size ≤ 30 := by
      unfold fetAt
      by_cases hk : z.toNat < R.fes.length
      · rw [getD_of hk]; exact enKey_sz (H.fes _ (List.getElem_mem hk)).1
      · rw [List.getD_eq_getElem?_getD, List.getElem?_eq_none (by omega)]; exact Nat.zero_le _
    have e1 := ftwg_set R.fes z.toNat ((fetAt R z.toNat).turn (putM (stmOf (fetAt R z.toNat)) part).1.text (putM (stmOf (fetAt R z.toNat)) part).1.st)
    have e2 : ((fetAt R z.toNat).turn (putM (stmOf (fetAt R z.toNat)) part).1.text (putM (stmOf (fetAt R z.toNat)) part).1.st).wg ≤ 430 := by
      show (fetAt R z.toNat).key.size + (putM (stmOf (fetAt R z.toNat)) part).1.text.size ≤ 430
      omega
    have e3 := clwg_tell R.cls z.toNat (fun c => c.w_got (putM (stmOf (fetAt R z.toNat)) part).1.text) 400 (fun c _ => by
      show c.key.size + (putM (stmOf (fetAt R z.toNat)) part).1.text.size ≤ 400 + (c.key.size + c.got.size)
      omega)
    have l3 := H.clen
    have e4 : R.cls.length * 400 ≤ 6 * 400 := Nat.mul_le_mul_right _ l3
    have e5 : (tellX R.cls z.toNat (fun c => c.w_got (putM (stmOf (fetAt R z.toNat)) part).1.text)).length = R.cls.length := by unfold tellX; rw [List.length_map]
    have l2 := H.flen
    unfold PxSz
    unfold wgtX at hw
    show R.ents.length + ewg R.ents + wgtP R.pol + ((R.fes.set _ _).length + ftwg (R.fes.set _ _)) + ((tellX _ _ _).length + clwg (tellX _ _ _)) ≤ 1048576
    rw [List.length_set, e5]
    omega
  · exact h
theorem specPartOf_r (w : World) (X : Pc) (R : Prx) (z : Int) (part : ByteArray) (hA : PxAt w X R w.heap.size) (hsz : PxSz R) (hz : (Lit.int .i64 z).wf = true) (hp : part.size ≤ 1048576) :
    Calls Tryz.prog 5 #[.agg #[.int .i64 R.now, X.e, X.w, X.m, X.k, .int .i64 R.pol.sk.added, X.f, X.c, .int .i64 R.hits], .int .i64 z, .string part] w fun e w' => ∃ Y : Pc, e = .returned (.tuple #[.agg #[.int .i64 (partR R z part).1.now, Y.e, Y.w, Y.m, Y.k, .int .i64 (partR R z part).1.pol.sk.added, Y.f, Y.c, .int .i64 (partR R z part).1.hits], .bool (partR R z part).2]) ∧ PxOwn w' w.heap.size w'.heap.size Y (partR R z part).1 ∧ Below w.heap.size w w' := by
  have h := specPartOf_any w X R z part hA hsz hz hp
  rw [partS_eq] at h
  exact h
end Go.Proofs.YtcaakommnglnbaaGreatDoor
