/- The law on epochs, right or not, walked. Written by mkefn.py. -/
import Derived.Test.YtockgojdmaladacEpochDraws
import Derived.Test.YtockgojdmaladacEpochLens
import Derived.Test.YtockgojdmaladacEpochChange
import Derived.Test.YtockgojdmaladacEpochRetireI
import Derived.Test.YtockgojdmaladacEpochAdvI
import Derived.Test.YtockgojdmaladacEpochFreeI
import Derived.Test.YtockgojdmaladacBig
import Derived.Test.YtockgojdmaladacQuietTail
import Derived.BigQuiet
namespace Go.Proofs.Ytockgojdmaladac
open Go.RowKit Go.Sort

/-- Epochs that lie in a variable, to be read. -/
structure ER (w : World) (T : Nat) (a1 : Option Addr) (c1 : Nat) (a2 : Option Addr) (c2 : Nat) (E : Ep) : Prop where
  box : EBox w T (.int .i64 E.now) (.slice a1 E.pins.length c1) (.slice a2 E.gone.length c2)
  at' : EAt w a1 a2 E w.heap.size
theorem ER.on {w w' : World} {T : Nat} {a1 a2 : Option Addr} {c1 c2 : Nat} {E : Ep} (h : ER w T a1 c1 a2 c2 E) (hb : Below w.heap.size w w') : ER w' T a1 c1 a2 c2 E := ⟨h.box.on hb, h.at'.on hb⟩
theorem ER.new {w : World} {a1 a2 : Option Addr} {c1 c2 : Nat} {E : Ep} (h : EAt w a1 a2 E w.heap.size) : ER (w.alloc (.cells #[.int .i64 E.now, .slice a1 E.pins.length c1, .slice a2 E.gone.length c2] 50)) w.heap.size a1 c1 a2 c2 E := ⟨EBox.new _ _ _ _, h.on ((Below.refl _ _).alloc (Nat.le_refl _) _)⟩
theorem pinE_refused {E : Ep} {x : Int} (h : (pinE E x).2 = false) : (pinE E x).1 = E := by
  unfold pinE at h ⊢
  split
  · rename_i hc; rw [if_pos hc] at h; simp at h
  · rfl
theorem ep_fld (a b c : Value) (w : World) : (Instr.field 50 (.agg #[a, b, c]) 1).run Try.prog w = .ok b w := by
  simp [Instr.field, go_sem, asAgg]
theorem freeE_len2' (E : Ep) : (freeE E).2.length ≤ E.gone.length := by
  unfold freeE
  split
  · simp; exact List.length_filter_le _ _
  · simp

set_option maxRecDepth 100000 in
set_option maxHeartbeats 8000000 in
theorem epochs_walk (ca : Option Addr) (n cap : Nat) (w : World) (hcode : CodeAt w ca n w.heap.size) (hn : n ≤ maxLen) :
    Calls Try.prog 6 #[.slice ca n cap] w fun e w' => e = .returned (.bool true) ∧ Below w.heap.size w w' := by
  unfold maxLen at hn
  have c0 := big_any ca n cap w (by omega)
  by_cases hbig : 1048576 < n
  · rw [decide_eq_true hbig] at c0
    go_enter Try.func6, Try.ntmps6
    go_wp2_with fail
    refine c0.mono ?_
    rintro e w1 ⟨rfl, rfl⟩
    go_wp2_with fail
    go_ret
    exact ⟨rfl, Below.refl _ _⟩
  · rw [decide_eq_false hbig] at c0
    have hn' : n ≤ 1048576 := by omega
    have c1 := drawPinLook_any w ca n cap hcode hn'
    have HCODE : Hid (∀ wi, Below w.heap.size w wi → CodeAt wi ca n wi.heap.size) := by
      intro wi hi j hj
      obtain ⟨b, off, z, h1, h2, h3, h4⟩ := hcode j hj
      exact ⟨b, off, z, h1, Nat.lt_of_lt_of_le h2 hi.size, (hi.cell h2).trans h3, h4⟩
    clear hcode hbig
    go_enter Try.func6, Try.ntmps6
    go_wp2_with fail
    refine c0.mono ?_
    rintro e w1 ⟨rfl, hw1⟩
    rw [← hw1]
    clear hw1 c0
    go_wp2_with fail
    refine c1.mono ?_
    rintro e v0 ⟨eP, eQ, eR, eS, E, x, rfl, hty, hlp, hlg, hb0⟩
    have hEe := hty.at'
    clear c1 hty
    have hle : E.pins.length ≤ 1048576 ∧ E.gone.length ≤ 1048576 := ⟨by omega, by omega⟩
    obtain ⟨u1, hu1⟩ : ∃ x, v0.alloc (.cells #[.int .i64 E.now, .slice eP E.pins.length eQ, .slice eR E.gone.length eS] 50) = x := ⟨_, rfl⟩
    have bu1 : Below v0.heap.size v0 u1 := by rw [← hu1]; exact (Below.refl _ _).alloc (Nat.le_refl _) _
    have Re : ER u1 v0.heap.size eP eQ eR eS E := by rw [← hu1]; exact ER.new hEe
    have HWu1 : Hid (v0.alloc (.cells #[.int .i64 E.now, .slice eP E.pins.length eQ, .slice eR E.gone.length eS] 50) = u1) := hu1
    have hBu1 : Below w.heap.size w u1 := hb0.trans (bu1.mono hb0.size)
    obtain ⟨e0, e1, e2⟩ := Re.box.cells
    rw [← hu1] at e0 e1 e2
    clear hu1 bu1 hEe
    go_wp2_with fail
    rw [HWu1.out] at e0 e1 e2 ⊢
    refine (implPinLook_any u1 eP eR eQ eS E x Re.at' hle.1 hle.2).mono ?_
    rintro e w2 ⟨vn, rfl, hon, hbn⟩
    obtain ⟨aP, aQ, aR, aS, rfl, hAa⟩ := hon.at
    clear hon
    clear e0 e1 e2
    have hBw2 : Below w.heap.size w w2 := hBu1.trans (hbn.mono hBu1.size)
    replace Re := Re.on hbn
    clear hbn
    obtain ⟨A, hA⟩ : ∃ R, pinE E x = R := ⟨_, rfl⟩
    rw [hA] at hAa ⊢
    obtain ⟨u3, hu3⟩ : ∃ x, w2.alloc (.cells #[.int .i64 A.1.now, .slice aP A.1.pins.length aQ, .slice aR A.1.gone.length aS] 50) = x := ⟨_, rfl⟩
    have bu3 : Below w2.heap.size w2 u3 := by rw [← hu3]; exact (Below.refl _ _).alloc (Nat.le_refl _) _
    have Ra : ER u3 w2.heap.size aP aQ aR aS A.1 := by rw [← hu3]; exact ER.new hAa
    have HWu3 : Hid (w2.alloc (.cells #[.int .i64 A.1.now, .slice aP A.1.pins.length aQ, .slice aR A.1.gone.length aS] 50) = u3) := hu3
    have hBu3 : Below w.heap.size w u3 := hBw2.trans (bu3.mono hBw2.size)
    replace Re := Re.on bu3
    obtain ⟨e0, e1, e2⟩ := Re.box.cells
    obtain ⟨a0, a1, a2⟩ := Ra.box.cells
    rw [← hu3] at e0 e1 e2 a0 a1 a2
    clear hu3 bu3 hAa
    go_wp2_with fail
    rw [HWu3.out] at e0 e1 e2 a0 a1 a2 ⊢
    refine (specPinLook_any u3 eP eR eQ eS E x Re.at' hle.1 hle.2).mono ?_
    rintro e w4 ⟨vn, rfl, hon, hbn⟩
    obtain ⟨bP, bQ, bR, bS, rfl, hAb⟩ := hon.at
    clear hon
    clear e0 e1 e2 a0 a1 a2
    have hBw4 : Below w.heap.size w w4 := hBu3.trans (hbn.mono hBu3.size)
    replace Re := Re.on hbn
    replace Ra := Ra.on hbn
    clear hbn
    rw [hA] at hAb ⊢
    obtain ⟨u5, hu5⟩ : ∃ x, w4.alloc (.cells #[.int .i64 A.1.now, .slice bP A.1.pins.length bQ, .slice bR A.1.gone.length bS] 50) = x := ⟨_, rfl⟩
    have bu5 : Below w4.heap.size w4 u5 := by rw [← hu5]; exact (Below.refl _ _).alloc (Nat.le_refl _) _
    have Rb : ER u5 w4.heap.size bP bQ bR bS A.1 := by rw [← hu5]; exact ER.new hAb
    have HWu5 : Hid (w4.alloc (.cells #[.int .i64 A.1.now, .slice bP A.1.pins.length bQ, .slice bR A.1.gone.length bS] 50) = u5) := hu5
    have hBu5 : Below w.heap.size w u5 := hBw4.trans (bu5.mono hBw4.size)
    replace Re := Re.on bu5
    replace Ra := Ra.on bu5
    obtain ⟨e0, e1, e2⟩ := Re.box.cells
    obtain ⟨a0, a1, a2⟩ := Ra.box.cells
    obtain ⟨b0, b1, b2⟩ := Rb.box.cells
    rw [← hu5] at e0 e1 e2 a0 a1 a2 b0 b1 b2
    clear hu5 bu5 hAb
    go_wp2_with fail
    rw [HWu5.out] at e0 e1 e2 a0 a1 a2 b0 b1 b2 ⊢
    refine (implUnpinLook_any u5 eP eR eQ eS E x Re.at' hle.1 hle.2).mono ?_
    rintro e w6 ⟨vn, rfl, hon, hbn⟩
    obtain ⟨cP, cQ, cR, cS, rfl, hAc⟩ := hon.at
    clear hon
    clear e0 e1 e2 a0 a1 a2 b0 b1 b2
    have hBw6 : Below w.heap.size w w6 := hBu5.trans (hbn.mono hBu5.size)
    replace Re := Re.on hbn
    replace Ra := Ra.on hbn
    replace Rb := Rb.on hbn
    clear hbn
    obtain ⟨C, hC⟩ : ∃ R, unpinE E x = R := ⟨_, rfl⟩
    rw [hC] at hAc ⊢
    obtain ⟨u7, hu7⟩ : ∃ x, w6.alloc (.cells #[.int .i64 C.1.now, .slice cP C.1.pins.length cQ, .slice cR C.1.gone.length cS] 50) = x := ⟨_, rfl⟩
    have bu7 : Below w6.heap.size w6 u7 := by rw [← hu7]; exact (Below.refl _ _).alloc (Nat.le_refl _) _
    have Rc : ER u7 w6.heap.size cP cQ cR cS C.1 := by rw [← hu7]; exact ER.new hAc
    have HWu7 : Hid (w6.alloc (.cells #[.int .i64 C.1.now, .slice cP C.1.pins.length cQ, .slice cR C.1.gone.length cS] 50) = u7) := hu7
    have hBu7 : Below w.heap.size w u7 := hBw6.trans (bu7.mono hBw6.size)
    replace Re := Re.on bu7
    replace Ra := Ra.on bu7
    replace Rb := Rb.on bu7
    obtain ⟨e0, e1, e2⟩ := Re.box.cells
    obtain ⟨a0, a1, a2⟩ := Ra.box.cells
    obtain ⟨b0, b1, b2⟩ := Rb.box.cells
    obtain ⟨c0, c1, c2⟩ := Rc.box.cells
    rw [← hu7] at e0 e1 e2 a0 a1 a2 b0 b1 b2 c0 c1 c2
    clear hu7 bu7 hAc
    go_wp2_with fail
    rw [HWu7.out] at e0 e1 e2 a0 a1 a2 b0 b1 b2 c0 c1 c2 ⊢
    refine (specUnpinLook_any u7 eP eR eQ eS E x Re.at' hle.1 hle.2).mono ?_
    rintro e w8 ⟨vn, rfl, hon, hbn⟩
    obtain ⟨dP, dQ, dR, dS, rfl, hAd⟩ := hon.at
    clear hon
    clear e0 e1 e2 a0 a1 a2 b0 b1 b2 c0 c1 c2
    have hBw8 : Below w.heap.size w w8 := hBu7.trans (hbn.mono hBu7.size)
    replace Re := Re.on hbn
    replace Ra := Ra.on hbn
    replace Rb := Rb.on hbn
    replace Rc := Rc.on hbn
    clear hbn
    rw [hC] at hAd ⊢
    obtain ⟨u9, hu9⟩ : ∃ x, w8.alloc (.cells #[.int .i64 C.1.now, .slice dP C.1.pins.length dQ, .slice dR C.1.gone.length dS] 50) = x := ⟨_, rfl⟩
    have bu9 : Below w8.heap.size w8 u9 := by rw [← hu9]; exact (Below.refl _ _).alloc (Nat.le_refl _) _
    have Rd : ER u9 w8.heap.size dP dQ dR dS C.1 := by rw [← hu9]; exact ER.new hAd
    have HWu9 : Hid (w8.alloc (.cells #[.int .i64 C.1.now, .slice dP C.1.pins.length dQ, .slice dR C.1.gone.length dS] 50) = u9) := hu9
    have hBu9 : Below w.heap.size w u9 := hBw8.trans (bu9.mono hBw8.size)
    replace Re := Re.on bu9
    replace Ra := Ra.on bu9
    replace Rb := Rb.on bu9
    replace Rc := Rc.on bu9
    obtain ⟨e0, e1, e2⟩ := Re.box.cells
    obtain ⟨a0, a1, a2⟩ := Ra.box.cells
    obtain ⟨b0, b1, b2⟩ := Rb.box.cells
    obtain ⟨c0, c1, c2⟩ := Rc.box.cells
    obtain ⟨d0, d1, d2⟩ := Rd.box.cells
    rw [← hu9] at e0 e1 e2 a0 a1 a2 b0 b1 b2 c0 c1 c2 d0 d1 d2
    clear hu9 bu9 hAd
    go_wp2_with fail
    rw [HWu9.out] at e0 e1 e2 a0 a1 a2 b0 b1 b2 c0 c1 c2 d0 d1 d2 ⊢
    refine (drawRetireNode_any u9 ca n cap (HCODE.out _ hBu9) hn').mono ?_
    rintro e v1 ⟨xP, xQ, xR, xS, X, y, rfl, hty, hmp, hmg, hbn⟩
    have hAx := hty.at'
    clear hty e0 e1 e2 a0 a1 a2 b0 b1 b2 c0 c1 c2 d0 d1 d2
    have hBv1 : Below w.heap.size w v1 := hBu9.trans (hbn.mono hBu9.size)
    replace Re := Re.on hbn
    replace Ra := Ra.on hbn
    replace Rb := Rb.on hbn
    replace Rc := Rc.on hbn
    replace Rd := Rd.on hbn
    clear hbn
    have hlx : X.pins.length ≤ 1048576 ∧ X.gone.length ≤ 1048576 := ⟨by omega, by omega⟩
    obtain ⟨u10, hu10⟩ : ∃ x, v1.alloc (.cells #[.int .i64 X.now, .slice xP X.pins.length xQ, .slice xR X.gone.length xS] 50) = x := ⟨_, rfl⟩
    have bu10 : Below v1.heap.size v1 u10 := by rw [← hu10]; exact (Below.refl _ _).alloc (Nat.le_refl _) _
    have Rx : ER u10 v1.heap.size xP xQ xR xS X := by rw [← hu10]; exact ER.new hAx
    have HWu10 : Hid (v1.alloc (.cells #[.int .i64 X.now, .slice xP X.pins.length xQ, .slice xR X.gone.length xS] 50) = u10) := hu10
    have hBu10 : Below w.heap.size w u10 := hBv1.trans (bu10.mono hBv1.size)
    replace Re := Re.on bu10
    replace Ra := Ra.on bu10
    replace Rb := Rb.on bu10
    replace Rc := Rc.on bu10
    replace Rd := Rd.on bu10
    obtain ⟨e0, e1, e2⟩ := Re.box.cells
    obtain ⟨a0, a1, a2⟩ := Ra.box.cells
    obtain ⟨b0, b1, b2⟩ := Rb.box.cells
    obtain ⟨c0, c1, c2⟩ := Rc.box.cells
    obtain ⟨d0, d1, d2⟩ := Rd.box.cells
    obtain ⟨x0, x1, x2⟩ := Rx.box.cells
    rw [← hu10] at e0 e1 e2 a0 a1 a2 b0 b1 b2 c0 c1 c2 d0 d1 d2 x0 x1 x2
    clear hu10 bu10 hAx
    go_wp2_with fail
    rw [HWu10.out] at e0 e1 e2 a0 a1 a2 b0 b1 b2 c0 c1 c2 d0 d1 d2 x0 x1 x2 ⊢
    refine (implRetireNode_any u10 xP xR xQ xS X y Rx.at' hlx.1 hlx.2).mono ?_
    rintro e w11 ⟨vn, rfl, hon, hbn⟩
    obtain ⟨fP, fQ, fR, fS, rfl, hAf⟩ := hon.at
    clear hon
    clear e0 e1 e2 a0 a1 a2 b0 b1 b2 c0 c1 c2 d0 d1 d2 x0 x1 x2
    have hBw11 : Below w.heap.size w w11 := hBu10.trans (hbn.mono hBu10.size)
    replace Re := Re.on hbn
    replace Ra := Ra.on hbn
    replace Rb := Rb.on hbn
    replace Rc := Rc.on hbn
    replace Rd := Rd.on hbn
    replace Rx := Rx.on hbn
    clear hbn
    obtain ⟨F, hF⟩ : ∃ R, retireE X y = R := ⟨_, rfl⟩
    rw [hF] at hAf ⊢
    obtain ⟨u12, hu12⟩ : ∃ x, w11.alloc (.cells #[.int .i64 F.1.now, .slice fP F.1.pins.length fQ, .slice fR F.1.gone.length fS] 50) = x := ⟨_, rfl⟩
    have bu12 : Below w11.heap.size w11 u12 := by rw [← hu12]; exact (Below.refl _ _).alloc (Nat.le_refl _) _
    have Rf : ER u12 w11.heap.size fP fQ fR fS F.1 := by rw [← hu12]; exact ER.new hAf
    have HWu12 : Hid (w11.alloc (.cells #[.int .i64 F.1.now, .slice fP F.1.pins.length fQ, .slice fR F.1.gone.length fS] 50) = u12) := hu12
    have hBu12 : Below w.heap.size w u12 := hBw11.trans (bu12.mono hBw11.size)
    replace Re := Re.on bu12
    replace Ra := Ra.on bu12
    replace Rb := Rb.on bu12
    replace Rc := Rc.on bu12
    replace Rd := Rd.on bu12
    replace Rx := Rx.on bu12
    obtain ⟨e0, e1, e2⟩ := Re.box.cells
    obtain ⟨a0, a1, a2⟩ := Ra.box.cells
    obtain ⟨b0, b1, b2⟩ := Rb.box.cells
    obtain ⟨c0, c1, c2⟩ := Rc.box.cells
    obtain ⟨d0, d1, d2⟩ := Rd.box.cells
    obtain ⟨x0, x1, x2⟩ := Rx.box.cells
    obtain ⟨f0, f1, f2⟩ := Rf.box.cells
    rw [← hu12] at e0 e1 e2 a0 a1 a2 b0 b1 b2 c0 c1 c2 d0 d1 d2 x0 x1 x2 f0 f1 f2
    clear hu12 bu12 hAf
    go_wp2_with fail
    rw [HWu12.out] at e0 e1 e2 a0 a1 a2 b0 b1 b2 c0 c1 c2 d0 d1 d2 x0 x1 x2 f0 f1 f2 ⊢
    refine (specRetireNode_any u12 xP xR xQ xS X y Rx.at' hlx.1 hlx.2).mono ?_
    rintro e w13 ⟨vn, rfl, hon, hbn⟩
    obtain ⟨gP, gQ, gR, gS, rfl, hAg⟩ := hon.at
    clear hon
    clear e0 e1 e2 a0 a1 a2 b0 b1 b2 c0 c1 c2 d0 d1 d2 x0 x1 x2 f0 f1 f2
    have hBw13 : Below w.heap.size w w13 := hBu12.trans (hbn.mono hBu12.size)
    replace Re := Re.on hbn
    replace Ra := Ra.on hbn
    replace Rb := Rb.on hbn
    replace Rc := Rc.on hbn
    replace Rd := Rd.on hbn
    replace Rx := Rx.on hbn
    replace Rf := Rf.on hbn
    clear hbn
    rw [hF] at hAg ⊢
    obtain ⟨u14, hu14⟩ : ∃ x, w13.alloc (.cells #[.int .i64 F.1.now, .slice gP F.1.pins.length gQ, .slice gR F.1.gone.length gS] 50) = x := ⟨_, rfl⟩
    have bu14 : Below w13.heap.size w13 u14 := by rw [← hu14]; exact (Below.refl _ _).alloc (Nat.le_refl _) _
    have Rg : ER u14 w13.heap.size gP gQ gR gS F.1 := by rw [← hu14]; exact ER.new hAg
    have HWu14 : Hid (w13.alloc (.cells #[.int .i64 F.1.now, .slice gP F.1.pins.length gQ, .slice gR F.1.gone.length gS] 50) = u14) := hu14
    have hBu14 : Below w.heap.size w u14 := hBw13.trans (bu14.mono hBw13.size)
    replace Re := Re.on bu14
    replace Ra := Ra.on bu14
    replace Rb := Rb.on bu14
    replace Rc := Rc.on bu14
    replace Rd := Rd.on bu14
    replace Rx := Rx.on bu14
    replace Rf := Rf.on bu14
    obtain ⟨e0, e1, e2⟩ := Re.box.cells
    obtain ⟨a0, a1, a2⟩ := Ra.box.cells
    obtain ⟨b0, b1, b2⟩ := Rb.box.cells
    obtain ⟨c0, c1, c2⟩ := Rc.box.cells
    obtain ⟨d0, d1, d2⟩ := Rd.box.cells
    obtain ⟨x0, x1, x2⟩ := Rx.box.cells
    obtain ⟨f0, f1, f2⟩ := Rf.box.cells
    obtain ⟨g0, g1, g2⟩ := Rg.box.cells
    rw [← hu14] at e0 e1 e2 a0 a1 a2 b0 b1 b2 c0 c1 c2 d0 d1 d2 x0 x1 x2 f0 f1 f2 g0 g1 g2
    clear hu14 bu14 hAg
    go_wp2_with fail
    rw [HWu14.out] at e0 e1 e2 a0 a1 a2 b0 b1 b2 c0 c1 c2 d0 d1 d2 x0 x1 x2 f0 f1 f2 g0 g1 g2 ⊢
    refine (implAdvanceEpoch_any u14 xP xR xQ xS X Rx.at' hlx.1 hlx.2).mono ?_
    rintro e w15 ⟨vn, rfl, hon, hbn⟩
    obtain ⟨hP, hQ, hR, hS, rfl, hAh⟩ := hon.at
    clear hon
    clear e0 e1 e2 a0 a1 a2 b0 b1 b2 c0 c1 c2 d0 d1 d2 x0 x1 x2 f0 f1 f2 g0 g1 g2
    have hBw15 : Below w.heap.size w w15 := hBu14.trans (hbn.mono hBu14.size)
    replace Re := Re.on hbn
    replace Ra := Ra.on hbn
    replace Rb := Rb.on hbn
    replace Rc := Rc.on hbn
    replace Rd := Rd.on hbn
    replace Rx := Rx.on hbn
    replace Rf := Rf.on hbn
    replace Rg := Rg.on hbn
    clear hbn
    obtain ⟨H, hH⟩ : ∃ R, advE X = R := ⟨_, rfl⟩
    rw [hH] at hAh ⊢
    obtain ⟨u16, hu16⟩ : ∃ x, w15.alloc (.cells #[.int .i64 H.1.now, .slice hP H.1.pins.length hQ, .slice hR H.1.gone.length hS] 50) = x := ⟨_, rfl⟩
    have bu16 : Below w15.heap.size w15 u16 := by rw [← hu16]; exact (Below.refl _ _).alloc (Nat.le_refl _) _
    have Rh : ER u16 w15.heap.size hP hQ hR hS H.1 := by rw [← hu16]; exact ER.new hAh
    have HWu16 : Hid (w15.alloc (.cells #[.int .i64 H.1.now, .slice hP H.1.pins.length hQ, .slice hR H.1.gone.length hS] 50) = u16) := hu16
    have hBu16 : Below w.heap.size w u16 := hBw15.trans (bu16.mono hBw15.size)
    replace Re := Re.on bu16
    replace Ra := Ra.on bu16
    replace Rb := Rb.on bu16
    replace Rc := Rc.on bu16
    replace Rd := Rd.on bu16
    replace Rx := Rx.on bu16
    replace Rf := Rf.on bu16
    replace Rg := Rg.on bu16
    obtain ⟨e0, e1, e2⟩ := Re.box.cells
    obtain ⟨a0, a1, a2⟩ := Ra.box.cells
    obtain ⟨b0, b1, b2⟩ := Rb.box.cells
    obtain ⟨c0, c1, c2⟩ := Rc.box.cells
    obtain ⟨d0, d1, d2⟩ := Rd.box.cells
    obtain ⟨x0, x1, x2⟩ := Rx.box.cells
    obtain ⟨f0, f1, f2⟩ := Rf.box.cells
    obtain ⟨g0, g1, g2⟩ := Rg.box.cells
    obtain ⟨h0, h1, h2⟩ := Rh.box.cells
    rw [← hu16] at e0 e1 e2 a0 a1 a2 b0 b1 b2 c0 c1 c2 d0 d1 d2 x0 x1 x2 f0 f1 f2 g0 g1 g2 h0 h1 h2
    clear hu16 bu16 hAh
    go_wp2_with fail
    rw [HWu16.out] at e0 e1 e2 a0 a1 a2 b0 b1 b2 c0 c1 c2 d0 d1 d2 x0 x1 x2 f0 f1 f2 g0 g1 g2 h0 h1 h2 ⊢
    refine (specAdvanceEpoch_any u16 xP xR xQ xS X Rx.at' hlx.1 hlx.2).mono ?_
    rintro e w17 ⟨vn, rfl, hon, hbn⟩
    obtain ⟨iP, iQ, iR, iS, rfl, hAi⟩ := hon.at
    clear hon
    clear e0 e1 e2 a0 a1 a2 b0 b1 b2 c0 c1 c2 d0 d1 d2 x0 x1 x2 f0 f1 f2 g0 g1 g2 h0 h1 h2
    have hBw17 : Below w.heap.size w w17 := hBu16.trans (hbn.mono hBu16.size)
    replace Re := Re.on hbn
    replace Ra := Ra.on hbn
    replace Rb := Rb.on hbn
    replace Rc := Rc.on hbn
    replace Rd := Rd.on hbn
    replace Rx := Rx.on hbn
    replace Rf := Rf.on hbn
    replace Rg := Rg.on hbn
    replace Rh := Rh.on hbn
    clear hbn
    rw [hH] at hAi ⊢
    obtain ⟨u18, hu18⟩ : ∃ x, w17.alloc (.cells #[.int .i64 H.1.now, .slice iP H.1.pins.length iQ, .slice iR H.1.gone.length iS] 50) = x := ⟨_, rfl⟩
    have bu18 : Below w17.heap.size w17 u18 := by rw [← hu18]; exact (Below.refl _ _).alloc (Nat.le_refl _) _
    have Ri : ER u18 w17.heap.size iP iQ iR iS H.1 := by rw [← hu18]; exact ER.new hAi
    have HWu18 : Hid (w17.alloc (.cells #[.int .i64 H.1.now, .slice iP H.1.pins.length iQ, .slice iR H.1.gone.length iS] 50) = u18) := hu18
    have hBu18 : Below w.heap.size w u18 := hBw17.trans (bu18.mono hBw17.size)
    replace Re := Re.on bu18
    replace Ra := Ra.on bu18
    replace Rb := Rb.on bu18
    replace Rc := Rc.on bu18
    replace Rd := Rd.on bu18
    replace Rx := Rx.on bu18
    replace Rf := Rf.on bu18
    replace Rg := Rg.on bu18
    replace Rh := Rh.on bu18
    obtain ⟨e0, e1, e2⟩ := Re.box.cells
    obtain ⟨a0, a1, a2⟩ := Ra.box.cells
    obtain ⟨b0, b1, b2⟩ := Rb.box.cells
    obtain ⟨c0, c1, c2⟩ := Rc.box.cells
    obtain ⟨d0, d1, d2⟩ := Rd.box.cells
    obtain ⟨x0, x1, x2⟩ := Rx.box.cells
    obtain ⟨f0, f1, f2⟩ := Rf.box.cells
    obtain ⟨g0, g1, g2⟩ := Rg.box.cells
    obtain ⟨h0, h1, h2⟩ := Rh.box.cells
    obtain ⟨i0, i1, i2⟩ := Ri.box.cells
    rw [← hu18] at e0 e1 e2 a0 a1 a2 b0 b1 b2 c0 c1 c2 d0 d1 d2 x0 x1 x2 f0 f1 f2 g0 g1 g2 h0 h1 h2 i0 i1 i2
    clear hu18 bu18 hAi
    go_wp2_with fail
    rw [HWu18.out] at e0 e1 e2 a0 a1 a2 b0 b1 b2 c0 c1 c2 d0 d1 d2 x0 x1 x2 f0 f1 f2 g0 g1 g2 h0 h1 h2 i0 i1 i2 ⊢
    refine (implFreeNodes_any u18 xP xR xQ xS X Rx.at' hlx.1 hlx.2).mono ?_
    rintro e w19 ⟨vn, vf, rfl, hon, hof, _, hbn⟩
    obtain ⟨jP, jQ, jR, jS, rfl, hAj⟩ := hon.at
    obtain ⟨ma, mb, rfl, Im⟩ := hof.ints
    clear hon hof
    clear e0 e1 e2 a0 a1 a2 b0 b1 b2 c0 c1 c2 d0 d1 d2 x0 x1 x2 f0 f1 f2 g0 g1 g2 h0 h1 h2 i0 i1 i2
    have hBw19 : Below w.heap.size w w19 := hBu18.trans (hbn.mono hBu18.size)
    replace Re := Re.on hbn
    replace Ra := Ra.on hbn
    replace Rb := Rb.on hbn
    replace Rc := Rc.on hbn
    replace Rd := Rd.on hbn
    replace Rx := Rx.on hbn
    replace Rf := Rf.on hbn
    replace Rg := Rg.on hbn
    replace Rh := Rh.on hbn
    replace Ri := Ri.on hbn
    clear hbn
    obtain ⟨J, hJ⟩ : ∃ R, freeE X = R := ⟨_, rfl⟩
    rw [hJ] at hAj ⊢
    rw [hJ] at Im
    obtain ⟨u20, hu20⟩ : ∃ x, w19.alloc (.cells #[.int .i64 J.1.now, .slice jP J.1.pins.length jQ, .slice jR J.1.gone.length jS] 50) = x := ⟨_, rfl⟩
    have bu20 : Below w19.heap.size w19 u20 := by rw [← hu20]; exact (Below.refl _ _).alloc (Nat.le_refl _) _
    have Rj : ER u20 w19.heap.size jP jQ jR jS J.1 := by rw [← hu20]; exact ER.new hAj
    have HWu20 : Hid (w19.alloc (.cells #[.int .i64 J.1.now, .slice jP J.1.pins.length jQ, .slice jR J.1.gone.length jS] 50) = u20) := hu20
    have hBu20 : Below w.heap.size w u20 := hBw19.trans (bu20.mono hBw19.size)
    replace Re := Re.on bu20
    replace Ra := Ra.on bu20
    replace Rb := Rb.on bu20
    replace Rc := Rc.on bu20
    replace Rd := Rd.on bu20
    replace Rx := Rx.on bu20
    replace Rf := Rf.on bu20
    replace Rg := Rg.on bu20
    replace Rh := Rh.on bu20
    replace Ri := Ri.on bu20
    replace Im := Im.on bu20
    obtain ⟨e0, e1, e2⟩ := Re.box.cells
    obtain ⟨a0, a1, a2⟩ := Ra.box.cells
    obtain ⟨b0, b1, b2⟩ := Rb.box.cells
    obtain ⟨c0, c1, c2⟩ := Rc.box.cells
    obtain ⟨d0, d1, d2⟩ := Rd.box.cells
    obtain ⟨x0, x1, x2⟩ := Rx.box.cells
    obtain ⟨f0, f1, f2⟩ := Rf.box.cells
    obtain ⟨g0, g1, g2⟩ := Rg.box.cells
    obtain ⟨h0, h1, h2⟩ := Rh.box.cells
    obtain ⟨i0, i1, i2⟩ := Ri.box.cells
    obtain ⟨j0, j1, j2⟩ := Rj.box.cells
    rw [← hu20] at e0 e1 e2 a0 a1 a2 b0 b1 b2 c0 c1 c2 d0 d1 d2 x0 x1 x2 f0 f1 f2 g0 g1 g2 h0 h1 h2 i0 i1 i2 j0 j1 j2
    clear hu20 bu20 hAj
    go_wp2_with fail
    rw [HWu20.out] at e0 e1 e2 a0 a1 a2 b0 b1 b2 c0 c1 c2 d0 d1 d2 x0 x1 x2 f0 f1 f2 g0 g1 g2 h0 h1 h2 i0 i1 i2 j0 j1 j2 ⊢
    refine (specFreeNodes_any u20 xP xR xQ xS X Rx.at' hlx.1 hlx.2).mono ?_
    rintro e w21 ⟨vn, vf, rfl, hon, hof, _, hbn⟩
    obtain ⟨kP, kQ, kR, kS, rfl, hAk⟩ := hon.at
    obtain ⟨oa, ob, rfl, Io⟩ := hof.ints
    clear hon hof
    clear e0 e1 e2 a0 a1 a2 b0 b1 b2 c0 c1 c2 d0 d1 d2 x0 x1 x2 f0 f1 f2 g0 g1 g2 h0 h1 h2 i0 i1 i2 j0 j1 j2
    have hBw21 : Below w.heap.size w w21 := hBu20.trans (hbn.mono hBu20.size)
    replace Re := Re.on hbn
    replace Ra := Ra.on hbn
    replace Rb := Rb.on hbn
    replace Rc := Rc.on hbn
    replace Rd := Rd.on hbn
    replace Rx := Rx.on hbn
    replace Rf := Rf.on hbn
    replace Rg := Rg.on hbn
    replace Rh := Rh.on hbn
    replace Ri := Ri.on hbn
    replace Rj := Rj.on hbn
    replace Im := Im.on hbn
    clear hbn
    rw [hJ] at hAk ⊢
    rw [hJ] at Io
    obtain ⟨u22, hu22⟩ : ∃ x, w21.alloc (.cells #[.int .i64 J.1.now, .slice kP J.1.pins.length kQ, .slice kR J.1.gone.length kS] 50) = x := ⟨_, rfl⟩
    have bu22 : Below w21.heap.size w21 u22 := by rw [← hu22]; exact (Below.refl _ _).alloc (Nat.le_refl _) _
    have Rk : ER u22 w21.heap.size kP kQ kR kS J.1 := by rw [← hu22]; exact ER.new hAk
    have HWu22 : Hid (w21.alloc (.cells #[.int .i64 J.1.now, .slice kP J.1.pins.length kQ, .slice kR J.1.gone.length kS] 50) = u22) := hu22
    have hBu22 : Below w.heap.size w u22 := hBw21.trans (bu22.mono hBw21.size)
    replace Re := Re.on bu22
    replace Ra := Ra.on bu22
    replace Rb := Rb.on bu22
    replace Rc := Rc.on bu22
    replace Rd := Rd.on bu22
    replace Rx := Rx.on bu22
    replace Rf := Rf.on bu22
    replace Rg := Rg.on bu22
    replace Rh := Rh.on bu22
    replace Ri := Ri.on bu22
    replace Rj := Rj.on bu22
    replace Im := Im.on bu22
    replace Io := Io.on bu22
    obtain ⟨e0, e1, e2⟩ := Re.box.cells
    obtain ⟨a0, a1, a2⟩ := Ra.box.cells
    obtain ⟨b0, b1, b2⟩ := Rb.box.cells
    obtain ⟨c0, c1, c2⟩ := Rc.box.cells
    obtain ⟨d0, d1, d2⟩ := Rd.box.cells
    obtain ⟨x0, x1, x2⟩ := Rx.box.cells
    obtain ⟨f0, f1, f2⟩ := Rf.box.cells
    obtain ⟨g0, g1, g2⟩ := Rg.box.cells
    obtain ⟨h0, h1, h2⟩ := Rh.box.cells
    obtain ⟨i0, i1, i2⟩ := Ri.box.cells
    obtain ⟨j0, j1, j2⟩ := Rj.box.cells
    obtain ⟨k0, k1, k2⟩ := Rk.box.cells
    rw [← hu22] at e0 e1 e2 a0 a1 a2 b0 b1 b2 c0 c1 c2 d0 d1 d2 x0 x1 x2 f0 f1 f2 g0 g1 g2 h0 h1 h2 i0 i1 i2 j0 j1 j2 k0 k1 k2
    clear hu22 bu22 hAk
    go_wp2_with fail
    rw [HWu22.out] at e0 e1 e2 a0 a1 a2 b0 b1 b2 c0 c1 c2 d0 d1 d2 x0 x1 x2 f0 f1 f2 g0 g1 g2 h0 h1 h2 i0 i1 i2 j0 j1 j2 k0 k1 k2 ⊢
    clear e0 e1 e2 a0 a1 a2 b0 b1 b2 c0 c1 c2 d0 d1 d2 x0 x1 x2 f0 f1 f2 g0 g1 g2 h0 h1 h2 i0 i1 i2 j0 j1 j2 k0 k1 k2
    have hlA : A.1.pins.length ≤ 1048576 ∧ A.1.gone.length ≤ 1048577 := by rw [← hA]; exact pinE_len E x hle.1 hle.2
    have hlC : C.1.pins.length ≤ 1048576 ∧ C.1.gone.length ≤ 1048577 := by rw [← hC]; exact unpinE_len E x hle.1 hle.2
    have hlF : F.1.pins.length ≤ 1048576 ∧ F.1.gone.length ≤ 1048577 := by rw [← hF]; exact retireE_len X y hlx.1 hlx.2
    have hlH : H.1.pins.length ≤ 1048576 ∧ H.1.gone.length ≤ 1048577 := by rw [← hH]; exact advE_len X hlx.1 hlx.2
    have hlJ : J.1.pins.length ≤ 1048576 ∧ J.1.gone.length ≤ 1048577 := by rw [← hJ]; exact freeE_len X hlx.1 hlx.2
    have hlJ2 : J.2.length ≤ 1048576 := by rw [← hJ]; exact Nat.le_trans (freeE_len2' X) hlx.2
    have CAB : Hid (∀ wi, Below u22.heap.size u22 wi → Calls Try.prog 39 #[.agg #[.int .i64 A.1.now, .slice aP A.1.pins.length aQ, .slice aR A.1.gone.length aS], .agg #[.int .i64 A.1.now, .slice bP A.1.pins.length bQ, .slice bR A.1.gone.length bS]] wi fun e w' => e = .returned (.bool true) ∧ Below wi.heap.size wi w') := fun wi hi => sameEpochs_same wi aP aR bP bR aQ aS bQ bS A.1 (Ra.at'.on hi) (Rb.at'.on hi) hlA.1 hlA.2
    have CCD : Hid (∀ wi, Below u22.heap.size u22 wi → Calls Try.prog 39 #[.agg #[.int .i64 C.1.now, .slice cP C.1.pins.length cQ, .slice cR C.1.gone.length cS], .agg #[.int .i64 C.1.now, .slice dP C.1.pins.length dQ, .slice dR C.1.gone.length dS]] wi fun e w' => e = .returned (.bool true) ∧ Below wi.heap.size wi w') := fun wi hi => sameEpochs_same wi cP cR dP dR cQ cS dQ dS C.1 (Rc.at'.on hi) (Rd.at'.on hi) hlC.1 hlC.2
    have CFG : Hid (∀ wi, Below u22.heap.size u22 wi → Calls Try.prog 39 #[.agg #[.int .i64 F.1.now, .slice fP F.1.pins.length fQ, .slice fR F.1.gone.length fS], .agg #[.int .i64 F.1.now, .slice gP F.1.pins.length gQ, .slice gR F.1.gone.length gS]] wi fun e w' => e = .returned (.bool true) ∧ Below wi.heap.size wi w') := fun wi hi => sameEpochs_same wi fP fR gP gR fQ fS gQ gS F.1 (Rf.at'.on hi) (Rg.at'.on hi) hlF.1 hlF.2
    have CHI : Hid (∀ wi, Below u22.heap.size u22 wi → Calls Try.prog 39 #[.agg #[.int .i64 H.1.now, .slice hP H.1.pins.length hQ, .slice hR H.1.gone.length hS], .agg #[.int .i64 H.1.now, .slice iP H.1.pins.length iQ, .slice iR H.1.gone.length iS]] wi fun e w' => e = .returned (.bool true) ∧ Below wi.heap.size wi w') := fun wi hi => sameEpochs_same wi hP hR iP iR hQ hS iQ iS H.1 (Rh.at'.on hi) (Ri.at'.on hi) hlH.1 hlH.2
    have CJK : Hid (∀ wi, Below u22.heap.size u22 wi → Calls Try.prog 39 #[.agg #[.int .i64 J.1.now, .slice jP J.1.pins.length jQ, .slice jR J.1.gone.length jS], .agg #[.int .i64 J.1.now, .slice kP J.1.pins.length kQ, .slice kR J.1.gone.length kS]] wi fun e w' => e = .returned (.bool true) ∧ Below wi.heap.size wi w') := fun wi hi => sameEpochs_same wi jP jR kP kR jQ jS kQ kS J.1 (Rj.at'.on hi) (Rk.at'.on hi) hlJ.1 hlJ.2
    have CMO : Hid (∀ wi, Below u22.heap.size u22 wi → Calls Try.prog 15 #[.slice ma J.2.length mb, .slice oa J.2.length ob] wi fun e w' => e = .returned (.bool true) ∧ Below wi.heap.size wi w') := fun wi hi => sameInts_same wi ma oa mb ob J.2 (Im.on hi) (Io.on hi) hlJ2
    obtain ⟨K, hK⟩ : ∃ K, okE E = K := ⟨_, rfl⟩
    have CK1 : Hid (∀ wi, Below u22.heap.size u22 wi → Calls Try.prog 28 #[.agg #[.int .i64 E.now, .slice eP E.pins.length eQ, .slice eR E.gone.length eS]] wi fun e w' => e = .returned (.bool K) ∧ Below wi.heap.size wi w') := fun wi hi => by rw [← hK]; exact implEpochsOk_any wi eP eR eQ eS E (Re.at'.on hi) hle.1 hle.2
    have CK2 : Hid (∀ wi, Below u22.heap.size u22 wi → Calls Try.prog 40 #[.agg #[.int .i64 E.now, .slice eP E.pins.length eQ, .slice eR E.gone.length eS]] wi fun e w' => e = .returned (.bool K) ∧ Below wi.heap.size wi w') := fun wi hi => by rw [← hK]; exact specEpochsOk_any wi eP eR eQ eS E (Re.at'.on hi) hle.1 hle.2
    have CN : Hid (∀ wi, Calls Try.prog 41 #[.int .i64 9] wi fun e w' => ∃ a b c d, e = .returned (.agg #[.int .i64 2, .slice a 4 b, .slice c 0 d]) ∧ Below wi.heap.size wi w') := fun wi => (implEpochsNew_any wi 9).mono (by
      rintro e w' ⟨v, rfl, ho, hb⟩
      obtain ⟨a, b, c, d, rfl, _⟩ := ho.at
      exact ⟨a, b, c, d, rfl, hb⟩)
    have KS : ∀ W, Below u22.heap.size u22 W → Below u22.heap.size u22 W ∧ (W.cell? ⟨w2.heap.size, 0, none⟩ = some (.int .i64 A.1.now) ∧ W.cell? ⟨w2.heap.size, 1, none⟩ = some (.slice aP A.1.pins.length aQ) ∧ W.cell? ⟨w2.heap.size, 2, none⟩ = some (.slice aR A.1.gone.length aS)) ∧ (W.cell? ⟨w4.heap.size, 0, none⟩ = some (.int .i64 A.1.now) ∧ W.cell? ⟨w4.heap.size, 1, none⟩ = some (.slice bP A.1.pins.length bQ) ∧ W.cell? ⟨w4.heap.size, 2, none⟩ = some (.slice bR A.1.gone.length bS)) ∧ (W.cell? ⟨v0.heap.size, 0, none⟩ = some (.int .i64 E.now) ∧ W.cell? ⟨v0.heap.size, 1, none⟩ = some (.slice eP E.pins.length eQ) ∧ W.cell? ⟨v0.heap.size, 2, none⟩ = some (.slice eR E.gone.length eS)) ∧ (W.cell? ⟨w6.heap.size, 0, none⟩ = some (.int .i64 C.1.now) ∧ W.cell? ⟨w6.heap.size, 1, none⟩ = some (.slice cP C.1.pins.length cQ) ∧ W.cell? ⟨w6.heap.size, 2, none⟩ = some (.slice cR C.1.gone.length cS)) ∧ (W.cell? ⟨w8.heap.size, 0, none⟩ = some (.int .i64 C.1.now) ∧ W.cell? ⟨w8.heap.size, 1, none⟩ = some (.slice dP C.1.pins.length dQ) ∧ W.cell? ⟨w8.heap.size, 2, none⟩ = some (.slice dR C.1.gone.length dS)) ∧ (W.cell? ⟨w11.heap.size, 0, none⟩ = some (.int .i64 F.1.now) ∧ W.cell? ⟨w11.heap.size, 1, none⟩ = some (.slice fP F.1.pins.length fQ) ∧ W.cell? ⟨w11.heap.size, 2, none⟩ = some (.slice fR F.1.gone.length fS)) ∧ (W.cell? ⟨w13.heap.size, 0, none⟩ = some (.int .i64 F.1.now) ∧ W.cell? ⟨w13.heap.size, 1, none⟩ = some (.slice gP F.1.pins.length gQ) ∧ W.cell? ⟨w13.heap.size, 2, none⟩ = some (.slice gR F.1.gone.length gS)) ∧ (W.cell? ⟨w15.heap.size, 0, none⟩ = some (.int .i64 H.1.now) ∧ W.cell? ⟨w15.heap.size, 1, none⟩ = some (.slice hP H.1.pins.length hQ) ∧ W.cell? ⟨w15.heap.size, 2, none⟩ = some (.slice hR H.1.gone.length hS)) ∧ (W.cell? ⟨w17.heap.size, 0, none⟩ = some (.int .i64 H.1.now) ∧ W.cell? ⟨w17.heap.size, 1, none⟩ = some (.slice iP H.1.pins.length iQ) ∧ W.cell? ⟨w17.heap.size, 2, none⟩ = some (.slice iR H.1.gone.length iS)) ∧ (W.cell? ⟨w19.heap.size, 0, none⟩ = some (.int .i64 J.1.now) ∧ W.cell? ⟨w19.heap.size, 1, none⟩ = some (.slice jP J.1.pins.length jQ) ∧ W.cell? ⟨w19.heap.size, 2, none⟩ = some (.slice jR J.1.gone.length jS)) ∧ (W.cell? ⟨w21.heap.size, 0, none⟩ = some (.int .i64 J.1.now) ∧ W.cell? ⟨w21.heap.size, 1, none⟩ = some (.slice kP J.1.pins.length kQ) ∧ W.cell? ⟨w21.heap.size, 2, none⟩ = some (.slice kR J.1.gone.length kS)) := fun W h => ⟨h, (Ra.on h).box.cells, (Rb.on h).box.cells, (Re.on h).box.cells, (Rc.on h).box.cells, (Rd.on h).box.cells, (Rf.on h).box.cells, (Rg.on h).box.cells, (Rh.on h).box.cells, (Ri.on h).box.cells, (Rj.on h).box.cells, (Rk.on h).box.cells⟩
    have hdr : Below u22.heap.size u22 u22.drew := ⟨rfl, rfl, rfl, Nat.le_refl _, fun _ _ => rfl⟩
    have HBW : Hid (Below w.heap.size w u22) := hBu22
    have tB : ∀ {x y : World}, Below u22.heap.size u22 x → Below x.heap.size x y → Below u22.heap.size u22 y := fun h k => h.trans (k.mono h.size)
    have hfld := fun a b c w => ep_fld a b c w
    have hk1 : (K == K) = true := by simp
    have hk2 : (A.2 == A.2) = true := by simp
    have hk3 : (C.2 == C.2) = true := by simp
    have hk4 : (F.2 == F.2) = true := by simp
    have hk5 : (H.2 == H.2) = true := by simp
    have HAE : Hid (A.2 = false → A.1 = E) := fun h => by rw [← hA] at h ⊢; exact pinE_refused h
    have CAE : Hid (A.2 = false → ∀ wi, Below u22.heap.size u22 wi → Calls Try.prog 39 #[.agg #[.int .i64 A.1.now, .slice aP A.1.pins.length aQ, .slice aR A.1.gone.length aS], .agg #[.int .i64 E.now, .slice eP E.pins.length eQ, .slice eR E.gone.length eS]] wi fun e w' => e = .returned (.bool true) ∧ Below wi.heap.size wi w') := fun h wi hi => by
      have hi1 := Ra.at'.on hi
      rw [HAE.out h] at hi1 ⊢
      exact sameEpochs_same wi aP aR eP eR aQ aS eQ eS E hi1 (Re.at'.on hi) hle.1 (by omega)
    clear hA hC hF hH hJ hK HAE
    have cAB : ∀ d os, Calls Try.prog 39 #[.agg #[.int .i64 A.1.now, .slice aP A.1.pins.length aQ, .slice aR A.1.gone.length aS], .agg #[.int .i64 A.1.now, .slice bP A.1.pins.length bQ, .slice bR A.1.gone.length bS]] (grow (redrawn u22 d) os) fun e w'' => e = .returned (.bool true) ∧ ∃ p : Regrown, w'' = grow (redrawn u22 p.d) p.os := fun d os => Calls.regrown_of (CAB.out _ (below_regrown u22 d os))
    have cCD : ∀ d os, Calls Try.prog 39 #[.agg #[.int .i64 C.1.now, .slice cP C.1.pins.length cQ, .slice cR C.1.gone.length cS], .agg #[.int .i64 C.1.now, .slice dP C.1.pins.length dQ, .slice dR C.1.gone.length dS]] (grow (redrawn u22 d) os) fun e w'' => e = .returned (.bool true) ∧ ∃ p : Regrown, w'' = grow (redrawn u22 p.d) p.os := fun d os => Calls.regrown_of (CCD.out _ (below_regrown u22 d os))
    have cFG : ∀ d os, Calls Try.prog 39 #[.agg #[.int .i64 F.1.now, .slice fP F.1.pins.length fQ, .slice fR F.1.gone.length fS], .agg #[.int .i64 F.1.now, .slice gP F.1.pins.length gQ, .slice gR F.1.gone.length gS]] (grow (redrawn u22 d) os) fun e w'' => e = .returned (.bool true) ∧ ∃ p : Regrown, w'' = grow (redrawn u22 p.d) p.os := fun d os => Calls.regrown_of (CFG.out _ (below_regrown u22 d os))
    have cHI : ∀ d os, Calls Try.prog 39 #[.agg #[.int .i64 H.1.now, .slice hP H.1.pins.length hQ, .slice hR H.1.gone.length hS], .agg #[.int .i64 H.1.now, .slice iP H.1.pins.length iQ, .slice iR H.1.gone.length iS]] (grow (redrawn u22 d) os) fun e w'' => e = .returned (.bool true) ∧ ∃ p : Regrown, w'' = grow (redrawn u22 p.d) p.os := fun d os => Calls.regrown_of (CHI.out _ (below_regrown u22 d os))
    have cJK : ∀ d os, Calls Try.prog 39 #[.agg #[.int .i64 J.1.now, .slice jP J.1.pins.length jQ, .slice jR J.1.gone.length jS], .agg #[.int .i64 J.1.now, .slice kP J.1.pins.length kQ, .slice kR J.1.gone.length kS]] (grow (redrawn u22 d) os) fun e w'' => e = .returned (.bool true) ∧ ∃ p : Regrown, w'' = grow (redrawn u22 p.d) p.os := fun d os => Calls.regrown_of (CJK.out _ (below_regrown u22 d os))
    have cMO : ∀ d os, Calls Try.prog 15 #[.slice ma J.2.length mb, .slice oa J.2.length ob] (grow (redrawn u22 d) os) fun e w'' => e = .returned (.bool true) ∧ ∃ p : Regrown, w'' = grow (redrawn u22 p.d) p.os := fun d os => Calls.regrown_of (CMO.out _ (below_regrown u22 d os))
    have cK1 : ∀ d os, Calls Try.prog 28 #[.agg #[.int .i64 E.now, .slice eP E.pins.length eQ, .slice eR E.gone.length eS]] (grow (redrawn u22 d) os) fun e w'' => e = .returned (.bool K) ∧ ∃ p : Regrown, w'' = grow (redrawn u22 p.d) p.os := fun d os => Calls.regrown_of (CK1.out _ (below_regrown u22 d os))
    have cK2 : ∀ d os, Calls Try.prog 40 #[.agg #[.int .i64 E.now, .slice eP E.pins.length eQ, .slice eR E.gone.length eS]] (grow (redrawn u22 d) os) fun e w'' => e = .returned (.bool K) ∧ ∃ p : Regrown, w'' = grow (redrawn u22 p.d) p.os := fun d os => Calls.regrown_of (CK2.out _ (below_regrown u22 d os))
    obtain ⟨a0, a1, a2⟩ := Ra.box.cells
    have za0 := cell_regrown a0
    have za1 := cell_regrown a1
    have za2 := cell_regrown a2
    obtain ⟨b0, b1, b2⟩ := Rb.box.cells
    have zb0 := cell_regrown b0
    have zb1 := cell_regrown b1
    have zb2 := cell_regrown b2
    obtain ⟨e0, e1, e2⟩ := Re.box.cells
    have ze0 := cell_regrown e0
    have ze1 := cell_regrown e1
    have ze2 := cell_regrown e2
    obtain ⟨c0, c1, c2⟩ := Rc.box.cells
    have zc0 := cell_regrown c0
    have zc1 := cell_regrown c1
    have zc2 := cell_regrown c2
    obtain ⟨d0, d1, d2⟩ := Rd.box.cells
    have zd0 := cell_regrown d0
    have zd1 := cell_regrown d1
    have zd2 := cell_regrown d2
    obtain ⟨f0, f1, f2⟩ := Rf.box.cells
    have zf0 := cell_regrown f0
    have zf1 := cell_regrown f1
    have zf2 := cell_regrown f2
    obtain ⟨g0, g1, g2⟩ := Rg.box.cells
    have zg0 := cell_regrown g0
    have zg1 := cell_regrown g1
    have zg2 := cell_regrown g2
    obtain ⟨h0, h1, h2⟩ := Rh.box.cells
    have zh0 := cell_regrown h0
    have zh1 := cell_regrown h1
    have zh2 := cell_regrown h2
    obtain ⟨i0, i1, i2⟩ := Ri.box.cells
    have zi0 := cell_regrown i0
    have zi1 := cell_regrown i1
    have zi2 := cell_regrown i2
    obtain ⟨j0, j1, j2⟩ := Rj.box.cells
    have zj0 := cell_regrown j0
    have zj1 := cell_regrown j1
    have zj2 := cell_regrown j2
    obtain ⟨k0, k1, k2⟩ := Rk.box.cells
    have zk0 := cell_regrown k0
    have zk1 := cell_regrown k1
    have zk2 := cell_regrown k2
    clear a0 a1 a2 b0 b1 b2 e0 e1 e2 c0 c1 c2 d0 d1 d2 f0 f1 f2 g0 g1 g2 h0 h1 h2 i0 i1 i2 j0 j1 j2 k0 k1 k2
    have HR : Hid (ER u22 w2.heap.size aP aQ aR aS A.1 ∧ ER u22 w4.heap.size bP bQ bR bS A.1 ∧ ER u22 v0.heap.size eP eQ eR eS E ∧ ER u22 w6.heap.size cP cQ cR cS C.1 ∧ ER u22 w8.heap.size dP dQ dR dS C.1 ∧ ER u22 w11.heap.size fP fQ fR fS F.1 ∧ ER u22 w13.heap.size gP gQ gR gS F.1 ∧ ER u22 w15.heap.size hP hQ hR hS H.1 ∧ ER u22 w17.heap.size iP iQ iR iS H.1 ∧ ER u22 w19.heap.size jP jQ jR jS J.1 ∧ ER u22 w21.heap.size kP kQ kR kS J.1) := ⟨Ra, Rb, Re, Rc, Rd, Rf, Rg, Rh, Ri, Rj, Rk⟩
    clear Ra Rb Re Rc Rd Rf Rg Rh Ri Rj Rk KS tB CAB CCD CFG CHI CJK CMO CK1 CK2 hdr Rx
    obtain ⟨bA, hbA⟩ : ∃ b, A.2 = b := ⟨_, rfl⟩
    have HbA : Hid (A.2 = bA) := hbA
    rw [hbA] at hk2 ⊢
    clear hbA
    dsimp only [List.append]
    cases bA with
    | true =>
      refine wp_region_quiet_tail_below 64 (by kernel_rfl) (by kernel_rfl) ?_
      dsimp only [List.take]
      repeat (first | go_big_quiet_step (first | with_reducible exact cAB _ _ | with_reducible exact cCD _ _ | with_reducible exact cFG _ _ | with_reducible exact cHI _ _ | with_reducible exact cJK _ _ | with_reducible exact cMO _ _ | with_reducible exact cK1 _ _ | with_reducible exact cK2 _ _) | quiet_step (first | with_reducible exact cAB _ _ | with_reducible exact cCD _ _ | with_reducible exact cFG _ _ | with_reducible exact cHI _ _ | with_reducible exact cJK _ _ | with_reducible exact cMO _ _ | with_reducible exact cK1 _ _ | with_reducible exact cK2 _ _))
      refine wpQuiet_nil ?_
      intro _ hw'
      obtain ⟨⟨dq, osq⟩, hw''⟩ := hw'
      subst hw''
      obtain ⟨wt, hwt⟩ : ∃ x, grow (redrawn u22 dq) osq = x := ⟨_, rfl⟩
      have hbt : Below w.heap.size w wt := by rw [← hwt]; exact HBW.out.trans ((below_regrown u22 dq osq).mono HBW.out.size)
      rw [hwt]
      clear hwt
      dsimp only [List.drop]
      go_wp2_with fail
      refine (CN.out wt).mono ?_
      rintro e wn ⟨na, nb, nc, nd, rfl, hbn⟩
      go_wp2_with fail
      go_ret
      exact ⟨rfl, hbt.trans (hbn.mono hbt.size)⟩
    | false =>
      have cAE : ∀ d os, Calls Try.prog 39 #[.agg #[.int .i64 A.1.now, .slice aP A.1.pins.length aQ, .slice aR A.1.gone.length aS], .agg #[.int .i64 E.now, .slice eP E.pins.length eQ, .slice eR E.gone.length eS]] (grow (redrawn u22 d) os) fun e w'' => e = .returned (.bool true) ∧ ∃ p : Regrown, w'' = grow (redrawn u22 p.d) p.os := fun d os => Calls.regrown_of (CAE.out HbA.out _ (below_regrown u22 d os))
      refine wp_region_quiet_tail_below 64 (by kernel_rfl) (by kernel_rfl) ?_
      dsimp only [List.take]
      repeat (first | go_big_quiet_step (first | with_reducible exact cAB _ _ | with_reducible exact cCD _ _ | with_reducible exact cFG _ _ | with_reducible exact cHI _ _ | with_reducible exact cJK _ _ | with_reducible exact cMO _ _ | with_reducible exact cK1 _ _ | with_reducible exact cK2 _ _ | with_reducible exact cAE _ _) | quiet_step (first | with_reducible exact cAB _ _ | with_reducible exact cCD _ _ | with_reducible exact cFG _ _ | with_reducible exact cHI _ _ | with_reducible exact cJK _ _ | with_reducible exact cMO _ _ | with_reducible exact cK1 _ _ | with_reducible exact cK2 _ _ | with_reducible exact cAE _ _))
      refine wpQuiet_nil ?_
      intro _ hw'
      obtain ⟨⟨dq, osq⟩, hw''⟩ := hw'
      subst hw''
      obtain ⟨wt, hwt⟩ : ∃ x, grow (redrawn u22 dq) osq = x := ⟨_, rfl⟩
      have hbt : Below w.heap.size w wt := by rw [← hwt]; exact HBW.out.trans ((below_regrown u22 dq osq).mono HBW.out.size)
      rw [hwt]
      clear hwt
      dsimp only [List.drop]
      go_wp2_with fail
      refine (CN.out wt).mono ?_
      rintro e wn ⟨na, nb, nc, nd, rfl, hbn⟩
      go_wp2_with fail
      go_ret
      exact ⟨rfl, hbt.trans (hbn.mono hbt.size)⟩
end Go.Proofs.Ytockgojdmaladac
