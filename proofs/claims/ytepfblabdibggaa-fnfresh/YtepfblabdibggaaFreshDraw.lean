/- An entry and a moment are drawn. -/
import Derived.Test.YtepfblabdibggaaEntDraws
import Derived.Deep.RegionLaw
namespace Go.Proofs.Ytepfblabdibggaa
open Go.RowKit Go.Sort
def nowL : List Int := [0, 1, 5, 12, 30, 9223372036854775807, -9223372036854775808]
theorem nowL_in : ∀ z ∈ nowL, -9223372036854775808 ≤ z ∧ z ≤ 9223372036854775807 := by decide
def stepL : List Int := [0, 4, 5, 6, -1]
theorem stepL_in : ∀ z ∈ stepL, -1 ≤ z ∧ z ≤ 6 := by decide
theorem below_new' {w w1 w2 : World} (h : Below w.heap.size w w1) (o : Obj) (hw : w1.alloc o = w2) : Below w.heap.size w w2 := by
  rw [← hw]; exact h.alloc h.size _
set_option maxRecDepth 100000 in
set_option maxHeartbeats 4000000 in
theorem drawFreshAt_any (w : World) (ca : Option Addr) (n cap : Nat) (hcode : CodeAt w ca n w.heap.size) (hn : n ≤ 1048576) :
    Calls Try.prog 17 #[.slice ca n cap] w fun e w' => ∃ (E : En) (now : Int), AnyE E ∧ e = .returned (.tuple #[.agg #[.string E.key, .int .i64 E.st, .int .i64 E.lf, .string E.bd], .int .i64 now]) ∧ Below w.heap.size w w' := by
  obtain ⟨R, hR⟩ : ∃ R, w.heap.size = R := ⟨_, rfl⟩
  obtain ⟨wb, hwb⟩ : ∃ wb, w.alloc (.cells #[.string ⟨#[]⟩, .int .i64 0, .int .i64 0, .string ⟨#[]⟩] 25) = wb := ⟨_, rfl⟩
  have HB : Hid (Below w.heap.size w wb ∧ EnB wb R 25 zen ∧ CodeAt wb ca n wb.heap.size) := by
    rw [← hwb, ← hR]
    refine ⟨(Below.refl _ _).alloc (Nat.le_refl _) _, EnB.new w _ zen, fun j hj => ?_⟩
    obtain ⟨b, off, z, h1, h2, h3, h4⟩ := hcode.alloc (.cells #[.string ⟨#[]⟩, .int .i64 0, .int .i64 0, .string ⟨#[]⟩] 25) j hj
    exact ⟨b, off, z, h1, by simp; omega, h3, h4⟩
  have c1 := new_any wb ca n cap HB.out.2.2 hn
  clear hcode
  go_enter Try.func17, Try.ntmps17
  go_wp2_with fail
  refine c1.mono ?_
  rintro e w1 ⟨p, rfl, hp, hp2, hcur, hcd, hb1⟩
  have H1 : Hid (Below w.heap.size w w1 ∧ EnB w1 R 25 zen ∧ w.heap.size ≤ p ∧ R ≠ p ∧ R < w1.heap.size) := ⟨HB.out.1.trans (hb1.mono HB.out.1.size), HB.out.2.1.on hb1, by have := HB.out.1.size; omega, by have := HB.out.2.1.lt; omega, (HB.out.2.1.on hb1).lt⟩
  obtain ⟨o2, u2, d2⟩ := pickLit w1 p ca n cap nowL hcur hcd hp (by decide)
  have c2 := pickInt_any _ p ca n cap w1.heap.size _ nowL u2 d2 hn o2 hp (by decide) (by decide)
  have HP1 : Hid (p < w1.heap.size) := hp
  clear c1 hp hp2 hcur hcd hb1 o2 u2 d2
  go_wp2_with fail
  refine c2.mono ?_
  rintro e w2 ⟨now, hnow, rfl, hl2⟩
  have hl2' : Left w1 w2 p ca n cap := ⟨hl2.1, hl2.2.1, grownBy_trans (World.grownBy_alloc _ _ _) hl2.2.2⟩
  have H2 : Hid (Below w.heap.size w w2 ∧ EnB w2 R 25 zen ∧ p < w2.heap.size) := ⟨left_below H1.out.1 H1.out.2.2.1 hl2', H1.out.2.1.left hl2' H1.out.2.2.2.1, Nat.lt_of_lt_of_le HP1.out hl2'.2.2.size⟩
  have c3 := l15Any_any w2 p ca n cap hl2'.1 hl2'.2.1 hn H2.out.2.2
  clear c2 hnow hl2 hl2'
  go_wp2_with fail
  refine c3.mono ?_
  rintro e w3 ⟨E, hE, rfl, hl3⟩
  have HE : Hid (AnyE E) := hE
  obtain ⟨T, hT⟩ : ∃ T, w3.heap.size = T := ⟨_, rfl⟩
  obtain ⟨w4, hw4⟩ : ∃ x, w3.alloc (.cells #[.string E.key, .int .i64 E.st, .int .i64 E.lf, .string E.bd] 25) = x := ⟨_, rfl⟩
  have hR3 := H2.out.2.1.left hl3 H1.out.2.2.2.1
  have hp3 := Nat.lt_of_lt_of_le H2.out.2.2 hl3.2.2.size
  have H4 : Hid (Below w.heap.size w w4 ∧ EnB w4 R 25 zen ∧ EnB w4 T 25 E ∧ Cur w4 p ca n cap ∧ CodeAt w4 ca n p ∧ p < w4.heap.size ∧ p < T ∧ w.heap.size ≤ p) :=
    ⟨below_new' (left_below H2.out.1 H1.out.2.2.1 hl3) _ hw4, by rw [← hw4]; exact hR3.on ((Below.refl _ _).alloc (Nat.le_refl _) _), by rw [← hw4, ← hT]; exact EnB.new w3 _ E, by rw [← hw4]; exact hl3.1.alloc hp3 _, by rw [← hw4]; exact hl3.2.1.alloc _, by rw [← hw4]; simp; omega, by omega, H1.out.2.2.1⟩
  have HRP : Hid (R ≠ p) := H1.out.2.2.2.1
  have c5 := once_any w4 p ca n cap 2 H4.out.2.2.2.1 H4.out.2.2.2.2.1 hn (by omega) (by omega)
  clear c3 hE hl3 hR3 hp3 H1 H2 HB HP1 hwb
  go_wp2_with fail
  refine c5.mono ?_
  rintro e w5 ⟨bb, rfl, hl5⟩
  have H5 : Hid (Below w.heap.size w w5 ∧ EnB w5 R 25 zen ∧ EnB w5 T 25 E ∧ Cur w5 p ca n cap ∧ CodeAt w5 ca n p ∧ p < w5.heap.size ∧ p < T ∧ w.heap.size ≤ p) :=
    ⟨left_below H4.out.1 H4.out.2.2.2.2.2.2.2 hl5, H4.out.2.1.left hl5 HRP.out, H4.out.2.2.1.left hl5 (by have := H4.out.2.2.2.2.2.2.1; omega), hl5.1, hl5.2.1, Nat.lt_of_lt_of_le H4.out.2.2.2.2.2.1 hl5.2.2.size, H4.out.2.2.2.2.2.2.1, H4.out.2.2.2.2.2.2.2⟩
  clear c5 hl5 H4 hw4 hT
  have fin : ∀ (wf : World), Below w.heap.size w wf → EnB wf R 25 zen → Hid (Below w.heap.size w (putE wf R E) ∧ EnB (putE wf R E) R 25 E) := fun wf h1 h2 => ⟨below_putE h1 (by omega) _, h2.put E⟩
  cases bb
  case false =>
    have HF := fin w5 H5.out.1 H5.out.2.1
    obtain ⟨x0, x1, x2, x3⟩ := H5.out.2.2.1.cells
    obtain ⟨b0, b1, b2, b3⟩ := H5.out.2.1.cells
    dsimp only [zen] at b0 b1 b2 b3
    have t0 := H5.out.2.1.thaw 0
    have t1 := H5.out.2.1.thaw 1
    have t2 := H5.out.2.1.thaw 2
    have t3 := H5.out.2.1.thaw 3
    clear fin
    go_wp2_with fail
    dsimp only [putE] at HF
    generalize (((w5.setCell ⟨R, 0, none⟩ (.string E.key)).setCell ⟨R, 1, none⟩ (.int .i64 E.st)).setCell ⟨R, 2, none⟩ (.int .i64 E.lf)).setCell ⟨R, 3, none⟩ (.string E.bd) = w9 at HF ⊢
    obtain ⟨q0, q1, q2, q3⟩ := HF.out.2.cells
    refine bodyPost_ret (v := .tuple #[.agg #[.string E.key, .int .i64 E.st, .int .i64 E.lf, .string E.bd], .int .i64 now]) (by simp [results, Try.results17, go_sem, q0, q1, q2, q3]) rfl ⟨E, now, HE.out, rfl, HF.out.1⟩
  case true =>
    obtain ⟨x0, x1, x2, x3⟩ := H5.out.2.2.1.cells
    have hst := HE.out.2.1
    have HPK : Hid (∀ (wj : World) (kk : Nat), kk = w5.heap.size → wj.heap = (w5.alloc (.cells (ints stepL).toArray 3)).heap → wj.os = w5.os → wj.tape = w5.tape → wj.output = w5.output → Calls Try.prog 40 #[.pointer (some ⟨p, 0, none⟩), .slice (some ⟨kk, 0, none⟩) 5 5] wj fun e w' => ∃ z : Int, (-1 ≤ z ∧ z ≤ 6) ∧ e = .returned (.int .i64 z) ∧ Below w.heap.size w w' ∧ EnB w' R 25 zen ∧ EnB w' T 25 E) := by
      intro wj kk hkk h1 h2 h3 h4
      obtain ⟨wi, rfl, h1, h2, h3, h4⟩ : ∃ wi : World, wi.alloc (.cells (ints stepL).toArray 3) = wj ∧ wi.heap = w5.heap ∧ wi.os = w5.os ∧ wi.tape = w5.tape ∧ wi.output = w5.output :=
        ⟨{ wj with heap := w5.heap }, by cases wj; simp only at h1; subst h1; rfl, rfl, h2, h3, h4⟩
      have hkk : kk = wi.heap.size := by rw [hkk, h1]
      subst hkk
      have hc : Cur wi p ca n cap := H5.out.2.2.2.1.kept (by rw [h1])
      have hcd : CodeAt wi ca n p := H5.out.2.2.2.2.1.kept (fun b _ => by rw [h1])
      have hpw : p < wi.heap.size := by rw [h1]; exact H5.out.2.2.2.2.2.1
      obtain ⟨o2, u2, d2⟩ := pickLit wi p ca n cap stepL hc hcd hpw (by decide)
      refine (pickInt_any _ p ca n cap wi.heap.size _ stepL u2 d2 hn o2 hpw (by decide) (by decide)).mono ?_
      rintro e w' ⟨z, hz, rfl, hl⟩
      have hl' : Left wi w' p ca n cap := ⟨hl.1, hl.2.1, grownBy_trans (World.grownBy_alloc _ _ _) hl.2.2⟩
      have hbw : Below w.heap.size w wi := H5.out.1.trans ⟨h2, h3, h4, by rw [h1]; exact Nat.le_refl _, fun k _ => by rw [h1]⟩
      have hRi : EnB wi R 25 zen := by have := H5.out.2.1; unfold EnB at *; rw [h1]; exact this
      have hTi : EnB wi T 25 E := by have := H5.out.2.2.1; unfold EnB at *; rw [h1]; exact this
      exact ⟨z, stepL_in z hz, rfl, left_below hbw H5.out.2.2.2.2.2.2.2 hl', hRi.left hl' HRP.out, hTi.left hl' (by have := H5.out.2.2.2.2.2.2.1; omega)⟩
    have x1a := fun o => (H5.out.2.2.1.on ((Below.refl w5.heap.size w5).alloc (Nat.le_refl _) o)).cells.2.1
    go_wp2_with fail
    go_region_law (go_simp; go_at_call 40; refine Calls.mono (HPK.out _ _ ?_ ?_ ?_ ?_ ?_) ?_; exact rfl; exact rfl; exact rfl; exact rfl; exact rfl; rintro e w6 ⟨z, hz, rfl, hb6, hR6, hT6⟩; have y1 := hT6.cells.2.1)
    all_goals (
      have HF := fin w6 hb6 hR6
      have HZ : Hid (E.st + z = E.st + z) := rfl
      have hwr : IntKind.i64.wrap (E.st + z) = E.st + z := by rw [IntKind.wrap_i64]; omega
      obtain ⟨x0, x1, x2, x3⟩ := hT6.cells
      obtain ⟨b0, b1, b2, b3⟩ := hR6.cells
      dsimp only [zen] at b0 b1 b2 b3
      have t0 := hR6.thaw 0
      have t1 := hR6.thaw 1
      have t2 := hR6.thaw 2
      have t3 := hR6.thaw 3
      clear fin HPK x1a
      go_wp2_with fail
      dsimp only [putE] at HF
      generalize (((w6.setCell ⟨R, 0, none⟩ (.string E.key)).setCell ⟨R, 1, none⟩ (.int .i64 E.st)).setCell ⟨R, 2, none⟩ (.int .i64 E.lf)).setCell ⟨R, 3, none⟩ (.string E.bd) = w9 at HF ⊢
      obtain ⟨q0, q1, q2, q3⟩ := HF.out.2.cells
      refine bodyPost_ret (v := .tuple #[.agg #[.string E.key, .int .i64 E.st, .int .i64 E.lf, .string E.bd], .int .i64 (E.st + z)]) (by simp [results, Try.results17, go_sem, q0, q1, q2, q3]) rfl (by first | exact ⟨E, E.st + z, HE.out, rfl, HF.out.1⟩ | exact ⟨E, HE.out, ⟨E.st + z, rfl⟩, hR ▸ HF.out.1⟩))
end Go.Proofs.Ytepfblabdibggaa
