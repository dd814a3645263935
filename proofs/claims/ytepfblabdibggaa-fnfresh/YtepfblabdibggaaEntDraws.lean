/- What the laws on entries draw. -/
import Derived.Test.YtepfblabdibggaaEntDraw
import Derived.Test.YtepfblabdibggaaEntText
import Derived.Test.YtepfblabdibggaaSpoiltDraw
import Derived.Deep.DeepCutAuto
namespace Go.Proofs.Ytepfblabdibggaa
open Go.RowKit Go.Sort
theorem left_below {w w1 w2 : World} {p : Nat} {ca : Option Addr} {n cap : Nat} (hb : Below w.heap.size w w1) (hp : w.heap.size ≤ p) (hl : Left w1 w2 p ca n cap) : Below w.heap.size w w2 := below_of_left hb hp hl
set_option maxRecDepth 100000 in
set_option maxHeartbeats 4000000 in
theorem drawEntry_any (w : World) (ca : Option Addr) (n cap : Nat) (hcode : CodeAt w ca n w.heap.size) (hn : n ≤ 1048576) :
    Calls Try.prog 16 #[.slice ca n cap] w fun e w' => ∃ E : En, DrE E ∧ e = .returned (.agg #[.string E.key, .int .i64 E.st, .int .i64 E.lf, .string E.bd]) ∧ Below w.heap.size w w' := by
  obtain ⟨R, hR⟩ : ∃ R, w.heap.size = R := ⟨_, rfl⟩
  obtain ⟨wb, hwb⟩ : ∃ wb, w.alloc (.cells #[.string ⟨#[]⟩, .int .i64 0, .int .i64 0, .string ⟨#[]⟩] 25) = wb := ⟨_, rfl⟩
  have HB : Hid (Below w.heap.size w wb ∧ EnB wb R 25 zen ∧ CodeAt wb ca n wb.heap.size) := by
    rw [← hwb, ← hR]
    refine ⟨(Below.refl _ _).alloc (Nat.le_refl _) _, EnB.new w _ zen, fun j hj => ?_⟩
    obtain ⟨b, off, z, h1, h2, h3, h4⟩ := hcode.alloc (.cells #[.string ⟨#[]⟩, .int .i64 0, .int .i64 0, .string ⟨#[]⟩] 25) j hj
    exact ⟨b, off, z, h1, by simp; omega, h3, h4⟩
  have c1 := new_any wb ca n cap HB.out.2.2 hn
  clear hcode
  go_enter Try.func16, Try.ntmps16
  go_wp2_with fail
  refine c1.mono ?_
  rintro e w1 ⟨p, rfl, hp, hp2, hcur, hcd, hb1⟩
  have H1 : Hid (Below w.heap.size w w1 ∧ EnB w1 R 25 zen ∧ w.heap.size ≤ p ∧ R ≠ p) := ⟨HB.out.1.trans (hb1.mono HB.out.1.size), HB.out.2.1.on hb1, by have := HB.out.1.size; omega, by have := HB.out.2.1.lt; omega⟩
  have c2 := l15Entry_any w1 p ca n cap hcur hcd hn hp
  clear c1 hp hp2 hcur hcd hb1
  go_wp2_with fail
  refine c2.mono ?_
  rintro e w2 ⟨E, hE, rfl, hl2⟩
  have HE : Hid (DrE E) := hE
  have H2 : Hid (Below w.heap.size w w2 ∧ EnB w2 R 25 zen) := ⟨left_below H1.out.1 H1.out.2.2.1 hl2, H1.out.2.1.left hl2 H1.out.2.2.2⟩
  obtain ⟨b0, b1, b2, b3⟩ := H2.out.2.cells
  dsimp only [zen] at b0 b1 b2 b3
  have t0 := H2.out.2.thaw 0
  have t1 := H2.out.2.thaw 1
  have t2 := H2.out.2.thaw 2
  have t3 := H2.out.2.thaw 3
  clear c2 hl2 hE
  go_wp2_with fail
  have HF : Hid (Below w.heap.size w (putE w2 R E) ∧ EnB (putE w2 R E) R 25 E) := ⟨below_putE H2.out.1 (by omega) _, H2.out.2.put E⟩
  dsimp only [putE] at HF
  generalize (((w2.setCell ⟨R, 0, none⟩ (.string E.key)).setCell ⟨R, 1, none⟩ (.int .i64 E.st)).setCell ⟨R, 2, none⟩ (.int .i64 E.lf)).setCell ⟨R, 3, none⟩ (.string E.bd) = w9 at HF ⊢
  obtain ⟨q0, q1, q2, q3⟩ := HF.out.2.cells
  refine bodyPost_ret (v := .agg #[.string E.key, .int .i64 E.st, .int .i64 E.lf, .string E.bd]) (by simp [results, Try.results16, go_sem, q0, q1, q2, q3]) rfl ⟨E, HE.out, rfl, HF.out.1⟩
set_option maxRecDepth 100000 in
set_option maxHeartbeats 4000000 in
theorem drawEntryText_any (w : World) (ca : Option Addr) (n cap : Nat) (hcode : CodeAt w ca n w.heap.size) (hn : n ≤ 1048576) :
    Calls Try.prog 9 #[.slice ca n cap] w fun e w' => ∃ E : En, AnyE E ∧ e = .returned (.agg #[.string E.key, .int .i64 E.st, .int .i64 E.lf, .string E.bd]) ∧ Below w.heap.size w w' := by
  obtain ⟨R, hR⟩ : ∃ R, w.heap.size = R := ⟨_, rfl⟩
  obtain ⟨wb, hwb⟩ : ∃ wb, w.alloc (.cells #[.string ⟨#[]⟩, .int .i64 0, .int .i64 0, .string ⟨#[]⟩] 25) = wb := ⟨_, rfl⟩
  have HB : Hid (Below w.heap.size w wb ∧ EnB wb R 25 zen ∧ CodeAt wb ca n wb.heap.size) := by
    rw [← hwb, ← hR]
    refine ⟨(Below.refl _ _).alloc (Nat.le_refl _) _, EnB.new w _ zen, fun j hj => ?_⟩
    obtain ⟨b, off, z, h1, h2, h3, h4⟩ := hcode.alloc (.cells #[.string ⟨#[]⟩, .int .i64 0, .int .i64 0, .string ⟨#[]⟩] 25) j hj
    exact ⟨b, off, z, h1, by simp; omega, h3, h4⟩
  have c1 := new_any wb ca n cap HB.out.2.2 hn
  clear hcode
  go_enter Try.func9, Try.ntmps9
  go_wp2_with fail
  refine c1.mono ?_
  rintro e w1 ⟨p, rfl, hp, hp2, hcur, hcd, hb1⟩
  have H1 : Hid (Below w.heap.size w w1 ∧ EnB w1 R 25 zen ∧ w.heap.size ≤ p ∧ R ≠ p) := ⟨HB.out.1.trans (hb1.mono HB.out.1.size), HB.out.2.1.on hb1, by have := HB.out.1.size; omega, by have := HB.out.2.1.lt; omega⟩
  have c2 := l15Any_any w1 p ca n cap hcur hcd hn hp
  clear c1 hp hp2 hcur hcd hb1
  go_wp2_with fail
  refine c2.mono ?_
  rintro e w2 ⟨E, hE, rfl, hl2⟩
  have HE : Hid (AnyE E) := hE
  have H2 : Hid (Below w.heap.size w w2 ∧ EnB w2 R 25 zen) := ⟨left_below H1.out.1 H1.out.2.2.1 hl2, H1.out.2.1.left hl2 H1.out.2.2.2⟩
  obtain ⟨b0, b1, b2, b3⟩ := H2.out.2.cells
  dsimp only [zen] at b0 b1 b2 b3
  have t0 := H2.out.2.thaw 0
  have t1 := H2.out.2.thaw 1
  have t2 := H2.out.2.thaw 2
  have t3 := H2.out.2.thaw 3
  clear c2 hl2 hE
  go_wp2_with fail
  have HF : Hid (Below w.heap.size w (putE w2 R E) ∧ EnB (putE w2 R E) R 25 E) := ⟨below_putE H2.out.1 (by omega) _, H2.out.2.put E⟩
  dsimp only [putE] at HF
  generalize (((w2.setCell ⟨R, 0, none⟩ (.string E.key)).setCell ⟨R, 1, none⟩ (.int .i64 E.st)).setCell ⟨R, 2, none⟩ (.int .i64 E.lf)).setCell ⟨R, 3, none⟩ (.string E.bd) = w9 at HF ⊢
  obtain ⟨q0, q1, q2, q3⟩ := HF.out.2.cells
  refine bodyPost_ret (v := .agg #[.string E.key, .int .i64 E.st, .int .i64 E.lf, .string E.bd]) (by simp [results, Try.results9, go_sem, q0, q1, q2, q3]) rfl ⟨E, HE.out, rfl, HF.out.1⟩
set_option maxRecDepth 100000 in
set_option maxHeartbeats 4000000 in
theorem drawReadEntry_any (w : World) (ca : Option Addr) (n cap : Nat) (hcode : CodeAt w ca n w.heap.size) (hn : n ≤ 1048576) :
    Calls Try.prog 12 #[.slice ca n cap] w fun e w' => ∃ t : ByteArray, t.size ≤ 1000 ∧ e = .returned (.string t) ∧ Below w.heap.size w w' := by
  have c1 := new_any w ca n cap hcode hn
  clear hcode
  go_enter Try.func12, Try.ntmps12
  go_wp2_with fail
  refine c1.mono ?_
  rintro e w1 ⟨p, rfl, hp, hp2, hcur, hcd, hb1⟩
  have c2 := below_any w1 p ca n cap 3 hcur hcd hn (by omega) (by omega)
  clear c1 hcur hcd
  go_wp2_with fail
  refine c2.mono ?_
  rintro e w2 ⟨x, hx, _, rfl, hl2⟩
  have hx2 := hx (by omega)
  have H2 : Hid (Below w.heap.size w w2 ∧ p < w2.heap.size ∧ w.heap.size ≤ p) := ⟨left_below hb1 hp2 hl2, Nat.lt_of_lt_of_le hp hl2.2.2.size, hp2⟩
  have c3 := l15Any_any w2 p ca n cap hl2.1 hl2.2.1 hn H2.out.2.1
  clear c2 hx hl2 hb1 hp hp2
  go_wp2_with fail
  refine c3.mono ?_
  rintro e w3 ⟨E, hE, rfl, hl3⟩
  have H3 : Hid (Below w.heap.size w w3 ∧ Cur w3 p ca n cap ∧ CodeAt w3 ca n p ∧ p < w3.heap.size) := ⟨left_below H2.out.1 H2.out.2.2 hl3, hl3.1, hl3.2.1, Nat.lt_of_lt_of_le H2.out.2.1 hl3.2.2.size⟩
  have HPP : Hid (w.heap.size ≤ p) := H2.out.2.2
  have c4 := specEntryText_any w3 E.key E.bd E.st E.lf (by have := hE.1; omega) (by have := hE.2.2; omega)
  have hsz := enText_size ⟨E.key, E.st, E.lf, E.bd⟩
  generalize enText ⟨E.key, E.st, E.lf, E.bd⟩ = s at c4 hsz
  generalize enOk ⟨E.key, E.st, E.lf, E.bd⟩ = o at c4
  clear c3 hE hl3 H2
  go_wp2_with fail
  refine c4.mono ?_
  rintro e w4 ⟨rfl, hb4⟩
  have H4 : Hid (Below w.heap.size w w4 ∧ Cur w4 p ca n cap ∧ CodeAt w4 ca n p ∧ p < w4.heap.size) := ⟨H3.out.1.trans (hb4.mono H3.out.1.size), H3.out.2.1.kept (hb4.block p H3.out.2.2.2), H3.out.2.2.1.kept (fun b hb => hb4.block b (by have := H3.out.2.2.2; omega)), Nat.lt_of_lt_of_le H3.out.2.2.2 hb4.size⟩
  clear c4 hb4 H3
  by_cases h0 : x = 0
  · subst h0
    have c5 := spoilt_any w4 p ca n cap s (by omega) H4.out.2.1 H4.out.2.2.1 hn
    go_wp2_with fail
    refine c5.mono ?_
    rintro e w5 ⟨t, rfl, hts, hl5⟩
    have H5 : Hid (Below w.heap.size w w5) := left_below H4.out.1 HPP.out hl5
    clear c5 hl5
    go_wp2_with fail
    go_ret
    exact ⟨t, by omega, rfl, H5.out⟩
  · have g0 : ¬ (x : Int) = 0 := by omega
    go_wp2_with fail
    go_ret
    exact ⟨s, by omega, rfl, H4.out.1⟩
end Go.Proofs.Ytepfblabdibggaa
