/- Entries are drawn. -/
import Derived.Test.YtepfblabdibggaaKeysDraw13
import Derived.Test.YtepfblabdibggaaEnLaw
namespace Go.Proofs.Ytepfblabdibggaa
open Go.RowKit Go.Sort
/-- A drawn right entry. -/
def DrE (E : En) : Prop := (1 ≤ E.key.size ∧ E.key.size ≤ 2) ∧ (1 ≤ E.st ∧ E.st ≤ 20) ∧ (1 ≤ E.lf ∧ E.lf ≤ 999999) ∧ E.bd.size ≤ 8
theorem DrE.ok {E : En} (h : DrE E) : enOk E = true := enOk_iff.2 ⟨by have := h.1; omega, by have := h.2.1; omega, h.2.2.1, by have := h.2.2.2; omega⟩
/-- Any drawn entry. -/
def AnyE (E : En) : Prop := E.key.size ≤ 31 ∧ (-1 ≤ E.st ∧ E.st ≤ 1000000001) ∧ E.bd.size ≤ 401
theorem DrE.any {E : En} (h : DrE E) : AnyE E := ⟨by have := h.1; omega, by have := h.2.1; omega, by have := h.2.2.2; omega⟩
theorem EnB.left {w w' : World} {T : Nat} {t : TypeId} {E : En} {p : Nat} {ca : Option Addr} {n cap : Nat} (h : EnB w T t E) (hl : Left w w' p ca n cap) (hne : T ≠ p) : EnB w' T t E := (hl.2.2.block T h.lt (by simpa using hne)).trans h
def lifeL : List Int := [1, 5, 60, 999999]
theorem lifeL_in : ∀ z ∈ lifeL, 1 ≤ z ∧ z ≤ 999999 := by decide
def storeL : List Int := [-1, 0, 1000000000, 1000000001]
theorem storeL_in : ∀ z ∈ storeL, -1 ≤ z ∧ z ≤ 1000000001 := by decide
def badL : List Int := [0, 1000000, -9223372036854775808]
def keyLL : List ByteArray := [⟨#[]⟩, ⟨#[48, 49, 50, 51, 52, 53, 54, 55, 56, 57, 48, 49, 50, 51, 52, 53, 54, 55, 56, 57, 48, 49, 50, 51, 52, 53, 54, 55, 56, 57, 48]⟩]
theorem keyLL_in : ∀ z ∈ keyLL, z.size ≤ 31 := by decide
theorem pickLit (w : World) (p : Nat) (ca : Option Addr) (n cap : Nat) (zs : List Int) (hc : Cur w p ca n cap) (hcode : CodeAt w ca n p) (hp : p < w.heap.size) (h1 : zs.length ≤ 1000000) :
    OwnV (w.alloc (.cells (ints zs).toArray 3)) w.heap.size 3 (.slice (some ⟨w.heap.size, 0, none⟩) zs.length zs.length) (ints zs) ∧ Cur (w.alloc (.cells (ints zs).toArray 3)) p ca n cap ∧ CodeAt (w.alloc (.cells (ints zs).toArray 3)) ca n p := by
  refine ⟨?_, hc.alloc hp _, hcode.alloc _⟩
  have h := World.ownsRow_lit (base := w.heap.size) (e := 3) (size := 1) w (ints zs).toArray zs.length (Nat.le_refl _) (by unfold maxLen; omega) (by simp [ints_length])
  unfold OwnV
  rw [ints_length]
  simpa using h
set_option maxRecDepth 100000 in
set_option maxHeartbeats 4000000 in
theorem l15Entry_any (w : World) (p : Nat) (ca : Option Addr) (n cap : Nat) (hc : Cur w p ca n cap) (hcode : CodeAt w ca n p) (hn : n ≤ 1048576) (hp : p < w.heap.size) :
    Calls Try.prog 39 #[.pointer (some ⟨p, 0, none⟩)] w fun e w' => ∃ E : En, DrE E ∧ e = .returned (.agg #[.string E.key, .int .i64 E.st, .int .i64 E.lf, .string E.bd]) ∧ Left w w' p ca n cap := by
  obtain ⟨R, hR⟩ : ∃ R, w.heap.size = R := ⟨_, rfl⟩
  obtain ⟨wb, hwb⟩ : ∃ wb, w.alloc (.cells #[.string ⟨#[]⟩, .int .i64 0, .int .i64 0, .string ⟨#[]⟩] 25) = wb := ⟨_, rfl⟩
  have HB : Hid (Left w wb p ca n cap ∧ EnB wb R 25 zen ∧ p < wb.heap.size ∧ R ≠ p) := by
    have hne : w.heap.size ≠ p := by omega
    rw [← hwb, ← hR]
    exact ⟨⟨hc.alloc hp _, hcode.alloc _, World.grownBy_alloc _ _ _⟩, EnB.new w _ zen, by simp; omega, hne⟩
  have HPR : Hid (p < R) := by show _ < _; omega
  have c1 := l12Key2_any wb p ca n cap HB.out.1.1 HB.out.1.2.1 hn HB.out.2.2.1
  clear hc hcode hp
  go_enter Try.func39, Try.ntmps39
  go_wp2_with fail
  refine c1.mono ?_
  rintro e w1 ⟨k, hk, rfl, hl1⟩
  have H1 : Hid (Left w w1 p ca n cap ∧ EnB w1 R 25 zen ∧ p < w1.heap.size ∧ key2 k) := ⟨HB.out.1.trans hl1, HB.out.2.1.left hl1 HB.out.2.2.2, Nat.lt_of_lt_of_le HB.out.2.2.1 hl1.2.2.size, hk⟩
  have c2 := below_any w1 p ca n cap 20 H1.out.1.1 H1.out.1.2.1 hn (by omega) (by omega)
  clear c1 hl1 hk
  go_wp2_with fail
  refine c2.mono ?_
  rintro e w2 ⟨x, hx, _, rfl, hl2⟩
  have hx2 := hx (by omega)
  have H2 : Hid (Left w w2 p ca n cap ∧ EnB w2 R 25 zen ∧ p < w2.heap.size ∧ key2 k) := ⟨H1.out.1.trans hl2, H1.out.2.1.left hl2 HB.out.2.2.2, Nat.lt_of_lt_of_le H1.out.2.2.1 hl2.2.2.size, H1.out.2.2.2⟩
  obtain ⟨o3, u3, d3⟩ := pickLit w2 p ca n cap lifeL H2.out.1.1 H2.out.1.2.1 H2.out.2.2.1 (by decide)
  have c3 := pickInt_any _ p ca n cap w2.heap.size _ lifeL u3 d3 hn o3 H2.out.2.2.1 (by decide) (by decide)
  clear c2 hx hl2 H1 o3 u3 d3
  go_wp2_with fail
  refine c3.mono ?_
  rintro e w3 ⟨l, hl, rfl, hl3⟩
  have hl3' : Left w2 w3 p ca n cap := ⟨hl3.1, hl3.2.1, grownBy_trans (World.grownBy_alloc _ _ _) hl3.2.2⟩
  have H3 : Hid (Left w w3 p ca n cap ∧ EnB w3 R 25 zen ∧ p < w3.heap.size ∧ key2 k ∧ (1 ≤ l ∧ l ≤ 999999)) := ⟨H2.out.1.trans hl3', H2.out.2.1.left hl3' HB.out.2.2.2, Nat.lt_of_lt_of_le H2.out.2.2.1 hl3'.2.2.size, H2.out.2.2.2, lifeL_in l hl⟩
  have c4 := below_any w3 p ca n cap 9 H3.out.1.1 H3.out.1.2.1 hn (by omega) (by omega)
  clear c3 hl hl3 hl3' H2
  go_wp2_with fail
  refine c4.mono ?_
  rintro e w4 ⟨y, hy, _, rfl, hl4⟩
  have hy2 := hy (by omega)
  have H4 : Hid (Left w w4 p ca n cap ∧ EnB w4 R 25 zen ∧ p < w4.heap.size ∧ key2 k ∧ (1 ≤ l ∧ l ≤ 999999)) := ⟨H3.out.1.trans hl4, H3.out.2.1.left hl4 HB.out.2.2.2, Nat.lt_of_lt_of_le H3.out.2.2.1 hl4.2.2.size, H3.out.2.2.2⟩
  have c5 := text_any w4 p ca n cap (y : Int) H4.out.1.1 H4.out.1.2.1 hn (by omega) (by omega)
  clear c4 hy hl4 H3
  go_wp2_with fail
  refine c5.mono ?_
  rintro e w5 ⟨b, hb, rfl, hl5⟩
  have H5 : Hid (Left w w5 p ca n cap ∧ EnB w5 R 25 zen ∧ p < w5.heap.size ∧ DrE ⟨k, 1 + (x : Int), l, b⟩) := ⟨H4.out.1.trans hl5, H4.out.2.1.left hl5 HB.out.2.2.2, Nat.lt_of_lt_of_le H4.out.2.2.1 hl5.2.2.size, H4.out.2.2.2.1, ⟨by dsimp only; omega, by dsimp only; omega⟩, H4.out.2.2.2.2, by dsimp only; omega⟩
  obtain ⟨b0, b1, b2, b3⟩ := H5.out.2.1.cells
  dsimp only [zen] at b0 b1 b2 b3
  have t0 := H5.out.2.1.thaw 0
  have t1 := H5.out.2.1.thaw 1
  have t2 := H5.out.2.1.thaw 2
  have t3 := H5.out.2.1.thaw 3
  clear c5 hb hl5 H4
  go_wp2_with fail
  have HQ : Hid (Left w (putE w5 R ⟨k, 1 + (x : Int), l, b⟩) p ca n cap ∧ EnB (putE w5 R ⟨k, 1 + (x : Int), l, b⟩) R 25 ⟨k, 1 + (x : Int), l, b⟩) :=
    ⟨H5.out.1.below (below_putE (Below.refl _ _) (by omega) _) (by have := HPR.out; omega), H5.out.2.1.put _⟩
  dsimp only [putE] at HQ
  generalize (((w5.setCell ⟨R, 0, none⟩ (.string k)).setCell ⟨R, 1, none⟩ (.int .i64 (1 + (x : Int)))).setCell ⟨R, 2, none⟩ (.int .i64 l)).setCell ⟨R, 3, none⟩ (.string b) = w9 at HQ ⊢
  obtain ⟨q0, q1, q2, q3⟩ := HQ.out.2.cells
  dsimp only at q0 q1 q2 q3
  refine bodyPost_ret (v := .agg #[.string k, .int .i64 (1 + (x : Int)), .int .i64 l, .string b]) (by simp [results, Try.results39, go_sem, q0, q1, q2, q3]) rfl ⟨⟨k, 1 + (x : Int), l, b⟩, H5.out.2.2.2, rfl, HQ.out.1⟩
theorem EnB.set0 {w : World} {T : Nat} {t : TypeId} {E : En} (h : EnB w T t E) (x : ByteArray) : EnB (w.setCell ⟨T, 0, none⟩ (.string x)) T t ⟨x, E.st, E.lf, E.bd⟩ := by
  unfold EnB at *
  simp only [World.setCell, Array.getElem?_modify, h]
  simp
theorem EnB.set1 {w : World} {T : Nat} {t : TypeId} {E : En} (h : EnB w T t E) (x : Int) : EnB (w.setCell ⟨T, 1, none⟩ (.int .i64 x)) T t ⟨E.key, x, E.lf, E.bd⟩ := by
  unfold EnB at *
  simp only [World.setCell, Array.getElem?_modify, h]
  simp
theorem EnB.set2 {w : World} {T : Nat} {t : TypeId} {E : En} (h : EnB w T t E) (x : Int) : EnB (w.setCell ⟨T, 2, none⟩ (.int .i64 x)) T t ⟨E.key, E.st, x, E.bd⟩ := by
  unfold EnB at *
  simp only [World.setCell, Array.getElem?_modify, h]
  simp
set_option maxRecDepth 100000 in
set_option maxHeartbeats 8000000 in
theorem l15Any_any (w : World) (p : Nat) (ca : Option Addr) (n cap : Nat) (hc : Cur w p ca n cap) (hcode : CodeAt w ca n p) (hn : n ≤ 1048576) (hp : p < w.heap.size) :
    Calls Try.prog 24 #[.pointer (some ⟨p, 0, none⟩)] w fun e w' => ∃ E : En, AnyE E ∧ e = .returned (.agg #[.string E.key, .int .i64 E.st, .int .i64 E.lf, .string E.bd]) ∧ Left w w' p ca n cap := by
  obtain ⟨R, hR⟩ : ∃ R, w.heap.size = R := ⟨_, rfl⟩
  obtain ⟨wb, hwb⟩ : ∃ wb, w.alloc (.cells #[.string ⟨#[]⟩, .int .i64 0, .int .i64 0, .string ⟨#[]⟩] 25) = wb := ⟨_, rfl⟩
  have HB : Hid (Left w wb p ca n cap ∧ EnB wb R 25 zen ∧ p < wb.heap.size ∧ R ≠ p) := by
    have hne : w.heap.size ≠ p := by omega
    rw [← hwb, ← hR]
    exact ⟨⟨hc.alloc hp _, hcode.alloc _, World.grownBy_alloc _ _ _⟩, EnB.new w _ zen, by simp; omega, hne⟩
  have HPR : Hid (p < R) := by show _ < _; omega
  have c1 := l15Entry_any wb p ca n cap HB.out.1.1 HB.out.1.2.1 hn HB.out.2.2.1
  clear hc hcode hp
  go_enter Try.func24, Try.ntmps24
  go_wp2_with fail
  refine c1.mono ?_
  rintro e w1 ⟨E, hE, rfl, hl1⟩
  obtain ⟨T, hT⟩ : ∃ T, w1.heap.size = T := ⟨_, rfl⟩
  obtain ⟨w2, hw2⟩ : ∃ w2, w1.alloc (.cells #[.string E.key, .int .i64 E.st, .int .i64 E.lf, .string E.bd] 25) = w2 := ⟨_, rfl⟩
  have hlr : Left w w1 p ca n cap := HB.out.1.trans hl1
  have hR1 := HB.out.2.1.left hl1 HB.out.2.2.2
  have hp1 := Nat.lt_of_lt_of_le HB.out.2.2.1 hl1.2.2.size
  have H2 : Hid (Left w w2 p ca n cap ∧ EnB w2 R 25 zen ∧ p < w2.heap.size ∧ EnB w2 T 25 E ∧ p < T ∧ R < T) := by
    have hal : Below w1.heap.size w1 w2 := by rw [← hw2]; exact (Below.refl _ _).alloc (Nat.le_refl _) _
    refine ⟨⟨?_, ?_, ?_⟩, hR1.on hal, by have := hal.size; omega, by rw [← hw2, ← hT]; exact EnB.new w1 _ E, by omega, by have := hR1.lt; omega⟩
    · rw [← hw2]; exact hlr.1.alloc hp1 _
    · rw [← hw2]; exact hlr.2.1.alloc _
    · rw [← hw2]; exact grownBy_trans hlr.2.2 (World.grownBy_alloc _ _ _)
  have HE : Hid (DrE E) := hE
  have c2 := below_any w2 p ca n cap 12 H2.out.1.1 H2.out.1.2.1 hn (by omega) (by omega)
  clear c1 hE hl1 hlr hR1 hp1
  go_wp2_with fail
  refine c2.mono ?_
  rintro e w3 ⟨x, hx, _, rfl, hl3⟩
  have hx2 := hx (by omega)
  have H3 : Hid (Left w w3 p ca n cap ∧ EnB w3 R 25 zen ∧ p < w3.heap.size ∧ EnB w3 T 25 E) := ⟨H2.out.1.trans hl3, H2.out.2.1.left hl3 HB.out.2.2.2, Nat.lt_of_lt_of_le H2.out.2.2.1 hl3.2.2.size, H2.out.2.2.2.1.left hl3 (by have := H2.out.2.2.2.2.1; omega)⟩
  have HTR : Hid (p < T ∧ R < T) := ⟨H2.out.2.2.2.2.1, H2.out.2.2.2.2.2⟩
  clear c2 hx hl3 H2 hw2 hT HB
  have hnRT : ¬ R = T := by have := HTR.out; omega
  have hnTR : ¬ T = R := by have := HTR.out; omega
  have fin : ∀ (F : En) (wf : World), AnyE F → Left w wf p ca n cap → EnB wf R 25 zen → Hid (Left w (putE wf R F) p ca n cap ∧ EnB (putE wf R F) R 25 F) := fun F wf _ h1 h2 => ⟨h1.below (below_putE (Below.refl _ _) (by omega) _) (by have := HPR.out; omega), h2.put F⟩
  by_cases e0 : x = 0
  · subst e0
    have hal := (World.grownBy_alloc w3 (.cells (strs keyLL).toArray 9) (some p))
    have c4 := pick_any (w3.alloc (.cells (strs keyLL).toArray 9)) p ca n cap w3.heap.size (.slice (some ⟨w3.heap.size, 0, none⟩) 2 2) keyLL (H3.out.1.1.alloc H3.out.2.2.1 _) (H3.out.1.2.1.alloc _) hn
      (World.ownsRow_lit (base := w3.heap.size) (e := 9) (size := 1) w3 (strs keyLL).toArray 2 (Nat.le_refl _) (by simp [maxLen]) (by rfl)) H3.out.2.2.1 (by decide) (by decide)
    go_wp2_with fail
    refine c4.mono ?_
    rintro e w4 ⟨z, hz, rfl, hl4⟩
    have hl4' : Left w3 w4 p ca n cap := ⟨hl4.1, hl4.2.1, grownBy_trans hal hl4.2.2⟩
    have hT4 := H3.out.2.2.2.left hl4' (by have := HTR.out; omega)
    have hR4 := H3.out.2.1.left hl4' (by have := HPR.out; omega)
    have hl5 : Left w (w4.setCell ⟨T, 0, none⟩ (.string z)) p ca n cap := (H3.out.1.trans hl4').below ((Below.refl _ _).setCell (by have := HTR.out; show _ ≤ T; omega) _) (by have := HPR.out; omega)
    have hA : AnyE ⟨z, E.st, E.lf, E.bd⟩ := ⟨keyLL_in z hz, by have := HE.out.2.1; dsimp only; omega, by have := HE.out.2.2.2; dsimp only; omega⟩
    have HF := fin ⟨z, E.st, E.lf, E.bd⟩ (w4.setCell ⟨T, 0, none⟩ (.string z)) hA hl5 (hR4.far hnRT 0 _)
    have HA : Hid (AnyE ⟨z, E.st, E.lf, E.bd⟩) := hA
    obtain ⟨x0, x1, x2, x3⟩ := hT4.cells
    obtain ⟨b0, b1, b2, b3⟩ := hR4.cells
    dsimp only [zen] at b0 b1 b2 b3
    have s0 := hT4.thaw 0
    have t0 := hR4.thaw 0
    have t1 := hR4.thaw 1
    have t2 := hR4.thaw 2
    have t3 := hR4.thaw 3
    clear c4 hz hl4 hl4' hT4 hR4 hl5 hA hal H3 fin
    go_wp2_with fail
    dsimp only [putE] at HF
    generalize ((((w4.setCell ⟨T, 0, none⟩ (.string z)).setCell ⟨R, 0, none⟩ (.string z)).setCell ⟨R, 1, none⟩ (.int .i64 E.st)).setCell ⟨R, 2, none⟩ (.int .i64 E.lf)).setCell ⟨R, 3, none⟩ (.string E.bd) = w9 at HF ⊢
    obtain ⟨q0, q1, q2, q3⟩ := HF.out.2.cells
    dsimp only at q0 q1 q2 q3
    refine bodyPost_ret (v := .agg #[.string z, .int .i64 E.st, .int .i64 E.lf, .string E.bd]) (by simp [results, Try.results24, go_sem, q0, q1, q2, q3]) rfl ⟨⟨z, E.st, E.lf, E.bd⟩, HA.out, rfl, HF.out.1⟩
  by_cases e1 : x = 1
  · subst e1
    obtain ⟨o4, u4, d4⟩ := pickLit w3 p ca n cap storeL H3.out.1.1 H3.out.1.2.1 H3.out.2.2.1 (by decide)
    have c4 := pickInt_any _ p ca n cap w3.heap.size _ storeL u4 d4 hn o4 H3.out.2.2.1 (by decide) (by decide)
    clear o4 u4 d4
    go_wp2_with fail
    refine c4.mono ?_
    rintro e w4 ⟨z, hz, rfl, hl4⟩
    have hl4' : Left w3 w4 p ca n cap := ⟨hl4.1, hl4.2.1, grownBy_trans (World.grownBy_alloc _ _ _) hl4.2.2⟩
    have hT4 := H3.out.2.2.2.left hl4' (by have := HTR.out; omega)
    have hR4 := H3.out.2.1.left hl4' (by have := HPR.out; omega)
    have hl5 : Left w (w4.setCell ⟨T, 1, none⟩ (.int .i64 z)) p ca n cap := (H3.out.1.trans hl4').below ((Below.refl _ _).setCell (by have := HTR.out; show _ ≤ T; omega) _) (by have := HPR.out; omega)
    have hA : AnyE ⟨E.key, z, E.lf, E.bd⟩ := ⟨by have := HE.out.1; dsimp only; omega, storeL_in z hz, by have := HE.out.2.2.2; dsimp only; omega⟩
    have HF := fin ⟨E.key, z, E.lf, E.bd⟩ (w4.setCell ⟨T, 1, none⟩ (.int .i64 z)) hA hl5 (hR4.far hnRT 1 _)
    have HA : Hid (AnyE ⟨E.key, z, E.lf, E.bd⟩) := hA
    obtain ⟨x0, x1, x2, x3⟩ := hT4.cells
    obtain ⟨b0, b1, b2, b3⟩ := hR4.cells
    dsimp only [zen] at b0 b1 b2 b3
    have s1 := hT4.thaw 1
    have t0 := hR4.thaw 0
    have t1 := hR4.thaw 1
    have t2 := hR4.thaw 2
    have t3 := hR4.thaw 3
    clear c4 hz hl4 hl4' hT4 hR4 hl5 hA H3 fin
    go_wp2_with fail
    dsimp only [putE] at HF
    generalize ((((w4.setCell ⟨T, 1, none⟩ (.int .i64 z)).setCell ⟨R, 0, none⟩ (.string E.key)).setCell ⟨R, 1, none⟩ (.int .i64 z)).setCell ⟨R, 2, none⟩ (.int .i64 E.lf)).setCell ⟨R, 3, none⟩ (.string E.bd) = w9 at HF ⊢
    obtain ⟨q0, q1, q2, q3⟩ := HF.out.2.cells
    dsimp only at q0 q1 q2 q3
    refine bodyPost_ret (v := .agg #[.string E.key, .int .i64 z, .int .i64 E.lf, .string E.bd]) (by simp [results, Try.results24, go_sem, q0, q1, q2, q3]) rfl ⟨⟨E.key, z, E.lf, E.bd⟩, HA.out, rfl, HF.out.1⟩
  by_cases e2 : x = 2
  · subst e2
    obtain ⟨o4, u4, d4⟩ := pickLit w3 p ca n cap badL H3.out.1.1 H3.out.1.2.1 H3.out.2.2.1 (by decide)
    have c4 := pickInt_any _ p ca n cap w3.heap.size _ badL u4 d4 hn o4 H3.out.2.2.1 (by decide) (by decide)
    clear o4 u4 d4
    go_wp2_with fail
    refine c4.mono ?_
    rintro e w4 ⟨z, hz, rfl, hl4⟩
    have hl4' : Left w3 w4 p ca n cap := ⟨hl4.1, hl4.2.1, grownBy_trans (World.grownBy_alloc _ _ _) hl4.2.2⟩
    have hT4 := H3.out.2.2.2.left hl4' (by have := HTR.out; omega)
    have hR4 := H3.out.2.1.left hl4' (by have := HPR.out; omega)
    have hl5 : Left w (w4.setCell ⟨T, 2, none⟩ (.int .i64 z)) p ca n cap := (H3.out.1.trans hl4').below ((Below.refl _ _).setCell (by have := HTR.out; show _ ≤ T; omega) _) (by have := HPR.out; omega)
    have hA : AnyE ⟨E.key, E.st, z, E.bd⟩ := ⟨by have := HE.out.1; dsimp only; omega, by have := HE.out.2.1; dsimp only; omega, by have := HE.out.2.2.2; dsimp only; omega⟩
    have HF := fin ⟨E.key, E.st, z, E.bd⟩ (w4.setCell ⟨T, 2, none⟩ (.int .i64 z)) hA hl5 (hR4.far hnRT 2 _)
    have HA : Hid (AnyE ⟨E.key, E.st, z, E.bd⟩) := hA
    obtain ⟨x0, x1, x2, x3⟩ := hT4.cells
    obtain ⟨b0, b1, b2, b3⟩ := hR4.cells
    dsimp only [zen] at b0 b1 b2 b3
    have s2 := hT4.thaw 2
    have t0 := hR4.thaw 0
    have t1 := hR4.thaw 1
    have t2 := hR4.thaw 2
    have t3 := hR4.thaw 3
    clear c4 hz hl4 hl4' hT4 hR4 hl5 hA H3 fin
    go_wp2_with fail
    dsimp only [putE] at HF
    generalize ((((w4.setCell ⟨T, 2, none⟩ (.int .i64 z)).setCell ⟨R, 0, none⟩ (.string E.key)).setCell ⟨R, 1, none⟩ (.int .i64 E.st)).setCell ⟨R, 2, none⟩ (.int .i64 z)).setCell ⟨R, 3, none⟩ (.string E.bd) = w9 at HF ⊢
    obtain ⟨q0, q1, q2, q3⟩ := HF.out.2.cells
    dsimp only at q0 q1 q2 q3
    refine bodyPost_ret (v := .agg #[.string E.key, .int .i64 E.st, .int .i64 z, .string E.bd]) (by simp [results, Try.results24, go_sem, q0, q1, q2, q3]) rfl ⟨⟨E.key, E.st, z, E.bd⟩, HA.out, rfl, HF.out.1⟩
  by_cases e3 : x = 3
  · subst e3
    have c4 := below_any w3 p ca n cap 2 H3.out.1.1 H3.out.1.2.1 hn (by omega) (by omega)
    go_wp2_with fail
    refine c4.mono ?_
    rintro e w3' ⟨y, hy, _, rfl, hl4⟩
    have hy2 := hy (by omega)
    have c5 := long_any w3' (400 + (y : Int)) 97 (by omega) (by omega) (by omega) (by omega)
    have hT3 := H3.out.2.2.2.left hl4 (by have := HTR.out; omega)
    have hR3 := H3.out.2.1.left hl4 (by have := HPR.out; omega)
    have H4 : Hid (Left w w3' p ca n cap ∧ EnB w3' R 25 zen ∧ EnB w3' T 25 E) := ⟨H3.out.1.trans hl4, hR3, hT3⟩
    clear c4 hy hl4 hT3 hR3
    go_wp2_with fail
    refine c5.mono ?_
    rintro e w4 ⟨z, hz, rfl, hb4⟩
    have hT4 := H4.out.2.2.on hb4
    have hR4 := H4.out.2.1.on hb4
    have hl5 : Left w (w4.setCell ⟨T, 3, none⟩ (.string z)) p ca n cap := (H4.out.1.below (hb4.mono H4.out.1.2.2.size) (by have := HPR.out; omega)).below ((Below.refl _ _).setCell (by have := HTR.out; show _ ≤ T; omega) _) (by have := HPR.out; omega)
    have hA : AnyE ⟨E.key, E.st, E.lf, z⟩ := ⟨by have := HE.out.1; dsimp only; omega, by have := HE.out.2.1; dsimp only; omega, by dsimp only; omega⟩
    have HF := fin ⟨E.key, E.st, E.lf, z⟩ (w4.setCell ⟨T, 3, none⟩ (.string z)) hA hl5 (hR4.far hnRT 3 _)
    have HA : Hid (AnyE ⟨E.key, E.st, E.lf, z⟩) := hA
    obtain ⟨x0, x1, x2, x3⟩ := hT4.cells
    obtain ⟨b0, b1, b2, b3⟩ := hR4.cells
    dsimp only [zen] at b0 b1 b2 b3
    have s3 := hT4.thaw 3
    have t0 := hR4.thaw 0
    have t1 := hR4.thaw 1
    have t2 := hR4.thaw 2
    have t3 := hR4.thaw 3
    clear c5 hz hb4 hT4 hR4 hl5 hA H3 H4 fin
    go_wp2_with fail
    dsimp only [putE] at HF
    generalize ((((w4.setCell ⟨T, 3, none⟩ (.string z)).setCell ⟨R, 0, none⟩ (.string E.key)).setCell ⟨R, 1, none⟩ (.int .i64 E.st)).setCell ⟨R, 2, none⟩ (.int .i64 E.lf)).setCell ⟨R, 3, none⟩ (.string z) = w9 at HF ⊢
    obtain ⟨q0, q1, q2, q3⟩ := HF.out.2.cells
    dsimp only at q0 q1 q2 q3
    refine bodyPost_ret (v := .agg #[.string E.key, .int .i64 E.st, .int .i64 E.lf, .string z]) (by simp [results, Try.results24, go_sem, q0, q1, q2, q3]) rfl ⟨⟨E.key, E.st, E.lf, z⟩, HA.out, rfl, HF.out.1⟩
  · have g0 : ¬ (x : Int) = 0 := by omega
    have g1 : ¬ (x : Int) = 1 := by omega
    have g2 : ¬ (x : Int) = 2 := by omega
    have g3 : ¬ (x : Int) = 3 := by omega
    have HF := fin E w3 HE.out.any H3.out.1 H3.out.2.1
    obtain ⟨x0, x1, x2, x3⟩ := H3.out.2.2.2.cells
    obtain ⟨b0, b1, b2, b3⟩ := H3.out.2.1.cells
    dsimp only [zen] at b0 b1 b2 b3
    have t0 := H3.out.2.1.thaw 0
    have t1 := H3.out.2.1.thaw 1
    have t2 := H3.out.2.1.thaw 2
    have t3 := H3.out.2.1.thaw 3
    clear fin
    go_wp2_with fail
    dsimp only [putE] at HF
    generalize (((w3.setCell ⟨R, 0, none⟩ (.string E.key)).setCell ⟨R, 1, none⟩ (.int .i64 E.st)).setCell ⟨R, 2, none⟩ (.int .i64 E.lf)).setCell ⟨R, 3, none⟩ (.string E.bd) = w9 at HF ⊢
    obtain ⟨q0, q1, q2, q3⟩ := HF.out.2.cells
    refine bodyPost_ret (v := .agg #[.string E.key, .int .i64 E.st, .int .i64 E.lf, .string E.bd]) (by simp [results, Try.results24, go_sem, q0, q1, q2, q3]) rfl ⟨E, HE.out.any, rfl, HF.out.1⟩
end Go.Proofs.Ytepfblabdibggaa
