/- Epochs that are right or not, drawn. Written by mkeany.py. -/
import Derived.Test.YtockgojdmaladacEpochDraw
import Derived.Test.YtockgojdmaladacEpochTyped
namespace Go.Proofs.Ytockgojdmaladac
open Go.RowKit Go.Sort

theorem Left.put3 {w w1 : World} {p : Nat} {ca : Option Addr} {n cap : Nat} (h : Left w w1 p ca n cap) (hp : p < w.heap.size) {T : Nat} (hT : w.heap.size ≤ T) (x y z : Value) : Left w (((w1.setCell ⟨T, 0, none⟩ x).setCell ⟨T, 1, none⟩ y).setCell ⟨T, 2, none⟩ z) p ca n cap := ((h.set hp hT x).set hp hT y).set hp hT z
theorem Left.grown {w w1 w2 : World} {p : Nat} {ca : Option Addr} {n cap : Nat} {row : Option Nat} (h : Left w w1 p ca n cap) (hp : p < w.heap.size) (hg : w1.grownBy w2 row) (hr : ∀ k, row = some k → w.heap.size ≤ k) : Left w w2 p ca n cap := by
  have hs := h.2.2.size
  refine h.below ⟨hg.os, hg.tape, hg.output, hg.size, fun k hk => hg.block k (by omega) (fun e => by have := hr k e.symm; omega)⟩ hp

set_option maxRecDepth 100000 in
set_option maxHeartbeats 8000000 in
theorem l08Any_any (w : World) (p : Nat) (ca : Option Addr) (n cap : Nat) (hc : Cur w p ca n cap) (hcode : CodeAt w ca n p) (hn : n ≤ 1048576) :
    Calls Try.prog 79 #[.pointer (some ⟨p, 0, none⟩)] w fun e w' => ∃ (a1 : Option Addr) (c1 : Nat) (a2 : Option Addr) (c2 : Nat) (E : Ep), e = .returned (.agg #[.int .i64 E.now, .slice a1 E.pins.length c1, .slice a2 E.gone.length c2]) ∧ ETy w' a1 a2 E ∧ E.pins.length ≤ 100 ∧ E.gone.length ≤ 100 ∧ Left w w' p ca n cap := by
  have hp := hc.lt
  obtain ⟨w1, hw1⟩ : ∃ x, w.alloc (.cells #[.int .i64 0, .slice none 0 0, .slice none 0 0] 50) = x := ⟨_, rfl⟩
  have hL1 : Left w w1 p ca n cap := by rw [← hw1]; exact (Left.refl hc hcode).plus hp _
  have hR1 : EBox w1 w.heap.size (.int .i64 0) (.slice none 0 0) (.slice none 0 0) := by rw [← hw1]; exact EBox.new _ _ _ _
  have s1 : w1.heap.size = w.heap.size + 1 := by rw [← hw1]; simp
  have c1 := below_any w1 p ca n cap 14 hL1.1 hL1.2.1 hn (by omega) (by omega)
  have HW : Hid (w.alloc (.cells #[.int .i64 0, .slice none 0 0, .slice none 0 0] 50) = w1) := hw1
  clear hw1 hc hcode
  go_enter Try.func79, Try.ntmps79
  go_wp2_with fail
  rw [HW.out]
  refine c1.mono ?_
  rintro e w2 ⟨k, hk, _, rfl, hl2⟩
  have hk2 := hk (by omega)
  have hL2 := hL1.trans hl2
  have hR2 := hR1.grownE hl2.2.2 (by omega)
  have c2 := below_any w2 p ca n cap 60 hL2.1 hL2.2.1 hn (by omega) (by omega)
  have HS1 : Hid (w1.heap.size = w.heap.size + 1 ∧ w1.heap.size ≤ w2.heap.size) := ⟨s1, hl2.2.2.size⟩
  clear c1 hk hl2 hL1 hR1 HW s1
  go_wp2_with fail
  refine c2.mono ?_
  rintro e w3 ⟨x, hx, _, rfl, hl3⟩
  have hx2 := hx (by omega)
  have hL3 := hL2.trans hl3
  have hR3 := hR2.grownE hl3.2.2 (by omega)
  have c3 := l08Epochs_any w3 p ca n cap hL3.1 hL3.2.1 hn
  have HS3 : Hid (w.heap.size + 1 ≤ w3.heap.size) := by have h1 := HS1.out; have h2 := hl3.2.2.size; show _ ≤ _; omega
  clear c2 hx hl3 hL2 hR2 HS1
  go_wp2_with fail
  refine c3.mono ?_
  rintro e w4 ⟨v4, E, rfl, hD, ho4, hl4⟩
  obtain ⟨a4, k4, d4, l4, rfl, hA4⟩ := ho4.at
  have hL4 := hL3.trans hl4
  have hR4 := hR3.grownE hl4.2.2 (by omega)
  have hlE : E.pins.length ≤ 4 ∧ 1 ≤ E.pins.length ∧ E.gone.length ≤ 20 := ⟨hD.right.2.1.2, hD.right.2.1.1, hD.few⟩
  have c4 := l08Copy_any w4 a4 d4 k4 l4 E hA4 (by omega) (by omega)
  have HS4 : Hid (w.heap.size + 1 ≤ w4.heap.size) := by have h1 := HS3.out; have h2 := hl4.2.2.size; show _ ≤ _; omega
  clear c3 hl4 hL3 hR3 ho4 hA4 HS3 hD
  go_wp2_with fail
  refine c4.mono ?_
  rintro e w5 ⟨v5, rfl, ho5, hb5⟩
  obtain ⟨a5, k5, d5, l5, rfl, _⟩ := ho5.at
  obtain ⟨now, pins, gone⟩ := E
  dsimp only at hlE ho5 ⊢
  have hL5 := hL4.below (hb5.mono hL4.2.2.size) hp
  have hR5 := hR4.on hb5
  obtain ⟨w6, hw6⟩ : ∃ x, w5.alloc (.cells #[.int .i64 now, .slice a5 pins.length k5, .slice d5 gone.length l5] 50) = x := ⟨_, rfl⟩
  have hb6 : Below w5.heap.size w5 w6 := by rw [← hw6]; exact (Below.refl _ _).alloc (Nat.le_refl _) _
  have hL6 := hL5.below (hb6.mono hL5.2.2.size) hp
  have hR6 := hR5.on hb6
  have hT6 : EBox w6 w5.heap.size (.int .i64 now) (.slice a5 pins.length k5) (.slice d5 gone.length l5) := by rw [← hw6]; exact EBox.new _ _ _ _
  have ho6 := ho5.below hb6 (Nat.le_refl _)
  have HB45 : Hid (w4.heap.size ≤ w5.heap.size) := hb5.size
  have HS5 : Hid (w.heap.size + 1 ≤ w5.heap.size ∧ w.heap.size + 1 ≤ w4.heap.size) := ⟨Nat.le_trans HS4.out hb5.size, HS4.out⟩
  have hRT : ¬ (w.heap.size = w5.heap.size) := by have := HS5.out; omega
  have hTR : ¬ (w5.heap.size = w.heap.size) := by have := HS5.out; omega
  have HW6 : Hid (w5.alloc (.cells #[.int .i64 now, .slice a5 pins.length k5, .slice d5 gone.length l5] 50) = w6) := hw6
  obtain ⟨t0, t1, t2⟩ := hT6.cells
  obtain ⟨tf0, tf1, tf2⟩ := (⟨hT6.thaw 0, hT6.thaw 1, hT6.thaw 2⟩ : _ ∧ _ ∧ _)
  obtain ⟨r0, r1, r2⟩ := hR6.cells
  obtain ⟨f0, f1, f2⟩ := (⟨hR6.thaw 0, hR6.thaw 1, hR6.thaw 2⟩ : _ ∧ _ ∧ _)
  obtain ⟨hoP, hoG⟩ := ho6.parts
  have hTs : w.heap.size ≤ w5.heap.size := by have := HS5.out; omega
  rw [← hw6] at t0 t1 t2 tf0 tf1 tf2 r0 r1 r2 f0 f1 f2
  have HO5 : Hid (EOwn w5 w4.heap.size (.agg #[.int .i64 now, .slice a5 pins.length k5, .slice d5 gone.length l5]) ⟨now, pins, gone⟩ ∧ EBox w5 w.heap.size (.int .i64 0) (.slice none 0 0) (.slice none 0 0) ∧ Left w w5 p ca n cap) := ⟨ho5, hR5, hL5⟩
  clear c4 hw6 hL5 hR5 hL4 hR4 ho5 hb5 hb6 HS4
  have hk14 : k < 14 := by omega
  by_cases hk0 : k = 0
  · subst hk0
    have hm1 : (x : Int).tmod 4 = ((x % 4 : Nat) : Int) := by rw [Int.tmod_eq_emod_of_nonneg (by omega)]; omega
    have hq4 : x % 4 < 4 := by omega
    obtain ⟨q, hq⟩ : ∃ q, x % 4 = q := ⟨_, rfl⟩
    rw [hq] at hm1 hq4
    clear hq
    obtain ⟨N, hcN⟩ : ∃ N : Int, ((w5.alloc (.cells #[.int .i64 now, .slice a5 pins.length k5, .slice d5 gone.length l5] 50)).alloc (.cells #[.int .i64 1, .int .i64 2, .int .i64 1000000000, .int .i64 1000000001] 3)).cell? ⟨w5.heap.size + 1, q, none⟩ = some (.int .i64 N) := by
      rw [HW6.out]
      have hsz6 : w6.heap.size = w5.heap.size + 1 := by rw [← HW6.out]; simp
      rw [← hsz6]
      rcases (show q = 0 ∨ q = 1 ∨ q = 2 ∨ q = 3 by omega) with rfl | rfl | rfl | rfl
      · exact ⟨1, by simp⟩
      · exact ⟨2, by simp⟩
      · exact ⟨1000000000, by simp⟩
      · exact ⟨1000000001, by simp⟩
    obtain ⟨w7, hw7⟩ : ∃ x, (w5.alloc (.cells #[.int .i64 N, .slice a5 pins.length k5, .slice d5 gone.length l5] 50)).alloc (.cells #[.int .i64 1, .int .i64 2, .int .i64 1000000000, .int .i64 1000000001] 3) = x := ⟨_, rfl⟩
    have hb7 : Below w5.heap.size w5 w7 := by rw [← hw7]; exact ((Below.refl _ _).alloc (Nat.le_refl _) _).alloc (by simp) _
    have hR7 := HO5.out.2.1.on hb7
    have HLf : Hid (Left w w7 p ca n cap) := HO5.out.2.2.below (hb7.mono HO5.out.2.2.2.2.size) hp
    obtain ⟨hq1, hq2⟩ := (HO5.out.1.below hb7 (Nat.le_refl _)).parts
    have HT : Hid (ETy w7 a5 d5 ⟨N, pins, gone⟩) := EOwn.ty (EOwn.mk hq1 hq2)
    have HW7 : Hid ((w5.alloc (.cells #[.int .i64 N, .slice a5 pins.length k5, .slice d5 gone.length l5] 50)).alloc (.cells #[.int .i64 1, .int .i64 2, .int .i64 1000000000, .int .i64 1000000001] 3) = w7) := hw7
    obtain ⟨n0, n1, n2⟩ := hR7.cells
    obtain ⟨nf0, nf1, nf2⟩ := (⟨hR7.thaw 0, hR7.thaw 1, hR7.thaw 2⟩ : _ ∧ _ ∧ _)
    have hqi : (0 : Int) ≤ (q : Int) := by omega
    have hqj : (q : Int) < 4 := by omega
    rw [← hw7] at n0 n1 n2 nf0 nf1 nf2
    clear t0 t1 t2 tf0 tf1 tf2 r0 r1 r2 f0 f1 f2 hw7 hb7 hoP hoG HW6 ho6 hT6 hR6 hL6 hq1 hq2
    go_wp2_with fail
    rw [HW7.out]
    obtain ⟨q0, q1, q2⟩ := (hR7.put (.int .i64 N) (.slice a5 pins.length k5) (.slice d5 gone.length l5)).cells
    refine bodyPost_ret (v := .agg #[(.int .i64 N), (.slice a5 pins.length k5), (.slice d5 gone.length l5)]) (by simp [results, Try.results79, go_sem, q0, q1, q2]) rfl ⟨_, _, _, _, ⟨N, pins, gone⟩, rfl, (HT.out).put hR7 _ _ _, by show pins.length ≤ 100; omega, by show gone.length ≤ 100; omega, Left.put3 HLf.out hp (Nat.le_refl _) _ _ _⟩
  by_cases hk1 : k = 1
  · subst hk1
    obtain ⟨g5, hg5, hc5, hf5, hgb⟩ := ho6.pinCell 0 (by omega)
    subst hg5
    have hm9 : (x : Int).tmod 9 = ((x % 9 : Nat) : Int) := by rw [Int.tmod_eq_emod_of_nonneg (by omega)]; omega
    obtain ⟨q, hq⟩ : ∃ q, x % 9 = q := ⟨_, rfl⟩
    rw [hq] at hm9
    clear hq
    obtain ⟨ho7, hk7⟩ := ho6.pin 0 (q : Int)
    have hR7 := hk7 _ _ _ _ hR6
    have hT7 := hk7 _ _ _ _ hT6
    obtain ⟨m0, m1, m2⟩ := hT7.cells
    obtain ⟨n0, n1, n2⟩ := hR7.cells
    obtain ⟨nf0, nf1, nf2⟩ := (⟨hR7.thaw 0, hR7.thaw 1, hR7.thaw 2⟩ : _ ∧ _ ∧ _)
    have HT : Hid (ETy (w6.setCell ⟨g5, 0, none⟩ (.int .i64 (q : Int))) (some ⟨g5, 0, none⟩) d5 ⟨now, pins.set 0 (q : Int), gone⟩) := EOwn.ty (by simpa using ho7)
    have HLf : Hid (Left w (w6.setCell ⟨g5, 0, none⟩ (.int .i64 (q : Int))) p ca n cap) := hL6.set hp (show w.heap.size ≤ g5 by have := HS5.out.2; omega) _
    have hil : (0 : Int) < (pins.length : Int) := by omega
    rw [← HW6.out] at hc5 hf5 m0 m1 m2 n0 n1 n2 nf0 nf1 nf2
    clear hoP hoG ho6 ho7 hk7 hT7 hL6 tf0 tf1 tf2 r0 r1 r2 f0 f1 f2
    go_wp2_with fail
    rw [HW6.out]
    obtain ⟨q0, q1, q2⟩ := (hR7.put (.int .i64 now) (.slice (some ⟨g5, 0, none⟩) pins.length k5) (.slice d5 gone.length l5)).cells
    refine bodyPost_ret (v := .agg #[(.int .i64 now), (.slice (some ⟨g5, 0, none⟩) pins.length k5), (.slice d5 gone.length l5)]) (by simp [results, Try.results79, go_sem, q0, q1, q2]) rfl ⟨some ⟨g5, 0, none⟩, k5, d5, l5, ⟨now, pins.set 0 (q : Int), gone⟩, by simp, (HT.out).put hR7 _ _ _, by show (pins.set 0 _).length ≤ 100; rw [List.length_set]; omega, by show gone.length ≤ 100; omega, Left.put3 HLf.out hp (Nat.le_refl _) _ _ _⟩
  by_cases hk2' : k = 2
  · subst hk2'
    have hm22 : (x : Int).tmod 22 = ((x % 22 : Nat) : Int) := by rw [Int.tmod_eq_emod_of_nonneg (by omega)]; omega
    have hm6 : (x : Int).tmod 6 = ((x % 6 : Nat) : Int) := by rw [Int.tmod_eq_emod_of_nonneg (by omega)]; omega
    obtain ⟨q, hq⟩ : ∃ q, x % 22 = q := ⟨_, rfl⟩
    obtain ⟨s, hs⟩ : ∃ s, x % 6 = s := ⟨_, rfl⟩
    rw [hq] at hm22
    rw [hs] at hm6
    clear hq hs
    have hT9 : ∀ (w' : World), (w6.alloc (.cells #[.int .i64 (q : Int), .int .i64 (s : Int)] 101)).grownBy w' (Value.slice d5 gone.length l5).ownBlock → EBox w' w5.heap.size (.int .i64 now) (.slice a5 pins.length k5) (.slice d5 gone.length l5) ∧ EBox w' w.heap.size (.int .i64 0) (.slice none 0 0) (.slice none 0 0) ∧ OwnV w' w4.heap.size 3 (.slice a5 pins.length k5) (ints pins) ∧ Left w w' p ca n cap := by
      intro w' hg
      have hal : Below w6.heap.size w6 (w6.alloc (.cells #[.int .i64 (q : Int), .int .i64 (s : Int)] 101)) := (Below.refl _ _).alloc (Nat.le_refl _) _
      refine ⟨(hT6.on hal).grownP (hoG.alloc _) hg, (hR6.on hal).grownP (hoG.alloc _) hg, (hoP.alloc _).grown hg (fun j hj e => ownVP_ne hoP hoG j hj e), ?_⟩
      exact (hL6.plus hp _).grown hp hg (fun j hj => by have := (hoG.lt j hj).1; have := HS5.out.2; omega)
    have HT9 : Hid _ := hT9
    have HOG : Hid (OwnP w6 w4.heap.size 101 (.slice d5 gone.length l5) gone ∧ w4.heap.size ≤ w6.heap.size) := ⟨hoG, by have h5 := hT6.lt; have h7 := HB45.out; omega⟩
    have hl : gone.length < 10000000 := by omega
    have hb : w4.heap.size ≤ w6.heap.size := HOG.out.2
    clear hT9 hoG hoP ho6
    go_wp2_with (at_builtin; rw [HW6.out]; refine wpList_snocP rfl (.tmp 32) (.tmp 38) 48 rfl w4.heap.size 101 Try.underlying48 Try.infoGo _ _ rfl HOG.out.1 ((q : Int), (s : Int)) _ rfl (by rw [← HW6.out]; simp) hl hb ?_; intro v9 w9 hown9 hgr9; obtain ⟨a9, c9, hv9, _⟩ := hown9.at; rw [show (gone ++ [((q : Int), (s : Int))]).length = gone.length + 1 by simp] at hv9; subst hv9; obtain ⟨hT9, hR9, hV9, hL9⟩ := HT9.out w9 hgr9; have x2 := hT9.cells.2.2; have xf := hT9.thaw 2; obtain ⟨y0, y1, y2⟩ := (hT9.set2 (.slice a9 (gone.length + 1) c9)).cells; have hR9' := hR9.far 2 (.slice a9 (gone.length + 1) c9) hRT; obtain ⟨z0, z1, z2⟩ := hR9'.cells; obtain ⟨zf0, zf1, zf2⟩ := (⟨hR9'.thaw 0, hR9'.thaw 1, hR9'.thaw 2⟩ : _ ∧ _ ∧ _); have HV9 : Hid (OwnV w9 w4.heap.size 3 (.slice a5 pins.length k5) (ints pins) ∧ OwnP w9 w4.heap.size 101 (.slice a9 (gone.length + 1) c9) (gone ++ [((q : Int), (s : Int))])) := ⟨hV9, hown9⟩; clear hV9 hown9 hgr9)
    have hL9' : Left w (w9.setCell ⟨w5.heap.size, 2, none⟩ (.slice a9 (gone.length + 1) c9)) p ca n cap := hL9.set hp hTs _
    have hty : ETy (w9.setCell ⟨w5.heap.size, 2, none⟩ (.slice a9 (gone.length + 1) c9)) a5 a9 ⟨now, pins, gone ++ [((q : Int), (s : Int))]⟩ := by
      have h : EOwn (w9.setCell ⟨w5.heap.size, 2, none⟩ (.slice a9 (gone.length + 1) c9)) w4.heap.size (.agg #[.int .i64 now, .slice a5 pins.length k5, .slice a9 (gone.length + 1) c9]) ⟨now, pins, gone ++ [((q : Int), (s : Int))]⟩ := EOwn.mk (HV9.out.1.far hT9 2 _) (HV9.out.2.far hT9 2 _)
      exact EOwn.ty (c1 := k5) (c2 := c9) (by simpa using h)
    obtain ⟨q0, q1, q2⟩ := (hR9'.put (.int .i64 now) (.slice a5 pins.length k5) (.slice a9 (gone.length + 1) c9)).cells
    refine bodyPost_ret (v := .agg #[(.int .i64 now), (.slice a5 pins.length k5), (.slice a9 (gone.length + 1) c9)]) (by simp [results, Try.results79, go_sem, q0, q1, q2]) rfl ⟨a5, k5, a9, c9, ⟨now, pins, gone ++ [((q : Int), (s : Int))]⟩, by simp, (hty).put hR9' _ _ _, by show pins.length ≤ 100; omega, by show (gone ++ [_]).length ≤ 100; simp; omega, Left.put3 hL9' hp (Nat.le_refl _) _ _ _⟩
  by_cases hk3 : k = 3
  · subst hk3
    obtain ⟨g5, hg5, hc5, hf5, hgb⟩ := ho6.pinCell 0 (by omega)
    subst hg5
    have HGl : Hid (gone.length ≤ 100) := by show _ ≤ _; omega
    have hcap : pins.length ≤ k5 := by
      rcases hoP.2 with ⟨e, h0⟩ | ⟨g', cp, cur, e, _, _, h1, _⟩
      · simp at e
      · simp only [Value.slice.injEq, ints_length] at e h1; omega
    obtain ⟨y, r, rfl⟩ : ∃ y r, pins = y :: r := by
      cases pins with
      | nil => simp at hlE
      | cons y r => exact ⟨y, r, rfl⟩
    have hlr : r.length ≤ 3 := by simp at hlE; omega
    have hcr : r.length + 1 ≤ k5 := by simpa using hcap
    by_cases hc1 : k5 = 1
    · obtain rfl : r = [] := List.eq_nil_of_length_eq_zero (by omega)
      subst hc1
      obtain ⟨w7, hw7⟩ : ∃ x, w5.alloc (.cells #[.int .i64 now, .slice (some ⟨g5, 0, none⟩) 0 0, .slice d5 gone.length l5] 50) = x := ⟨_, rfl⟩
      have hb7 : Below w5.heap.size w5 w7 := by rw [← hw7]; exact (Below.refl _ _).alloc (Nat.le_refl _) _
      have hR7 := HO5.out.2.1.on hb7
      have HLf : Hid (Left w w7 p ca n cap) := HO5.out.2.2.below (hb7.mono HO5.out.2.2.2.2.size) hp
      have hty0 := EOwn.ty (E := ⟨now, [y], gone⟩) (HO5.out.1.below hb7 (Nat.le_refl _))
      have HT : Hid (ETy w7 (some ⟨g5, 0, none⟩) d5 ⟨now, [], gone⟩) := by
        exact ⟨⟨fun j hj => by simp at hj, hty0.at'.2⟩, hty0.t1, hty0.t2⟩
      have HW7 : Hid (w5.alloc (.cells #[.int .i64 now, .slice (some ⟨g5, 0, none⟩) 0 0, .slice d5 gone.length l5] 50) = w7) := hw7
      obtain ⟨n0, n1, n2⟩ := hR7.cells
      obtain ⟨nf0, nf1, nf2⟩ := (⟨hR7.thaw 0, hR7.thaw 1, hR7.thaw 2⟩ : _ ∧ _ ∧ _)
      rw [← hw7] at n0 n1 n2 nf0 nf1 nf2
      clear t0 t1 t2 tf0 tf1 tf2 r0 r1 r2 f0 f1 f2 hw7 hb7 hoP hoG HW6 ho6 hT6 hR6 hL6 hty0 hlE hcap hc5 hf5
      simp only [List.length_cons] at *
      go_wp2_with fail
      rw [HW7.out]
      obtain ⟨q0, q1, q2⟩ := (hR7.put (.int .i64 now) (.slice (some ⟨g5, 0, none⟩) 0 0) (.slice d5 gone.length l5)).cells
      refine bodyPost_ret (v := .agg #[(.int .i64 now), (.slice (some ⟨g5, 0, none⟩) 0 0), (.slice d5 gone.length l5)]) (by simp [results, Try.results79, go_sem, q0, q1, q2]) rfl ⟨_, _, _, _, ⟨now, [], gone⟩, rfl, (HT.out).put hR7 _ _ _, by simp, by show gone.length ≤ 100; exact HGl.out, Left.put3 HLf.out hp (Nat.le_refl _) _ _ _⟩
    · skip
      obtain ⟨w7, hw7⟩ : ∃ x, w5.alloc (.cells #[.int .i64 now, .slice (some ⟨g5, 1, none⟩) r.length (k5 - 1), .slice d5 gone.length l5] 50) = x := ⟨_, rfl⟩
      have hb7 : Below w5.heap.size w5 w7 := by rw [← hw7]; exact (Below.refl _ _).alloc (Nat.le_refl _) _
      have hR7 := HO5.out.2.1.on hb7
      have HLf : Hid (Left w w7 p ca n cap) := HO5.out.2.2.below (hb7.mono HO5.out.2.2.2.2.size) hp
      have hty0 := EOwn.ty (E := ⟨now, y :: r, gone⟩) (HO5.out.1.below hb7 (Nat.le_refl _))
      have HT : Hid (ETy w7 (some ⟨g5, 1, none⟩) d5 ⟨now, r, gone⟩) := by
        refine ⟨⟨fun j hj => ?_, hty0.at'.2⟩, fun ad e => ?_, hty0.t2⟩
        · obtain ⟨g, off, ha, hg, hcj⟩ := hty0.at'.1 (j + 1) (by simpa using hj)
          simp only [Option.some.injEq, Addr.mk.injEq, and_true] at ha
          obtain ⟨rfl, rfl⟩ := ha
          refine ⟨g5, 1, rfl, hg, ?_⟩
          rw [show 1 + j = 0 + (j + 1) by omega]
          simpa using hcj
        · cases e
          exact hty0.t1 ⟨g5, 0, none⟩ rfl
      have HW7 : Hid (w5.alloc (.cells #[.int .i64 now, .slice (some ⟨g5, 1, none⟩) r.length (k5 - 1), .slice d5 gone.length l5] 50) = w7) := hw7
      have hk5 : (1 : Int) < (k5 : Int) := by omega
      have hcr' : ((r.length : Int) + 1) ≤ (k5 : Int) := by omega
      have hk5' : ¬ (k5 = 1) := hc1
      have hk6 : ¬ (k5 - 1 = 0) := by omega
      obtain ⟨n0, n1, n2⟩ := hR7.cells
      obtain ⟨nf0, nf1, nf2⟩ := (⟨hR7.thaw 0, hR7.thaw 1, hR7.thaw 2⟩ : _ ∧ _ ∧ _)
      rw [← hw7] at n0 n1 n2 nf0 nf1 nf2
      clear t0 t1 t2 tf0 tf1 tf2 r0 r1 r2 f0 f1 f2 hw7 hb7 hoP hoG HW6 ho6 hT6 hR6 hL6 hty0 hlE hcap hc5 hf5
      simp only [List.length_cons] at *
      go_wp2_with fail
      rw [HW7.out]
      obtain ⟨q0, q1, q2⟩ := (hR7.put (.int .i64 now) (.slice (some ⟨g5, 1, none⟩) r.length (k5 - 1)) (.slice d5 gone.length l5)).cells
      refine bodyPost_ret (v := .agg #[(.int .i64 now), (.slice (some ⟨g5, 1, none⟩) r.length (k5 - 1)), (.slice d5 gone.length l5)]) (by simp [results, Try.results79, go_sem, q0, q1, q2]) rfl ⟨_, _, _, _, ⟨now, r, gone⟩, rfl, (HT.out).put hR7 _ _ _, by show r.length ≤ 100; omega, by show gone.length ≤ 100; exact HGl.out, Left.put3 HLf.out hp (Nat.le_refl _) _ _ _⟩
  · have e0 : ((k : Int) == 0) = false := by simp; omega
    have e1 : ((k : Int) == 1) = false := by simp; omega
    have e2 : ((k : Int) == 2) = false := by simp; omega
    have e3 : ((k : Int) == 3) = false := by simp; omega
    have e0' : ¬ (k : Int) = 0 := by omega
    have e1' : ¬ (k : Int) = 1 := by omega
    have e2' : ¬ (k : Int) = 2 := by omega
    have e3' : ¬ (k : Int) = 3 := by omega
    have HT : Hid (ETy w6 a5 d5 ⟨now, pins, gone⟩) := ho6.ty
    clear hoP hoG ho6 hT6 hk0 hk1 hk2' hk3
    go_wp2_with fail
    rw [HW6.out]
    obtain ⟨q0, q1, q2⟩ := (hR6.put (.int .i64 now) (.slice a5 pins.length k5) (.slice d5 gone.length l5)).cells
    refine bodyPost_ret (v := .agg #[(.int .i64 now), (.slice a5 pins.length k5), (.slice d5 gone.length l5)]) (by simp [results, Try.results79, go_sem, q0, q1, q2]) rfl ⟨_, _, _, _, ⟨now, pins, gone⟩, rfl, (HT.out).put hR6 _ _ _, by show pins.length ≤ 100; omega, by show gone.length ≤ 100; omega, Left.put3 hL6 hp (Nat.le_refl _) _ _ _⟩
end Go.Proofs.Ytockgojdmaladac
