/- A law copies worlds. Written by mkwld.py. -/
import Derived.Test.YtpgcfgbhkodmeaaWldLaw
import Derived.Test.YtpgcfgbhkodmeaaPrxTo
namespace Go.Proofs.Ytpgcfgbhkodmeaa
open Go.RowKit Go.Sort
theorem hidOf {p : Prop} (h : p) : Hid p := h
theorem toDisk_v (w : World) (v : Value) (L : List Fil) (hL : FilV w v L w.heap.size) (hm : L.length ≤ 1048576) :
    Calls Try.prog 37 #[.agg #[v]] w fun e w' => ∃ v, e = .returned (.agg #[v]) ∧ OwnF w' w.heap.size 136 v L ∧ Below w.heap.size w w' := by
  obtain ⟨a, cap, rfl, hA⟩ := hL
  exact toDisk_any w a cap L hA hm
theorem toInt_v (w : World) (v : Value) (L : List Int) (hL : IntV w v L w.heap.size) (hm : L.length ≤ 1048576) :
    Calls Try.prog 38 #[v] w fun e w' => ∃ v, e = .returned v ∧ OwnV w' w.heap.size 3 v (ints L) ∧ Below w.heap.size w w' := by
  obtain ⟨a, cap, rfl, hA⟩ := hL
  exact toIntS_any w a cap L hA hm
set_option maxRecDepth 100000 in
set_option maxHeartbeats 8000000 in
theorem toWorld_any (w : World) (X : Wc) (R : Wld) (hA : WAt w X R w.heap.size) (hsz : WSz R) :
    Calls Try.prog 14 #[.agg #[.int .i64 R.px.now, X.x.e, X.x.w, X.x.m, X.x.k, .int .i64 R.px.pol.sk.added, X.x.f, X.x.c, .int .i64 R.px.hits, X.d, X.n, X.b]] w fun e w' => ∃ Y : Wc, e = .returned (.agg #[.int .i64 R.px.now, Y.x.e, Y.x.w, Y.x.m, Y.x.k, .int .i64 R.px.pol.sk.added, Y.x.f, Y.x.c, .int .i64 R.px.hits, Y.d, Y.n, Y.b]) ∧ WAt w' Y R w'.heap.size ∧ Below w.heap.size w w' := by
  obtain ⟨l1, l2, l3, l4⟩ := hsz.parts
  obtain ⟨w0, hw0⟩ : ∃ x, w.alloc (.cells #[.int .i64 R.px.now, X.x.e, X.x.w, X.x.m, X.x.k, .int .i64 R.px.pol.sk.added, X.x.f, X.x.c, .int .i64 R.px.hits, X.d, X.n, X.b] 51) = x := ⟨_, rfl⟩
  obtain ⟨w1, hw1⟩ : ∃ x, w0.alloc (.cells #[.int .i64 0, .slice none 0 0, .slice none 0 0, .slice none 0 0, .slice none 0 0, .int .i64 0, .slice none 0 0, .slice none 0 0, .int .i64 0, .slice none 0 0, .slice none 0 0, .slice none 0 0] 58) = x := ⟨_, rfl⟩
  obtain ⟨w3, hw3⟩ : ∃ x, w1.alloc (.cells #[.int .i64 0, .slice none 0 0, .slice none 0 0, .slice none 0 0, .slice none 0 0, .int .i64 0, .slice none 0 0, .slice none 0 0, .int .i64 0, .slice none 0 0, .slice none 0 0, .slice none 0 0] 58) = x := ⟨_, rfl⟩
  have hb0 : Below w.heap.size w w0 := by rw [← hw0]; exact (Below.refl _ _).alloc (Nat.le_refl _) _
  have hb1 : Below w0.heap.size w0 w1 := by rw [← hw1]; exact (Below.refl _ _).alloc (Nat.le_refl _) _
  have hb2 : Below w1.heap.size w1 w3 := by rw [← hw3]; exact (Below.refl _ _).alloc (Nat.le_refl _) _
  have s0 : w0.heap.size = w.heap.size + 1 := by rw [← hw0]; simp
  have s1 : w1.heap.size = w.heap.size + 2 := by rw [← hw1]; simp; omega
  have s2 : w3.heap.size = w.heap.size + 3 := by rw [← hw3]; simp; omega
  have hb12 : Below w0.heap.size w0 w3 := hb1.trans (hb2.mono hb1.size)
  have hbw3 : Below w.heap.size w w3 := hb0.trans (hb12.mono hb0.size)
  have hB3 : TB w3 w.heap.size 51 (.int .i64 R.px.now) X.x.e X.x.w X.x.m X.x.k (.int .i64 R.px.pol.sk.added) X.x.f X.x.c (.int .i64 R.px.hits) X.d X.n X.b := by
    have h : TB w0 w.heap.size 51 (.int .i64 R.px.now) X.x.e X.x.w X.x.m X.x.k (.int .i64 R.px.pol.sk.added) X.x.f X.x.c (.int .i64 R.px.hits) X.d X.n X.b := by rw [← hw0]; exact TB.new _ _ _ _ _ _ _ _ _ _ _ _ _ _
    exact h.on hb12
  have hR3 : TB w3 (w.heap.size + 1) 58 (.int .i64 0) (.slice none 0 0) (.slice none 0 0) (.slice none 0 0) (.slice none 0 0) (.int .i64 0) (.slice none 0 0) (.slice none 0 0) (.int .i64 0) (.slice none 0 0) (.slice none 0 0) (.slice none 0 0) := by
    have h : TB w1 (w.heap.size + 1) 58 (.int .i64 0) (.slice none 0 0) (.slice none 0 0) (.slice none 0 0) (.slice none 0 0) (.int .i64 0) (.slice none 0 0) (.slice none 0 0) (.int .i64 0) (.slice none 0 0) (.slice none 0 0) (.slice none 0 0) := by rw [← hw1, ← s0]; exact TB.new _ _ _ _ _ _ _ _ _ _ _ _ _ _
    exact h.on hb2
  have hT3 : TB w3 (w.heap.size + 2) 58 (.int .i64 0) (.slice none 0 0) (.slice none 0 0) (.slice none 0 0) (.slice none 0 0) (.int .i64 0) (.slice none 0 0) (.slice none 0 0) (.int .i64 0) (.slice none 0 0) (.slice none 0 0) (.slice none 0 0) := by rw [← hw3, ← s1]; exact TB.new _ _ _ _ _ _ _ _ _ _ _ _ _ _
  have hA3 := hA.on hbw3
  have HZ3 : Hid (w3.heap.size = w.heap.size + 3) := s2
  have HA : Hid (∀ W, Below w.heap.size w W → WAt W X R W.heap.size) := fun W h => hA.on h
  obtain ⟨b0, b1, b2, b3, b4, b5, b6, b7, b8, b9, b10, b11⟩ := hB3.cells
  have HW : Hid (((w.alloc (.cells #[.int .i64 R.px.now, X.x.e, X.x.w, X.x.m, X.x.k, .int .i64 R.px.pol.sk.added, X.x.f, X.x.c, .int .i64 R.px.hits, X.d, X.n, X.b] 51)).alloc (.cells #[.int .i64 0, .slice none 0 0, .slice none 0 0, .slice none 0 0, .slice none 0 0, .int .i64 0, .slice none 0 0, .slice none 0 0, .int .i64 0, .slice none 0 0, .slice none 0 0, .slice none 0 0] 58)).alloc (.cells #[.int .i64 0, .slice none 0 0, .slice none 0 0, .slice none 0 0, .slice none 0 0, .int .i64 0, .slice none 0 0, .slice none 0 0, .int .i64 0, .slice none 0 0, .slice none 0 0, .slice none 0 0] 58) = w3) := by rw [hw0, hw1]; exact hw3
  rw [← hw3, ← hw1, ← hw0] at b0 b1 b2 b3 b4 b5 b6 b7 b8 b9 b10 b11
  have c1 := toProxy_any w3 X.x R.px hA3.x l1
  clear hw0 hw1 hw3 s0 s1 s2 hb0 hb1 hb2 hb12 hA hA3
  go_enter Try.func14, Try.ntmps14
  go_wp2_with fail
  rw [HW.out] at b0 b1 b2 b3 b4 b5 b6 b7 b8 b9 b10 b11 ⊢
  refine c1.mono ?_
  rintro e w4 ⟨Y_, he_, ho4, hb4⟩
  obtain ⟨e0, e1, p0, p1, m0, m1, k0, k1, f0, f1, c0, c9, rfl⟩ := ho4.slices
  dsimp only at he_
  subst he_
  clear b0 b1 b2 b3 b4 b5 b6 b7 b8 b9 b10 b11 c1
  have hbw4 := hbw3.trans (hb4.mono hbw3.size)
  have hT4 := hT3.on hb4
  have hB4 := hB3.on hb4
  have hR4 := hR3.on hb4
  have HZ4 : Hid (w3.heap.size ≤ w4.heap.size ∧ w.heap.size + 3 ≤ w4.heap.size) := by refine ⟨hb4.size, ?_⟩; have h2 := hb4.size; have := HZ3.out; omega
  have s0 : TB w4 (w.heap.size + 2) 58 (.int .i64 0) (.slice none 0 0) (.slice none 0 0) (.slice none 0 0) (.slice none 0 0) (.int .i64 0) (.slice none 0 0) (.slice none 0 0) (.int .i64 0) (.slice none 0 0) (.slice none 0 0) (.slice none 0 0) := hT4
  have t0 := s0.cells.1
  have g0 := s0.thaw 0
  have s1 := s0.set0 (.int .i64 R.px.now)
  have t1 := s1.cells.2.1
  have g1 := s1.thaw 1
  have s2 := s1.set1 (.slice e0 R.px.ents.length e1)
  have t2 := s2.cells.2.2.1
  have g2 := s2.thaw 2
  have s3 := s2.set2 (.slice p0 R.px.pol.win.length p1)
  have t3 := s3.cells.2.2.2.1
  have g3 := s3.thaw 3
  have s4 := s3.set3 (.slice m0 R.px.pol.main.length m1)
  have t4 := s4.cells.2.2.2.2.1
  have g4 := s4.thaw 4
  have s5 := s4.set4 (.slice k0 R.px.pol.sk.rows.length k1)
  have t5 := s5.cells.2.2.2.2.2.1
  have g5 := s5.thaw 5
  have s6 := s5.set5 (.int .i64 R.px.pol.sk.added)
  have t6 := s6.cells.2.2.2.2.2.2.1
  have g6 := s6.thaw 6
  have s7 := s6.set6 (.slice f0 R.px.fes.length f1)
  have t7 := s7.cells.2.2.2.2.2.2.2.1
  have g7 := s7.thaw 7
  have s8 := s7.set7 (.slice c0 R.px.cls.length c9)
  have t8 := s8.cells.2.2.2.2.2.2.2.2.1
  have g8 := s8.thaw 8
  have s9 := s8.set8 (.int .i64 R.px.hits)
  obtain ⟨w5, hw5⟩ : ∃ x, (((((((((w4.setCell ⟨w.heap.size + 2, 0, none⟩ (.int .i64 R.px.now)).setCell ⟨w.heap.size + 2, 1, none⟩ (.slice e0 R.px.ents.length e1)).setCell ⟨w.heap.size + 2, 2, none⟩ (.slice p0 R.px.pol.win.length p1)).setCell ⟨w.heap.size + 2, 3, none⟩ (.slice m0 R.px.pol.main.length m1)).setCell ⟨w.heap.size + 2, 4, none⟩ (.slice k0 R.px.pol.sk.rows.length k1)).setCell ⟨w.heap.size + 2, 5, none⟩ (.int .i64 R.px.pol.sk.added)).setCell ⟨w.heap.size + 2, 6, none⟩ (.slice f0 R.px.fes.length f1)).setCell ⟨w.heap.size + 2, 7, none⟩ (.slice c0 R.px.cls.length c9)).setCell ⟨w.heap.size + 2, 8, none⟩ (.int .i64 R.px.hits)) = x := ⟨_, rfl⟩
  have k5 : ∀ k, k ≠ w.heap.size + 2 → w5.heap[k]? = w4.heap[k]? := fun k hk => by rw [← hw5, Below.heap_setCell _ _ _ _ (by exact hk), Below.heap_setCell _ _ _ _ (by exact hk), Below.heap_setCell _ _ _ _ (by exact hk), Below.heap_setCell _ _ _ _ (by exact hk), Below.heap_setCell _ _ _ _ (by exact hk), Below.heap_setCell _ _ _ _ (by exact hk), Below.heap_setCell _ _ _ _ (by exact hk), Below.heap_setCell _ _ _ _ (by exact hk), Below.heap_setCell _ _ _ _ (by exact hk)]
  have z5 : w5.heap.size = w4.heap.size := by rw [← hw5]; simp
  have hT5 : TB w5 (w.heap.size + 2) 58 (.int .i64 R.px.now) (.slice e0 R.px.ents.length e1) (.slice p0 R.px.pol.win.length p1) (.slice m0 R.px.pol.main.length m1) (.slice k0 R.px.pol.sk.rows.length k1) (.int .i64 R.px.pol.sk.added) (.slice f0 R.px.fes.length f1) (.slice c0 R.px.cls.length c9) (.int .i64 R.px.hits) (.slice none 0 0) (.slice none 0 0) (.slice none 0 0) := by rw [← hw5]; exact s9
  clear s0 s1 s2 s3 s4 s5 s6 s7 s8 s9
  have hB5 := hB4.kept (k5 w.heap.size (by omega))
  have hR5 := hR4.kept (k5 (w.heap.size + 1) (by omega))
  have hbw5 : Below w.heap.size w w5 := by rw [← hw5]; exact (((((((((hbw4.setCell (by show w.heap.size ≤ w.heap.size + 2; omega) _).setCell (by show w.heap.size ≤ w.heap.size + 2; omega) _).setCell (by show w.heap.size ≤ w.heap.size + 2; omega) _).setCell (by show w.heap.size ≤ w.heap.size + 2; omega) _).setCell (by show w.heap.size ≤ w.heap.size + 2; omega) _).setCell (by show w.heap.size ≤ w.heap.size + 2; omega) _).setCell (by show w.heap.size ≤ w.heap.size + 2; omega) _).setCell (by show w.heap.size ≤ w.heap.size + 2; omega) _).setCell (by show w.heap.size ≤ w.heap.size + 2; omega) _)
  have HZ5 : Hid (w5.heap.size = w4.heap.size) := z5
  have HX5 := hidOf (ho4.kept (w' := w5) fun k hk1 _ _ _ => k5 k (by have := HZ3.out; have := HZ4.out; have := HZ5.out; omega))
  have HW5 : Hid ((((((((((w4.setCell ⟨w.heap.size + 2, 0, none⟩ (.int .i64 R.px.now)).setCell ⟨w.heap.size + 2, 1, none⟩ (.slice e0 R.px.ents.length e1)).setCell ⟨w.heap.size + 2, 2, none⟩ (.slice p0 R.px.pol.win.length p1)).setCell ⟨w.heap.size + 2, 3, none⟩ (.slice m0 R.px.pol.main.length m1)).setCell ⟨w.heap.size + 2, 4, none⟩ (.slice k0 R.px.pol.sk.rows.length k1)).setCell ⟨w.heap.size + 2, 5, none⟩ (.int .i64 R.px.pol.sk.added)).setCell ⟨w.heap.size + 2, 6, none⟩ (.slice f0 R.px.fes.length f1)).setCell ⟨w.heap.size + 2, 7, none⟩ (.slice c0 R.px.cls.length c9)).setCell ⟨w.heap.size + 2, 8, none⟩ (.int .i64 R.px.hits)) = w5) := hw5
  obtain ⟨b0, b1, b2, b3, b4, b5, b6, b7, b8, b9, b10, b11⟩ := hB5.cells
  have hA_ := HA.out w5 hbw5
  have cc := toDisk_v w5 X.d R.fl hA_.d l2
  rw [← hw5] at b0 b1 b2 b3 b4 b5 b6 b7 b8 b9 b10 b11
  clear hw5 hT4 hB4 hR4 hbw4 hb4 k5 z5 ho4  
  go_wp2_with fail
  rw [HW5.out] at b0 b1 b2 b3 b4 b5 b6 b7 b8 b9 b10 b11 ⊢
  clear t0 g0 t1 g1 t2 g2 t3 g3 t4 g4 t5 g5 t6 g6 t7 g7 t8 g8
  refine cc.mono ?_
  rintro e w6 ⟨_, rfl, ho6, hb6⟩
  obtain ⟨d0, d1, rfl, _⟩ := ho6.at
  clear b0 b1 b2 b3 b4 b5 b6 b7 b8 b9 b10 b11 cc
  have hbw6 := hbw5.trans (hb6.mono hbw5.size)
  have hT6 := hT5.on hb6
  have hB6 := hB5.on hb6
  have hR6 := hR5.on hb6
  have HZ6 : Hid (w5.heap.size ≤ w6.heap.size ∧ w.heap.size + 3 ≤ w6.heap.size) := by refine ⟨hb6.size, ?_⟩; have h2 := hb6.size; have := HZ3.out; have := HZ4.out; have := HZ5.out; omega
  have HX6 := HX5.out.below hb6 (Nat.le_refl _)
  have s0 : TB w6 (w.heap.size + 2) 58 (.int .i64 R.px.now) (.slice e0 R.px.ents.length e1) (.slice p0 R.px.pol.win.length p1) (.slice m0 R.px.pol.main.length m1) (.slice k0 R.px.pol.sk.rows.length k1) (.int .i64 R.px.pol.sk.added) (.slice f0 R.px.fes.length f1) (.slice c0 R.px.cls.length c9) (.int .i64 R.px.hits) (.slice none 0 0) (.slice none 0 0) (.slice none 0 0) := hT6
  have t0 := s0.cells.2.2.2.2.2.2.2.2.2.1
  have g0 := s0.thaw 9
  have s1 := s0.set9 (.slice d0 R.fl.length d1)
  obtain ⟨w7, hw7⟩ : ∃ x, (w6.setCell ⟨w.heap.size + 2, 9, none⟩ (.slice d0 R.fl.length d1)) = x := ⟨_, rfl⟩
  have k7 : ∀ k, k ≠ w.heap.size + 2 → w7.heap[k]? = w6.heap[k]? := fun k hk => by rw [← hw7, Below.heap_setCell _ _ _ _ (by exact hk)]
  have z7 : w7.heap.size = w6.heap.size := by rw [← hw7]; simp
  have hT7 : TB w7 (w.heap.size + 2) 58 (.int .i64 R.px.now) (.slice e0 R.px.ents.length e1) (.slice p0 R.px.pol.win.length p1) (.slice m0 R.px.pol.main.length m1) (.slice k0 R.px.pol.sk.rows.length k1) (.int .i64 R.px.pol.sk.added) (.slice f0 R.px.fes.length f1) (.slice c0 R.px.cls.length c9) (.int .i64 R.px.hits) (.slice d0 R.fl.length d1) (.slice none 0 0) (.slice none 0 0) := by rw [← hw7]; exact s1
  clear s0 s1
  have hB7 := hB6.kept (k7 w.heap.size (by omega))
  have hR7 := hR6.kept (k7 (w.heap.size + 1) (by omega))
  have hbw7 : Below w.heap.size w w7 := by rw [← hw7]; exact (hbw6.setCell (by show w.heap.size ≤ w.heap.size + 2; omega) _)
  have HZ7 : Hid (w7.heap.size = w6.heap.size) := z7
  have HX7 := hidOf (HX6.kept (w' := w7) fun k hk1 _ _ _ => k7 k (by have := HZ3.out; have := HZ4.out; have := HZ5.out; have := HZ6.out; have := HZ7.out; omega))
  have HD7 := hidOf (ho6.kept (w' := w7) fun k hk => k7 k (by have := (ho6.lt k hk).1; have := HZ3.out; have := HZ4.out; have := HZ5.out; have := HZ6.out; have := HZ7.out; omega))
  have HW7 : Hid ((w6.setCell ⟨w.heap.size + 2, 9, none⟩ (.slice d0 R.fl.length d1)) = w7) := hw7
  obtain ⟨b0, b1, b2, b3, b4, b5, b6, b7, b8, b9, b10, b11⟩ := hB7.cells
  have hA_ := HA.out w7 hbw7
  have cc := toInt_v w7 X.n R.cd hA_.n l3
  rw [← hw7] at b0 b1 b2 b3 b4 b5 b6 b7 b8 b9 b10 b11
  clear hw7 hT6 hB6 hR6 hbw6 hb6 k7 z7 ho6 HX6 
  go_wp2_with fail
  rw [HW7.out] at b0 b1 b2 b3 b4 b5 b6 b7 b8 b9 b10 b11 ⊢
  clear t0 g0
  refine cc.mono ?_
  rintro e w8 ⟨_, rfl, ho8, hb8⟩
  obtain ⟨n0, n1, rfl, _⟩ := ho8.ints
  clear b0 b1 b2 b3 b4 b5 b6 b7 b8 b9 b10 b11 cc
  have hbw8 := hbw7.trans (hb8.mono hbw7.size)
  have hT8 := hT7.on hb8
  have hB8 := hB7.on hb8
  have hR8 := hR7.on hb8
  have HZ8 : Hid (w7.heap.size ≤ w8.heap.size ∧ w.heap.size + 3 ≤ w8.heap.size) := by refine ⟨hb8.size, ?_⟩; have h2 := hb8.size; have := HZ3.out; have := HZ4.out; have := HZ5.out; have := HZ6.out; have := HZ7.out; omega
  have HX8 := HX7.out.below hb8 (Nat.le_refl _)
  have HD8 := HD7.out.below hb8 (Nat.le_refl _)
  have s0 : TB w8 (w.heap.size + 2) 58 (.int .i64 R.px.now) (.slice e0 R.px.ents.length e1) (.slice p0 R.px.pol.win.length p1) (.slice m0 R.px.pol.main.length m1) (.slice k0 R.px.pol.sk.rows.length k1) (.int .i64 R.px.pol.sk.added) (.slice f0 R.px.fes.length f1) (.slice c0 R.px.cls.length c9) (.int .i64 R.px.hits) (.slice d0 R.fl.length d1) (.slice none 0 0) (.slice none 0 0) := hT8
  have t0 := s0.cells.2.2.2.2.2.2.2.2.2.2.1
  have g0 := s0.thaw 10
  have s1 := s0.set10 (.slice n0 R.cd.length n1)
  obtain ⟨w9, hw9⟩ : ∃ x, (w8.setCell ⟨w.heap.size + 2, 10, none⟩ (.slice n0 R.cd.length n1)) = x := ⟨_, rfl⟩
  have k9 : ∀ k, k ≠ w.heap.size + 2 → w9.heap[k]? = w8.heap[k]? := fun k hk => by rw [← hw9, Below.heap_setCell _ _ _ _ (by exact hk)]
  have z9 : w9.heap.size = w8.heap.size := by rw [← hw9]; simp
  have hT9 : TB w9 (w.heap.size + 2) 58 (.int .i64 R.px.now) (.slice e0 R.px.ents.length e1) (.slice p0 R.px.pol.win.length p1) (.slice m0 R.px.pol.main.length m1) (.slice k0 R.px.pol.sk.rows.length k1) (.int .i64 R.px.pol.sk.added) (.slice f0 R.px.fes.length f1) (.slice c0 R.px.cls.length c9) (.int .i64 R.px.hits) (.slice d0 R.fl.length d1) (.slice n0 R.cd.length n1) (.slice none 0 0) := by rw [← hw9]; exact s1
  clear s0 s1
  have hB9 := hB8.kept (k9 w.heap.size (by omega))
  have hR9 := hR8.kept (k9 (w.heap.size + 1) (by omega))
  have hbw9 : Below w.heap.size w w9 := by rw [← hw9]; exact (hbw8.setCell (by show w.heap.size ≤ w.heap.size + 2; omega) _)
  have HZ9 : Hid (w9.heap.size = w8.heap.size) := z9
  have HX9 := hidOf (HX8.kept (w' := w9) fun k hk1 _ _ _ => k9 k (by have := HZ3.out; have := HZ4.out; have := HZ5.out; have := HZ6.out; have := HZ7.out; have := HZ8.out; have := HZ9.out; omega))
  have HD9 := hidOf (HD8.kept (w' := w9) fun k hk => k9 k (by have := (HD8.lt k hk).1; have := HZ3.out; have := HZ4.out; have := HZ5.out; have := HZ6.out; have := HZ7.out; have := HZ8.out; have := HZ9.out; omega))
  have HN9 := hidOf (ho8.kept (w' := w9) fun k hk => k9 k (by have := (ho8.lt k hk).1; have := HZ3.out; have := HZ4.out; have := HZ5.out; have := HZ6.out; have := HZ7.out; have := HZ8.out; have := HZ9.out; omega))
  have HW9 : Hid ((w8.setCell ⟨w.heap.size + 2, 10, none⟩ (.slice n0 R.cd.length n1)) = w9) := hw9
  obtain ⟨b0, b1, b2, b3, b4, b5, b6, b7, b8, b9, b10, b11⟩ := hB9.cells
  have hA_ := HA.out w9 hbw9
  have cc := toEntryS_v w9 X.b R.bd hA_.b l4
  rw [← hw9] at b0 b1 b2 b3 b4 b5 b6 b7 b8 b9 b10 b11
  clear hw9 hT8 hB8 hR8 hbw8 hb8 k9 z9 ho8 HX8 HD8 
  go_wp2_with fail
  rw [HW9.out] at b0 b1 b2 b3 b4 b5 b6 b7 b8 b9 b10 b11 ⊢
  clear t0 g0
  refine cc.mono ?_
  rintro e w10 ⟨_, rfl, ho10, hb10⟩
  obtain ⟨u0, u1, rfl, _⟩ := ho10.at
  clear b0 b1 b2 b3 b4 b5 b6 b7 b8 b9 b10 b11 cc
  have hbw10 := hbw9.trans (hb10.mono hbw9.size)
  have hT10 := hT9.on hb10
  have hB10 := hB9.on hb10
  have hR10 := hR9.on hb10
  have HZ10 : Hid (w9.heap.size ≤ w10.heap.size ∧ w.heap.size + 3 ≤ w10.heap.size) := by refine ⟨hb10.size, ?_⟩; have h2 := hb10.size; have := HZ3.out; have := HZ4.out; have := HZ5.out; have := HZ6.out; have := HZ7.out; have := HZ8.out; have := HZ9.out; omega
  have HX10 := HX9.out.below hb10 (Nat.le_refl _)
  have HD10 := HD9.out.below hb10 (Nat.le_refl _)
  have HN10 := HN9.out.below hb10 (Nat.le_refl _)
  have s0 : TB w10 (w.heap.size + 2) 58 (.int .i64 R.px.now) (.slice e0 R.px.ents.length e1) (.slice p0 R.px.pol.win.length p1) (.slice m0 R.px.pol.main.length m1) (.slice k0 R.px.pol.sk.rows.length k1) (.int .i64 R.px.pol.sk.added) (.slice f0 R.px.fes.length f1) (.slice c0 R.px.cls.length c9) (.int .i64 R.px.hits) (.slice d0 R.fl.length d1) (.slice n0 R.cd.length n1) (.slice none 0 0) := hT10
  have t0 := s0.cells.2.2.2.2.2.2.2.2.2.2.2
  have g0 := s0.thaw 11
  have s1 := s0.set11 (.slice u0 R.bd.length u1)
  obtain ⟨w11, hw11⟩ : ∃ x, (w10.setCell ⟨w.heap.size + 2, 11, none⟩ (.slice u0 R.bd.length u1)) = x := ⟨_, rfl⟩
  have k11 : ∀ k, k ≠ w.heap.size + 2 → w11.heap[k]? = w10.heap[k]? := fun k hk => by rw [← hw11, Below.heap_setCell _ _ _ _ (by exact hk)]
  have z11 : w11.heap.size = w10.heap.size := by rw [← hw11]; simp
  have hT11 : TB w11 (w.heap.size + 2) 58 (.int .i64 R.px.now) (.slice e0 R.px.ents.length e1) (.slice p0 R.px.pol.win.length p1) (.slice m0 R.px.pol.main.length m1) (.slice k0 R.px.pol.sk.rows.length k1) (.int .i64 R.px.pol.sk.added) (.slice f0 R.px.fes.length f1) (.slice c0 R.px.cls.length c9) (.int .i64 R.px.hits) (.slice d0 R.fl.length d1) (.slice n0 R.cd.length n1) (.slice u0 R.bd.length u1) := by rw [← hw11]; exact s1
  clear s0 s1
  have hB11 := hB10.kept (k11 w.heap.size (by omega))
  have hR11 := hR10.kept (k11 (w.heap.size + 1) (by omega))
  have hbw11 : Below w.heap.size w w11 := by rw [← hw11]; exact (hbw10.setCell (by show w.heap.size ≤ w.heap.size + 2; omega) _)
  have HZ11 : Hid (w11.heap.size = w10.heap.size) := z11
  have HX11 := hidOf (HX10.kept (w' := w11) fun k hk1 _ _ _ => k11 k (by have := HZ3.out; have := HZ4.out; have := HZ5.out; have := HZ6.out; have := HZ7.out; have := HZ8.out; have := HZ9.out; have := HZ10.out; have := HZ11.out; omega))
  have HD11 := hidOf (HD10.kept (w' := w11) fun k hk => k11 k (by have := (HD10.lt k hk).1; have := HZ3.out; have := HZ4.out; have := HZ5.out; have := HZ6.out; have := HZ7.out; have := HZ8.out; have := HZ9.out; have := HZ10.out; have := HZ11.out; omega))
  have HN11 := hidOf (HN10.kept (w' := w11) fun k hk => k11 k (by have := (HN10.lt k hk).1; have := HZ3.out; have := HZ4.out; have := HZ5.out; have := HZ6.out; have := HZ7.out; have := HZ8.out; have := HZ9.out; have := HZ10.out; have := HZ11.out; omega))
  have HE11 := hidOf (ho10.kept (w' := w11) fun k hk => k11 k (by have := (ho10.lt k hk).1; have := HZ3.out; have := HZ4.out; have := HZ5.out; have := HZ6.out; have := HZ7.out; have := HZ8.out; have := HZ9.out; have := HZ10.out; have := HZ11.out; omega))
  have HW11 : Hid ((w10.setCell ⟨w.heap.size + 2, 11, none⟩ (.slice u0 R.bd.length u1)) = w11) := hw11
  obtain ⟨y0, y1, y2, y3, y4, y5, y6, y7, y8, y9, y10, y11⟩ := hT11.cells
  obtain ⟨r0, r1, r2, r3, r4, r5, r6, r7, r8, r9, r10, r11⟩ := hR11.cells
  have v0 := hR11.thaw 0
  have v1 := hR11.thaw 1
  have v2 := hR11.thaw 2
  have v3 := hR11.thaw 3
  have v4 := hR11.thaw 4
  have v5 := hR11.thaw 5
  have v6 := hR11.thaw 6
  have v7 := hR11.thaw 7
  have v8 := hR11.thaw 8
  have v9 := hR11.thaw 9
  have v10 := hR11.thaw 10
  have v11 := hR11.thaw 11
  rw [← hw11] at y0 y1 y2 y3 y4 y5 y6 y7 y8 y9 y10 y11 r0 r1 r2 r3 r4 r5 r6 r7 r8 r9 r10 r11 v0 v1 v2 v3 v4 v5 v6 v7 v8 v9 v10 v11
  have hq := hR11.put (.int .i64 R.px.now) (.slice e0 R.px.ents.length e1) (.slice p0 R.px.pol.win.length p1) (.slice m0 R.px.pol.main.length m1) (.slice k0 R.px.pol.sk.rows.length k1) (.int .i64 R.px.pol.sk.added) (.slice f0 R.px.fes.length f1) (.slice c0 R.px.cls.length c9) (.int .i64 R.px.hits) (.slice d0 R.fl.length d1) (.slice n0 R.cd.length n1) (.slice u0 R.bd.length u1)
  have hx : ∀ k, k ≠ w.heap.size + 1 → (((((((((((((w11.setCell ⟨w.heap.size + 1, 0, none⟩ (.int .i64 R.px.now)).setCell ⟨w.heap.size + 1, 1, none⟩ (.slice e0 R.px.ents.length e1)).setCell ⟨w.heap.size + 1, 2, none⟩ (.slice p0 R.px.pol.win.length p1)).setCell ⟨w.heap.size + 1, 3, none⟩ (.slice m0 R.px.pol.main.length m1)).setCell ⟨w.heap.size + 1, 4, none⟩ (.slice k0 R.px.pol.sk.rows.length k1)).setCell ⟨w.heap.size + 1, 5, none⟩ (.int .i64 R.px.pol.sk.added)).setCell ⟨w.heap.size + 1, 6, none⟩ (.slice f0 R.px.fes.length f1)).setCell ⟨w.heap.size + 1, 7, none⟩ (.slice c0 R.px.cls.length c9)).setCell ⟨w.heap.size + 1, 8, none⟩ (.int .i64 R.px.hits)).setCell ⟨w.heap.size + 1, 9, none⟩ (.slice d0 R.fl.length d1)).setCell ⟨w.heap.size + 1, 10, none⟩ (.slice n0 R.cd.length n1)).setCell ⟨w.heap.size + 1, 11, none⟩ (.slice u0 R.bd.length u1))).heap[k]? = w11.heap[k]? := fun k hk => put12_other w11 (w.heap.size + 1) _ _ _ _ _ _ _ _ _ _ _ _ k hk
  have HPX : Hid (WAt (((((((((((((w11.setCell ⟨w.heap.size + 1, 0, none⟩ (.int .i64 R.px.now)).setCell ⟨w.heap.size + 1, 1, none⟩ (.slice e0 R.px.ents.length e1)).setCell ⟨w.heap.size + 1, 2, none⟩ (.slice p0 R.px.pol.win.length p1)).setCell ⟨w.heap.size + 1, 3, none⟩ (.slice m0 R.px.pol.main.length m1)).setCell ⟨w.heap.size + 1, 4, none⟩ (.slice k0 R.px.pol.sk.rows.length k1)).setCell ⟨w.heap.size + 1, 5, none⟩ (.int .i64 R.px.pol.sk.added)).setCell ⟨w.heap.size + 1, 6, none⟩ (.slice f0 R.px.fes.length f1)).setCell ⟨w.heap.size + 1, 7, none⟩ (.slice c0 R.px.cls.length c9)).setCell ⟨w.heap.size + 1, 8, none⟩ (.int .i64 R.px.hits)).setCell ⟨w.heap.size + 1, 9, none⟩ (.slice d0 R.fl.length d1)).setCell ⟨w.heap.size + 1, 10, none⟩ (.slice n0 R.cd.length n1)).setCell ⟨w.heap.size + 1, 11, none⟩ (.slice u0 R.bd.length u1))) ⟨⟨.slice e0 R.px.ents.length e1, .slice p0 R.px.pol.win.length p1, .slice m0 R.px.pol.main.length m1, .slice k0 R.px.pol.sk.rows.length k1, .slice f0 R.px.fes.length f1, .slice c0 R.px.cls.length c9⟩, .slice d0 R.fl.length d1, .slice n0 R.cd.length n1, .slice u0 R.bd.length u1⟩ R w11.heap.size) := by
    have q1 := (HX11.out.kept (w' := (((((((((((((w11.setCell ⟨w.heap.size + 1, 0, none⟩ (.int .i64 R.px.now)).setCell ⟨w.heap.size + 1, 1, none⟩ (.slice e0 R.px.ents.length e1)).setCell ⟨w.heap.size + 1, 2, none⟩ (.slice p0 R.px.pol.win.length p1)).setCell ⟨w.heap.size + 1, 3, none⟩ (.slice m0 R.px.pol.main.length m1)).setCell ⟨w.heap.size + 1, 4, none⟩ (.slice k0 R.px.pol.sk.rows.length k1)).setCell ⟨w.heap.size + 1, 5, none⟩ (.int .i64 R.px.pol.sk.added)).setCell ⟨w.heap.size + 1, 6, none⟩ (.slice f0 R.px.fes.length f1)).setCell ⟨w.heap.size + 1, 7, none⟩ (.slice c0 R.px.cls.length c9)).setCell ⟨w.heap.size + 1, 8, none⟩ (.int .i64 R.px.hits)).setCell ⟨w.heap.size + 1, 9, none⟩ (.slice d0 R.fl.length d1)).setCell ⟨w.heap.size + 1, 10, none⟩ (.slice n0 R.cd.length n1)).setCell ⟨w.heap.size + 1, 11, none⟩ (.slice u0 R.bd.length u1)))) fun k hk1 _ _ _ => hx k (by have := HZ3.out; have := HZ4.out; have := HZ5.out; have := HZ6.out; have := HZ7.out; have := HZ8.out; have := HZ9.out; have := HZ10.out; have := HZ11.out; omega)).at
    have q2 := (HD11.out.kept (w' := (((((((((((((w11.setCell ⟨w.heap.size + 1, 0, none⟩ (.int .i64 R.px.now)).setCell ⟨w.heap.size + 1, 1, none⟩ (.slice e0 R.px.ents.length e1)).setCell ⟨w.heap.size + 1, 2, none⟩ (.slice p0 R.px.pol.win.length p1)).setCell ⟨w.heap.size + 1, 3, none⟩ (.slice m0 R.px.pol.main.length m1)).setCell ⟨w.heap.size + 1, 4, none⟩ (.slice k0 R.px.pol.sk.rows.length k1)).setCell ⟨w.heap.size + 1, 5, none⟩ (.int .i64 R.px.pol.sk.added)).setCell ⟨w.heap.size + 1, 6, none⟩ (.slice f0 R.px.fes.length f1)).setCell ⟨w.heap.size + 1, 7, none⟩ (.slice c0 R.px.cls.length c9)).setCell ⟨w.heap.size + 1, 8, none⟩ (.int .i64 R.px.hits)).setCell ⟨w.heap.size + 1, 9, none⟩ (.slice d0 R.fl.length d1)).setCell ⟨w.heap.size + 1, 10, none⟩ (.slice n0 R.cd.length n1)).setCell ⟨w.heap.size + 1, 11, none⟩ (.slice u0 R.bd.length u1)))) fun k hk => hx k (by have := (HD11.out.lt k hk).1; have := HZ3.out; have := HZ4.out; have := HZ5.out; have := HZ6.out; have := HZ7.out; have := HZ8.out; have := HZ9.out; have := HZ10.out; have := HZ11.out; omega)).at
    have q3 := OwnV.ints (HN11.out.kept (w' := (((((((((((((w11.setCell ⟨w.heap.size + 1, 0, none⟩ (.int .i64 R.px.now)).setCell ⟨w.heap.size + 1, 1, none⟩ (.slice e0 R.px.ents.length e1)).setCell ⟨w.heap.size + 1, 2, none⟩ (.slice p0 R.px.pol.win.length p1)).setCell ⟨w.heap.size + 1, 3, none⟩ (.slice m0 R.px.pol.main.length m1)).setCell ⟨w.heap.size + 1, 4, none⟩ (.slice k0 R.px.pol.sk.rows.length k1)).setCell ⟨w.heap.size + 1, 5, none⟩ (.int .i64 R.px.pol.sk.added)).setCell ⟨w.heap.size + 1, 6, none⟩ (.slice f0 R.px.fes.length f1)).setCell ⟨w.heap.size + 1, 7, none⟩ (.slice c0 R.px.cls.length c9)).setCell ⟨w.heap.size + 1, 8, none⟩ (.int .i64 R.px.hits)).setCell ⟨w.heap.size + 1, 9, none⟩ (.slice d0 R.fl.length d1)).setCell ⟨w.heap.size + 1, 10, none⟩ (.slice n0 R.cd.length n1)).setCell ⟨w.heap.size + 1, 11, none⟩ (.slice u0 R.bd.length u1)))) fun k hk => hx k (by have := (HN11.out.lt k hk).1; have := HZ3.out; have := HZ4.out; have := HZ5.out; have := HZ6.out; have := HZ7.out; have := HZ8.out; have := HZ9.out; have := HZ10.out; have := HZ11.out; omega))
    have q4 := (HE11.out.kept (w' := (((((((((((((w11.setCell ⟨w.heap.size + 1, 0, none⟩ (.int .i64 R.px.now)).setCell ⟨w.heap.size + 1, 1, none⟩ (.slice e0 R.px.ents.length e1)).setCell ⟨w.heap.size + 1, 2, none⟩ (.slice p0 R.px.pol.win.length p1)).setCell ⟨w.heap.size + 1, 3, none⟩ (.slice m0 R.px.pol.main.length m1)).setCell ⟨w.heap.size + 1, 4, none⟩ (.slice k0 R.px.pol.sk.rows.length k1)).setCell ⟨w.heap.size + 1, 5, none⟩ (.int .i64 R.px.pol.sk.added)).setCell ⟨w.heap.size + 1, 6, none⟩ (.slice f0 R.px.fes.length f1)).setCell ⟨w.heap.size + 1, 7, none⟩ (.slice c0 R.px.cls.length c9)).setCell ⟨w.heap.size + 1, 8, none⟩ (.int .i64 R.px.hits)).setCell ⟨w.heap.size + 1, 9, none⟩ (.slice d0 R.fl.length d1)).setCell ⟨w.heap.size + 1, 10, none⟩ (.slice n0 R.cd.length n1)).setCell ⟨w.heap.size + 1, 11, none⟩ (.slice u0 R.bd.length u1)))) fun k hk => hx k (by have := (HE11.out.lt k hk).1; have := HZ3.out; have := HZ4.out; have := HZ5.out; have := HZ6.out; have := HZ7.out; have := HZ8.out; have := HZ9.out; have := HZ10.out; have := HZ11.out; omega)).at
    rw [put12_size] at q1 q2 q3 q4
    exact ⟨q1, q2, q3, q4⟩
  clear hw11 k11 z11 hT10 hB10 hR10 hbw10 hb10 ho10 hx
  go_wp2_with fail
  rw [HW11.out]
  obtain ⟨q0, q1, q2, q3, q4, q5, q6, q7, q8, q9, q10, q11⟩ := hq.cells
  refine bodyPost_ret (v := .agg #[.int .i64 R.px.now, .slice e0 R.px.ents.length e1, .slice p0 R.px.pol.win.length p1, .slice m0 R.px.pol.main.length m1, .slice k0 R.px.pol.sk.rows.length k1, .int .i64 R.px.pol.sk.added, .slice f0 R.px.fes.length f1, .slice c0 R.px.cls.length c9, .int .i64 R.px.hits, .slice d0 R.fl.length d1, .slice n0 R.cd.length n1, .slice u0 R.bd.length u1]) (by simp [results, Try.results14, go_sem, q0, q1, q2, q3, q4, q5, q6, q7, q8, q9, q10, q11]) rfl ⟨⟨⟨.slice e0 R.px.ents.length e1, .slice p0 R.px.pol.win.length p1, .slice m0 R.px.pol.main.length m1, .slice k0 R.px.pol.sk.rows.length k1, .slice f0 R.px.fes.length f1, .slice c0 R.px.cls.length c9⟩, .slice d0 R.fl.length d1, .slice n0 R.cd.length n1, .slice u0 R.bd.length u1⟩, rfl, ?_, Below.put12 hbw11 (by omega) _ _ _ _ _ _ _ _ _ _ _ _⟩
  rw [put12_size]
  exact HPX.out
end Go.Proofs.Ytpgcfgbhkodmeaa
