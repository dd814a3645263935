/- What the law on sketches draws; two sketches held against each other. -/
import Derived.Test.YtifjjfjadcpmaaeDoorSketchAny
import Derived.Test.YtifjjfjadcpmaaeDoorSkLaw2
import Derived.Test.YtifjjfjadcpmaaeDoorSameInts
import Derived.Lib.QuietBelow
import Derived.BigQuiet
namespace Go.Proofs.YtifjjfjadcpmaaeDoor
open Go.RowKit Go.Sort

set_option maxRecDepth 100000 in
set_option maxHeartbeats 2000000 in
theorem drawSketch_any (w : World) (ca : Option Addr) (n cap : Nat) (hcode : CodeAt w ca n w.heap.size) (hn : n ≤ 1048576) :
    Calls Tryd.prog 30 #[.slice ca n cap] w fun e w' => ∃ (v : Value) (S : Sk), e = .returned v ∧ okK S = true ∧ SkOwn w' w.heap.size w'.heap.size v S ∧ Below w.heap.size w w' := by
  obtain ⟨w0, hw0⟩ : ∃ x, w.alloc (.cells #[.slice none 0 0, .int .i64 0] 45) = x := ⟨_, rfl⟩
  have hb0 : Below w.heap.size w w0 := by rw [← hw0]; exact (Below.refl _ _).alloc (Nat.le_refl _) _
  have s0 : w0.heap.size = w.heap.size + 1 := by rw [← hw0]; simp
  have hR0 : SkBox w0 w.heap.size (.slice none 0 0) (.int .i64 0) := by rw [← hw0]; exact SkBox.new _ _ _
  have hcd : CodeAt w0 ca n w0.heap.size := by
    intro j hj
    obtain ⟨b, off, z, h1, h2, h3, h4⟩ := hcode j hj
    exact ⟨b, off, z, h1, by omega, (hb0.cell h2).trans h3, h4⟩
  have c1 := new_any w0 ca n cap hcd hn
  have HW : Hid (w.alloc (.cells #[.slice none 0 0, .int .i64 0] 45) = w0) := hw0
  clear hw0 hcode hcd
  go_enter Tryd.func30, Tryd.ntmps30
  go_wp2_with fail
  rw [HW.out]
  refine c1.mono ?_
  rintro e w1 ⟨p, rfl, hp1, hp2, hcur, hcd, hb1⟩
  have c2 := l12Sketch_any w1 p ca n cap hcur hcd hn hp1
  clear c1
  go_wp2_with fail
  refine c2.mono ?_
  rintro e w2 ⟨v2, S, rfl, hok, ho2, hl2⟩
  obtain ⟨a2, c2', rfl, _⟩ := ho2.at
  obtain ⟨v1, ev, ho⟩ := ho2
  simp only [Value.agg.injEq, Array.mk.injEq, List.cons.injEq, and_true] at ev
  subst ev
  have hbw1 : Below w.heap.size w w1 := hb0.trans (hb1.mono hb0.size)
  have hbw2 := below_of_left hbw1 (by omega) hl2
  have hR2 := (hR0.on hb1).left hl2 (by omega)
  obtain ⟨r0, r1⟩ := hR2.cells
  have f0 := hR2.thaw 0
  have f1 := hR2.thaw 1
  have HO : Hid (OwnSS w2 w1.heap.size w2.heap.size (.slice a2 S.rows.length c2') S.rows ∧ okK S = true) := ⟨ho, hok⟩
  have hs := hbw1.size
  clear c2 ho hok hR0 hl2
  go_wp2_with fail
  obtain ⟨q0, q1⟩ := (hR2.put (.slice a2 S.rows.length c2') (.int .i64 S.added)).cells
  refine bodyPost_ret (v := .agg #[.slice a2 S.rows.length c2', .int .i64 S.added]) (by simp [results, Tryd.results30, go_sem, q0, q1]) rfl ⟨_, S, rfl, HO.out.2, ⟨_, rfl, (HO.out.1.put2 hR2 _ _).mono (by omega) (by simp)⟩, Below.put2 hbw2 (Nat.le_refl _) _ _⟩
set_option maxRecDepth 100000 in
set_option maxHeartbeats 2000000 in
theorem drawSketchPlace_any (w : World) (ca : Option Addr) (n cap : Nat) (hcode : CodeAt w ca n w.heap.size) (hn : n ≤ 1048576) :
    Calls Tryd.prog 29 #[.slice ca n cap] w fun e w' => ∃ (row : Int) (k : ByteArray), e = .returned (.tuple #[.int .i64 row, .string k]) ∧ k.size ≤ 10 ∧ Below w.heap.size w w' := by
  have c1 := new_any w ca n cap hcode hn
  clear hcode
  go_enter Tryd.func29, Tryd.ntmps29
  go_wp2_with fail
  refine c1.mono ?_
  rintro e w1 ⟨p, rfl, hp1, hp2, hcur, hcd, hb1⟩
  obtain ⟨zs, hzs⟩ : ∃ zs : List Int, zs = [0, 1, 2, 255, 256, -1, 9223372036854775807] := ⟨_, rfl⟩
  have c2 := pickInt_any (w1.alloc (.cells (ints zs).toArray 3)) p ca n cap w1.heap.size (.slice (some ⟨w1.heap.size, 0, none⟩) 7 7) zs (hcur.alloc hp1 _) (hcd.alloc _) hn
      (by subst hzs; exact World.ownsRow_lit (base := w1.heap.size) (e := 3) (size := 1) w1 (ints [0, 1, 2, 255, 256, -1, 9223372036854775807]).toArray 7 (Nat.le_refl _) (by simp [maxLen]) (by rfl)) hp1 (by subst hzs; decide) (by subst hzs; decide)
  subst hzs
  clear c1
  go_wp2_with fail
  refine c2.mono ?_
  rintro e w2 ⟨row, _, rfl, hl2⟩
  have hl2' : Left w1 w2 p ca n cap := ⟨hl2.1, hl2.2.1, grownBy_trans (World.grownBy_alloc _ _ _) hl2.2.2⟩
  clear c2 hl2 hcur hcd
  have c3 := below_any w2 p ca n cap 6 hl2'.1 hl2'.2.1 hn (by omega) (by omega)
  go_wp2_with fail
  refine c3.mono ?_
  rintro e w3 ⟨x, hx, _, rfl, hl3⟩
  have hx6 := hx (by omega)
  have hl3' := hl2'.trans hl3
  clear c3 hx hl2' hl3
  have c4 := text_any w3 p ca n cap (x : Int) hl3'.1 hl3'.2.1 hn (by omega) (by omega)
  go_wp2_with fail
  refine c4.mono ?_
  rintro e w4 ⟨s, hsz, rfl, hl4⟩
  have hl4' := hl3'.trans hl4
  have HS : Hid (s.size ≤ 10) := by show _ ≤ _; omega
  have hbw := below_of_left hb1 hp2 hl4'
  clear c4 hsz hl3' hl4 hl4'
  go_wp2
  go_ret2
  exact ⟨row, s, rfl, HS.out, hbw⟩
set_option maxRecDepth 100000 in
set_option maxHeartbeats 2000000 in
theorem drawSketchBump_any (w : World) (ca : Option Addr) (n cap : Nat) (hcode : CodeAt w ca n w.heap.size) (hn : n ≤ 1048576) :
    Calls Tryd.prog 27 #[.slice ca n cap] w fun e w' => ∃ (a : Option Addr) (c : Nat) (S : Sk) (key : ByteArray), e = .returned (.tuple #[.agg #[.slice a S.rows.length c, .int .i64 S.added], .string key]) ∧ key.size ≤ 2 ∧ Few S ∧ SSAt w' a S.rows w'.heap.size ∧ Below w.heap.size w w' := by
  obtain ⟨w0, hw0⟩ : ∃ x, w.alloc (.cells #[.slice none 0 0, .int .i64 0] 45) = x := ⟨_, rfl⟩
  have hb0 : Below w.heap.size w w0 := by rw [← hw0]; exact (Below.refl _ _).alloc (Nat.le_refl _) _
  have s0 : w0.heap.size = w.heap.size + 1 := by rw [← hw0]; simp
  have hR0 : SkBox w0 w.heap.size (.slice none 0 0) (.int .i64 0) := by rw [← hw0]; exact SkBox.new _ _ _
  have hcd : CodeAt w0 ca n w0.heap.size := by
    intro j hj
    obtain ⟨b, off, z, h1, h2, h3, h4⟩ := hcode j hj
    exact ⟨b, off, z, h1, by omega, (hb0.cell h2).trans h3, h4⟩
  have c1 := new_any w0 ca n cap hcd hn
  have HW : Hid (w.alloc (.cells #[.slice none 0 0, .int .i64 0] 45) = w0) := hw0
  clear hw0 hcode hcd
  go_enter Tryd.func27, Tryd.ntmps27
  go_wp2_with fail
  rw [HW.out]
  refine c1.mono ?_
  rintro e w1 ⟨p, rfl, hp1, hp2, hcur, hcd, hb1⟩
  have c2 := l12Key_any w1 p ca n cap hcur hcd hn hp1
  clear c1
  go_wp2_with fail
  refine c2.mono ?_
  rintro e w2 ⟨key, hks, rfl, hl2⟩
  have hp2' : p < w2.heap.size := Nat.lt_of_lt_of_le hp1 hl2.2.2.size
  have c3 := l12Any_any w2 p ca n cap hl2.1 hl2.2.1 hn hp2'
  clear c2
  go_wp2_with fail
  refine c3.mono ?_
  rintro e w3 ⟨a, c, S, rfl, hfew, hss, hl3⟩
  have hbw1 : Below w.heap.size w w1 := hb0.trans (hb1.mono hb0.size)
  have hbw3 := below_of_left hbw1 (by omega) (hl2.trans hl3)
  have hR3 := ((hR0.on hb1).left hl2 (by omega)).left hl3 (by omega)
  obtain ⟨r0, r1⟩ := hR3.cells
  have f0 := hR3.thaw 0
  have f1 := hR3.thaw 1
  have HX : Hid (key.size ≤ 2 ∧ Few S ∧ SSK w3 w2.heap.size a S.rows) := ⟨hks, hfew, hss⟩
  have hws : w.heap.size < w2.heap.size := by omega
  clear c3 hss hfew hks hR0 hl2 hl3
  go_wp2_with fail
  obtain ⟨q0, q1⟩ := (hR3.put (.slice a S.rows.length c) (.int .i64 S.added)).cells
  refine bodyPost_ret (v := .tuple #[.agg #[.slice a S.rows.length c, .int .i64 S.added], .string key]) (by simp [results, Tryd.results27, go_sem, q0, q1]) rfl ⟨a, c, S, key, rfl, HX.out.1, HX.out.2.1, HX.out.2.2 _ (fun k hk => put2_other _ _ _ _ k (by omega)) (by simp), Below.put2 hbw3 (Nat.le_refl _) _ _⟩
set_option maxRecDepth 100000 in
set_option maxHeartbeats 2000000 in
theorem sameSketch_same (w : World) (a b : Option Addr) (c d : Nat) (S : Sk) (hA : SSAt w a S.rows w.heap.size) (hB : SSAt w b S.rows w.heap.size) (hm : SkSz S) :
    Calls Tryd.prog 31 #[.agg #[.slice a S.rows.length c, .int .i64 S.added], .agg #[.slice b S.rows.length d, .int .i64 S.added]] w fun e w' => e = .returned (.bool true) ∧ Below w.heap.size w w' := by
  obtain ⟨rows, added⟩ := S
  unfold SkSz at hm
  dsimp only at *
  obtain ⟨w0, hw0⟩ : ∃ x, w.alloc (.cells #[.slice a rows.length c, .int .i64 added] 45) = x := ⟨_, rfl⟩
  obtain ⟨w1, hw1⟩ : ∃ x, w0.alloc (.cells #[.slice b rows.length d, .int .i64 added] 45) = x := ⟨_, rfl⟩
  have hb0 : Below w.heap.size w w0 := by rw [← hw0]; exact (Below.refl _ _).alloc (Nat.le_refl _) _
  have hb1 : Below w0.heap.size w0 w1 := by rw [← hw1]; exact (Below.refl _ _).alloc (Nat.le_refl _) _
  have s0 : w0.heap.size = w.heap.size + 1 := by rw [← hw0]; simp
  have hX : SkBox w1 w.heap.size (.slice a rows.length c) (.int .i64 added) := by
    have h : SkBox w0 w.heap.size (.slice a rows.length c) (.int .i64 added) := by rw [← hw0]; exact SkBox.new _ _ _
    exact h.on hb1
  have hY : SkBox w1 (w.heap.size + 1) (.slice b rows.length d) (.int .i64 added) := by rw [← hw1, ← s0]; exact SkBox.new _ _ _
  have hbw : Below w.heap.size w w1 := hb0.trans (hb1.mono hb0.size)
  obtain ⟨x0, x1⟩ := hX.cells
  obtain ⟨y0, y1⟩ := hY.cells
  have HW : Hid ((w.alloc (.cells #[.slice a rows.length c, .int .i64 added] 45)).alloc (.cells #[.slice b rows.length d, .int .i64 added] 45) = w1) := by rw [hw0]; exact hw1
  rw [← hw1, ← hw0] at x0 x1 y0 y1
  have hnn : (added != added) = false := by simp
  have hA1 := hA.on hbw
  have hB1 := hB.on hbw
  clear hw0 hw1 s0 hb0 hb1 hA hB
  go_enter Tryd.func31, Tryd.ntmps31
  go_wp2
  rw [HW.out]
  clear x0 x1 y0 y1
  go_loopw [5] (fun i wr => Box (∃ (k : Nat), k ≤ rows.length ∧ i = .int .i64 k ∧ Below w1.heap.size w1 wr))
    (fun i _ => rows.length - (intOf i).toNat)
  case atStart => exact ⟨⟨0, by omega, rfl, Below.refl _ _⟩⟩
  case round =>
    obtain ⟨k, hk, rfl, hbel⟩ := hrel.out
    obtain ⟨x0, x1⟩ := (hX.on hbel).cells
    obtain ⟨y0, y1⟩ := (hY.on hbel).cells
    by_cases hlt : k < rows.length
    · obtain ⟨g, off, ai, ci, rfl, hg, hc0, hI⟩ := hA1.on hbel k hlt
      obtain ⟨g', off', bi, di, rfl, hg', hd0, hJ⟩ := hB1.on hbel k hlt
      have hlen := tot_at rows k hlt
      obtain ⟨f, hf⟩ : ∃ f, rows[k] = f := ⟨_, rfl⟩
      rw [hf] at hc0 hd0 hI hJ hlen
      have k0 := cell_regrown hc0
      have l0 := cell_regrown hd0
      have k1 := cell_regrown x0
      have l1 := cell_regrown y0
      have cV : ∀ dd os, Calls Tryd.prog 68 #[.slice ai f.length ci, .slice bi f.length di] (grow (redrawn wr dd) os) fun e w'' => e = .returned (.bool true) ∧ ∃ p : Regrown, w'' = grow (redrawn wr p.d) p.os := fun dd os => Calls.regrown_of (by have h := below_regrown wr dd os; have := sameInts_same (grow (redrawn wr dd) os) ai bi ci di f (hI.on h) (hJ.on h) (by omega); simpa using this)
      clear hrel hc0 hd0 hI hJ hf hlen x1 y1 hA1 hB1
      have hi1 : (0 : Int) ≤ (k : Int) := by omega
      have hi2 : (k : Int) < (rows.length : Int) := by omega
      go_wp2
      refine wp_region_quiet_below (by kernel_rfl) (by kernel_rfl) ?_
      repeat (first | go_big_quiet_step (exact cV _ _) | quiet_step (exact cV _ _))
      refine wpQuiet_nil ?_
      intro _ hw'
      obtain ⟨⟨dq, osq⟩, hw''⟩ := hw'
      subst hw''
      go_wp2
      go_roundw
      case rel =>
        try ((repeat apply Exists.intro); refine ⟨?_, rfl⟩)
        exact ⟨⟨k + 1, by omega, by go_num, hbel.trans ((below_regrown wr dq osq).mono hbel.size)⟩⟩
      case measure => simp [intOf]; omega
    · go_wp2
      go_ret
      exact ⟨rfl, hbw.trans (hbel.mono hbw.size)⟩
end Go.Proofs.YtifjjfjadcpmaaeDoor
