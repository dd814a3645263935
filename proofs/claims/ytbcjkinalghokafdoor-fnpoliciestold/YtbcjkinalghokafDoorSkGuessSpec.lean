/- The guess of a sketch: the other text. -/
import Derived.Test.YtbcjkinalghokafDoorSkOkSpecJ
import Derived.Test.YtbcjkinalghokafDoorPolOkSzJ
import Derived.Lib.QuietBelow
import Derived.BigQuiet
namespace Go.Proofs.YtbcjkinalghokafDoor
open Go.RowKit Go.Sort

theorem guessTo_next (key : ByteArray) (rows : List (List Int)) (k : Nat) : guessTo key rows (k + 1) = min (lookR key rows k) (guessTo key rows k) := by
  unfold guessTo
  rw [List.range_succ, List.foldl_append]
  rfl
set_option maxRecDepth 100000 in
set_option maxHeartbeats 4000000 in
theorem specSketchGuess_any (w : World) (a : Option Addr) (c : Nat) (S : Sk) (key : ByteArray) (hA : SSAt w a S.rows w.heap.size) (hm : S.rows.length ≤ 1048576) (hk : key.size ≤ 1048576) :
    Calls Tryd.prog 37 #[.agg #[.slice a S.rows.length c, .int .i64 S.added], .string key] w fun e w' => e = .returned (.int .i64 (guessS S key)) ∧ Below w.heap.size w w' := by
  obtain ⟨w0, hw0⟩ : ∃ x, w.alloc (.cells #[.slice a S.rows.length c, .int .i64 S.added] 27) = x := ⟨_, rfl⟩
  have hb0 : Below w.heap.size w w0 := by rw [← hw0]; exact (Below.refl _ _).alloc (Nat.le_refl _) _
  have hB : SkBox w0 w.heap.size (.slice a S.rows.length c) (.int .i64 S.added) := by rw [← hw0]; exact SkBox.new _ _ _
  have HW : Hid (w.alloc (.cells #[.slice a S.rows.length c, .int .i64 S.added] 27) = w0) := hw0
  have c0 := specSketchOk_any w0 a c S (hA.on hb0) hm
  obtain ⟨b0, b1⟩ := hB.cells
  rw [← HW.out] at b0 b1
  clear hw0
  cases hok : okK S with
  | false =>
    rw [hok] at c0
    have HG : Hid (guessS S key = 0) := by show _ = _; unfold guessS; rw [hok]; rfl
    clear hok
    go_enter Tryd.func37, Tryd.ntmps37
    go_wp2_with fail
    rw [HW.out] at b0 b1 ⊢
    refine c0.mono ?_
    rintro e w1 ⟨rfl, hb1⟩
    go_wp2_with fail
    go_ret
    exact ⟨by rw [HG.out]; rfl, hb0.trans (hb1.mono hb0.size)⟩
  | true =>
    rw [hok] at c0
    obtain ⟨r0, r1, r2, hrows, o0, o1, o2, ha0, ha1⟩ := okK_parts hok
    have HZ : Hid (∀ j (hj : j < S.rows.length), rowOk S.rows[j] = true) := by
      intro j hj
      unfold okK at hok
      rw [Bool.and_eq_true, List.all_eq_true] at hok
      exact hok.2 _ (List.getElem_mem hj)
    have H3 : Hid (S.rows.length = 3) := by show _ = _; rw [hrows]; rfl
    have HG : Hid (guessS S key = guessTo key S.rows 3) := by show _ = _; unfold guessS; rw [if_pos hok]
    obtain ⟨rows, added⟩ := S
    dsimp only at *
    have hA0 := hA.on hb0
    clear hok hrows o0 o1 o2 hA ha0 ha1
    go_enter Tryd.func37, Tryd.ntmps37
    go_wp2_with fail
    rw [HW.out] at b0 b1 ⊢
    refine c0.mono ?_
    rintro e w1 ⟨rfl, hb1⟩
    clear c0 b0 b1
    have hbw1 := hb0.trans (hb1.mono hb0.size)
    have hA1 := hA0.on hb1
    have hB1 := hB.on hb1
    clear hB hA0
    go_wp2_with fail
    go_loopw [5, 6, 7] (fun n i _ wr => Box (∃ (k : Nat), k ≤ rows.length ∧ i = .int .i64 k ∧ n = .int .i64 (guessTo key rows k) ∧ Below w1.heap.size w1 wr))
      (fun _ i _ _ => rows.length - (intOf i).toNat)
    case atStart => exact ⟨⟨0, by omega, rfl, rfl, Below.refl _ _⟩⟩
    case round =>
      obtain ⟨k, hk3, rfl, rfl, hbel⟩ := hrel.out
      have hB2 := hB1.on hbel
      obtain ⟨b0, b1⟩ := hB2.cells
      by_cases hlt : k < rows.length
      · obtain ⟨g, off, ai, ci, rfl, hg, hc, hI⟩ := hA1.on hbel k hlt
        have hrk := HZ.out k hlt
        have hp := placeS_lt (k : Int) key
        have HL : Hid (rows[k].getD (placeS (k : Int) key) 0 = lookR key rows k) := by
          show _ = _
          unfold lookR
          have e : rows.getD k [] = rows[k] := by rw [List.getD_eq_getElem?_getD, List.getElem?_eq_getElem hlt]; rfl
          rw [e]
        have hln := rowOk_len hrk
        obtain ⟨g2, off2, rfl, hg2, hce⟩ := hI (placeS (k : Int) key) (by omega)
        have e2 : rows[k][placeS (k : Int) key]'(by omega) = rows[k].getD (placeS (k : Int) key) 0 := by simp [List.getD_eq_getElem?_getD, hln, hp]
        rw [e2, HL.out] at hce
        have HS : Hid (guessTo key rows (k + 1) = min (lookR key rows k) (guessTo key rows k)) := guessTo_next key rows k
        have cP : ∀ d os, Calls Tryd.prog 64 #[.int .i64 (k : Int), .string key] (grow (redrawn wr d) os) fun e w'' => e = .returned (.int .i64 (placeS (k : Int) key : Nat)) ∧ ∃ p : Regrown, w'' = grow (redrawn wr p.d) p.os := fun d os => Calls.regrown_of (by have := specSketchPlace_any (k : Int) key (grow (redrawn wr d) os) hk; simpa using this)
        rw [hln] at hc
        clear e2 HL
        generalize lookR key rows k = z at hce HS
        generalize placeS (k : Int) key = p at cP hp hce
        obtain ⟨gk, hgk⟩ : ∃ gk, guessTo key rows k = gk := ⟨_, rfl⟩
        rw [hgk] at HS ⊢
        have k0 := cell_regrown b0
        have k1 := cell_regrown hc
        have k2 := cell_regrown hce
        clear hrel hA1 hB1 hB2 hln hrk hI hgk hc hce b1
        have hi1 : (0 : Int) ≤ (k : Int) := by omega
        have hi2 : (k : Int) < (rows.length : Int) := by omega
        have hp1 : (0 : Int) ≤ (p : Int) := by omega
        have hp2 : (p : Int) < 16 := by omega
        by_cases hzg : z < gk
        · go_wp2
          refine wp_region_quiet_below (by kernel_rfl) (by kernel_rfl) ?_
          repeat (first | go_big_quiet_step (exact cP _ _) | quiet_step (exact cP _ _))
          refine wpQuiet_nil ?_
          intro _ hw'
          obtain ⟨⟨dq, osq⟩, hw''⟩ := hw'
          subst hw''
          go_wp2
          go_roundw
          case rel =>
            try ((repeat apply Exists.intro); refine ⟨?_, rfl⟩)
            exact ⟨⟨k + 1, by omega, by go_num, by rw [HS.out, show min z gk = z by omega], hbel.trans ((below_regrown wr dq osq).mono hbel.size)⟩⟩
          case measure => simp [intOf]; omega
        · go_wp2
          refine wp_region_quiet_below (by kernel_rfl) (by kernel_rfl) ?_
          repeat (first | go_big_quiet_step (exact cP _ _) | quiet_step (exact cP _ _))
          refine wpQuiet_nil ?_
          intro _ hw'
          obtain ⟨⟨dq, osq⟩, hw''⟩ := hw'
          subst hw''
          go_wp2
          go_roundw
          case rel =>
            try ((repeat apply Exists.intro); refine ⟨?_, rfl⟩)
            exact ⟨⟨k + 1, by omega, by go_num, by rw [HS.out, show min z gk = gk by omega], hbel.trans ((below_regrown wr dq osq).mono hbel.size)⟩⟩
          case measure => simp [intOf]; omega
      · have hke : k = 3 := by have := H3.out; omega
        subst hke
        go_wp2
        go_ret
        exact ⟨by rw [HG.out]; rfl, hbw1.trans (hbel.mono hbw1.size)⟩
end Go.Proofs.YtbcjkinalghokafDoor
