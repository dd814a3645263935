/- The law on guesses, walked. -/
import Derived.Test.YtifjjfjadcpmaaeDoorGuessPlain
import Derived.Test.YtifjjfjadcpmaaeDoorKeysDraw12
import Derived.Test.YtifjjfjadcpmaaeDoorBig
import Derived.Test.YtifjjfjadcpmaaeDoorSkNewImpl
import Derived.Test.YtifjjfjadcpmaaeDoorSkOkImpl
import Derived.Test.YtifjjfjadcpmaaeDoorSkBumpImpl
import Derived.Test.YtifjjfjadcpmaaeDoorSkGuessImpl
import Derived.Test.YtifjjfjadcpmaaeDoorSkSize
import Derived.Deep.RegionLaw
import Derived.Lib.QuietBelow
import Derived.BigQuiet
namespace Go.Proofs.YtifjjfjadcpmaaeDoor
open Go.RowKit Go.Sort

theorem okK_sz {S : Sk} (h : okK S = true) : SkSz S := by
  obtain ⟨a, b, c, e, ha, hb, hc, _, _⟩ := okK_parts h
  unfold SkSz tot
  rw [e]
  simp [rowOk_len ha, rowOk_len hb, rowOk_len hc]
theorem bytes_ne {z key : ByteArray} (h : ¬ z = key) : (z.toList == key.toList) = false := by
  rw [ByteArray.toList_eq, ByteArray.toList_eq, beq_eq_false_iff_ne]
  intro e
  exact h (ByteArray.ext (Array.toList_inj.1 e))
/-- A sketch in a variable, its rows owned. -/
structure SB (w : World) (lo T : Nat) (a : Option Addr) (c : Nat) (S : Sk) : Prop where
  box : SkBox w T (.slice a S.rows.length c) (.int .i64 S.added)
  own : OwnSS w lo w.heap.size (.slice a S.rows.length c) S.rows
theorem SB.on {w w' : World} {lo T : Nat} {a : Option Addr} {c : Nat} {S : Sk} (h : SB w lo T a c S) (hb : Below w.heap.size w w') : SB w' lo T a c S := ⟨h.box.on hb, (h.own.below hb (Nat.le_refl _)).up⟩
theorem SB.at {w : World} {lo T : Nat} {a : Option Addr} {c : Nat} {S : Sk} (h : SB w lo T a c S) : SSAt w a S.rows w.heap.size := by
  obtain ⟨p, q, hv, hA⟩ := h.own.at
  simp only [Value.slice.injEq, true_and] at hv
  obtain ⟨rfl, rfl⟩ := hv
  exact hA
/-- Another sketch is stored into the variable. -/
theorem SB.put {w w2 : World} {lo T : Nat} {a a2 : Option Addr} {c c2 : Nat} {S S2 : Sk} (h : SB w lo T a c S) (hb : Below w.heap.size w w2) (ho : SkOwn w2 w.heap.size w2.heap.size (.agg #[.slice a2 S2.rows.length c2, .int .i64 S2.added]) S2) (hlo : lo ≤ w.heap.size) :
    w2.cell? ⟨T, 0, none⟩ = some (.slice a S.rows.length c) ∧ w2.cell? ⟨T, 1, none⟩ = some (.int .i64 S.added) ∧ w2.frozen? ⟨T, 0, none⟩ = false ∧ w2.frozen? ⟨T, 1, none⟩ = false ∧ SB ((w2.setCell ⟨T, 0, none⟩ (.slice a2 S2.rows.length c2)).setCell ⟨T, 1, none⟩ (.int .i64 S2.added)) lo T a2 c2 S2 := by
  have hB := h.box.on hb
  obtain ⟨v1, e, h1⟩ := ho
  simp only [Value.agg.injEq, Array.mk.injEq, List.cons.injEq, and_true] at e
  subst e
  exact ⟨hB.cells.1, hB.cells.2, hB.thaw 0, hB.thaw 1, hB.put _ _, by simpa using ((h1.put2 hB _ _).mono hlo (Nat.le_refl _))⟩

set_option maxRecDepth 100000 in
set_option maxHeartbeats 8000000 in
theorem guesses_walk (ca : Option Addr) (n cap : Nat) (w : World) (hcode : CodeAt w ca n w.heap.size) (hlen : n ≤ maxLen) (ht : Tab w) :
    Calls Tryd.prog 6 #[.slice ca n cap] w fun e w' => e = .returned (.bool true) ∧ Below w.heap.size w w' := by
  unfold maxLen at hlen
  have cb := big_any ca n cap w (by omega)
  by_cases hn : n ≤ 1048576
  case neg =>
    rw [show decide (1048576 < n) = true by simp; omega] at cb
    go_enter Tryd.func6, Tryd.ntmps6
    go_wp2_with fail
    refine cb.mono ?_
    rintro e w' ⟨rfl, rfl⟩
    go_wp2_with fail
    go_ret
    exact ⟨rfl, Below.refl _ _⟩
  rw [show decide (1048576 < n) = false by simp; omega] at cb
  have cD := drawKeys_any w ca n cap hcode hn
  clear hcode
  go_enter Tryd.func6, Tryd.ntmps6
  go_wp2_with fail
  refine cb.mono ?_
  rintro e w' ⟨rfl, rfl⟩
  clear cb
  go_wp2_with fail
  refine cD.mono ?_
  rintro e w1 ⟨al, cl, P, rfl, hP42, hPB, hLA, hb1⟩
  clear cD
  have ht1 := ht.below hb1 (Nat.le_refl _)
  have cN := implSketchNew_any w1
  clear ht
  go_wp2_with fail
  refine cN.mono ?_
  rintro e w2 ⟨v2, rfl, ho2, hb2⟩
  obtain ⟨a2, c2, rfl, _⟩ := ho2.at
  clear cN
  obtain ⟨T, hT⟩ : ∃ T, w2.heap.size = T := ⟨_, rfl⟩
  obtain ⟨w3, hw3⟩ : ∃ x, w2.alloc (.cells #[.slice a2 newS.rows.length c2, .int .i64 newS.added] 45) = x := ⟨_, rfl⟩
  have hb3 : Below w2.heap.size w2 w3 := by rw [← hw3]; exact (Below.refl _ _).alloc (Nat.le_refl _) _
  have hB3 : SkBox w3 T (.slice a2 newS.rows.length c2) (.int .i64 newS.added) := by rw [← hw3, ← hT]; exact SkBox.new _ _ _
  have hS3 : SB w3 w1.heap.size T a2 c2 (runK (P.take 0)) := by
    obtain ⟨v1, e, h1⟩ := ho2
    simp only [Value.agg.injEq, Array.mk.injEq, List.cons.injEq, and_true] at e
    subst e
    exact ⟨hB3, (h1.below hb3 (Nat.le_refl _)).up⟩
  have hbw3 : Below w1.heap.size w1 w3 := hb2.trans (hb3.mono hb2.size)
  have hT1 : w1.heap.size ≤ T := by rw [← hT]; exact hb2.size
  have HW3 : Hid (w2.alloc (.cells #[.slice a2 newS.rows.length c2, .int .i64 newS.added] 45) = w3) := hw3
  have HR : Hid (∀ k, k ≤ P.length → okK (runK (P.take k)) = true ∧ (runK (P.take k)).added = (k : Int) ∧ ∀ key, AtLeast (runK (P.take k)) key (cntK key (P.take k))) := fun k hk => runK_ok k (P.take k) (by rw [List.length_take]; omega) (by omega)
  have HKB : Hid (∀ k (hk : k < P.length), P[k].size ≤ 2) := fun k hk => hPB _ (List.getElem_mem hk)
  clear hw3 ho2 hb2 hb3 hB3 hPB
  go_wp2_with fail
  rw [HW3.out]
  clear HW3
  go_loopw [5, 6, 7] (fun i _ _ wr => Box (∃ (k : Nat) (a : Option Addr) (c : Nat), k ≤ P.length ∧ i = .int .i64 k ∧ SB wr w1.heap.size T a c (runK (P.take k)) ∧ Below w1.heap.size w1 wr))
    (fun i _ _ _ => P.length - (intOf i).toNat)
  case atStart => exact ⟨⟨0, a2, c2, by omega, rfl, hS3, hbw3⟩⟩
  case round =>
    obtain ⟨k, a, c, hk, rfl, hS, hbel⟩ := hrel.out
    by_cases hlt : k < P.length
    · obtain ⟨hok, hadd, hat⟩ := HR.out k hk
      obtain ⟨hok', _, hat'⟩ := HR.out (k + 1) hlt
      have hrs : runK (P.take (k + 1)) = bumpS (runK (P.take k)) P[k] := by rw [List.take_succ_eq_append_getElem hlt, runK_snoc]
      have hks := HKB.out k hlt
      obtain ⟨g, off, rfl, hg, hlc⟩ := (hLA.below hbel (Nat.le_refl _)) k hlt
      have HAT : Hid (min ((cntK P[k] (P.take (k + 1)) : Nat) : Int) 15 ≤ guessS (runK (P.take (k + 1))) P[k]) := atLeast_guess hok' (hat' P[k])
      obtain ⟨key, hkey⟩ : ∃ key, P[k] = key := ⟨_, rfl⟩
      rw [hkey] at hrs hks hlc HAT
      have HKEY : Hid (P[k] = key) := hkey
      obtain ⟨S, hSS⟩ : ∃ S, runK (P.take k) = S := ⟨_, rfl⟩
      obtain ⟨S', hSS'⟩ : ∃ S', runK (P.take (k + 1)) = S' := ⟨_, rfl⟩
      rw [hSS] at hS hok hrs
      rw [hSS'] at hok' HAT hrs
      have HS' : Hid (runK (P.take (k + 1)) = S') := hSS'
      have hdr : Below wr.heap.size wr wr.drew := bdrewS wr
      have htr := ht1.below hbel (Nat.le_refl _)
      have cB := implSketchBump_any wr.drew a c S key (hS.at.on hdr) (okK_sz hok) (by omega) (htr.below hdr (Nat.le_refl _))
      rw [← hrs] at cB
      obtain ⟨x0, x1⟩ := hS.box.cells
      have HPUT : Hid (∀ w4 a4 c4, Below wr.heap.size wr w4 → SkOwn w4 wr.heap.size w4.heap.size (.agg #[.slice a4 S'.rows.length c4, .int .i64 S'.added]) S' → w4.cell? ⟨T, 0, none⟩ = some (.slice a S.rows.length c) ∧ w4.cell? ⟨T, 1, none⟩ = some (.int .i64 S.added) ∧ w4.frozen? ⟨T, 0, none⟩ = false ∧ w4.frozen? ⟨T, 1, none⟩ = false ∧ Hid (SB ((w4.setCell ⟨T, 0, none⟩ (.slice a4 S'.rows.length c4)).setCell ⟨T, 1, none⟩ (.int .i64 S'.added)) w1.heap.size T a4 c4 S' ∧ Below w1.heap.size w1 ((w4.setCell ⟨T, 0, none⟩ (.slice a4 S'.rows.length c4)).setCell ⟨T, 1, none⟩ (.int .i64 S'.added)))) := by
        intro w4 a4 c4 hb4 ho4
        obtain ⟨p1, p2, p3, p4, p5⟩ := hS.put hb4 ho4 hbel.size
        exact ⟨p1, p2, p3, p4, p5, Below.put2 (hbel.trans (hb4.mono hbel.size)) hT1 _ _⟩
      have hi1 : (0 : Int) ≤ (k : Int) := by omega
      have hi2 : (k : Int) < (P.length : Int) := by omega
      clear hrel hS3 hbw3 hS hbel htr hat hat' hadd hok hkey hSS hSS' hrs
      go_wp2_with fail
      go_region_law (go_simp; go_at_call 24; refine cB.mono ?_; rintro e w4 ⟨v4, rfl, ho4, hb4⟩; obtain ⟨a4, c4, rfl, _⟩ := ho4.at; have hb4' := hdr.trans hb4; obtain ⟨y0, y1, y2, y3, HX⟩ := HPUT.out w4 a4 c4 hb4' ho4; clear ho4)
      all_goals (
        clear y0 y1 y2 y3 x0 x1 cB HPUT hb4 hb4' hdr hlc
        obtain ⟨w5, hw5⟩ : ∃ x, (w4.setCell ⟨T, 0, none⟩ (.slice a4 S'.rows.length c4)).setCell ⟨T, 1, none⟩ (.int .i64 S'.added) = x := ⟨_, rfl⟩
        rw [hw5] at HX ⊢
        clear hw5
        have hS5 := HX.out.1
        have hbw5 := HX.out.2
        have cO := implSketchOk_any w5 a4 c4 S' hS5.at (by have := okK_sz hok'; unfold SkSz at this; omega)
        rw [hok'] at cO
        obtain ⟨x0, x1⟩ := hS5.box.cells
        go_wp2_with fail
        refine cO.mono ?_
        rintro e w6 ⟨rfl, hb6⟩
        have hS6 := hS5.on hb6
        have hbw6 := hbw5.trans (hb6.mono hbw5.size)
        clear cO x0 x1 hS5 hbw5 HX
        go_wp2_with fail
        go_loopw [6, 7] (fun nn j wq => Box (∃ (m : Nat), m ≤ k + 1 ∧ j = .int .i64 m ∧ nn = .int .i64 (cntK key (P.take m) : Nat) ∧ Below w6.heap.size w6 wq))
          (fun _ j _ => k + 1 - (intOf j).toNat)
        case atStart => exact ⟨⟨0, by omega, rfl, rfl, Below.refl _ _⟩⟩
        case round =>
          obtain ⟨m, hm, rfl, rfl, hbq⟩ := hrel.out
          have hcm : cntK key (P.take m) ≤ 42 := by
            refine Nat.le_trans (List.countP_le_length) ?_
            rw [List.length_take]
            omega
          by_cases hml : m ≤ k
          · have hmP : m < P.length := by omega
            obtain ⟨g1, off1, e1, hg1, hc1⟩ := (hLA.below (hbw6.trans (hbq.mono hbw6.size)) (Nat.le_refl _)) m hmP
            obtain ⟨g2, off2, e2, hg2, hc2⟩ := (hLA.below (hbw6.trans (hbq.mono hbw6.size)) (Nat.le_refl _)) k hlt
            simp only [Option.some.injEq, Addr.mk.injEq, and_true] at e1 e2
            obtain ⟨rfl, rfl⟩ := e1
            obtain ⟨rfl, rfl⟩ := e2
            rw [HKEY.out] at hc2
            have HC : Hid (cntK key (P.take (m + 1)) = cntK key (P.take m) + if P[m] = key then 1 else 0) := by show _ = _; rw [List.take_succ_eq_append_getElem hmP, cntK_snoc]
            obtain ⟨z, hz⟩ : ∃ z, P[m] = z := ⟨_, rfl⟩
            rw [hz] at hc1 HC
            have hj1 : (0 : Int) ≤ (m : Int) := by omega
            have hj2 : (m : Int) < (P.length : Int) := by omega
            have hj3 : (m : Int) ≤ (k : Int) := by omega
            obtain ⟨q, hq⟩ : ∃ q, cntK key (P.take m) = q := ⟨_, rfl⟩
            rw [hq] at HC hcm ⊢
            clear hrel hz hq
            by_cases hzk : z = key
            · rw [if_pos hzk] at HC
              subst hzk
              go_wp2
              go_quiet (fail)
              go_wp2
              go_roundw
              case rel =>
                try ((repeat apply Exists.intro); refine ⟨?_, rfl⟩)
                exact ⟨⟨m + 1, by omega, by go_num, by rw [HC.out]; rfl, hbq.trans ⟨rfl, rfl, rfl, Nat.le_refl _, fun _ _ => rfl⟩⟩⟩
              case measure => simp [intOf]; omega
            · rw [if_neg hzk] at HC
              have hz1 := bytes_ne hzk
              go_wp2
              go_quiet (fail)
              go_wp2
              go_roundw
              case rel =>
                try ((repeat apply Exists.intro); refine ⟨?_, rfl⟩)
                exact ⟨⟨m + 1, by omega, by go_num, by rw [HC.out]; rfl, hbq.trans ⟨rfl, rfl, rfl, Nat.le_refl _, fun _ _ => rfl⟩⟩⟩
              case measure => simp [intOf]; omega
          · obtain rfl : m = k + 1 := by omega
            have hj3 : ¬ ((k + 1 : Nat) : Int) ≤ (k : Int) := by omega
            have hS7 := hS6.on hbq
            have hbw7 := hbw6.trans (hbq.mono hbw6.size)
            obtain ⟨g2, off2, e2, hg2, hc2⟩ := (hLA.below hbw7 (Nat.le_refl _)) k hlt
            simp only [Option.some.injEq, Addr.mk.injEq, and_true] at e2
            obtain ⟨rfl, rfl⟩ := e2
            rw [HKEY.out] at hc2
            obtain ⟨x0, x1⟩ := hS7.box.cells
            have ht7 := ht1.below hbw7 (Nat.le_refl _)
            have hA7 := hS7.at
            have cG : ∀ d os, Calls Tryd.prog 26 #[.agg #[.slice a4 S'.rows.length c4, .int .i64 S'.added], .string key] (grow (redrawn wr d) os) fun e w'' => e = .returned (.int .i64 (guessS S' key)) ∧ ∃ p : Regrown, w'' = grow (redrawn wr p.d) p.os := fun d os => Calls.regrown_of (by have h := below_regrown wr d os; have := implSketchGuess_any (grow (redrawn wr d) os) a4 c4 S' key (hA7.on h) (by have := okK_sz hok'; unfold SkSz at this; omega) (by omega) (ht7.below h (Nat.le_refl _)); simpa using this)
            have hcnt := HAT.out
            obtain ⟨q, hq⟩ : ∃ q, cntK key (P.take (k + 1)) = q := ⟨_, rfl⟩
            rw [hq] at hcnt hcm ⊢
            generalize guessS S' key = gs at cG hcnt
            have k0 := cell_regrown x0
            have k1 := cell_regrown x1
            have k2 := cell_regrown hc2
            have HS8 : Hid (∀ dq osq, SB (grow (redrawn wr dq) osq) w1.heap.size T a4 c4 (runK (P.take (k + 1))) ∧ Below w1.heap.size w1 (grow (redrawn wr dq) osq)) := by
              intro dq osq
              rw [HS'.out]
              exact ⟨hS7.on (below_regrown wr dq osq), hbw7.trans ((below_regrown wr dq osq).mono hbw7.size)⟩
            clear hrel hq hA7 ht7 x0 x1 hc2 hS7 hbw7 hS6 hbw6 hbq
            by_cases hq15 : (15 : Int) < (q : Int)
            · have hgs : ¬ gs < 15 := by omega
              go_wp2
              refine wp_region_quiet_below (by kernel_rfl) (by kernel_rfl) ?_
              repeat (first | go_big_quiet_step (exact cG _ _) | quiet_step (exact cG _ _))
              refine wpQuiet_nil ?_
              intro _ hw'
              obtain ⟨⟨dq, osq⟩, hw''⟩ := hw'
              subst hw''
              go_wp2
              refine ⟨⟨⟨k + 1, a4, c4, by omega, by go_num, (HS8.out dq osq).1, (HS8.out dq osq).2⟩⟩, ?_⟩
              simp [intOf]
              omega
            · have hgs : ¬ gs < (q : Int) := by omega
              go_wp2
              refine wp_region_quiet_below (by kernel_rfl) (by kernel_rfl) ?_
              repeat (first | go_big_quiet_step (exact cG _ _) | quiet_step (exact cG _ _))
              refine wpQuiet_nil ?_
              intro _ hw'
              obtain ⟨⟨dq, osq⟩, hw''⟩ := hw'
              subst hw''
              go_wp2
              refine ⟨⟨⟨k + 1, a4, c4, by omega, by go_num, (HS8.out dq osq).1, (HS8.out dq osq).2⟩⟩, ?_⟩
              simp [intOf]
              omega)
    · have hke : k = P.length := by omega
      subst hke
      have hadd := (HR.out P.length (Nat.le_refl _)).2.1
      obtain ⟨x0, x1⟩ := hS.box.cells
      rw [hadd] at x1
      have h64 : (P.length : Int) < 64 := by omega
      clear hrel hS3 hbw3 hS hadd
      go_wp2
      go_ret
      exact ⟨by simp, hb1.trans (hbel.mono hb1.size)⟩
end Go.Proofs.YtifjjfjadcpmaaeDoor
