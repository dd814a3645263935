/- The least of what a guess was told: the program's. -/
import Derived.Test.YtbcjkinalghokafDoorSkArrJ
import Derived.Test.YtbcjkinalghokafDoorSamePolJ
import Derived.Deep.RegionHeld3
namespace Go.Proofs.YtbcjkinalghokafDoor
open Go.RowKit Go.Sort

/-- A guess in a variable. -/
def GBox (w : World) (T : Nat) (n : Int) (b : Bool) : Prop := w.heap[T]? = some (.cells #[.int .i64 n, .bool b] 73 (0, 0))
theorem GBox.lt {w : World} {T : Nat} {n : Int} {b : Bool} (h : GBox w T n b) : T < w.heap.size := (Array.getElem?_eq_some_iff.1 h).1
theorem GBox.new (w : World) (n : Int) (b : Bool) : GBox (w.alloc (.cells #[.int .i64 n, .bool b] 73)) w.heap.size n b := heap_alloc_new w _
theorem GBox.kept {w w' : World} {T : Nat} {n : Int} {b : Bool} (h : GBox w T n b) (hk : w'.heap[T]? = w.heap[T]?) : GBox w' T n b := hk.trans h
theorem GBox.on {w w' : World} {T : Nat} {n : Int} {b : Bool} (h : GBox w T n b) (hb : Below w.heap.size w w') : GBox w' T n b := h.kept (hb.block T h.lt)
theorem GBox.thaw {w : World} {T : Nat} {n : Int} {b : Bool} (h : GBox w T n b) (i : Nat) : w.frozen? ⟨T, i, none⟩ = false := by
  unfold GBox at h
  simp [World.frozen?, h]
theorem GBox.cells {w : World} {T : Nat} {n : Int} {b : Bool} (h : GBox w T n b) : w.cell? ⟨T, 0, none⟩ = some (.int .i64 n) ∧ w.cell? ⟨T, 1, none⟩ = some (.bool b) := by
  unfold GBox at h
  refine ⟨?_, ?_⟩
  · rw [cell_of_row w T 0 _ _ (0, 0) h]; rfl
  · rw [cell_of_row w T 1 _ _ (0, 0) h]; rfl
theorem GBox.put {w : World} {T : Nat} {n : Int} {b : Bool} (h : GBox w T n b) (m : Int) (c : Bool) : GBox ((w.setCell ⟨T, 0, none⟩ (.int .i64 m)).setCell ⟨T, 1, none⟩ (.bool c)) T m c := by
  unfold GBox at *
  simp only [World.setCell, Array.getElem?_modify, h]
  simp
set_option maxRecDepth 100000 in
set_option maxHeartbeats 2000000 in
theorem guessWith_any (w : World) (least n : Int) (made : Bool) :
    Calls Tryd.prog 55 #[.agg #[.int .i64 least, .bool made], .int .i64 n] w fun e w' => e = .returned (.agg #[.int .i64 (if made = true then min n least else n), .bool true]) ∧ Below w.heap.size w w' := by
  obtain ⟨w0, hw0⟩ : ∃ x, w.alloc (.cells #[.int .i64 least, .bool made] 73) = x := ⟨_, rfl⟩
  obtain ⟨w1, hw1⟩ : ∃ x, w0.alloc (.cells #[.int .i64 0, .bool false] 73) = x := ⟨_, rfl⟩
  have hb0 : Below w.heap.size w w0 := by rw [← hw0]; exact (Below.refl _ _).alloc (Nat.le_refl _) _
  have hb1 : Below w0.heap.size w0 w1 := by rw [← hw1]; exact (Below.refl _ _).alloc (Nat.le_refl _) _
  have s0 : w0.heap.size = w.heap.size + 1 := by rw [← hw0]; simp
  have hbw : Below w.heap.size w w1 := hb0.trans (hb1.mono hb0.size)
  have hG : GBox w1 w.heap.size least made := by
    have h : GBox w0 w.heap.size least made := by rw [← hw0]; exact GBox.new _ _ _
    exact h.on hb1
  have hR : GBox w1 (w.heap.size + 1) 0 false := by rw [← hw1, ← s0]; exact GBox.new _ _ _
  have HW : Hid ((w.alloc (.cells #[.int .i64 least, .bool made] 73)).alloc (.cells #[.int .i64 0, .bool false] 73) = w1) := by rw [hw0]; exact hw1
  obtain ⟨g0, g1⟩ := hG.cells
  obtain ⟨r0, r1⟩ := hR.cells
  have f0 := hR.thaw 0
  have f1 := hR.thaw 1
  rw [← HW.out] at g0 g1
  clear hw0 hw1 s0 hb0 hb1 hG
  have HR : Hid (∀ m, GBox ((w1.setCell ⟨w.heap.size + 1, 0, none⟩ (.int .i64 m)).setCell ⟨w.heap.size + 1, 1, none⟩ (.bool true)) (w.heap.size + 1) m true ∧ Below w.heap.size w ((w1.setCell ⟨w.heap.size + 1, 0, none⟩ (.int .i64 m)).setCell ⟨w.heap.size + 1, 1, none⟩ (.bool true))) := fun m => ⟨hR.put m true, (hbw.setCell (show w.heap.size ≤ w.heap.size + 1 by omega) _).setCell (show w.heap.size ≤ w.heap.size + 1 by omega) _⟩
  clear hR hbw
  cases made with
  | true =>
    go_enter Tryd.func55, Tryd.ntmps55
    go_upto_region 2 with fail
    rw [HW.out] at g0 g1 ⊢
    go_wp2
    obtain ⟨q0, q1⟩ := (HR.out (min n least)).1.cells
    refine bodyPost_ret (v := .agg #[.int .i64 (min n least), .bool true]) (by simp [results, Tryd.results55, go_sem, q0, q1]) rfl ⟨by simp, (HR.out _).2⟩
  | false =>
    go_enter Tryd.func55, Tryd.ntmps55
    go_upto_region 3 with fail
    rw [HW.out] at g0 g1 ⊢
    go_wp2
    obtain ⟨q0, q1⟩ := (HR.out n).1.cells
    refine bodyPost_ret (v := .agg #[.int .i64 n, .bool true]) (by simp [results, Tryd.results55, go_sem, q0, q1]) rfl ⟨by simp, (HR.out _).2⟩

theorem guessTo_succ (key : ByteArray) (rows : List (List Int)) (k : Nat) : guessTo key rows (k + 1) = min (lookR key rows k) (guessTo key rows k) := by
  unfold guessTo
  rw [List.range_succ, List.foldl_append]
  rfl
/-- What the program's guess holds behind k rows. -/
def leastTo (key : ByteArray) (rows : List (List Int)) (k : Nat) : Int := if k = 0 then 0 else guessTo key rows k
theorem leastTo_succ (key : ByteArray) (rows : List (List Int)) (k : Nat) (hz : lookR key rows k ≤ 15) : (if decide (0 < k) = true then min (lookR key rows k) (leastTo key rows k) else lookR key rows k) = leastTo key rows (k + 1) := by
  unfold leastTo
  rw [if_neg (show ¬ k + 1 = 0 by omega), guessTo_succ]
  by_cases h : k = 0
  · subst h
    simp [guessTo]
    omega
  · rw [if_neg h, if_pos (by simp; omega)]
set_option maxRecDepth 100000 in
set_option maxHeartbeats 4000000 in
theorem implSketchGuess_any (w : World) (a : Option Addr) (c : Nat) (S : Sk) (key : ByteArray) (hA : SSAt w a S.rows w.heap.size) (hm : S.rows.length ≤ 1048576) (hk : key.size ≤ 1048576) (ht : Tab w) :
    Calls Tryd.prog 23 #[.agg #[.slice a S.rows.length c, .int .i64 S.added], .string key] w fun e w' => e = .returned (.int .i64 (guessS S key)) ∧ Below w.heap.size w w' := by
  obtain ⟨w0, hw0⟩ : ∃ x, w.alloc (.cells #[.slice a S.rows.length c, .int .i64 S.added] 27) = x := ⟨_, rfl⟩
  have hb0 : Below w.heap.size w w0 := by rw [← hw0]; exact (Below.refl _ _).alloc (Nat.le_refl _) _
  have hB : SkBox w0 w.heap.size (.slice a S.rows.length c) (.int .i64 S.added) := by rw [← hw0]; exact SkBox.new _ _ _
  have HW : Hid (w.alloc (.cells #[.slice a S.rows.length c, .int .i64 S.added] 27) = w0) := hw0
  have c0 := implSketchOk_any w0 a c S (hA.on hb0) hm
  obtain ⟨b0, b1⟩ := hB.cells
  rw [← HW.out] at b0 b1
  clear hw0
  cases hok : okK S with
  | false =>
    rw [hok] at c0
    have HG : Hid (guessS S key = 0) := by show _ = _; unfold guessS; rw [hok]; rfl
    clear hok
    go_enter Tryd.func23, Tryd.ntmps23
    go_wp2_with fail
    rw [HW.out] at b0 b1 ⊢
    refine c0.mono ?_
    rintro e w1 ⟨rfl, hb1⟩
    go_wp2_with fail
    go_ret
    exact ⟨by rw [HG.out]; rfl, hb0.trans (hb1.mono hb0.size)⟩
  | true =>
    rw [hok] at c0
    obtain ⟨r0, r1, r2, hrows, o0, o1, o2, _, _⟩ := okK_parts hok
    have hall : AllOk S.rows := by
      rw [hrows]
      intro r hr
      simp only [List.mem_cons, List.not_mem_nil, or_false] at hr
      rcases hr with rfl | rfl | rfl
      · exact o0
      · exact o1
      · exact o2
    have h3 : S.rows.length = 3 := by rw [hrows]; rfl
    have HG : Hid (guessS S key = leastTo key S.rows 3) := by show _ = _; unfold guessS; rw [if_pos hok]; rfl
    obtain ⟨rows, added⟩ := S
    dsimp only at *
    rw [h3] at c0 b0 b1 hB HW
    have hfl : rows.flatten.length = 48 := by rw [flat_len _ hall.all16, h3]
    have hsz : (Tryd.prog.info? 70).map (·.size) = some (ints rows.flatten).toArray.size := by rw [List.size_toArray, ints_length, hfl]; kernel_rfl
    have hol : (ints zrows.flatten).toArray.size = (ints rows.flatten).toArray.size := by rw [List.size_toArray, List.size_toArray, ints_length, ints_length, hfl, zrows_len]
    have H3 : Hid (rows.length = 3) := h3
    have HC1 : Hid (∀ wi, SSAt wi a rows wi.heap.size → Calls Tryd.prog 54 #[.agg #[.slice a 3 c, .int .i64 added]] wi fun e w' => e = .returned (.agg (ints rows.flatten).toArray) ∧ Below wi.heap.size wi w') := fun wi h => rowsOf_any wi a c rows added h3 hall.all16 h
    have hA0 := hA.on hb0
    clear hok hrows o0 o1 o2 hfl hA
    go_enter Tryd.func23, Tryd.ntmps23
    rw [h3]
    clear h3
    go_wp2_with fail
    rw [HW.out] at b0 b1 ⊢
    refine c0.mono ?_
    rintro e w1 ⟨rfl, hb1⟩
    clear c0 b0 b1
    have hbw1 := hb0.trans (hb1.mono hb0.size)
    have hA1 := hA0.on hb1
    obtain ⟨b0, b1⟩ := (hB.on hb1).cells
    have c1 := HC1.out w1 hA1
    go_wp2_with fail
    refine c1.mono ?_
    rintro e w2 ⟨rfl, hb2⟩
    clear c1 b0 b1
    have hbw2 := hbw1.trans (hb2.mono hbw1.size)
    obtain ⟨w3, hw3⟩ : ∃ x, w2.alloc (.cells (ints zrows.flatten).toArray 70) = x := ⟨_, rfl⟩
    have hR3 : RBox w3 w2.heap.size zrows := by rw [← hw3]; exact RBox.new _ _
    have hb3 : Below w2.heap.size w2 w3 := by rw [← hw3]; exact (Below.refl _ _).alloc (Nat.le_refl _) _
    have hR4 := hR3.stored rows
    have hbw4 := below_setRow (hbw2.trans (hb3.mono hbw2.size)) hbw2.size (ints rows.flatten).toArray
    have hs3 : w3.heap.size = w2.heap.size + 1 := by rw [← hw3]; simp
    have HW3 : Hid (w2.alloc (.cells (ints zrows.flatten).toArray 70) = w3) := hw3
    clear hw3 hb3
    go_wp2_with (rw [zlit, HW3.out]; refine wpList_storeR rfl (.tmp 5) (.tmp 12) 70 rfl w2.heap.size rfl _ rfl _ _ hR3 hsz hol (ints_all _) ?_)
    obtain ⟨w4, hw4⟩ : ∃ x, w3.setRow w2.heap.size (ints rows.flatten).toArray = x := ⟨_, rfl⟩
    have hs4 : w4.heap.size = w2.heap.size + 1 := by rw [← hw4, setRow_size]; exact hs3
    rw [hw4] at hR4 hbw4 ⊢
    have hb5 : Below w4.heap.size w4 (w4.alloc (.cells #[.int .i64 0, .bool false] 73)) := (Below.refl _ _).alloc (Nat.le_refl _) _
    have hG5 : GBox (w4.alloc (.cells #[.int .i64 0, .bool false] 73)) (w2.heap.size + 1) 0 false := by rw [← hs4]; exact GBox.new _ _ _
    have hR5 := hR4.on hb5
    have hbw5 : Below w.heap.size w (w4.alloc (.cells #[.int .i64 0, .bool false] 73)) := hbw4.trans (hb5.mono (by have := hbw2.size; omega))
    have hws2 := hbw2.size
    clear hw4 hR4 hbw4 hb5 hs3 hR3 HW3 hbw1 hbw2 hA0 hA1 hb1 hb2 hB hsz hol HC1
    go_loopw [7, 13] (fun _ i wr => Box (∃ (k : Nat), k ≤ 3 ∧ i = .int .i64 k ∧ RBox wr w2.heap.size rows ∧ GBox wr (w2.heap.size + 1) (leastTo key rows k) (decide (0 < k)) ∧ Below w.heap.size w wr))
      (fun _ i _ => 3 - (intOf i).toNat)
    case atStart => exact ⟨⟨0, by omega, rfl, hR5, hG5, hbw5⟩⟩
    case round =>
      obtain ⟨k, hk3, rfl, hR1, hG1, hbel⟩ := hrel.out
      by_cases hlt : k < 3
      · have h3 := H3.out
        have hkr : k < rows.length := by omega
        have hp := placeS_lt (k : Int) key
        have hgd : (rows.getD k []).getD (placeS (k : Int) key) 0 = lookR key rows k := rfl
        have hz : lookR key rows k ≤ 15 := by
          unfold lookR
          have := rowOk_at (hall rows[k] (List.getElem_mem hkr)) (placeS (k : Int) key) hp
          have e : rows.getD k [] = rows[k] := by rw [List.getD_eq_getElem?_getD, List.getElem?_eq_getElem hkr]; rfl
          rw [e]
          exact this.2
        have HLS := leastTo_succ key rows k hz
        have cP := fun wi (h : Below wr.heap.size wr wi) => implSketchPlace_any (k : Int) key wi hk ((ht.below hbel (Nat.le_refl _)).below h (by have := hbel.size; have := (ht.below hbel (Nat.le_refl _)).lt; exact Nat.le_refl _))
        have HN : Hid (∀ wi, Below wr.heap.size wr wi → wi.cell? ⟨w2.heap.size, k * 16 + placeS (k : Int) key, none⟩ = some (.int .i64 (lookR key rows k)) ∧ wi.cell? ⟨w2.heap.size + 1, 0, none⟩ = some (.int .i64 (leastTo key rows k)) ∧ wi.cell? ⟨w2.heap.size + 1, 1, none⟩ = some (.bool (decide (0 < k))) ∧ wi.frozen? ⟨w2.heap.size + 1, 0, none⟩ = false ∧ wi.frozen? ⟨w2.heap.size + 1, 1, none⟩ = false ∧ Hid (RBox ((wi.setCell ⟨w2.heap.size + 1, 0, none⟩ (.int .i64 (leastTo key rows (k + 1)))).setCell ⟨w2.heap.size + 1, 1, none⟩ (.bool true)) w2.heap.size rows ∧ GBox ((wi.setCell ⟨w2.heap.size + 1, 0, none⟩ (.int .i64 (leastTo key rows (k + 1)))).setCell ⟨w2.heap.size + 1, 1, none⟩ (.bool true)) (w2.heap.size + 1) (leastTo key rows (k + 1)) (decide (0 < k + 1)) ∧ Below w.heap.size w ((wi.setCell ⟨w2.heap.size + 1, 0, none⟩ (.int .i64 (leastTo key rows (k + 1)))).setCell ⟨w2.heap.size + 1, 1, none⟩ (.bool true)))) := by
          intro wi hb
          have hR2 := hR1.on hb
          have hG2 := hG1.on hb
          have hc := hR2.cell hall.all16 hkr hp
          have e : decide (0 < k + 1) = true := by simp
          refine ⟨hc, hG2.cells.1, hG2.cells.2, hG2.thaw 0, hG2.thaw 1, ?_, ?_, ?_⟩
          · exact (hR2.kept ((Below.heap_setCell _ _ _ _ (show w2.heap.size ≠ w2.heap.size + 1 by omega)).trans (Below.heap_setCell _ _ _ _ (show w2.heap.size ≠ w2.heap.size + 1 by omega))))
          · rw [e]; exact hG2.put _ _
          · exact ((hbel.trans (hb.mono hbel.size)).setCell (show w.heap.size ≤ w2.heap.size + 1 by omega) _).setCell (show w.heap.size ≤ w2.heap.size + 1 by omega) _
        generalize lookR key rows k = z at HN HLS hz
        have HLS' : Hid ((if decide (0 < k) = true then min z (leastTo key rows k) else z) = leastTo key rows (k + 1)) := HLS
        generalize leastTo key rows k = lst at HN HLS'
        generalize decide (0 < k) = md at HN HLS'
        generalize placeS (k : Int) key = p at cP hp HN
        obtain ⟨g0, g1, g2, g3⟩ := (⟨(HN.out wr (Below.refl _ _)).2.1, (HN.out wr (Below.refl _ _)).2.2.1, (HN.out wr (Below.refl _ _)).1, trivial⟩ : _ ∧ _ ∧ _ ∧ True)
        clear hrel hR5 hG5 hbw5 hR1 hG1 hbel h3 hkr ht HLS hgd g3
        have hi1 : (0 : Int) ≤ (k : Int) := by omega
        have hi2 : (k : Int) < 3 := by omega
        have hp1 : (0 : Int) ≤ (p : Int) := by omega
        have hp2 : (p : Int) < 16 := by omega
        have hdr : Below wr.heap.size wr wr.drew := ⟨rfl, rfl, rfl, Nat.le_refl _, fun _ _ => rfl⟩
        go_wp2_with fail
        go_region_law (first
          | (go_simp; go_at_call 56; refine (cP _ hdr).mono ?_; rintro e wp ⟨rfl, hbp⟩; have hbp' := hdr.trans hbp; have x0 := (HN.out wp hbp').1; have x1 := (HN.out wp hbp').2.1; have x2 := (HN.out wp hbp').2.2.1)
          | (go_simp; go_at_call 55; refine (guessWith_any _ lst z md).mono ?_; rintro e wq ⟨rfl, hbq⟩; have hbq' := hbp'.trans (hbq.mono hbp'.size); have y1 := (HN.out wq hbq').2.1; have y2 := (HN.out wq hbq').2.2.1; have y3 := (HN.out wq hbq').2.2.2.1; have y4 := (HN.out wq hbq').2.2.2.2.1; have HX := (HN.out wq hbq').2.2.2.2.2; rw [HLS'.out]))
        all_goals (
          clear hbp hbp' hbq hbq' x0 x1 x2 y1 y2 y3 y4 g0 g1 g2 cP HN
          go_wp2
          refine ⟨?_, ?_⟩
          · exact ⟨⟨k + 1, by omega, by go_num, HX.out.1, HX.out.2.1, HX.out.2.2⟩⟩
          · simp [intOf]; omega)
      · obtain rfl : k = 3 := by omega
        obtain ⟨g0, _⟩ := hG1.cells
        clear hrel hR5 hG5 hbw5 hR1 hG1
        go_wp2
        go_ret
        exact ⟨by rw [HG.out]; rfl, hbel⟩
end Go.Proofs.YtbcjkinalghokafDoor
