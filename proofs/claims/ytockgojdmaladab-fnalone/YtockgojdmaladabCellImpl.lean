/- The walks over cells: the program's. -/
import Derived.Test.YtockgojdmaladabCellRows
import Derived.Test.YtockgojdmaladabCellPlain
namespace Go.Proofs.Ytockgojdmaladab
open Go.RowKit Go.Sort

theorem numberOk_any (n : Int) (w : World) :
    Calls Try.prog 52 #[.int .i64 n] w fun e w' => e = .returned (.bool (nOkC n)) ∧ w' = w := by
  unfold nOkC
  by_cases h1 : 0 ≤ n
  · have d1 : decide ((0 : Int) ≤ n) = true := decide_eq_true h1
    by_cases h2 : n ≤ 1000000000
    · rw [decide_eq_true (show 0 ≤ n ∧ n ≤ 1000000000 from ⟨h1, h2⟩)]
      have d2 : decide (n ≤ 1000000000) = true := decide_eq_true h2
      go_enter Try.func52, Try.ntmps52
      go_wp2
      go_ret
      exact ⟨rfl, rfl⟩
    · rw [decide_eq_false (show ¬ (0 ≤ n ∧ n ≤ 1000000000) by omega)]
      have d2 : decide (n ≤ 1000000000) = false := decide_eq_false h2
      go_enter Try.func52, Try.ntmps52
      go_wp2
      go_ret
      exact ⟨rfl, rfl⟩
  · rw [decide_eq_false (show ¬ (0 ≤ n ∧ n ≤ 1000000000) by omega)]
    have d1 : decide ((0 : Int) ≤ n) = false := decide_eq_false h1
    go_enter Try.func52, Try.ntmps52
    go_wp2
    go_ret
    exact ⟨rfl, rfl⟩

/-- What a call has of the cells: their rows, and the variable that holds them. -/
structure Cl (w0 : World) (C g m : Nat) (s : Nat) (f : Nat → Int) (wi : World) : Prop where
  at_ : CAt wi g m f
  box : CBox wi C (.slice (some ⟨g, 0, none⟩) m m) (.int .i64 s)
  gge : w0.heap.size ≤ g
  hs : s ≤ m * 80
  hm : m ≤ 1048576
  bel : Below w0.heap.size w0 wi
theorem Cl.next {w0 wi wj : World} {C g m s : Nat} {f : Nat → Int} (h : Cl w0 C g m s f wi) (hb : Below wi.heap.size wi wj) : Cl w0 C g m s f wj :=
  ⟨h.at_.on hb, h.box.on hb, h.gge, h.hs, h.hm, h.bel.trans (hb.mono h.bel.size)⟩
theorem Cl.set {w0 wi : World} {C g m s : Nat} {f : Nat → Int} (h : Cl w0 C g m s f wi) (j : Nat) (z : Int) : Cl w0 C g m s (fun i => if i = j then z else f i) (wi.setCell ⟨g, j, none⟩ (.int .i64 z)) :=
  ⟨h.at_.set j z, h.box.other (A := ⟨g, j, none⟩) (h.box.ne h.at_) _, h.gge, h.hs, h.hm, h.bel.setCell (p := ⟨g, j, none⟩) h.gge _⟩
theorem Cl.new {w0 w1 : World} {g m s : Nat} {f : Nat → Int} (h : CAt w1 g m f) (hg : w0.heap.size ≤ g) (hs : s ≤ m * 80) (hm : m ≤ 1048576) (hb : Below w0.heap.size w0 w1) :
    Cl w0 w1.heap.size g m s f (w1.alloc (.cells #[.slice (some ⟨g, 0, none⟩) m m, .int .i64 s] 75)) :=
  ⟨h.on ((Below.refl _ _).alloc (Nat.le_refl _) _), CBox.new _ _ _, hg, hs, hm, hb.alloc hb.size _⟩
theorem Cl.list {w0 wi : World} {C g m s : Nat} {f : Nat → Int} (h : Cl w0 C g m s f wi) (hs2 : s ≤ 1048576) (r : List Int) (hr : (List.range s).map f = r) :
    Calls Try.prog 53 #[.agg #[.slice (some ⟨g, 0, none⟩) m m, .int .i64 s]] wi fun e w' => ∃ v, e = .returned v ∧ OwnV w' w0.heap.size 3 v (ints r) ∧ Below w0.heap.size w0 w' :=
  (cellsList_any wi g m f s h.at_ h.hs h.hm hs2).mono (by
    rintro e w' ⟨v, rfl, ho, hb⟩
    rw [hr] at ho
    exact ⟨v, rfl, ho.mono h.bel.size, h.bel.trans (hb.mono h.bel.size)⟩)

set_option maxHeartbeats 2000000 in
theorem implStore_any (w : World) (a : Option Addr) (cap : Nat) (l : List Int) (p n : Int) (hL : IAt w a l w.heap.size) (hm : l.length ≤ 1048576) :
    Calls Try.prog 12 #[.slice a l.length cap, .int .i64 p, .int .i64 n] w fun e w' => ∃ v, e = .returned (.tuple #[v, .bool (stC l p n).2]) ∧ OwnV w' w.heap.size 3 v (ints (stC l p n).1) ∧ Below w.heap.size w w' := by
  have c1 := cellsOf_any w a cap l hL hm
  clear hL
  go_enter Try.func12, Try.ntmps12
  go_wp2_with fail
  refine c1.mono ?_
  rintro e w1 ⟨g, m, rfl, hs, hmm, hg, hC, hb1⟩
  have H := Cl.new (s := l.length) hC hg hs hmm hb1
  clear c1 hs hmm hg hC hb1
  obtain ⟨w2, hw2⟩ : ∃ w2, w1.alloc (.cells #[.slice (some ⟨g, 0, none⟩) m m, .int .i64 l.length] 75) = w2 := ⟨_, rfl⟩
  obtain ⟨C, hCe⟩ : ∃ C, w1.heap.size = C := ⟨_, rfl⟩
  rw [hw2, hCe] at H
  have HW : Hid (w1.alloc (.cells #[.slice (some ⟨g, 0, none⟩) m m, .int .i64 l.length] 75) = w2) := hw2
  clear hw2
  by_cases hp : p < 0 ∨ (l.length : Int) ≤ p
  · have c2 := cellAt_out w2 g m l.length p hp
    go_wp2_with fail
    rw [HW.out]
    refine c2.mono ?_
    rintro e w3 ⟨rfl, hb3⟩
    have H3 := H.next hb3
    obtain ⟨v0, v1⟩ := H3.box.cells
    have c3 := H3.list hm l (range_getD l)
    clear H H3 hb3 c2
    go_wp2_with fail
    refine c3.mono ?_
    rintro e w4 ⟨v, rfl, ho, hb4⟩
    go_wp2
    go_ret2
    rw [stC_out hp]
    exact ⟨v, rfl, ho, hb4⟩
  · obtain ⟨k, rfl⟩ : ∃ k : Nat, p = k := ⟨p.toNat, by omega⟩
    have hk : k < l.length := by omega
    have c2 := cellAt_in w2 g m l.length k H.hs H.hm hk
    cases hn : nOkC n with
    | false =>
      go_wp2_with fail
      rw [HW.out]
      refine c2.mono ?_
      rintro e w3 ⟨rfl, hb3⟩
      have H3 := H.next hb3
      obtain ⟨v0, v1⟩ := H3.box.cells
      have c3 := H3.list hm l (range_getD l)
      have cN := numberOk_any n w3
      rw [hn] at cN
      clear H H3 hb3 c2
      go_wp2_with fail
      refine cN.mono ?_
      rintro e w3' ⟨rfl, rfl⟩
      go_wp2_with fail
      refine c3.mono ?_
      rintro e w4 ⟨v, rfl, ho, hb4⟩
      go_wp2
      go_ret2
      rw [stC_bad hn]
      exact ⟨v, rfl, ho, hb4⟩
    | true =>
      go_wp2_with fail
      rw [HW.out]
      refine c2.mono ?_
      rintro e w3 ⟨rfl, hb3⟩
      have H3 := H.next hb3
      have hk80 : k < m * 80 := Nat.lt_of_lt_of_le hk H3.hs
      have c3 := cellStore_any w3 g k _ n (H3.at_.cell hk80) (H3.at_.frozen k)
      have H4 := H3.set k n
      obtain ⟨v0, v1⟩ := H4.box.cells
      have c4 := H4.list hm (l.set k n) (range_set l k n)
      have cN := numberOk_any n w3
      rw [hn] at cN
      clear H H3 H4 hb3 c2
      go_wp2_with fail
      refine cN.mono ?_
      rintro e w3' ⟨rfl, rfl⟩
      go_wp2_with fail
      refine c3.mono ?_
      rintro e w4 ⟨rfl, rfl⟩
      go_wp2_with fail
      refine c4.mono ?_
      rintro e w5 ⟨v, rfl, ho, hb4⟩
      go_wp2
      go_ret2
      rw [stC_in hk hn]
      exact ⟨v, rfl, ho, hb4⟩
set_option maxHeartbeats 2000000 in
theorem implSwap_any (w : World) (a : Option Addr) (cap : Nat) (l : List Int) (p o n : Int) (hL : IAt w a l w.heap.size) (hm : l.length ≤ 1048576) :
    Calls Try.prog 14 #[.slice a l.length cap, .int .i64 p, .int .i64 o, .int .i64 n] w fun e w' => ∃ v, e = .returned (.tuple #[v, .bool (swC l p o n).2]) ∧ OwnV w' w.heap.size 3 v (ints (swC l p o n).1) ∧ Below w.heap.size w w' := by
  have c1 := cellsOf_any w a cap l hL hm
  clear hL
  go_enter Try.func14, Try.ntmps14
  go_wp2_with fail
  refine c1.mono ?_
  rintro e w1 ⟨g, m, rfl, hs, hmm, hg, hC, hb1⟩
  have H := Cl.new (s := l.length) hC hg hs hmm hb1
  clear c1 hs hmm hg hC hb1
  obtain ⟨w2, hw2⟩ : ∃ w2, w1.alloc (.cells #[.slice (some ⟨g, 0, none⟩) m m, .int .i64 l.length] 75) = w2 := ⟨_, rfl⟩
  obtain ⟨C, hCe⟩ : ∃ C, w1.heap.size = C := ⟨_, rfl⟩
  rw [hw2, hCe] at H
  have HW : Hid (w1.alloc (.cells #[.slice (some ⟨g, 0, none⟩) m m, .int .i64 l.length] 75) = w2) := hw2
  clear hw2
  by_cases hp : p < 0 ∨ (l.length : Int) ≤ p
  · have c2 := cellAt_out w2 g m l.length p hp
    go_wp2_with fail
    rw [HW.out]
    refine c2.mono ?_
    rintro e w3 ⟨rfl, hb3⟩
    have H3 := H.next hb3
    obtain ⟨v0, v1⟩ := H3.box.cells
    have c3 := H3.list hm l (range_getD l)
    clear H H3 hb3 c2
    go_wp2_with fail
    refine c3.mono ?_
    rintro e w4 ⟨v, rfl, ho, hb4⟩
    go_wp2
    go_ret2
    rw [swC_out hp]
    exact ⟨v, rfl, ho, hb4⟩
  · obtain ⟨k, rfl⟩ : ∃ k : Nat, p = k := ⟨p.toNat, by omega⟩
    have hk : k < l.length := by omega
    have c2 := cellAt_in w2 g m l.length k H.hs H.hm hk
    cases hn : nOkC n with
    | false =>
      go_wp2_with fail
      rw [HW.out]
      refine c2.mono ?_
      rintro e w3 ⟨rfl, hb3⟩
      have H3 := H.next hb3
      obtain ⟨v0, v1⟩ := H3.box.cells
      have c3 := H3.list hm l (range_getD l)
      have cN := numberOk_any n w3
      rw [hn] at cN
      clear H H3 hb3 c2
      go_wp2_with fail
      refine cN.mono ?_
      rintro e w3' ⟨rfl, rfl⟩
      go_wp2_with fail
      refine c3.mono ?_
      rintro e w4 ⟨v, rfl, ho, hb4⟩
      go_wp2
      go_ret2
      rw [swC_bad hn]
      exact ⟨v, rfl, ho, hb4⟩
    | true =>
      by_cases ho : l.getD k 0 = o
      · go_wp2_with fail
        rw [HW.out]
        refine c2.mono ?_
        rintro e w3 ⟨rfl, hb3⟩
        have H3 := H.next hb3
        have hk80 : k < m * 80 := Nat.lt_of_lt_of_le hk H3.hs
        have hcell := H3.at_.cell hk80
        simp only [ho] at hcell
        have c3 := cellSwap_hit w3 g k o n hcell (H3.at_.frozen k)
        have H4 := H3.set k n
        obtain ⟨v0, v1⟩ := H4.box.cells
        have c4 := H4.list hm (l.set k n) (range_set l k n)
        have cN := numberOk_any n w3
        rw [hn] at cN
        have HO : Hid (l.getD k 0 = o) := ho
        clear H H3 H4 hb3 c2 hcell ho
        go_wp2_with fail
        refine cN.mono ?_
        rintro e w3' ⟨rfl, rfl⟩
        go_wp2_with fail
        refine c3.mono ?_
        rintro e w4 ⟨rfl, rfl⟩
        go_wp2_with fail
        refine c4.mono ?_
        rintro e w5 ⟨v, rfl, ho, hb4⟩
        go_wp2
        go_ret2
        rw [swC_hit hk hn HO.out]
        exact ⟨v, rfl, ho, hb4⟩
      · go_wp2_with fail
        rw [HW.out]
        refine c2.mono ?_
        rintro e w3 ⟨rfl, hb3⟩
        have H3 := H.next hb3
        have hk80 : k < m * 80 := Nat.lt_of_lt_of_le hk H3.hs
        have c3 := cellSwap_miss w3 g k _ o n (H3.at_.cell hk80) (H3.at_.frozen k) ho
        obtain ⟨v0, v1⟩ := H3.box.cells
        have c4 := H3.list hm l (range_getD l)
        have cN := numberOk_any n w3
        rw [hn] at cN
        have HO : Hid (¬ l.getD k 0 = o) := ho
        clear H H3 hb3 c2 ho
        go_wp2_with fail
        refine cN.mono ?_
        rintro e w3' ⟨rfl, rfl⟩
        go_wp2_with fail
        refine c3.mono ?_
        rintro e w4 ⟨rfl, rfl⟩
        go_wp2_with fail
        refine c4.mono ?_
        rintro e w5 ⟨v, rfl, ho, hb4⟩
        go_wp2
        go_ret2
        rw [swC_miss HO.out]
        exact ⟨v, rfl, ho, hb4⟩
set_option maxHeartbeats 1000000 in
theorem implLoad_any (w : World) (a : Option Addr) (cap : Nat) (l : List Int) (p : Int) (hL : IAt w a l w.heap.size) :
    Calls Try.prog 13 #[.slice a l.length cap, .int .i64 p] w fun e w' => e = .returned (.tuple #[.int .i64 (ldC l p).1, .bool (ldC l p).2]) ∧ w' = w := by
  by_cases hp : p < 0 ∨ (l.length : Int) ≤ p
  · rw [ldC_out hp]
    by_cases h0 : p < 0
    · have h1 : decide (p < 0) = true := decide_eq_true h0
      go_enter Try.func13, Try.ntmps13
      go_wp2
      go_ret2
      exact ⟨rfl, rfl⟩
    · have h1 : decide (p < 0) = false := decide_eq_false h0
      have h2 : decide ((l.length : Int) ≤ p) = true := decide_eq_true (by omega)
      go_enter Try.func13, Try.ntmps13
      go_wp2
      go_ret2
      exact ⟨rfl, rfl⟩
  · obtain ⟨k, rfl⟩ : ∃ k : Nat, p = k := ⟨p.toNat, by omega⟩
    have hk : k < l.length := by omega
    rw [ldC_in hk]
    obtain ⟨g, off, rfl, _, hc⟩ := hL k hk
    obtain ⟨x, hx, HX⟩ : ∃ x, l[k] = x ∧ Hid (l.getD k 0 = x) := ⟨_, rfl, by show l.getD k 0 = _; simp [List.getD, hk]⟩
    rw [hx] at hc
    rw [HX.out]
    have hi1 : (0 : Int) ≤ (k : Int) := by omega
    have hi2 : (k : Int) < (l.length : Int) := by omega
    clear hx hp hL
    go_enter Try.func13, Try.ntmps13
    go_wp2
    go_ret2
    exact ⟨rfl, rfl⟩
set_option maxHeartbeats 1000000 in
theorem implOk_any (w : World) (a : Option Addr) (cap : Nat) (l : List Int) (hL : IAt w a l w.heap.size) (hm : l.length ≤ 1048576) :
    Calls Try.prog 15 #[.slice a l.length cap] w fun e w' => e = .returned (.bool (okC l)) ∧ w' = w := by
  by_cases h1 : l.length < 1
  · rw [okC_short h1]
    have d1 : decide ((l.length : Int) < 1) = true := decide_eq_true (by omega)
    go_enter Try.func15, Try.ntmps15
    go_wp2
    go_ret
    exact ⟨rfl, rfl⟩
  · by_cases h2 : 80 < l.length
    · rw [okC_long h2]
      have d1 : decide ((l.length : Int) < 1) = false := decide_eq_false (by omega)
      have d2 : decide (80 < (l.length : Int)) = true := decide_eq_true (by omega)
      go_enter Try.func15, Try.ntmps15
      go_wp2
      go_ret
      exact ⟨rfl, rfl⟩
    · have d1 : decide ((l.length : Int) < 1) = false := decide_eq_false (by omega)
      have d2 : decide (80 < (l.length : Int)) = false := decide_eq_false (by omega)
      go_enter Try.func15, Try.ntmps15
      go_wp2
      go_loopw [15] (fun i wr => Box (∃ (k : Nat), k ≤ l.length ∧ i = .int .i64 k ∧ (l.take k).all nOkC = true ∧ w = wr))
        (fun i _ => l.length - (intOf i).toNat)
      case atStart => exact ⟨⟨0, by omega, rfl, rfl, rfl⟩⟩
      case round =>
        obtain ⟨k, hk, rfl, hall, rfl⟩ := hrel.out
        have HA : Hid ((l.take k).all nOkC = true) := hall
        clear hrel hall d1 d2
        by_cases hlt : k < l.length
        · obtain ⟨g, off, rfl, _, hc⟩ := hL k hlt
          obtain ⟨x, hx⟩ : ∃ x, l[k] = x := ⟨_, rfl⟩
          have HX : Hid (l[k] = x) := hx
          rw [hx] at hc
          have cN := numberOk_any x w
          have hi1 : (0 : Int) ≤ (k : Int) := by omega
          have hi2 : (k : Int) < (l.length : Int) := by omega
          clear hx
          cases hn : nOkC x with
          | false =>
            rw [hn] at cN
            go_wp2_with fail
            refine cN.mono ?_
            rintro e w1 ⟨rfl, rfl⟩
            go_wp2
            go_ret
            exact ⟨by rw [okC_bad hlt (by rw [HX.out]; exact hn)]; rfl, rfl⟩
          | true =>
            rw [hn] at cN
            go_wp2_with fail
            refine cN.mono ?_
            rintro e w1 ⟨rfl, rfl⟩
            go_wp2
            go_roundw
            case rel =>
              try ((repeat apply Exists.intro); refine ⟨?_, rfl⟩)
              exact ⟨⟨k + 1, by omega, by go_num, all_step hlt HA.out (by rw [HX.out]; exact hn), by first | rfl | trivial⟩⟩
            case measure => simp [intOf]; omega
        · go_wp2
          go_ret
          have hke : k = l.length := by omega
          subst hke
          exact ⟨by rw [okC_true (by omega) (by omega) (by simpa using HA.out)]; rfl, rfl⟩
theorem round_gen (n m : Int) (h0 : 0 < m) (h1 : m ≤ 1000000001) : (wrap64 (n.tmod m + m)).tmod m = n % m := by
  have hw : ∀ x : Int, -m < x → x < m → wrap64 (x + m) = x + m := by
    intro x h2 h3
    unfold wrap64
    omega
  by_cases hn : 0 ≤ n
  · have h2 := Int.emod_nonneg n (show m ≠ 0 by omega)
    have h3 := Int.emod_lt_of_pos n h0
    rw [Int.tmod_eq_emod_of_nonneg hn, hw _ (by omega) h3, Int.tmod_eq_emod_of_nonneg (by omega), Int.add_emod_right, Int.emod_emod]
  · have h2 := Int.emod_nonneg (-n) (show m ≠ 0 by omega)
    have h3 := Int.emod_lt_of_pos (-n) h0
    have e : n.tmod m = -((-n) % m) := by rw [← Int.tmod_eq_emod_of_nonneg (show 0 ≤ -n by omega), Int.neg_tmod, Int.neg_neg]
    rw [e, hw _ (by omega) (by omega), Int.tmod_eq_emod_of_nonneg (by omega), Int.add_emod_right]
    have e1 := Int.emod_add_mul_ediv (-n) m
    rw [show -(-n % m) = n + m * (-n / m) by omega, Int.add_mul_emod_self_left]
theorem inRound_any (n m : Int) (h0 : 0 < m) (h1 : m ≤ 1000000001) (w : World) :
    Calls Try.prog 78 #[.int .i64 n, .int .i64 m] w fun e w' => e = .returned (.int .i64 (n % m)) ∧ w' = w := by
  have hm0 : ¬ (m = 0) := by omega
  have hm1 : (m == 0) = false := by simpa using hm0
  go_enter Try.func78, Try.ntmps78
  go_wp2
  go_ret
  refine ⟨?_, rfl⟩
  show Ending.returned (Value.int .i64 ((wrap64 (n.tmod m + m)).tmod m)) = _
  rw [round_gen n m h0 h1]

theorem roundSum_any (a b : Int) (w : World) :
    Calls Try.prog 60 #[.int .i64 a, .int .i64 b] w fun e w' => e = .returned (.int .i64 ((a + b) % 1000000001)) ∧ w' = w := by
  obtain ⟨x, hx⟩ : ∃ x : Int, a % 1000000001 = x := ⟨_, rfl⟩
  obtain ⟨y, hy⟩ : ∃ y : Int, b % 1000000001 = y := ⟨_, rfl⟩
  have c1 := inRound_any a 1000000001 (by omega) (by omega) w
  have c2 := inRound_any b 1000000001 (by omega) (by omega) w
  rw [hx] at c1
  rw [hy] at c2
  have HV : Hid ((x + y) % 1000000001 = (a + b) % 1000000001) := by show _ = _; omega
  have h1 : 0 ≤ x := by omega
  have h2 : x < 1000000001 := by omega
  have h3 : 0 ≤ y := by omega
  have h4 : y < 1000000001 := by omega
  rw [← HV.out]
  clear hx hy
  go_enter Try.func60, Try.ntmps60
  go_wp2_with fail
  refine c1.mono ?_
  rintro e w' ⟨rfl, rfl⟩
  go_wp2_with fail
  refine c2.mono ?_
  rintro e w' ⟨rfl, rfl⟩
  go_wp2
  go_ret
  exact ⟨rfl, rfl⟩

set_option maxHeartbeats 2000000 in
theorem implAdd_any (w : World) (a : Option Addr) (cap : Nat) (l : List Int) (p n : Int) (hL : IAt w a l w.heap.size) (hm : l.length ≤ 1048576) :
    Calls Try.prog 18 #[.slice a l.length cap, .int .i64 p, .int .i64 n] w fun e w' => ∃ v, e = .returned (.tuple #[v, .int .i64 (adC l p n).2]) ∧ OwnV w' w.heap.size 3 v (ints (adC l p n).1) ∧ Below w.heap.size w w' := by
  have c1 := cellsOf_any w a cap l hL hm
  clear hL
  go_enter Try.func18, Try.ntmps18
  go_wp2_with fail
  refine c1.mono ?_
  rintro e w1 ⟨g, m, rfl, hs, hmm, hg, hC, hb1⟩
  have H := Cl.new (s := l.length) hC hg hs hmm hb1
  clear c1 hs hmm hg hC hb1
  obtain ⟨w2, hw2⟩ : ∃ w2, w1.alloc (.cells #[.slice (some ⟨g, 0, none⟩) m m, .int .i64 l.length] 75) = w2 := ⟨_, rfl⟩
  obtain ⟨C, hCe⟩ : ∃ C, w1.heap.size = C := ⟨_, rfl⟩
  rw [hw2, hCe] at H
  have HW : Hid (w1.alloc (.cells #[.slice (some ⟨g, 0, none⟩) m m, .int .i64 l.length] 75) = w2) := hw2
  clear hw2
  by_cases hp : p < 0 ∨ (l.length : Int) ≤ p
  · have c2 := cellAt_out w2 g m l.length p hp
    go_wp2_with fail
    rw [HW.out]
    refine c2.mono ?_
    rintro e w3 ⟨rfl, hb3⟩
    have H3 := H.next hb3
    obtain ⟨v0, v1⟩ := H3.box.cells
    have c3 := H3.list hm l (range_getD l)
    clear H H3 hb3 c2
    go_wp2_with fail
    refine c3.mono ?_
    rintro e w4 ⟨v, rfl, ho, hb4⟩
    go_wp2
    go_ret2
    rw [adC_out hp]
    exact ⟨v, rfl, ho, hb4⟩
  · obtain ⟨k, rfl⟩ : ∃ k : Nat, p = k := ⟨p.toNat, by omega⟩
    have hk : k < l.length := by omega
    have c2 := cellAt_in w2 g m l.length k H.hs H.hm hk
    go_wp2_with fail
    rw [HW.out]
    refine c2.mono ?_
    rintro e w3 ⟨rfl, hb3⟩
    have H3 := H.next hb3
    have hk80 : k < m * 80 := Nat.lt_of_lt_of_le hk H3.hs
    have hcell := H3.at_.cell hk80
    obtain ⟨x, hx, HX⟩ : ∃ x, l.getD k 0 = x ∧ Hid (l.getD k 0 = x) := ⟨_, rfl, rfl⟩
    rw [hx] at hcell
    have c3 := cellLoad_any w3 g k x hcell
    obtain ⟨y, hy, HY⟩ : ∃ y, (x + n) % 1000000001 = y ∧ Hid ((x + n) % 1000000001 = y) := ⟨_, rfl, rfl⟩
    have cR := roundSum_any x n w3
    rw [hy] at cR
    have c4 := cellStore_any w3 g k _ y hcell (H3.at_.frozen k)
    have H4 := H3.set k y
    obtain ⟨v0, v1⟩ := H4.box.cells
    have c5 := H4.list hm (l.set k y) (range_set l k y)
    clear H H3 H4 hb3 c2 hcell hx hy
    go_wp2_with fail
    refine c3.mono ?_
    rintro e w3' ⟨rfl, rfl⟩
    go_wp2_with fail
    refine cR.mono ?_
    rintro e w3' ⟨rfl, rfl⟩
    go_wp2_with fail
    refine c4.mono ?_
    rintro e w4 ⟨rfl, rfl⟩
    go_wp2_with fail
    refine c5.mono ?_
    rintro e w5 ⟨v, rfl, ho, hb4⟩
    go_wp2
    go_ret2
    rw [adC_in hk, HX.out, HY.out]
    exact ⟨v, rfl, ho, hb4⟩
end Go.Proofs.Ytockgojdmaladab
