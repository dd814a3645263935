/- The walk of the law on tasks done in pairs, given the program's contracts. -/
import Derived.Test.YtogfkbkfcelgcacDoTasksKit
import Derived.Test.YtogfkbkfcelgcacDoTasksPlain
import Derived.Test.YtogfkbkfcelgcacBig
import Derived.Test.YtogfkbkfcelgcacAscPlain
namespace Go.Proofs.Ytogfkbkfcelgcac
open Go.RowKit Go.Sort

theorem doT_len (L : List (Int × Int)) (t : Tk) : (doT L t).1.length ≤ L.length + 1 := by
  have h2 := two_filters t.key L
  have h3 := List.length_filter_le (fun p : Int × Int => !decide (p.1 = t.key)) L
  unfold doT
  by_cases k1 : t.kind = 1
  · simp [k1]
  · by_cases k2 : t.kind = 2
    · by_cases hh : hasP L t.key = true
      · simp [k2, hh]
      · simp [k2, hh]; omega
    · by_cases k3 : t.kind = 3
      · simp [k3]; omega
      · simp [k1, k2, k3]

theorem tB' {a b c : World} (h : Below a.heap.size a b) (k : Below b.heap.size b c) : Below a.heap.size a c := h.trans (k.mono h.size)

set_option maxHeartbeats 8000000 in
set_option maxRecDepth 100000 in
theorem doTasks_given (CT0 : ∀ (kind key val node : Int) (w : World), Calls Try.prog 17 #[.int .i64 kind, .int .i64 key, .int .i64 val, .int .i64 node] w fun e w' => e = .returned (.agg (tcs (Tk.new kind key val node))) ∧ Below w.heap.size w w')
    (CI0 : ∀ (w : World) (a : Option Addr) (cap : Nat) (L : List (Int × Int)) (t : Tk), PAt w a L w.heap.size → L.length ≤ 1048576 → Asc L → Calls Try.prog 16 #[.slice a L.length cap, .agg (tcs t)] w fun e w' => ∃ v, e = .returned (.tuple #[v, .int .i64 (doT L t).2]) ∧ OwnP w' w.heap.size 73 v (doT L t).1 ∧ Below w.heap.size w w')
    (ca : Option Addr) (n cap : Nat) (w : World) (hcode : CodeAt w ca n w.heap.size) (hlen : n ≤ maxLen) :
    Calls Try.prog 4 #[.slice ca n cap] w fun e w' => e = .returned (.bool true) ∧ Below w.heap.size w w' := by
  unfold maxLen at hlen
  by_cases hn : n ≤ 1048576
  · have c1 := drawPairs_any w ca n cap hcode hn
    have HCD : Hid (∀ w', Below w.heap.size w w' → CodeAt w' ca n w'.heap.size) := by
      intro w' hb j hj
      obtain ⟨b, off, z, h1, h2, h3, h4⟩ := hcode j hj
      exact ⟨b, off, z, h1, Nat.lt_of_lt_of_le h2 hb.size, (hb.cell (p := ⟨b, off + j, none⟩) h2).trans h3, h4⟩
    have CT : Hid (∀ (kind key val node : Int) (w : World), Calls Try.prog 17 #[.int .i64 kind, .int .i64 key, .int .i64 val, .int .i64 node] w fun e w' => e = .returned (.agg (tcs (Tk.new kind key val node))) ∧ Below w.heap.size w w') := CT0
    have CI : Hid (∀ (wi : World) (a : Option Addr) (c : Nat) (M : List (Int × Int)) (t : Tk) (N : List (Int × Int)) (z : Int), PAt wi a M wi.heap.size → M.length ≤ 1048576 ∧ Asc M → doT M t = (N, z) → Calls Try.prog 16 #[.slice a M.length c, .agg (tcs t)] wi fun e w' => ∃ y cy, e = .returned (.tuple #[.slice y N.length cy, .int .i64 z]) ∧ PAt w' y N w'.heap.size ∧ Below wi.heap.size wi w') := fun wi a c M t N z h1 h2 h3 => (CI0 wi a c M t h1 h2.1 h2.2).mono (by
      rintro e w' ⟨v, rfl, ho, hb⟩
      rw [h3] at ho ⊢
      obtain ⟨y, cy, rfl, hP⟩ := ho.at
      exact ⟨y, cy, rfl, hP, hb⟩)
    clear hcode CT0 CI0
    go_enter Try.func4, Try.ntmps4
    have cb := big_any ca n cap w hlen
    rw [show decide (1048576 < n) = false by simp; omega] at cb
    go_wp2_with fail
    refine cb.mono ?_
    rintro e w' ⟨rfl, rfl⟩
    go_wp2_with fail
    refine c1.mono ?_
    rintro e w1 ⟨vp, L, rfl, hL4, hnice, hownp, hb1⟩
    clear c1 cb
    have c2 := drawPlaces_any w1 ca n cap (HCD.out _ hb1) hn
    go_wp2_with fail
    refine c2.mono ?_
    rintro e w2 ⟨v, lx, rfl, hl, hlz, hown, hb2⟩
    have hB2 : Below w.heap.size w w2 := hb1.trans (hb2.mono hb1.size)
    obtain ⟨pp, pc, rfl, hcells⟩ := hown.shape
    obtain ⟨g, rfl, hz0, _, _, hg⟩ := hcells 0 (by rw [ints_length]; omega)
    obtain ⟨g', hgg, hz1, _, _, _⟩ := hcells 1 (by rw [ints_length]; omega)
    simp at hgg
    subst hgg
    rw [ints_at (by omega)] at hz0 hz1
    obtain ⟨x0, hx0⟩ : ∃ x, lx[0] = x := ⟨_, rfl⟩
    obtain ⟨x1, hx1⟩ : ∃ x, lx[1] = x := ⟨_, rfl⟩
    have hxb0 := hlz lx[0] (List.getElem_mem _)
    have hxb1 := hlz lx[1] (List.getElem_mem _)
    rw [hx0] at hz0 hxb0
    rw [hx1] at hz1 hxb1
    rw [ints_length, hl]
    have hownp2 := hownp.below hb2 (Nat.le_refl _)
    obtain ⟨pa, pcap, rfl, hpa⟩ := hownp2.at
    obtain ⟨A, B, pt, fd, hA, hB, hAl, hBl, d1, d2, d3, d4, d5, d6, hways⟩ := six hnice (1 + x0 % 9) (x1 % 99) (by omega) (by omega)
    obtain ⟨an, han⟩ : ∃ an, ansP L (1 + x0 % 9) = an := ⟨_, rfl⟩
    rw [han] at d1 hways
    obtain ⟨r0, hr0⟩ : ∃ r, x0 % 9 = r := ⟨_, rfl⟩
    obtain ⟨vv, hvv⟩ : ∃ r, x1 % 99 = r := ⟨_, rfl⟩
    rw [hr0] at d1 d2 d3 d4 d5 d6
    rw [hvv] at d2 d4 hways
    have D1 : Hid (doT L (Tk.new 1 (1 + r0) 0 1) = (L, an)) := (doT_nice hnice _).trans d1
    have D2 : Hid (doT L (Tk.new 2 (1 + r0) vv 1) = (A, pt)) := (doT_nice hnice _).trans d2
    have D3 : Hid (doT A (Tk.new 1 (1 + r0) 0 1) = (A, fd)) := (doT_nice hA _).trans d3
    have D4 : Hid (doT A (Tk.new 2 (1 + r0) vv 1) = (A, 0)) := (doT_nice hA _).trans d4
    have D5 : Hid (doT A (Tk.new 3 (1 + r0) 0 1) = (B, 1)) := (doT_nice hA _).trans d5
    have D6 : Hid (doT B (Tk.new 3 (1 + r0) 0 1) = (B, 0)) := (doT_nice hB _).trans d6
    have HLEN : Hid (L.length ≤ 1048576 ∧ A.length ≤ 1048576 ∧ B.length ≤ 1048576) := ⟨by omega, by omega, by omega⟩
    have HASC : Hid (Asc L ∧ Asc A ∧ Asc B) := ⟨hnice.1, hA.1, hB.1⟩
    have HBL : Hid (B.length + 1 = A.length) := hBl
    have HWY : Hid _ := hways
    have t0 : x0.tmod 9 = r0 := by rw [Int.tmod_eq_emod_of_nonneg (by omega)]; exact hr0
    have t1 : x1.tmod 99 = vv := by rw [Int.tmod_eq_emod_of_nonneg (by omega)]; exact hvv
    have HV : Hid (0 ≤ vv ∧ vv ≤ 98) := by show _ ∧ _; omega
    have HC : Hid (PAt w2 pa L w2.heap.size ∧ Below w.heap.size w w2) := ⟨hpa, hB2⟩
    have hrb : 0 ≤ r0 ∧ r0 < 9 := by omega
    have hvb : 0 ≤ vv ∧ vv < 99 := by omega
    clear hown hcells hlz hownp hownp2 hl hx0 hx1 c2 hnice hA hB hAl hBl d1 d2 d3 d4 d5 d6 hways han hpa hb1 hb2 hB2 hL4 hr0 hvv
    have hs := fun wi (hi : Below w2.heap.size w2 wi) => PAt.on HC.out.1 hi
    go_wp2_with fail
    refine (CT.out 1 (1 + r0) 0 1 w2).mono ?_
    rintro e wt ⟨rfl, hbt⟩
    replace hs := hs wt hbt
    go_wp2_with fail
    refine (CI.out wt _ _ L _ _ _ hs ⟨by have := HLEN.out; omega, HASC.out.1⟩ D1.out).mono ?_
    rintro e w3 ⟨y1, cy1, rfl, hy1, hbn⟩
    have hbb := tB' hbt hbn
    have HC' : Hid (PAt w3 pa L w3.heap.size ∧ Below w.heap.size w w3) := ⟨PAt.on HC.out.1 hbb, tB' HC.out.2 hbb⟩
    clear hs hbt hbn hbb HC hy1
    have HC := HC'
    clear HC'
    have hs := fun wi (hi : Below w3.heap.size w3 wi) => PAt.on HC.out.1 hi
    go_wp2_with fail
    refine (CT.out 2 (1 + r0) vv 1 w3).mono ?_
    rintro e wt ⟨rfl, hbt⟩
    replace hs := hs wt hbt
    go_wp2_with fail
    refine (CI.out wt _ _ L _ _ _ hs ⟨by have := HLEN.out; omega, HASC.out.1⟩ D2.out).mono ?_
    rintro e w4 ⟨y2, cy2, rfl, hy2, hbn⟩
    have hbb := tB' hbt hbn
    have HC' : Hid (PAt w4 pa L w4.heap.size ∧ PAt w4 y2 A w4.heap.size ∧ Below w.heap.size w w4) := ⟨PAt.on HC.out.1 hbb, hy2, tB' HC.out.2 hbb⟩
    clear hs hbt hbn hbb HC hy2
    have HC := HC'
    clear HC'
    have hs := fun wi (hi : Below w4.heap.size w4 wi) => PAt.on HC.out.2.1 hi
    go_wp2_with fail
    refine (CT.out 1 (1 + r0) 0 1 w4).mono ?_
    rintro e wt ⟨rfl, hbt⟩
    replace hs := hs wt hbt
    go_wp2_with fail
    refine (CI.out wt _ _ A _ _ _ hs ⟨by have := HLEN.out; omega, HASC.out.2.1⟩ D3.out).mono ?_
    rintro e w5 ⟨y3, cy3, rfl, hy3, hbn⟩
    have hbb := tB' hbt hbn
    have HC' : Hid (PAt w5 pa L w5.heap.size ∧ PAt w5 y2 A w5.heap.size ∧ Below w.heap.size w w5) := ⟨PAt.on HC.out.1 hbb, PAt.on HC.out.2.1 hbb, tB' HC.out.2.2 hbb⟩
    clear hs hbt hbn hbb HC hy3
    have HC := HC'
    clear HC'
    have hs := fun wi (hi : Below w5.heap.size w5 wi) => PAt.on HC.out.2.1 hi
    go_wp2_with fail
    refine (CT.out 2 (1 + r0) vv 1 w5).mono ?_
    rintro e wt ⟨rfl, hbt⟩
    replace hs := hs wt hbt
    go_wp2_with fail
    refine (CI.out wt _ _ A _ _ _ hs ⟨by have := HLEN.out; omega, HASC.out.2.1⟩ D4.out).mono ?_
    rintro e w6 ⟨y4, cy4, rfl, hy4, hbn⟩
    have hbb := tB' hbt hbn
    have HC' : Hid (PAt w6 pa L w6.heap.size ∧ PAt w6 y2 A w6.heap.size ∧ Below w.heap.size w w6) := ⟨PAt.on HC.out.1 hbb, PAt.on HC.out.2.1 hbb, tB' HC.out.2.2 hbb⟩
    clear hs hbt hbn hbb HC hy4
    have HC := HC'
    clear HC'
    have hs := fun wi (hi : Below w6.heap.size w6 wi) => PAt.on HC.out.2.1 hi
    go_wp2_with fail
    refine (CT.out 3 (1 + r0) 0 1 w6).mono ?_
    rintro e wt ⟨rfl, hbt⟩
    replace hs := hs wt hbt
    go_wp2_with fail
    refine (CI.out wt _ _ A _ _ _ hs ⟨by have := HLEN.out; omega, HASC.out.2.1⟩ D5.out).mono ?_
    rintro e w7 ⟨y5, cy5, rfl, hy5, hbn⟩
    have hbb := tB' hbt hbn
    have HC' : Hid (PAt w7 pa L w7.heap.size ∧ PAt w7 y2 A w7.heap.size ∧ PAt w7 y5 B w7.heap.size ∧ Below w.heap.size w w7) := ⟨PAt.on HC.out.1 hbb, PAt.on HC.out.2.1 hbb, hy5, tB' HC.out.2.2 hbb⟩
    clear hs hbt hbn hbb HC hy5
    have HC := HC'
    clear HC'
    have hs := fun wi (hi : Below w7.heap.size w7 wi) => PAt.on HC.out.2.2.1 hi
    go_wp2_with fail
    refine (CT.out 3 (1 + r0) 0 1 w7).mono ?_
    rintro e wt ⟨rfl, hbt⟩
    replace hs := hs wt hbt
    go_wp2_with fail
    refine (CI.out wt _ _ B _ _ _ hs ⟨by have := HLEN.out; omega, HASC.out.2.2⟩ D6.out).mono ?_
    rintro e w8 ⟨y6, cy6, rfl, hy6, hbn⟩
    have hbb := tB' hbt hbn
    have HC' : Hid (PAt w8 pa L w8.heap.size ∧ PAt w8 y2 A w8.heap.size ∧ PAt w8 y5 B w8.heap.size ∧ Below w.heap.size w w8) := ⟨PAt.on HC.out.1 hbb, PAt.on HC.out.2.1 hbb, PAt.on HC.out.2.2.1 hbb, tB' HC.out.2.2.2 hbb⟩
    clear hs hbt hbn hbb HC hy6
    have HC := HC'
    clear HC'
    have hB8 : Below w.heap.size w w8 := HC.out.2.2.2
    have c9 := drawDoTask_any w8 ca n cap (HCD.out _ hB8) hn
    unfold tcs at c9
    go_wp2_with fail
    refine c9.mono ?_
    rintro e w9 ⟨xa, xc, X, t, rfl, ⟨hX4, hXn⟩, hX9, hb9⟩
    obtain ⟨w10, hw10⟩ : ∃ w10, w9.alloc (.cells (tcs t) 33) = w10 := ⟨_, rfl⟩
    have hb10 : Below w9.heap.size w9 w10 := by rw [← hw10]; exact (Below.refl _ _).alloc (Nat.le_refl _) _
    have hT : TBox w10 w9.heap.size t := by rw [← hw10]; exact TBox.new _ _
    have hX10 := hX9.on hb10
    have hB10 := tB' (tB' hB8 hb9) hb10
    have HW10 : Hid (w9.alloc (.cells #[.int .i64 t.kind, .int .i64 t.key, .int .i64 t.val, .int .i64 t.node, .int .i64 t.pc, .int .i64 t.prev, .int .i64 t.cur, .int .i64 t.next, .int .i64 t.mark, .bool t.done, .int .i64 t.ans] 33) = w10) := hw10
    obtain ⟨T, hTT⟩ : ∃ T, w9.heap.size = T := ⟨_, rfl⟩
    rw [hTT] at hT
    have HTT : Hid (w9.heap.size = T) := hTT
    obtain ⟨N, z, hNz⟩ : ∃ N z, doT X t = (N, z) := ⟨_, _, rfl⟩
    have hNl : N.length ≤ X.length + 1 := by have := doT_len X t; rw [hNz] at this; exact this
    have HN : Hid (X.length ≤ 1048576 ∧ N.length ≤ 1048576) := ⟨by omega, by omega⟩
    have c11 := CI.out w10 xa xc X t N z hX10 ⟨HN.out.1, hXn.1⟩ hNz
    clear hXn
    unfold tcs at c11
    obtain ⟨b0, b1, b2, b3, b4, b5, b6, b7, b8, b9, b10⟩ := hT.cells
    clear hw10 hTT hX9 hb10 hb9 c9 hB8 HC hNl hX4
    go_wp2_with fail
    rw [HW10.out, HTT.out]
    go_wp2_with fail
    refine c11.mono ?_
    rintro e w11 ⟨ya, yc, rfl, hya, hb11⟩
    have hT11 := hT.on hb11
    have c12 := (specDoTask_any w11 xa xc X t (hX10.on hb11) HN.out.1)
    rw [hNz] at c12
    unfold tcs at c12
    clear b0 b1 b2 b3 b4 b5 b6 b7 b8 b9 b10 c11
    obtain ⟨b0, b1, b2, b3, b4, b5, b6, b7, b8, b9, b10⟩ := hT11.cells
    go_wp2_with fail
    refine c12.mono ?_
    rintro e w12 ⟨v12, rfl, ho12, hb12⟩
    obtain ⟨za, zc, rfl, hza⟩ := ho12.at
    have cs := samePairs_same w12 ya za yc zc N (hya.on hb12) hza HN.out.2
    have HF : Hid (Below w.heap.size w w12) := tB' (tB' hB10 hb11) hb12
    have hbl := HLEN.out.2.2
    rw [← HBL.out]
    generalize B.length = nb at hbl ⊢
    have hwl : IntKind.i64.wrap ((nb : Int) + 1 - 1) = (nb : Int) := by rw [IntKind.wrap_i64]; omega
    have hnb : (nb : Int) ≤ 1048576 := by omega
    clear b0 b1 b2 b3 b4 b5 b6 b7 b8 b9 b10 c12 ho12 hb12 hb11 hza hya hT hT11 hX10 hB10
    rcases HWY.out with ⟨rfl, rfl, rfl⟩ | ⟨rfl, h1, rfl⟩
    · go_wp2_with fail
      refine cs.mono ?_
      rintro e w13 ⟨rfl, hb13⟩
      go_wp2
      go_ret
      exact ⟨rfl, tB' HF.out hb13⟩
    · have h2 : 0 < fd := by omega
      have h3 : ¬ fd = 0 := by omega
      have h4 : ¬ fd ≤ 0 := by omega
      have h5 : (fd == 0) = false := by simp; omega
      go_wp2_with fail
      refine cs.mono ?_
      rintro e w13 ⟨rfl, hb13⟩
      go_wp2
      go_ret
      exact ⟨rfl, tB' HF.out hb13⟩
  · have cb := big_any ca n cap w hlen
    rw [show decide (1048576 < n) = true by simp; omega] at cb
    go_enter Try.func4, Try.ntmps4
    go_wp2_with fail
    refine cb.mono ?_
    rintro e w' ⟨rfl, rfl⟩
    go_wp2
    go_ret
    exact ⟨rfl, Below.refl _ _⟩
end Go.Proofs.Ytogfkbkfcelgcac
