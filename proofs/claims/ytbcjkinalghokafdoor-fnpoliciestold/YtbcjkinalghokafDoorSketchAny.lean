/- Sketches are drawn, right or not. -/
import Derived.Test.YtbcjkinalghokafDoorPolDrawJ
import Derived.Test.YtbcjkinalghokafDoorSkCopySpecJ
import Derived.StillTailTactics
namespace Go.Proofs.YtbcjkinalghokafDoor
open Go.RowKit Go.Sort

theorem SSAt.tail {w : World} {g off B : Nat} {r : List Int} {LL : List (List Int)} (h : SSAt w (some ⟨g, off, none⟩) (r :: LL) B) : SSAt w (some ⟨g, off + 1, none⟩) LL B := by
  intro j hj
  obtain ⟨g1, off1, ai, ci, ha, hg, hc, hI⟩ := h (j + 1) (by simpa using hj)
  simp only [Option.some.injEq, Addr.mk.injEq, and_true] at ha
  obtain ⟨rfl, rfl⟩ := ha
  exact ⟨g, off + 1, ai, ci, rfl, hg, by simpa [Nat.add_assoc, Nat.add_comm 1 j] using hc, by simpa using hI⟩
theorem sz_small {S : Sk} (h1 : S.rows.length ≤ 3) (h2 : ∀ r ∈ S.rows, r.length ≤ 16) : SkSz S := by
  have : ∀ (l : List (List Int)), (∀ r ∈ l, r.length ≤ 16) → (l.map List.length).sum ≤ 16 * l.length := by
    intro l
    induction l with
    | nil => simp
    | cons r rs ih =>
      intro h
      have a := ih (fun x hx => h x (by simp [hx]))
      have b := h r (by simp)
      simp only [List.map_cons, List.sum_cons, List.length_cons]
      omega
  unfold SkSz tot
  rw [List.take_length]
  have := this S.rows h2
  omega
/-- Sketches of a draw: three rows at most, of sixteen numbers at most. -/
def Few (S : Sk) : Prop := S.rows.length ≤ 3 ∧ ∀ r ∈ S.rows, r.length ≤ 16
theorem few_ok {S : Sk} (h : okK S = true) : Few S := by
  obtain ⟨a, b, c, e, ha, hb, hc, _, _⟩ := okK_parts h
  refine ⟨by rw [e]; simp, ?_⟩
  rw [e]
  intro r hr
  simp only [List.mem_cons, List.not_mem_nil, or_false] at hr
  rcases hr with rfl | rfl | rfl
  · exact Nat.le_of_eq (rowOk_len ha)
  · exact Nat.le_of_eq (rowOk_len hb)
  · exact Nat.le_of_eq (rowOk_len hc)
theorem OwnV.caps {w : World} {base : Nat} {e : TypeId} {a : Option Addr} {n c : Nat} {xs : List Value} (h : OwnV w base e (.slice a n c) xs) : n ≤ c := by
  rcases h.2 with ⟨e1, _⟩ | ⟨g, cap, cur, e1, _, _, hle, _⟩
  · simp only [Value.slice.injEq] at e1
    omega
  · simp only [Value.slice.injEq] at e1
    obtain ⟨_, e2, rfl⟩ := e1
    rw [e2]
    exact hle
theorem IAt.block {w w' : World} {a : Option Addr} {l : List Int} {B B' : Nat} (h : IAt w a l B) (hB : B ≤ B') (hk : ∀ g off, a = some ⟨g, off, none⟩ → w'.heap[g]? = w.heap[g]?) : IAt w' a l B' := by
  intro j hj
  obtain ⟨g, off, ha, hg, hc⟩ := h j hj
  exact ⟨g, off, ha, Nat.lt_of_lt_of_le hg hB, (World.cell?_of_block (hk g off ha)).trans hc⟩
/-- The first row is cut: what lies there then. -/
theorem cut_first {w : World} {lo hi c : Nat} {a : Option Addr} {r0 r1 r2 : List Int} (h : OwnSS w lo hi (.slice a 3 c) [r0, r1, r2]) (hl : 0 < r0.length) :
    ∃ g g0 c0, a = some ⟨g, 0, none⟩ ∧ lo ≤ g ∧ w.cell? ⟨g, 0, none⟩ = some (.slice (some ⟨g0, 0, none⟩) r0.length c0) ∧ w.frozen? ⟨g, 0, none⟩ = false ∧ r0.length ≤ c0 ∧ 3 ≤ c ∧
      (∀ w', (∀ k, lo ≤ k → k ≠ g → w'.heap[k]? = w.heap[k]?) → w'.cell? ⟨g, 0, none⟩ = some (.slice (some ⟨g0, 1, none⟩) (r0.length - 1) (c0 - 1)) → w'.cell? ⟨g, 1, none⟩ = w.cell? ⟨g, 1, none⟩ → w'.cell? ⟨g, 2, none⟩ = w.cell? ⟨g, 2, none⟩ → w.heap.size ≤ w'.heap.size →
        SSAt w' (some ⟨g, 0, none⟩) [r0.tail, r1, r2] w'.heap.size) := by
  obtain ⟨vs, hv, hb, hvl, hr, hd⟩ := h
  obtain ⟨a', cap', e, hc⟩ := hv.shape
  have hvl3 : vs.length = 3 := by simpa using hvl
  rw [hvl3] at e
  simp only [Value.slice.injEq, true_and] at e
  obtain ⟨rfl, rfl⟩ := e
  obtain ⟨g, ha, hc0, hf0, hlo, hgs⟩ := hc 0 (by omega)
  subst ha
  obtain ⟨_, e1, hc1, _⟩ := hc 1 (by omega)
  obtain ⟨_, e2, hc2, _⟩ := hc 2 (by omega)
  simp only [Option.some.injEq, Addr.mk.injEq, and_true] at e1 e2
  subst e1
  subst e2
  have o0 := (hr 0 vs[0] r0 (List.getElem?_eq_getElem _) rfl).1
  have o1 := (hr 1 vs[1] r1 (List.getElem?_eq_getElem _) rfl).1
  have o2 := (hr 2 vs[2] r2 (List.getElem?_eq_getElem _) rfl).1
  obtain ⟨b0, k0, q0, i0⟩ := o0.ints
  obtain ⟨b1, k1, q1, i1⟩ := o1.ints
  obtain ⟨b2, k2, q2, i2⟩ := o2.ints
  have nz : ∀ (u : Value) (l : List Int) (b : Option Addr) (k : Nat), OwnV w lo 3 u (ints l) → u = .slice b l.length k → ∀ g' off, b = some ⟨g', off, none⟩ → lo ≤ g' ∧ g' ≠ g := by
    intro u l b k ho eu g' off eb
    subst eu
    subst eb
    have h1 := ho.lt
    rcases ho.2 with ⟨e3, _⟩ | ⟨g4, cap4, cur4, e4, hb4, hg4, _⟩
    · simp at e3
    · simp only [Value.slice.injEq, Option.some.injEq, Addr.mk.injEq, and_true] at e4
      obtain ⟨⟨rfl, _⟩, _⟩ := e4
      refine ⟨hb4, fun eg => ?_⟩
      subst eg
      rcases hv.2 with ⟨e5, _⟩ | ⟨g6, cap6, cur6, e6, _, hg6, _⟩
      · simp at e5
      · simp only [Value.slice.injEq, Option.some.injEq, Addr.mk.injEq, and_true] at e6
        obtain ⟨rfl, _⟩ := e6
        have := hg4.symm.trans hg6
        simp at this
  obtain ⟨g0, off0, eb0, _, _⟩ := i0 0 hl
  have eoff : off0 = 0 := by
    rw [q0, eb0] at o0
    rcases o0.2 with ⟨e3, _⟩ | ⟨g4, cap4, cur4, e4, _⟩
    · simp at e3
    · simp only [Value.slice.injEq, Option.some.injEq, Addr.mk.injEq, and_true] at e4
      exact e4.1.2
  subst eoff
  have n0 := nz _ _ _ _ o0 q0 g0 0 eb0
  rw [q0, eb0] at hc0 o0
  rw [q1] at hc1
  rw [q2] at hc2
  refine ⟨g, g0, k0, rfl, hlo, hc0, hf0, o0.caps, hv.caps, fun w' hk hz0 hz1 hz2 hsz => ?_⟩
  intro j hj
  rcases (by simp at hj; omega : j = 0 ∨ j = 1 ∨ j = 2) with rfl | rfl | rfl
  · refine ⟨g, 0, some ⟨g0, 1, none⟩, k0 - 1, rfl, Nat.lt_of_lt_of_le hgs hsz, by simpa using hz0, fun i hi => ?_⟩
    have hi' : i + 1 < r0.length := by simp at hi; omega
    obtain ⟨g7, off7, e7, hg7, hc7⟩ := i0 (i + 1) hi'
    rw [eb0] at e7
    simp only [Option.some.injEq, Addr.mk.injEq, and_true] at e7
    obtain ⟨rfl, rfl⟩ := e7
    refine ⟨g0, 1, rfl, Nat.lt_of_lt_of_le hg7 hsz, ?_⟩
    rw [World.cell?_of_block (hk g0 n0.1 n0.2)]
    simpa [Nat.add_comm 1 i] using hc7
  · exact ⟨g, 0, b1, k1, rfl, Nat.lt_of_lt_of_le hgs hsz, by simpa using hz1.trans hc1, i1.block hsz fun g' off e => hk g' (nz _ _ _ _ o1 q1 g' off e).1 (nz _ _ _ _ o1 q1 g' off e).2⟩
  · exact ⟨g, 0, b2, k2, rfl, Nat.lt_of_lt_of_le hgs hsz, by simpa using hz2.trans hc2, i2.block hsz fun g' off e => hk g' (nz _ _ _ _ o2 q2 g' off e).1 (nz _ _ _ _ o2 q2 g' off e).2⟩
/-- The rows lie there in every world that is as this one from the block lo on. -/
def SSK (w : World) (lo : Nat) (a : Option Addr) (LL : List (List Int)) : Prop := ∀ w', (∀ k, lo ≤ k → w'.heap[k]? = w.heap[k]?) → w.heap.size ≤ w'.heap.size → SSAt w' a LL w'.heap.size
set_option maxRecDepth 100000 in
set_option maxHeartbeats 8000000 in
theorem l12Any_any (w : World) (p : Nat) (ca : Option Addr) (n cap : Nat) (hc : Cur w p ca n cap) (hcode : CodeAt w ca n p) (hn : n ≤ 1048576) (hp : p < w.heap.size) :
    Calls Tryd.prog 70 #[.pointer (some ⟨p, 0, none⟩)] w fun e w' => ∃ (a : Option Addr) (c : Nat) (S : Sk), e = .returned (.agg #[.slice a S.rows.length c, .int .i64 S.added]) ∧ Few S ∧ SSK w' w.heap.size a S.rows ∧ Left w w' p ca n cap := by
  obtain ⟨w0, hw0⟩ : ∃ x, w.alloc (.cells #[.slice none 0 0, .int .i64 0] 27) = x := ⟨_, rfl⟩
  have hb0 : Below w.heap.size w w0 := by rw [← hw0]; exact (Below.refl _ _).alloc (Nat.le_refl _) _
  have s0 : w0.heap.size = w.heap.size + 1 := by rw [← hw0]; simp
  obtain ⟨R, hR⟩ : ∃ R, w.heap.size = R := ⟨_, rfl⟩
  have hR0 : SkBox w0 R (.slice none 0 0) (.int .i64 0) := by rw [← hw0, ← hR]; exact SkBox.new _ _ _
  have hL0 : Left w w0 p ca n cap := (Left.refl hc hcode).below hb0 hp
  have HW0 : Hid (w.alloc (.cells #[.slice none 0 0, .int .i64 0] 27) = w0) := hw0
  have c0 := below_any w0 p ca n cap 12 hL0.1 hL0.2.1 hn (by omega) (by omega)
  have hpR : p < R := by omega
  have hs0 : R < w0.heap.size := by omega
  clear hw0 hc hcode hb0 s0
  go_enter Tryd.func70, Tryd.ntmps70
  go_wp2_with fail
  rw [HW0.out]
  refine c0.mono ?_
  rintro e w1 ⟨kk, hkk, _, rfl, hl1⟩
  have hk12 := hkk (by omega)
  have hR1 := hR0.left hl1 (by omega)
  have hL1 := hL0.trans hl1
  have hs1 : R < w1.heap.size := Nat.lt_of_lt_of_le hs0 hl1.2.2.size
  clear c0 hkk hR0 hL0 hl1 HW0 hs0
  have c1 := below_any w1 p ca n cap 60 hL1.1 hL1.2.1 hn (by omega) (by omega)
  go_wp2_with fail
  refine c1.mono ?_
  rintro e w2 ⟨x, hx, _, rfl, hl2⟩
  have hx60 := hx (by omega)
  have hR2 := hR1.left hl2 (by omega)
  have hL2 := hL1.trans hl2
  have hs2 : R < w2.heap.size := Nat.lt_of_lt_of_le hs1 hl2.2.2.size
  clear c1 hx hR1 hL1 hl2 hs1
  have c2 := l12Sketch_any w2 p ca n cap hL2.1 hL2.2.1 hn (by omega)
  go_wp2_with fail
  refine c2.mono ?_
  rintro e w3 ⟨v3, S, rfl, hok, ho3, hl3⟩
  obtain ⟨a3, c3, rfl, hA3⟩ := ho3.at
  have hR3 := hR2.left hl3 (by omega)
  have hL3 := hL2.trans hl3
  have hs3 : R < w3.heap.size := Nat.lt_of_lt_of_le hs2 hl3.2.2.size
  clear c2 ho3 hR2 hL2 hl3 hs2
  have c3' := l12Copy_any w3 a3 c3 S hA3 (okK_sz hok)
  go_wp2_with fail
  refine c3'.mono ?_
  rintro e w4 ⟨v4, rfl, ho4, hb4⟩
  obtain ⟨a, c, rfl, _⟩ := ho4.at
  clear c3' hA3
  obtain ⟨T, hT⟩ : ∃ T, w4.heap.size = T := ⟨_, rfl⟩
  obtain ⟨w5, hw5⟩ : ∃ x, w4.alloc (.cells #[.slice a S.rows.length c, .int .i64 S.added] 27) = x := ⟨_, rfl⟩
  have hb5 : Below w4.heap.size w4 w5 := by rw [← hw5]; exact (Below.refl _ _).alloc (Nat.le_refl _) _
  have hB5 : SkBox w5 T (.slice a S.rows.length c) (.int .i64 S.added) := by rw [← hw5, ← hT]; exact SkBox.new _ _ _
  have hbw5 : Below w3.heap.size w3 w5 := hb4.trans (hb5.mono hb4.size)
  have hO5 : OwnSS w5 w3.heap.size w5.heap.size (.slice a S.rows.length c) S.rows := by
    obtain ⟨v1, e, h1⟩ := ho4
    simp only [Value.agg.injEq, Array.mk.injEq, List.cons.injEq, and_true] at e
    subst e
    exact (h1.below hb5 (Nat.le_refl _)).up
  have hR5 := hR3.on hbw5
  have hL5 : Left w w5 p ca n cap := hL3.below (hbw5.mono hL3.2.2.size) hp
  have hT3 : w3.heap.size ≤ T := by rw [← hT]; exact hb4.size
  have HW5 : Hid (w4.alloc (.cells #[.slice a S.rows.length c, .int .i64 S.added] 27) = w5) := hw5
  have hfew := few_ok hok
  obtain ⟨r0, r1, r2, hrows, o0, o1, o2, _, _⟩ := okK_parts hok
  have l0 := rowOk_len o0
  have l1 := rowOk_len o1
  have l2 := rowOk_len o2
  obtain ⟨rows, added⟩ := S
  dsimp only at hrows hB5 hO5 HW5 hfew ⊢
  subst hrows
  simp only [List.length_cons, List.length_nil, Nat.zero_add, Nat.reduceAdd] at hB5 hO5 HW5 ⊢
  clear hw5 ho4 hb4 hb5 hR3 hL3 hbw5 hok o0 o1 o2
  have hwR : R < w3.heap.size := hs3
  have hcp : 3 ≤ c := by obtain ⟨vs, hv, _⟩ := hO5; exact hv.caps
  go_upto_region 4 with fail
  rw [HW5.out]
  clear HW5
  obtain ⟨z0, z1⟩ := hB5.cells
  obtain ⟨rr0, rr1⟩ := hR5.cells
  have f0 := hR5.thaw 0
  have f1 := hR5.thaw 1
  have HF3 : Hid (∀ b c d : List Int, b.length ≤ 16 → c.length ≤ 16 → d.length ≤ 16 → ∀ k, Few ⟨[b, c, d], k⟩) := by
    intro b c d hb hc hd k
    refine ⟨by simp, fun r hr => ?_⟩
    simp only [List.mem_cons, List.not_mem_nil, or_false] at hr
    rcases hr with rfl | rfl | rfl <;> assumption
  by_cases h4 : 4 ≤ kk
  · have n0 : ¬ (kk : Int) = 0 := by omega
    have n1 : ¬ (kk : Int) = 1 := by omega
    have n2 : ¬ (kk : Int) = 2 := by omega
    have n3 : ¬ (kk : Int) = 3 := by omega
    have HO : Hid (OwnSS w5 w3.heap.size w5.heap.size (.slice a 3 c) [r0, r1, r2]) := hO5
    have hRF := hR5
    have hLF := hL5
    have HF : Hid (Few ⟨[r0, r1, r2], added⟩) := hfew
    clear hO5 hfew l0 l1 l2
    go_wp2
    obtain ⟨q0, q1⟩ := (hRF.put (.slice a 3 c) (.int .i64 added)).cells
    refine bodyPost_ret (v := .agg #[.slice a 3 c, .int .i64 added]) (by simp [results, Tryd.results70, go_sem, q0, q1]) rfl ⟨_, _, ⟨[r0, r1, r2], added⟩, rfl, HF.out, (fun wz hkz hsz => by obtain ⟨p1, p2, p3, p4⟩ := ((HO.out.put2 hRF (.slice a 3 c) (.int .i64 added)).kept (w' := wz) (fun k h1 _ _ _ => hkz k (by omega))).at; simp only [Value.slice.injEq] at p3; obtain ⟨rfl, _, rfl⟩ := p3; exact p4), hLF.below (Below.put2 (Below.refl _ _) (by omega) _ _) hp⟩
  obtain ⟨m, hm⟩ : ∃ m, x % 3 = m := ⟨_, rfl⟩
  obtain ⟨q, hq⟩ : ∃ q, x % 16 = q := ⟨_, rfl⟩
  have hm3 : m < 3 := by omega
  have hq16 : q < 16 := by omega
  have tm : (x : Int).tmod 3 = (m : Int) := by rw [Int.tmod_eq_emod_of_nonneg (by omega)]; omega
  have tq : (x : Int).tmod 16 = (q : Int) := by rw [Int.tmod_eq_emod_of_nonneg (by omega)]; omega
  have em : (x : Int) % 3 = (m : Int) := by omega
  have eq : (x : Int) % 16 = (q : Int) := by omega
  have hm0 : (0 : Int) ≤ (m : Int) := by omega
  have hm1 : (m : Int) < 3 := by omega
  have hq0 : (0 : Int) ≤ (q : Int) := by omega
  have hq1 : (q : Int) < 16 := by omega
  rcases (by omega : kk = 0 ∨ kk = 1 ∨ kk = 2 ∨ kk = 3) with rfl | rfl | rfl | rfl
  · obtain ⟨z, hz⟩ : ∃ z, ([-1, 15, 16] : List Int).getD m 0 = z := ⟨_, rfl⟩
    have hcz : (w5.alloc (.cells #[.int .i64 (-1), .int .i64 15, .int .i64 16] 3)).cell? ⟨w5.heap.size, m, none⟩ = some (.int .i64 z) := by
      rw [cell_of_row _ _ m _ _ (0, 0) (heap_alloc_new w5 _), ← hz]
      rcases (by omega : m = 0 ∨ m = 1 ∨ m = 2) with rfl | rfl | rfl <;> rfl
    obtain ⟨r, hr, hrl⟩ : ∃ r : List Int, ([r0, r1, r2] : List (List Int))[m]? = some r ∧ r.length = 16 := by
      rcases (by omega : m = 0 ∨ m = 1 ∨ m = 2) with rfl | rfl | rfl
      · exact ⟨r0, rfl, l0⟩
      · exact ⟨r1, rfl, l1⟩
      · exact ⟨r2, rfl, l2⟩
    obtain ⟨w6, hw6⟩ : ∃ x, w5.alloc (.cells #[.int .i64 (-1), .int .i64 15, .int .i64 16] 3) = x := ⟨_, rfl⟩
    have hb6 : Below w5.heap.size w5 w6 := by rw [← hw6]; exact (Below.refl _ _).alloc (Nat.le_refl _) _
    have hB6 := hB5.on hb6
    have hR6 := hR5.on hb6
    have hO6 := (hO5.below hb6 (Nat.le_refl _)).up
    obtain ⟨g, g2, cap2, rfl, hc1, hc2, hf2, hlo2, hst, hne⟩ := hO5.cellOf hr (show q < r.length by omega)
    obtain ⟨gx, g3, cap3, e3, hd1, hd2, hdf2, hdlo2, hdst, hdne⟩ := hO6.cellOf hr (show q < r.length by omega)
    simp only [Option.some.injEq, Addr.mk.injEq, and_true] at e3
    subst e3
    obtain ⟨e4, e5⟩ : g3 = g2 ∧ cap3 = cap2 := by
      have h1 := (hb6.cell (p := ⟨g, m, none⟩) (World.block_lt_of_cell? _ _ hc1)).trans hc1
      rw [hd1] at h1
      simp only [Option.some.injEq, Value.slice.injEq, Addr.mk.injEq, and_true, true_and] at h1
      exact h1
    subst e4
    subst e5
    rw [hrl] at hc1 hd1
    have hO7 := hdst z
    have hB7 := hB6.far q (.int .i64 z) (hdne T _ _ hB6)
    have hRF := hR6.far q (.int .i64 z) (hdne R _ _ hR6)
    have hLF : Left w (w6.setCell ⟨g3, q, none⟩ (.int .i64 z)) p ca n cap := hL5.below ((hb6.mono hL5.2.2.size).setCell (show w.heap.size ≤ g3 by omega) _) hp
    obtain ⟨t0, t1⟩ := hB6.cells
    have HX : Hid (SkBox (w6.setCell ⟨g3, q, none⟩ (.int .i64 z)) T (.slice (some ⟨g, 0, none⟩) 3 c) (.int .i64 added) ∧ SkBox (w6.setCell ⟨g3, q, none⟩ (.int .i64 z)) R (.slice none 0 0) (.int .i64 0) ∧ Left w (w6.setCell ⟨g3, q, none⟩ (.int .i64 z)) p ca n cap ∧ OwnSS (w6.setCell ⟨g3, q, none⟩ (.int .i64 z)) w3.heap.size w6.heap.size (.slice (some ⟨g, 0, none⟩) 3 c) (([r0, r1, r2] : List (List Int)).set m (r.set q z))) := ⟨hB7, hRF, hLF, hO7⟩
    have HF : Hid (Few ⟨([r0, r1, r2] : List (List Int)).set m (r.set q z), added⟩ ∧ (([r0, r1, r2] : List (List Int)).set m (r.set q z)).length = 3) := by
      refine ⟨⟨by simp, fun y hy => ?_⟩, by simp⟩
      rcases List.mem_or_eq_of_mem_set hy with hy | rfl
      · simp only [List.mem_cons, List.not_mem_nil, or_false] at hy
        rcases hy with rfl | rfl | rfl <;> omega
      · rw [List.length_set]; omega
    rw [← hw6] at hd1 hd2 hdf2 t0 t1
    have HW6 : Hid (w5.alloc (.cells #[.int .i64 (-1), .int .i64 15, .int .i64 16] 3) = w6) := hw6
    clear hw6 hb6 hB6 hR6 hO6 hB7 hO7 hz hO5 hfew l0 l1 l2 h4 hm hq hst hne hdst hdne hRF hLF hR5 hL5 hB5 rr0 rr1 f0 f1 hrl hr
    go_wp2
    go_region_law (fail)
    all_goals (
      rw [HW6.out]
      have hXX := HX.out
      obtain ⟨wF, hwF⟩ : ∃ y, (w6.setCell ⟨g3, q, none⟩ (.int .i64 z)).drew = y := ⟨_, rfl⟩
      have hBF : SkBox wF T (.slice (some ⟨g, 0, none⟩) 3 c) (.int .i64 added) := by rw [← hwF]; exact hXX.1
      have hRF : SkBox wF R (.slice none 0 0) (.int .i64 0) := by rw [← hwF]; exact hXX.2.1
      have hLF : Left w wF p ca n cap := by rw [← hwF]; exact hXX.2.2.1.below ((bdrewS _).mono hXX.2.2.1.2.2.size) hp
      have hOF : OwnSS wF w3.heap.size w6.heap.size (.slice (some ⟨g, 0, none⟩) 3 c) (([r0, r1, r2] : List (List Int)).set m (r.set q z)) := by rw [← hwF]; exact hXX.2.2.2.below (bdrewS _) (Nat.le_refl _)
      rw [hwF]
      obtain ⟨p0, p1⟩ := hRF.cells
      have g0 := hRF.thaw 0
      have g1 := hRF.thaw 1
      obtain ⟨y0, y1⟩ := hBF.cells
      have HO : Hid (OwnSS wF w3.heap.size w6.heap.size (.slice (some ⟨g, 0, none⟩) 3 c) (([r0, r1, r2] : List (List Int)).set m (r.set q z))) := hOF
      clear hwF hBF hOF hXX HX HW6 hd1 hd2 hdf2 t0 t1 hc1 hc2 hf2 hcz z0 z1
      go_wp2
      obtain ⟨q0, q1⟩ := (hRF.put (.slice (some ⟨g, 0, none⟩) 3 c) (.int .i64 added)).cells
      refine bodyPost_ret (v := .agg #[.slice (some ⟨g, 0, none⟩) 3 c, .int .i64 added]) (by simp [results, Tryd.results70, go_sem, q0, q1]) rfl ⟨some ⟨g, 0, none⟩, c, ⟨([r0, r1, r2] : List (List Int)).set m (r.set q z), added⟩, by simp only [HF.out.2], HF.out.1, (fun wz hkz hsz => by obtain ⟨p1, p2, p3, p4⟩ := ((HO.out.put2 hRF (.slice (some ⟨g, 0, none⟩) 3 c) (.int .i64 added)).kept (w' := wz) (fun k h1 _ _ _ => hkz k (by omega))).at; simp only [Value.slice.injEq] at p3; obtain ⟨rfl, _, rfl⟩ := p3; exact p4), hLF.below (Below.put2 (Below.refl _ _) (by omega) _ _) hp⟩)
  · obtain ⟨z, hz⟩ : ∃ z, ([-1, 63, 64] : List Int).getD m 0 = z := ⟨_, rfl⟩
    have hcz : (w5.alloc (.cells #[.int .i64 (-1), .int .i64 63, .int .i64 64] 3)).cell? ⟨w5.heap.size, m, none⟩ = some (.int .i64 z) := by
      rw [cell_of_row _ _ m _ _ (0, 0) (heap_alloc_new w5 _), ← hz]
      rcases (by omega : m = 0 ∨ m = 1 ∨ m = 2) with rfl | rfl | rfl <;> rfl
    obtain ⟨w6, hw6⟩ : ∃ x, w5.alloc (.cells #[.int .i64 (-1), .int .i64 63, .int .i64 64] 3) = x := ⟨_, rfl⟩
    have hb6 : Below w5.heap.size w5 w6 := by rw [← hw6]; exact (Below.refl _ _).alloc (Nat.le_refl _) _
    have hB6 := hB5.on hb6
    have hR6 := hR5.on hb6
    have hO6 := (hO5.below hb6 (Nat.le_refl _)).up
    have hB7 := hB6.set1 (.int .i64 z)
    have hRF := hR6.far 1 (.int .i64 z) (show R ≠ T by omega)
    have hO7 := hO6.far hB6 1 (.int .i64 z)
    have hLF : Left w (w6.setCell ⟨T, 1, none⟩ (.int .i64 z)) p ca n cap := hL5.below ((hb6.mono hL5.2.2.size).setCell (show w.heap.size ≤ T by omega) _) hp
    have HO : Hid (OwnSS (w6.setCell ⟨T, 1, none⟩ (.int .i64 z)) w3.heap.size w6.heap.size (.slice a 3 c) [r0, r1, r2]) := hO7
    have tf1 := hB6.thaw 1
    have tc1 := hB6.cells.2
    obtain ⟨y0, y1⟩ := hB7.cells
    obtain ⟨p0, p1⟩ := hRF.cells
    have g0 := hRF.thaw 0
    have g1 := hRF.thaw 1
    have HF : Hid (Few ⟨[r0, r1, r2], z⟩) := HF3.out r0 r1 r2 (by omega) (by omega) (by omega) z
    rw [← hw6] at tf1 tc1 y0 y1 p0 p1 g0 g1
    have HW6 : Hid (w5.alloc (.cells #[.int .i64 (-1), .int .i64 63, .int .i64 64] 3) = w6) := hw6
    clear hw6 hb6 hB6 hR6 hO6 hB7 hO7 hz hO5 hfew l0 l1 l2 rr0 rr1 f0 f1 z0 z1 h4 hm hq
    go_wp2
    rw [HW6.out]
    obtain ⟨q0, q1⟩ := (hRF.put (.slice a 3 c) (.int .i64 z)).cells
    refine bodyPost_ret (v := .agg #[.slice a 3 c, .int .i64 z]) (by simp [results, Tryd.results70, go_sem, q0, q1]) rfl ⟨_, _, ⟨[r0, r1, r2], z⟩, rfl, HF.out, (fun wz hkz hsz => by obtain ⟨p1, p2, p3, p4⟩ := ((HO.out.put2 hRF (.slice a 3 c) (.int .i64 z)).kept (w' := wz) (fun k h1 _ _ _ => hkz k (by omega))).at; simp only [Value.slice.injEq] at p3; obtain ⟨rfl, _, rfl⟩ := p3; exact p4), hLF.below (Below.put2 (Below.refl _ _) (by omega) _ _) hp⟩
  · obtain ⟨g, ga⟩ : ∃ g, a = some ⟨g, 0, none⟩ := by obtain ⟨g, _, _, e, _⟩ := cut_first hO5 (by omega); exact ⟨g, e⟩
    subst ga
    have hB7 := hB5.set0 (.slice (some ⟨g, 1, none⟩) 2 (c - 1))
    have hRF := hR5.far 0 (.slice (some ⟨g, 1, none⟩) 2 (c - 1)) (show R ≠ T by omega)
    have hO7 := hO5.far hB5 0 (.slice (some ⟨g, 1, none⟩) 2 (c - 1))
    have hLF : Left w (w5.setCell ⟨T, 0, none⟩ (.slice (some ⟨g, 1, none⟩) 2 (c - 1))) p ca n cap := hL5.below ((Below.refl _ _).setCell (show w.heap.size ≤ T by omega) _) hp
    have HO : Hid (OwnSS (w5.setCell ⟨T, 0, none⟩ (.slice (some ⟨g, 1, none⟩) 2 (c - 1))) w3.heap.size w5.heap.size (.slice (some ⟨g, 0, none⟩) 3 c) [r0, r1, r2]) := hO7
    have tf0 := hB5.thaw 0
    obtain ⟨y0, y1⟩ := hB7.cells
    obtain ⟨p0, p1⟩ := hRF.cells
    have g0 := hRF.thaw 0
    have g1 := hRF.thaw 1
    have HF : Hid (Few ⟨[r1, r2], added⟩) := ⟨by simp, fun r hr => by simp only [List.mem_cons, List.not_mem_nil, or_false] at hr; rcases hr with rfl | rfl <;> omega⟩
    clear hB7 hO7 hO5 hfew l0 l1 l2 rr0 rr1 f0 f1 h4 hm hq
    go_wp2
    obtain ⟨q0, q1⟩ := (hRF.put (.slice (some ⟨g, 1, none⟩) 2 (c - 1)) (.int .i64 added)).cells
    refine bodyPost_ret (v := .agg #[.slice (some ⟨g, 1, none⟩) 2 (c - 1), .int .i64 added]) (by simp [results, Tryd.results70, go_sem, q0, q1]) rfl ⟨_, _, ⟨[r1, r2], added⟩, rfl, HF.out, (fun wz hkz hsz => by obtain ⟨p1, p2, p3, p4⟩ := ((HO.out.put2 hRF (.slice (some ⟨g, 1, none⟩) 2 (c - 1)) (.int .i64 added)).kept (w' := wz) (fun k h1 _ _ _ => hkz k (by omega))).at; simp only [Value.slice.injEq] at p3; obtain ⟨rfl, _, rfl⟩ := p3; exact p4.tail), hLF.below (Below.put2 (Below.refl _ _) (by omega) _ _) hp⟩
  · obtain ⟨g, g0, c0, rfl, hgl, hc0, hf0, hcl, _, hcut⟩ := cut_first hO5 (by omega)
    rw [l0] at hc0 hcl hcut
    have hgT : g ≠ T := by
      intro e
      subst e
      obtain ⟨vs, hv, _⟩ := hO5
      rcases hv.2 with ⟨e5, _⟩ | ⟨g6, cap6, cur6, e6, _, hg6, _⟩
      · simp at e5
      · simp only [Value.slice.injEq, Option.some.injEq, Addr.mk.injEq, and_true] at e6
        obtain ⟨rfl, _⟩ := e6
        have := hB5.symm.trans hg6
        simp at this
    have hB7 := hB5.far 0 (.slice (some ⟨g0, 1, none⟩) 15 (c0 - 1)) (fun e => hgT e.symm)
    have hRF := hR5.far 0 (.slice (some ⟨g0, 1, none⟩) 15 (c0 - 1)) (show R ≠ g by omega)
    have hLF : Left w (w5.setCell ⟨g, 0, none⟩ (.slice (some ⟨g0, 1, none⟩) 15 (c0 - 1))) p ca n cap := hL5.below ((Below.refl _ _).setCell (show w.heap.size ≤ g by omega) _) hp
    have HCUT : Hid (∀ w', (∀ k, w3.heap.size ≤ k → k ≠ g → w'.heap[k]? = w5.heap[k]?) → w'.cell? ⟨g, 0, none⟩ = some (.slice (some ⟨g0, 1, none⟩) 15 (c0 - 1)) → w'.cell? ⟨g, 1, none⟩ = w5.cell? ⟨g, 1, none⟩ → w'.cell? ⟨g, 2, none⟩ = w5.cell? ⟨g, 2, none⟩ → w5.heap.size ≤ w'.heap.size → SSAt w' (some ⟨g, 0, none⟩) [r0.tail, r1, r2] w'.heap.size) := hcut
    have HXX : Hid (SkBox (w5.setCell ⟨g, 0, none⟩ (.slice (some ⟨g0, 1, none⟩) 15 (c0 - 1))) T (.slice (some ⟨g, 0, none⟩) 3 c) (.int .i64 added) ∧ SkBox (w5.setCell ⟨g, 0, none⟩ (.slice (some ⟨g0, 1, none⟩) 15 (c0 - 1))) R (.slice none 0 0) (.int .i64 0) ∧ Left w (w5.setCell ⟨g, 0, none⟩ (.slice (some ⟨g0, 1, none⟩) 15 (c0 - 1))) p ca n cap) := ⟨hB7, hRF, hLF⟩
    have HF : Hid (Few ⟨[r0.tail, r1, r2], added⟩) := HF3.out r0.tail r1 r2 (by simp; omega) (by omega) (by omega) added
    have hc16 : 16 ≤ c0 := hcl
    have hc1n : ¬ c0 = 1 := by omega
    have HC0 : Hid (w5.cell? ⟨g, 0, none⟩ = some (.slice (some ⟨g0, 0, none⟩) 16 c0)) := hc0
    clear hcut hB7 hRF hLF hO5 hfew l0 l1 l2 rr0 rr1 f0 f1 h4 hm hq hR5 hL5 hB5
    go_wp2
    go_region_law (fail)
    all_goals (
      have hXX := HXX.out
      obtain ⟨wF, hwF⟩ : ∃ y, (w5.setCell ⟨g, 0, none⟩ (.slice (some ⟨g0, 1, none⟩) 15 (c0 - 1))).drew = y := ⟨_, rfl⟩
      have hBF : SkBox wF T (.slice (some ⟨g, 0, none⟩) 3 c) (.int .i64 added) := by rw [← hwF]; exact hXX.1
      have hRF : SkBox wF R (.slice none 0 0) (.int .i64 0) := by rw [← hwF]; exact hXX.2.1
      have hLF : Left w wF p ca n cap := by rw [← hwF]; exact hXX.2.2.below ((bdrewS _).mono hXX.2.2.2.2.size) hp
      have HS : Hid (∀ u v : Value, SSK ((wF.setCell ⟨R, 0, none⟩ u).setCell ⟨R, 1, none⟩ v) w.heap.size (some ⟨g, 0, none⟩) [r0.tail, r1, r2]) := by
        intro u v wz hkz hszz
        have kg : wz.heap[g]? = wF.heap[g]? := (hkz g (by omega)).trans (put2_other wF R u v g (by omega))
        have cg : ∀ i, wz.cell? ⟨g, i, none⟩ = (w5.setCell ⟨g, 0, none⟩ (.slice (some ⟨g0, 1, none⟩) 15 (c0 - 1))).cell? ⟨g, i, none⟩ := by
          intro i
          rw [World.cell?_of_block kg, ← hwF]
          rfl
        refine HCUT.out _ (fun k hk hn => ?_) ?_ ?_ ?_ ?_
        · rw [hkz k (by omega), put2_other wF R u v k (by omega), ← hwF]
          exact Below.heap_setCell _ _ _ _ (by exact hn)
        · rw [cg]
          exact World.cell?_setCell_same _ _ _ HC0.out
        · rw [cg]
          exact World.cell?_setCell_other _ _ _ _ (by simp)
        · rw [cg]
          exact World.cell?_setCell_other _ _ _ _ (by simp)
        · refine Nat.le_trans ?_ hszz
          rw [put2_size, ← hwF]
          simp
      rw [hwF]
      obtain ⟨p0, p1⟩ := hRF.cells
      have g0' := hRF.thaw 0
      have g1' := hRF.thaw 1
      obtain ⟨y0, y1⟩ := hBF.cells
      clear hwF hBF hXX HXX HCUT HC0 hc0 hf0 z0 z1
      go_wp2
      obtain ⟨q0, q1⟩ := (hRF.put (.slice (some ⟨g, 0, none⟩) 3 c) (.int .i64 added)).cells
      refine bodyPost_ret (v := .agg #[.slice (some ⟨g, 0, none⟩) 3 c, .int .i64 added]) (by simp [results, Tryd.results70, go_sem, q0, q1]) rfl ⟨some ⟨g, 0, none⟩, c, ⟨[r0.tail, r1, r2], added⟩, rfl, HF.out, HS.out _ _, hLF.below (Below.put2 (Below.refl _ _) (by omega) _ _) hp⟩)
end Go.Proofs.YtbcjkinalghokafDoor
