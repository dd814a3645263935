/- The law on streams that have ended, walked. Written by mkended.py. -/
import Derived.Test.YtmpnjijbahjinafStmFn
import Derived.Test.YtmpnjijbahjinafStmEndImpl
import Derived.Test.YtmpnjijbahjinafStmPutImpl
import Derived.Test.YtmpnjijbahjinafStmLeaveImpl
import Derived.Test.YtmpnjijbahjinafStmJoinImpl
import Derived.Test.YtmpnjijbahjinafStmReadImpl
import Derived.Deep.RegionLaw
import Derived.Deep.DeepCutAuto
namespace Go.Proofs.Ytmpnjijbahjinaf
open Go.RowKit Go.Sort

theorem end_is {S E : Stm} {b ok : Bool} (h : DrM S) (hE : endM S b = (E, ok)) : ok = (S.st == 1) ∧ E.st ≠ 1 ∧ E.text = S.text ∧ E.rd = S.rd := by
  unfold endM at hE
  rw [h.1] at hE
  by_cases hs : S.st = 1
  · rw [decide_eq_true hs] at hE
    simp only [Bool.and_self, if_true, Prod.mk.injEq] at hE
    obtain ⟨rfl, rfl⟩ := hE
    refine ⟨by rw [hs]; rfl, ?_, rfl, rfl⟩
    cases b <;> simp
  · rw [decide_eq_false hs] at hE
    simp only [Bool.and_false, Bool.false_eq_true, if_false, Prod.mk.injEq] at hE
    obtain ⟨rfl, rfl⟩ := hE
    exact ⟨by simp [hs], hs, rfl, rfl⟩
theorem put_not {S : Stm} {part : ByteArray} (h : S.st ≠ 1) : putM S part = (S, false) := by
  unfold putM
  rw [decide_eq_false h]
  simp
theorem end_not {S : Stm} {br : Bool} (h : S.st ≠ 1) : endM S br = (S, false) := by
  unfold endM
  rw [decide_eq_false h]
  simp
set_option maxRecDepth 100000 in
set_option maxHeartbeats 8000000 in
theorem ended_walk (ca : Option Addr) (n cap : Nat) (w : World) (hcode : CodeAt w ca n w.heap.size) (hlen : n ≤ maxLen) :
    Calls Try.prog 5 #[.slice ca n cap] w fun e w' => e = .returned (.bool true) ∧ Below w.heap.size w w' := by
  unfold maxLen at hlen
  have cb := big_any ca n cap w (by omega)
  by_cases hn : n ≤ 1048576
  case neg =>
    rw [show decide (1048576 < n) = true by simp; omega] at cb
    go_enter Try.func5, Try.ntmps5
    go_wp2_with fail
    refine cb.mono ?_
    rintro e w' ⟨rfl, rfl⟩
    go_wp2_with fail
    go_ret
    exact ⟨rfl, Below.refl _ _⟩
  rw [show decide (1048576 < n) = false by simp; omega] at cb
  have HCD : Hid (∀ W, Below w.heap.size w W → CodeAt W ca n W.heap.size) := fun W h => hcode.onM h
  have cD := drawStream_any w ca n cap hcode hn
  clear hcode
  go_enter Try.func5, Try.ntmps5
  go_wp2_with fail
  refine cb.mono ?_
  rintro e w' ⟨rfl, rfl⟩
  clear cb
  go_wp2_with fail
  refine cD.mono ?_
  rintro e w1 ⟨v, S, rfl, hDr, ho1, hb1⟩
  obtain ⟨a, c, rfl, _⟩ := ho1.at
  have hS2 := StV.new ho1 hb1.size
  obtain ⟨T, hT⟩ : ∃ T, w1.heap.size = T := ⟨_, rfl⟩
  obtain ⟨w2, hw2⟩ : ∃ x, w1.alloc (.cells #[.int .i64 S.st, .string S.text, .slice a S.rd.length c] 26) = x := ⟨_, rfl⟩
  have hb2 : Below w.heap.size w w2 := by rw [← hw2]; exact hb1.alloc hb1.size _
  have HW2 : Hid (w1.alloc (.cells #[.int .i64 S.st, .string S.text, .slice a S.rd.length c] 26) = w2) := hw2
  rw [hw2, hT] at hS2
  have cP := drawPlaces_any w2 ca n cap (HCD.out w2 hb2) hn
  clear hw2 ho1 cD
  go_wp2_with fail
  rw [HW2.out]
  refine cP.mono ?_
  rintro e w3 ⟨vp, l, rfl, hl12, hlz, hown, hb3⟩
  have hS3 := hS2.on hb3
  have hbw3 := hb2.trans (hb3.mono hb2.size)
  obtain ⟨pa, pc, rfl, hcells⟩ := hown.shape
  have hln : (ints l).length = 12 := by rw [ints_length]; exact hl12
  rw [hln]
  clear cP HW2 hS2 hb2 hb3 HCD
  obtain ⟨g, rfl, hz0, _, _, hg⟩ := hcells 0 (by rw [hln]; decide)
  rw [ints_at (by omega)] at hz0
  obtain ⟨q0, hq0⟩ : ∃ x, l[0] = x := ⟨_, rfl⟩
  rw [hq0] at hz0
  obtain ⟨bq, hbq⟩ : ∃ b : Bool, (q0.tmod 2 == 0) = b := ⟨_, rfl⟩
  obtain ⟨⟨E, oke⟩, hE⟩ : ∃ R, endM S bq = R := ⟨_, rfl⟩
  obtain ⟨e1, e2, e3, e4⟩ := end_is hDr hE
  have hDE : DrM E := by have := end_dr (br := bq) hDr; rw [hE] at this; exact this
  have hSl := hDr.len
  have hSt := hDr.text
  have CI : Hid (∀ W, Below w3.heap.size w3 W → Calls Try.prog 19 #[.agg #[.int .i64 S.st, .string S.text, .slice a S.rd.length c], .bool bq] W fun e w' => ∃ b d, e = .returned (.tuple #[.agg #[.int .i64 E.st, .string E.text, .slice b E.rd.length d], .bool oke]) ∧ MOwn w' W.heap.size (.agg #[.int .i64 E.st, .string E.text, .slice b E.rd.length d]) E ∧ Below W.heap.size W w') := fun W h => by
    have h0 := implStreamEnd_any W a c S bq (hS3.on h).at (by omega) (by omega)
    rw [hE] at h0
    refine h0.mono ?_
    rintro e w' ⟨v, rfl, ho, hb⟩
    obtain ⟨b, d, rfl, _⟩ := ho.at
    exact ⟨b, d, rfl, ho, hb⟩
  have HS3 : Hid (∀ W, Below w3.heap.size w3 W → StV W w.heap.size T a c S) := fun W h => hS3.on h
  have HBW : Hid (Below w.heap.size w w3) := hbw3
  have HE : Hid (DrM E ∧ E.st ≠ 1 ∧ E.text = S.text ∧ oke = (S.st == 1)) := ⟨hDE, e2, e3, e1⟩
  have hbo : Below w3.heap.size w3 w3 := Below.refl _ _
  have hdr : Below w3.heap.size w3 w3.drew := ⟨rfl, rfl, rfl, Nat.le_refl _, fun _ _ => rfl⟩
  have hza : Below w3.heap.size w3 (w3.alloc (.cells #[.int .i64 0, .string ⟨#[]⟩, .slice none 0 0] 26)) := (Below.refl _ _).alloc (Nat.le_refl _) _
  have hzd : Below w3.heap.size w3 ((w3.alloc (.cells #[.int .i64 0, .string ⟨#[]⟩, .slice none 0 0] 26)).drew) := hza.trans ⟨rfl, rfl, rfl, Nat.le_refl _, fun _ _ => rfl⟩
  obtain ⟨x0, x1, x2⟩ := (HS3.out w3 hbo).box.cells
  obtain ⟨z0, z1, z2⟩ := (HS3.out _ hza).box.cells
  have zq : (w3.alloc (.cells #[.int .i64 0, .string ⟨#[]⟩, .slice none 0 0] 26)).cell? ⟨g, 0, none⟩ = some (.int .i64 q0) := (hza.cell (World.block_lt_of_cell? w3 _ hz0)).trans hz0
  clear hS3 hbw3 hDr hE e1 e2 e3 e4 hDE hown hcells hlz hl12 hln hq0
  go_wp2_with fail
  go_cut [5, 6] (fun pn gn wc => ∃ (N : Nat) (b : Option Addr) (d : Nat), pn = .pointer (some ⟨N, 0, none⟩) ∧ gn = .bool oke ∧ StV wc w3.heap.size N b d E ∧ Below w3.heap.size w3 wc)
  case first =>
    go_region_law (go_simp; go_at_call 19; first
      | ((with_reducible refine Calls.mono (CI.out w3.drew hdr) ?_); rintro e wC ⟨b, d, rfl, hoC, hbC⟩; have hC1 : Below w3.heap.size w3 wC := hdr.trans hbC)
      | ((with_reducible refine Calls.mono (CI.out ((w3.alloc (.cells #[.int .i64 0, .string ⟨#[]⟩, .slice none 0 0] 26)).drew) hzd) ?_); rintro e wC ⟨b, d, rfl, hoC, hbC⟩; have hz : MBox wC w3.heap.size (.int .i64 0) (.string ⟨#[]⟩) (.slice none 0 0) := MBox.on (w := (w3.alloc (.cells #[.int .i64 0, .string ⟨#[]⟩, .slice none 0 0] 26)).drew) (heap_alloc_new w3 _) hbC; have hC1 : Below w3.heap.size w3 wC := hzd.trans (hbC.mono hzd.size); obtain ⟨u0, u1, u2⟩ := hz.cells; obtain ⟨f0, f1, f2⟩ := (⟨hz.thaw 0, hz.thaw 1, hz.thaw 2⟩ : _ ∧ _ ∧ _))
      | ((with_reducible refine Calls.mono (CI.out (w3.drew.alloc (.cells #[.int .i64 0, .string ⟨#[]⟩, .slice none 0 0] 26)) (hdr.alloc hdr.size _)) ?_); rintro e wC ⟨b, d, rfl, hoC, hbC⟩; have hz : MBox wC w3.heap.size (.int .i64 0) (.string ⟨#[]⟩) (.slice none 0 0) := MBox.on (w := w3.drew.alloc (.cells #[.int .i64 0, .string ⟨#[]⟩, .slice none 0 0] 26)) (heap_alloc_new w3.drew _) hbC; have hC1 : Below w3.heap.size w3 wC := (hdr.alloc hdr.size _).trans (hbC.mono (hdr.alloc hdr.size _).size); obtain ⟨u0, u1, u2⟩ := hz.cells; obtain ⟨f0, f1, f2⟩ := (⟨hz.thaw 0, hz.thaw 1, hz.thaw 2⟩ : _ ∧ _ ∧ _)))
    all_goals go_wp2_with fail
    all_goals go_meet
    all_goals first
      | exact ⟨_, b, d, rfl, rfl, StV.first hoC hz (by first | exact hdr.size | exact hzd.size | exact (hdr.alloc hdr.size _).size) (Nat.le_refl _), Below.put3M hC1 (Nat.le_refl _) _ _ _⟩
      | exact ⟨_, b, d, rfl, rfl, StV.last hoC hdr.size hC1.size, hC1.alloc hC1.size _⟩
  case rest =>
    obtain ⟨N, b, d, rfl, rfl, hN5, hb5⟩ := hcut
    obtain ⟨w5, hw5⟩ : ∃ x, wc = x := ⟨_, rfl⟩
    rw [hw5] at hN5 hb5 ⊢
    obtain ⟨hDE, hE1, hEt0, hEo⟩ := HE.out
    have HEt : Hid (E.text = S.text) := hEt0
    clear hEt0
    subst hEo
    have hEl := hDE.len
    have hEs := hDE.text
    have HV : Hid (∀ W, Below w5.heap.size w5 W → StV W w.heap.size T a c S ∧ StV W w3.heap.size N b d E) := fun W h => ⟨HS3.out W (hb5.trans (h.mono hb5.size)), hN5.on h⟩
    have HB5 : Hid (Below w.heap.size w w5) := HBW.out.trans (hb5.mono HBW.out.size)
    have hpx := put_not (part := ⟨#[120]⟩) hE1
    have hex := end_not (br := false) hE1
    have CPut : Hid (∀ W, Below w5.heap.size w5 W → Calls Try.prog 11 #[.agg #[.int .i64 E.st, .string E.text, .slice b E.rd.length d], .string ⟨#[120]⟩] W fun e w' => ∃ b' d', e = .returned (.tuple #[.agg #[.int .i64 E.st, .string E.text, .slice b' E.rd.length d'], .bool false]) ∧ Below W.heap.size W w') := fun W h => by
      have h0 := implStreamPut_any W b d E ⟨#[120]⟩ (by decide) (HV.out W h).2.at (by omega) (by omega)
      rw [hpx] at h0
      refine h0.mono ?_
      rintro e w' ⟨v, rfl, ho, hb⟩
      obtain ⟨b', d', rfl, _⟩ := ho.at
      exact ⟨b', d', rfl, hb⟩
    have CEnd : Hid (∀ W, Below w5.heap.size w5 W → Calls Try.prog 19 #[.agg #[.int .i64 E.st, .string E.text, .slice b E.rd.length d], .bool false] W fun e w' => ∃ b' d', e = .returned (.tuple #[.agg #[.int .i64 E.st, .string E.text, .slice b' E.rd.length d'], .bool false]) ∧ Below W.heap.size W w') := fun W h => by
      have h0 := implStreamEnd_any W b d E false (HV.out W h).2.at (by omega) (by omega)
      rw [hex] at h0
      refine h0.mono ?_
      rintro e w' ⟨v, rfl, ho, hb⟩
      obtain ⟨b', d', rfl, _⟩ := ho.at
      exact ⟨b', d', rfl, hb⟩
    obtain ⟨hj, hRd⟩ := join_last hDE (id := 8) (by decide) (by decide)
    have hjo := hRd.ok
    have hlv : leaveM E 8 = E := leave_none fun r hr => by have := hDE.2 r hr; omega
    have CLv : Hid (∀ W, Below w5.heap.size w5 W → Calls Try.prog 10 #[.agg #[.int .i64 E.st, .string E.text, .slice b E.rd.length d], .int .i64 8] W fun e w' => ∃ b' d', e = .returned (.agg #[.int .i64 E.st, .string E.text, .slice b' E.rd.length d']) ∧ PAt w' b' E.rd w'.heap.size ∧ Below W.heap.size W w') := fun W h => by
      have h0 := implStreamLeave_any W b d E 8 (HV.out W h).2.at (by omega) (by omega)
      rw [hlv] at h0
      refine h0.mono ?_
      rintro e w' ⟨v, rfl, ho, hb⟩
      obtain ⟨b', d', rfl, hA⟩ := ho.at
      exact ⟨b', d', rfl, hA, hb⟩
    rw [hlv] at hj
    obtain ⟨J, hJ⟩ : ∃ J : Stm, (⟨E.st, E.text, E.rd ++ [(8, 0)]⟩ : Stm) = J := ⟨_, rfl⟩
    have hJl : J.rd.length ≤ 1048576 := by rw [← hJ]; simp; omega
    have hJt : J.text.size ≤ 1048576 := by rw [← hJ]; dsimp only; omega
    rw [hJ] at hj hRd
    have CJn : Hid (∀ W b' d', PAt W b' E.rd W.heap.size → Calls Try.prog 9 #[.agg #[.int .i64 E.st, .string E.text, .slice b' E.rd.length d'], .int .i64 8] W fun e w' => ∃ b'' d'', e = .returned (.tuple #[.agg #[.int .i64 J.st, .string J.text, .slice b'' J.rd.length d''], .bool true]) ∧ MOwn w' W.heap.size (.agg #[.int .i64 J.st, .string J.text, .slice b'' J.rd.length d'']) J ∧ Below W.heap.size W w') := fun W b' d' h => by
      have h0 := implStreamJoin_any W b' d' E 8 h (by omega) (by omega)
      rw [hj] at h0
      refine h0.mono ?_
      rintro e w' ⟨v, rfl, ho, hb⟩
      obtain ⟨b'', d'', rfl, _⟩ := ho.at
      exact ⟨b'', d'', rfl, ho, hb⟩
    have hrd := (hRd.read 1000 J.text.size (by rw [← hJ]; dsimp only; omega)).1
    have hJx : J.text.extract 0 (0 + J.text.size) = S.text := by rw [← hJ]; dsimp only; rw [Nat.zero_add, HEt.out]; simp
    rw [hJx] at hrd
    obtain ⟨⟨K, kt, ko⟩, hK⟩ : ∃ R, readM J 8 1000 = R := ⟨_, rfl⟩
    have hkt : kt = S.text := by have := hK.symm.trans hrd; simp only [Prod.mk.injEq] at this; exact this.2.1
    have hko : ko = true := by have := hK.symm.trans hrd; simp only [Prod.mk.injEq] at this; exact this.2.2
    subst hkt hko
    have CRd : Hid (∀ W b' d', PAt W b' J.rd W.heap.size → Calls Try.prog 13 #[.agg #[.int .i64 J.st, .string J.text, .slice b' J.rd.length d'], .int .i64 8, .int .i64 1000] W fun e w' => ∃ b'' d'', e = .returned (.tuple #[.agg #[.int .i64 K.st, .string K.text, .slice b'' K.rd.length d''], .string S.text, .bool true]) ∧ Below W.heap.size W w') := fun W b' d' h => by
      have h0 := implStreamRead_any W b' d' J 8 1000 h hJt hJl
      rw [hK] at h0
      refine h0.mono ?_
      rintro e w' ⟨v, rfl, ho, hb⟩
      obtain ⟨b'', d'', rfl, _⟩ := ho.at
      exact ⟨b'', d'', rfl, hb⟩
    have hb55 : Below w5.heap.size w5 w5 := Below.refl _ _
    clear hw5 CI x0 x1 x2 z0 z1 z2 zq hdr hza hzd hbo hN5 hb5 HS3 hDE hE1 hpx hex hj hRd hjo hlv hrd hK hJ hz0 hJx
    obtain ⟨y0, y1, y2⟩ := (HV.out w5 hb55).2.box.cells
    go_wp2_with fail
    refine (CPut.out w5 hb55).mono ?_
    rintro e w6 ⟨b6, d6, rfl, hb6⟩
    obtain ⟨w7, hw7⟩ : ∃ x, w6.alloc (.cells #[.int .i64 E.st, .string E.text, .slice b6 E.rd.length d6] 26) = x := ⟨_, rfl⟩
    have hb7 : Below w5.heap.size w5 w7 := by rw [← hw7]; exact hb6.alloc hb6.size _
    have HW7 : Hid (w6.alloc (.cells #[.int .i64 E.st, .string E.text, .slice b6 E.rd.length d6] 26) = w7) := hw7
    clear y0 y1 y2
    obtain ⟨y0, y1, y2⟩ := (HV.out w7 hb7).2.box.cells
    rw [← hw7] at y0 y1 y2
    clear hw7 hb6 CPut
    go_wp2_with fail
    rw [HW7.out] at y0 y1 y2 ⊢
    refine (CEnd.out w7 hb7).mono ?_
    rintro e w8 ⟨b8, d8, rfl, hb8⟩
    obtain ⟨w9, hw9⟩ : ∃ x, w8.alloc (.cells #[.int .i64 E.st, .string E.text, .slice b8 E.rd.length d8] 26) = x := ⟨_, rfl⟩
    have hb8' := hb7.trans (hb8.mono hb7.size)
    have hb9 : Below w5.heap.size w5 w9 := by rw [← hw9]; exact hb8'.alloc hb8'.size _
    have HW9 : Hid (w8.alloc (.cells #[.int .i64 E.st, .string E.text, .slice b8 E.rd.length d8] 26) = w9) := hw9
    clear y0 y1 y2
    obtain ⟨y0, y1, y2⟩ := (HV.out w9 hb9).2.box.cells
    obtain ⟨x0, x1, x2⟩ := (HV.out w9 hb9).1.box.cells
    rw [HEt.out] at y1
    rw [← hw9] at y0 y1 y2 x0 x1 x2
    clear hw9 hb8 hb8' CEnd HW7
    have CLv2 : Hid (∀ W, Below w5.heap.size w5 W → Calls Try.prog 10 #[.agg #[.int .i64 E.st, .string S.text, .slice b E.rd.length d], .int .i64 8] W fun e w' => ∃ b' d', e = .returned (.agg #[.int .i64 E.st, .string E.text, .slice b' E.rd.length d']) ∧ PAt w' b' E.rd w'.heap.size ∧ Below W.heap.size W w') := by rw [← HEt.out]; exact CLv.out
    go_wp2_with fail
    rw [HW9.out] at y0 y1 y2 x0 x1 x2 ⊢
    refine (CLv2.out w9 hb9).mono ?_
    rintro e w10 ⟨b10, d10, rfl, hA10, hb10⟩
    have hb10' := hb9.trans (hb10.mono hb9.size)
    clear y0 y1 y2 x0 x1 x2 CLv2 CLv HW9
    go_wp2_with fail
    refine (CJn.out w10 b10 d10 hA10).mono ?_
    rintro e w11 ⟨b11, d11, rfl, ho11, hb11⟩
    have hb11' := hb10'.trans (hb11.mono hb10'.size)
    obtain ⟨w12, hw12⟩ : ∃ x, w11.alloc (.cells #[.int .i64 J.st, .string J.text, .slice b11 J.rd.length d11] 26) = x := ⟨_, rfl⟩
    have hb12 : Below w5.heap.size w5 w12 := by rw [← hw12]; exact hb11'.alloc hb11'.size _
    have hJ12 : StV w12 w10.heap.size w11.heap.size b11 d11 J := by rw [← hw12]; exact StV.new ho11 hb11.size
    have HW12 : Hid (w11.alloc (.cells #[.int .i64 J.st, .string J.text, .slice b11 J.rd.length d11] 26) = w12) := hw12
    obtain ⟨y0, y1, y2⟩ := hJ12.box.cells
    rw [← hw12] at y0 y1 y2
    clear hw12 ho11 hA10 hb11 hb10 hb10' hb11' CJn
    go_wp2_with fail
    rw [HW12.out] at y0 y1 y2 ⊢
    refine (CRd.out w12 b11 d11 hJ12.at).mono ?_
    rintro e w13 ⟨b13, d13, rfl, hb13⟩
    have hb13' := hb12.trans (hb13.mono hb12.size)
    obtain ⟨w14, hw14⟩ : ∃ x, w13.alloc (.cells #[.int .i64 K.st, .string K.text, .slice b13 K.rd.length d13] 26) = x := ⟨_, rfl⟩
    have hb14 : Below w5.heap.size w5 w14 := by rw [← hw14]; exact hb13'.alloc hb13'.size _
    have HW14 : Hid (w13.alloc (.cells #[.int .i64 K.st, .string K.text, .slice b13 K.rd.length d13] 26) = w14) := hw14
    obtain ⟨x0, x1, x2⟩ := (HV.out w14 hb14).1.box.cells
    rw [← hw14] at x0 x1 x2
    clear hw14 y0 y1 y2 CRd hJ12 hb13 hb13' hb12 HW12
    go_wp2_with fail
    go_ret
    refine ⟨by simp, ?_⟩
    rw [HW14.out]
    exact HB5.out.trans (hb14.mono HB5.out.size)
end Go.Proofs.Ytmpnjijbahjinaf
