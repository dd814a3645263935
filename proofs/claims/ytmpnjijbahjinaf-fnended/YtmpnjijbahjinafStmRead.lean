/- The other text's StreamRead. Written by mkstmread.py. -/
import Derived.Test.YtmpnjijbahjinafStmCopy
import Derived.Test.YtmpnjijbahjinafStmOkSpec
import Derived.Test.YtmpnjijbahjinafStmAt
namespace Go.Proofs.Ytmpnjijbahjinaf
open Go.RowKit Go.Sort

theorem rdOk_at {t : Nat} {l : List (Int × Int)} {n : Nat} (h : rdOkTo t l n = true) (j : Nat) (hj : j < n) (hl : j < l.length) : 0 ≤ l[j].2 ∧ l[j].2 ≤ t := by
  unfold rdOkTo at h
  rw [List.all_eq_true] at h
  have := h j (List.mem_range.2 hj)
  simp only [Bool.and_eq_true, inI, decide_eq_true_eq] at this
  have h2 := this.2
  rw [show l.getD j (0, 0) = l[j] by simp [List.getD, List.getElem?_eq_getElem hl]] at h2
  exact h2
theorem prl_set2 (L : List (Int × Int)) (j : Nat) (hj : j < L.length) (y : Int) : (prl L).set (j * 2 + 1) (.int .i64 y) = prl (L.set j (L[j].1, y)) := by
  rw [← prl_set L j (L[j].1, y)]
  have h := (prl_at L j hj).1
  rw [show 2 * j = j * 2 by omega] at h
  obtain ⟨h1, h2⟩ := List.getElem?_eq_some_iff.1 h
  have e : (prl L).set (j * 2) (.int .i64 L[j].1) = prl L := by rw [← h2]; exact List.set_getElem_self h1
  dsimp only
  rw [e]
theorem OwnP.stored2 {w : World} {base : Nat} {e : TypeId} {g n cap : Nat} {L : List (Int × Int)} (h : OwnP w base e (.slice (some ⟨g, 0, none⟩) n cap) L) (hn : n = L.length) (j : Nat) (hj : j < L.length) (y : Int) :
    OwnP (w.setCell ⟨g, j * 2 + 1, none⟩ (.int .i64 y)) base e (.slice (some ⟨g, 0, none⟩) n cap) (L.set j (L[j].1, y)) := by
  subst hn
  have h0 := World.ownsRow.stored h (j * 2 + 1) (.int .i64 y)
  rw [prl_set2 L j hj] at h0
  unfold OwnP
  rw [List.length_set]
  exact h0.1
theorem MOwn.partR {w : World} {base : Nat} {a b v1 : Value} {S : Stm} (h : MOwn w base (.agg #[a, b, v1]) S) : OwnP w base 38 v1 S.rd := by
  obtain ⟨v, hv, h1⟩ := h
  simp only [Value.agg.injEq, Array.mk.injEq, List.cons.injEq, and_true] at hv
  obtain ⟨_, _, rfl⟩ := hv
  exact h1
theorem OwnP.first {w : World} {base : Nat} {e : TypeId} {a : Option Addr} {n c : Nat} {L : List (Int × Int)} (h : OwnP w base e (.slice a n c) L) (hl : 0 < L.length) : ∃ g, a = some ⟨g, 0, none⟩ ∧ base ≤ g ∧ n = L.length := by
  rcases h.2 with ⟨hx, hn⟩ | ⟨g, cap, cur, hx, hb, _⟩
  · omega
  · simp only [Value.slice.injEq] at hx
    exact ⟨g, hx.1, hb, hx.2.1⟩
set_option maxRecDepth 100000 in
set_option maxHeartbeats 4000000 in
theorem specStreamRead_any (w : World) (a : Option Addr) (c : Nat) (S : Stm) (id most : Int) (hE : PAt w a S.rd w.heap.size) (ht : S.text.size ≤ 1048576) (hm : S.rd.length ≤ 1048576) :
    Calls Try.prog 24 #[.agg #[.int .i64 S.st, .string S.text, .slice a S.rd.length c], .int .i64 id, .int .i64 most] w fun e w' => ∃ v, e = .returned (.tuple #[v, .string (readM S id most).2.1, .bool (readM S id most).2.2]) ∧ MOwn w' w.heap.size v (readM S id most).1 ∧ Below w.heap.size w w' := by
  obtain ⟨st, t, rd⟩ := S
  dsimp only at hE ht hm ⊢
  obtain ⟨w0, hw0⟩ : ∃ x, w.alloc (.cells #[.int .i64 st, .string t, .slice a rd.length c] 26) = x := ⟨_, rfl⟩
  obtain ⟨w1, hw1⟩ : ∃ x, w0.alloc (.cells #[.int .i64 0, .string ⟨#[]⟩, .slice none 0 0] 26) = x := ⟨_, rfl⟩
  have hb0 : Below w.heap.size w w0 := by rw [← hw0]; exact (Below.refl _ _).alloc (Nat.le_refl _) _
  have hb1 : Below w0.heap.size w0 w1 := by rw [← hw1]; exact (Below.refl _ _).alloc (Nat.le_refl _) _
  have s0 : w0.heap.size = w.heap.size + 1 := by rw [← hw0]; simp
  have s1 : w1.heap.size = w.heap.size + 2 := by rw [← hw1]; simp; omega
  have hB : MBox w1 w.heap.size (.int .i64 st) (.string t) (.slice a rd.length c) := by
    have h : MBox w0 w.heap.size (.int .i64 st) (.string t) (.slice a rd.length c) := by rw [← hw0]; exact MBox.new _ _ _ _
    exact h.on hb1
  have hR : MBox w1 (w.heap.size + 1) (.int .i64 0) (.string ⟨#[]⟩) (.slice none 0 0) := by rw [← hw1, ← s0]; exact MBox.new _ _ _ _
  have hBw : Below w.heap.size w w1 := hb0.trans (hb1.mono hb0.size)
  have HW : Hid ((w.alloc (.cells #[.int .i64 st, .string t, .slice a rd.length c] 26)).alloc (.cells #[.int .i64 0, .string ⟨#[]⟩, .slice none 0 0] 26) = w1) := by rw [hw0]; exact hw1
  have HX : Hid (∀ wi, Below w1.heap.size w1 wi → MBox wi w.heap.size (.int .i64 st) (.string t) (.slice a rd.length c) ∧ MBox wi (w.heap.size + 1) (.int .i64 0) (.string ⟨#[]⟩) (.slice none 0 0) ∧ PAt wi a rd wi.heap.size ∧ Below w.heap.size w wi) := fun wi hi => ⟨hB.on hi, hR.on hi, (hE.on hBw).on hi, hBw.trans (hi.mono hBw.size)⟩
  have HS1 : Hid (w1.heap.size = w.heap.size + 2) := s1
  have c0 := l14Copy_any w1 a c ⟨st, t, rd⟩ (hE.on hBw) hm
  obtain ⟨b0, b1, b2⟩ := hB.cells
  clear hw0 hw1 hb0 hb1 hB hR s0 s1 hE hBw
  go_enter Try.func24, Try.ntmps24
  go_wp2_with fail
  rw [HW.out]
  refine c0.mono ?_
  rintro e w2 ⟨v0, rfl, ho, hb2⟩
  obtain ⟨a2, c2, rfl, hA2⟩ := ho.at
  clear c0 b0 b1 b2
  dsimp only at hA2 ⊢
  obtain ⟨w3, hw3⟩ : ∃ x, w2.alloc (.cells #[.int .i64 st, .string t, .slice a2 rd.length c2] 26) = x := ⟨_, rfl⟩
  have hb3 : Below w2.heap.size w2 w3 := by rw [← hw3]; exact (Below.refl _ _).alloc (Nat.le_refl _) _
  have hb23 : Below w1.heap.size w1 w3 := hb2.trans (hb3.mono hb2.size)
  have hT : MBox w3 w2.heap.size (.int .i64 st) (.string t) (.slice a2 rd.length c2) := by rw [← hw3]; exact MBox.new _ _ _ _
  have ho3 := ho.below hb3 (Nat.le_refl _)
  have HW3 : Hid (w2.alloc (.cells #[.int .i64 st, .string t, .slice a2 rd.length c2] 26) = w3) := hw3
  obtain ⟨hB3, hR3, hE3, hw3b⟩ := HX.out w3 hb23
  obtain ⟨b0, b1, b2⟩ := hB3.cells
  have hsz : w.heap.size + 2 ≤ w2.heap.size := by rw [← HS1.out]; exact hb2.size
  clear hw3
  have cA := l14At_any w3 a c ⟨st, t, rd⟩ id hE3 (by dsimp only; omega)
  rw [← HW3.out] at b0 b1 b2
  go_wp2_with fail
  rw [HW3.out] at b0 b1 b2 ⊢
  refine cA.mono ?_
  rintro e wA ⟨rfl, hbA⟩
  have hb1A : Below w1.heap.size w1 wA := hb23.trans (hbA.mono hb23.size)
  obtain ⟨hBA, hRA, hEA, hwAb⟩ := HX.out wA hb1A
  have hTA := hT.on hbA
  have hoA := ho3.below hbA (Nat.le_refl _)
  clear cA b0 b1 b2 hB3 hR3 hE3 hw3b hT ho3 ho hA2 hb3 hb23 hbA HW3 HW
  obtain ⟨b0, b1, b2⟩ := hBA.cells
  have cO := specStreamOk_any wA a c ⟨st, t, rd⟩ hEA ht (by dsimp only; omega)
  go_wp2_with fail
  refine cO.mono ?_
  rintro e w4 ⟨rfl, hb4⟩
  clear cO b0 b1 b2
  have hb14 : Below w1.heap.size w1 w4 := hb1A.trans (hb4.mono hb1A.size)
  obtain ⟨hB4, hR4, hE4, hw4b⟩ := HX.out w4 hb14
  have hT4 := hTA.on hb4
  have ho4 := hoA.below hb4 (Nat.le_refl _)
  clear hBA hRA hEA hwAb hTA hoA hb1A hb4
  obtain ⟨t0, t1, t2⟩ := hT4.cells
  obtain ⟨z0, z1, z2⟩ := (⟨hT4.thaw 0, hT4.thaw 1, hT4.thaw 2⟩ : _ ∧ _ ∧ _)
  obtain ⟨r0, r1, r2⟩ := hR4.cells
  obtain ⟨f0, f1, f2⟩ := (⟨hR4.thaw 0, hR4.thaw 1, hR4.thaw 2⟩ : _ ∧ _ ∧ _)
  obtain ⟨b0, b1, b2⟩ := hB4.cells
  cases hok : okM ⟨st, t, rd⟩ with
  | false =>
    have HP : Hid (readM ⟨st, t, rd⟩ id most = (⟨st, t, rd⟩, ⟨#[]⟩, false)) := by show _ = _; unfold readM; rw [hok]; rfl
    go_wp2_with fail
    obtain ⟨q0, q1, q2⟩ := (hR4.put (.int .i64 st) (.string t) (.slice a2 rd.length c2)).cells
    refine bodyPost_ret (v := .tuple #[.agg #[(.int .i64 st), (.string t), (.slice a2 rd.length c2)], .string ⟨#[]⟩, .bool false]) (by simp [results, Try.results24, go_sem, q0, q1, q2]) rfl ⟨_, by rw [HP.out], ?_, Below.put3M hw4b (by have := HS1.out; omega) _ _ _⟩
    rw [HP.out]
    exact ((ho4).put3 hR4 _ _ _).mono (by have := HS1.out; omega)
  | true =>
    rcases atM_cases rd id with ⟨hat, _⟩ | ⟨k, hk, hat, _, _⟩
    · rw [hat]
      have HP : Hid (readM ⟨st, t, rd⟩ id most = (⟨st, t, rd⟩, ⟨#[]⟩, false)) := by show _ = _; unfold readM; rw [hok, hat]; rfl
      go_wp2_with fail
      obtain ⟨q0, q1, q2⟩ := (hR4.put (.int .i64 st) (.string t) (.slice a2 rd.length c2)).cells
      refine bodyPost_ret (v := .tuple #[.agg #[(.int .i64 st), (.string t), (.slice a2 rd.length c2)], .string ⟨#[]⟩, .bool false]) (by simp [results, Try.results24, go_sem, q0, q1, q2]) rfl ⟨_, by rw [HP.out], ?_, Below.put3M hw4b (by have := HS1.out; omega) _ _ _⟩
      rw [HP.out]
      exact ((ho4).put3 hR4 _ _ _).mono (by have := HS1.out; omega)
    · rw [hat]
      have hro : rdOkTo t.size rd rd.length = true := by unfold okM at hok; rw [Bool.and_eq_true] at hok; exact hok.1
      obtain ⟨hx0, hx1⟩ := rdOk_at hro k hk hk
      obtain ⟨gg, offg, rfl, _, q0, q1⟩ := hE4 k hk
      obtain ⟨g2, rfl, hg2, _⟩ := ho4.partR.first (by dsimp only; omega)
      have hown := ho4.partR
      dsimp only at hown
      obtain ⟨x, hx⟩ : ∃ x, rd[k].2 = x := ⟨_, rfl⟩
      rw [hx] at hx0 hx1 q1
      have hi0 : (0 : Int) ≤ (k : Int) := by omega
      have hi1 : (k : Int) < (rd.length : Int) := by omega
      have hkn : ¬ ((k : Int) < 0) := by omega
      have HRD : Hid (∀ e, farM t.size x most = e → readM ⟨st, t, rd⟩ id most = (⟨st, t, rd.set k (rd[k].1, e)⟩, t.extract x.toNat e.toNat, true)) := by
        intro e he
        have hgd : rd.getD k (0, 0) = rd[k] := by simp [List.getD, List.getElem?_eq_getElem hk]
        unfold readM
        rw [hok, hat]
        simp only [Int.toNat_natCast, hgd, hx, he]
        rw [if_pos (by simp)]
      have hwx : IntKind.i64.wrap ((t.size : Int) - x) = (t.size : Int) - x := by rw [IntKind.wrap_i64]; omega
      have HST : Hid (∀ e : Int, MBox (w4.setCell ⟨g2, k * 2 + 1, none⟩ (.int .i64 e)) (w.heap.size + 1) (.int .i64 0) (.string ⟨#[]⟩) (.slice none 0 0) ∧ MBox (w4.setCell ⟨g2, k * 2 + 1, none⟩ (.int .i64 e)) w2.heap.size (.int .i64 st) (.string t) (.slice (some ⟨g2, 0, none⟩) rd.length c2) ∧ MBox (w4.setCell ⟨g2, k * 2 + 1, none⟩ (.int .i64 e)) w.heap.size (.int .i64 st) (.string t) (.slice (some ⟨gg, offg, none⟩) rd.length c) ∧ MOwn (w4.setCell ⟨g2, k * 2 + 1, none⟩ (.int .i64 e)) w1.heap.size (.agg #[.int .i64 st, .string t, .slice (some ⟨g2, 0, none⟩) rd.length c2]) ⟨st, t, rd.set k (rd[k].1, e)⟩ ∧ Below w.heap.size w (w4.setCell ⟨g2, k * 2 + 1, none⟩ (.int .i64 e))) := fun e => by
        have hne : g2 ≠ w2.heap.size := fun e => by
          obtain ⟨cs, hc⟩ := ownP_type hown g2 rfl
          unfold MBox at hT4
          rw [e, hT4] at hc
          simp only [Option.some.injEq, Obj.cells.injEq] at hc
          exact absurd hc.2.1 (by decide)
        have := HS1.out
        have hkp : ∀ q, q ≠ g2 → (w4.setCell ⟨g2, k * 2 + 1, none⟩ (.int .i64 e)).heap[q]? = w4.heap[q]? := fun q hq => Below.heap_setCell _ _ _ _ hq
        have ho5 := hown.stored2 rfl k hk e
        refine ⟨hR4.kept (hkp _ (by omega)), hT4.kept (hkp _ (Ne.symm hne)), hB4.kept (hkp _ (by omega)), ⟨_, rfl, ?_⟩, hw4b.setCell (show w.heap.size ≤ g2 by omega) _⟩
        exact ho5
      have hq2 : w4.cell? ⟨g2, k * 2 + 1, none⟩ = some (.int .i64 x) := by
        obtain ⟨a9, c9, hv, hA⟩ := hown.at
        simp only [Value.slice.injEq] at hv
        obtain ⟨rfl, _, _⟩ := hv
        obtain ⟨g', o', he, _, _, h2⟩ := hA k hk
        simp only [Option.some.injEq, Addr.mk.injEq] at he
        obtain ⟨rfl, rfl, _⟩ := he
        rw [hx] at h2
        simpa using h2
      have hq3 := hown.there rfl (k * 2 + 1)
      clear hown ho4 hro hok hat hE4
      by_cases hn : most < 0
      · by_cases hl : 0 < (t.size : Int) - x
        · have HP := HRD.out x (by unfold farM; simp [hn]; omega)
          have HP : Hid (readM ⟨st, t, rd⟩ id most = _) := HP
          obtain ⟨hR5, hT5, hB5, ho5, hw5⟩ := HST.out x
          have HO5 : Hid (MOwn (w4.setCell ⟨g2, k * 2 + 1, none⟩ (.int .i64 x)) w1.heap.size (.agg #[.int .i64 st, .string t, .slice (some ⟨g2, 0, none⟩) rd.length c2]) ⟨st, t, rd.set k (rd[k].1, x)⟩) := ho5
          obtain ⟨y0, y1, y2⟩ := hT5.cells
          obtain ⟨v0, v1, v2⟩ := hB5.cells
          obtain ⟨s0, s1, s2⟩ := hR5.cells
          obtain ⟨g0, g1, g2'⟩ := (⟨hR5.thaw 0, hR5.thaw 1, hR5.thaw 2⟩ : _ ∧ _ ∧ _)
          have he0 : (0 : Int) ≤ x := by omega
          have he1 : x ≤ x := by omega
          have he2 : x ≤ (t.size : Int) := by omega
          clear ho5 HRD HST r0 r1 r2 f0 f1 f2
          obtain ⟨w5, hw5e⟩ : ∃ q, w4.setCell ⟨g2, k * 2 + 1, none⟩ (.int .i64 x) = q := ⟨_, rfl⟩
          have HW5 : Hid (w4.setCell ⟨g2, k * 2 + 1, none⟩ (.int .i64 x) = w5) := hw5e
          rw [hw5e] at y0 y1 y2 v0 v1 v2 s0 s1 s2 g0 g1 g2' hR5 hw5 HO5
          have KS : ∀ W : World, (∀ q, q ≠ w.heap.size + 1 → W.heap[q]? = w5.heap[q]?) → (∀ q, q ≠ w.heap.size + 1 → W.heap[q]? = w5.heap[q]?) ∧ W.cell? ⟨w2.heap.size, 0, none⟩ = some (.int .i64 st) ∧ W.cell? ⟨w2.heap.size, 1, none⟩ = some (.string t) ∧ W.cell? ⟨w2.heap.size, 2, none⟩ = some (.slice (some ⟨g2, 0, none⟩) rd.length c2) ∧ W.cell? ⟨w.heap.size, 1, none⟩ = some (.string t) := fun W hW => ⟨hW, (MBox.kept (by rw [← hw5e]; exact hT5) (hW _ (by omega))).cells.1, (MBox.kept (by rw [← hw5e]; exact hT5) (hW _ (by omega))).cells.2.1, (MBox.kept (by rw [← hw5e]; exact hT5) (hW _ (by omega))).cells.2.2, (MBox.kept (by rw [← hw5e]; exact hB5) (hW _ (by omega))).cells.2.1⟩
          clear hw5e hT5 hB5
          go_wp2_with fail
          rw [HW5.out]
          go_region_held3 (fun W => (∀ q, q ≠ w.heap.size + 1 → W.heap[q]? = w5.heap[q]?) ∧ W.cell? ⟨w2.heap.size, 0, none⟩ = some (.int .i64 st) ∧ W.cell? ⟨w2.heap.size, 1, none⟩ = some (.string t) ∧ W.cell? ⟨w2.heap.size, 2, none⟩ = some (.slice (some ⟨g2, 0, none⟩) rd.length c2) ∧ W.cell? ⟨w.heap.size, 1, none⟩ = some (.string t)) (first | exact KS _ (fun _ _ => rfl) | exact KS _ (fun q hq => (Below.heap_setCell _ _ _ _ hq).trans ((Below.heap_setCell _ _ _ _ hq).trans (Below.heap_setCell _ _ _ _ hq)))) (fail)
          all_goals
            have hRd : MBox ((((w5.setCell ⟨w.heap.size + 1, 0, none⟩ (.int .i64 st)).setCell ⟨w.heap.size + 1, 1, none⟩ (.string t)).setCell ⟨w.heap.size + 1, 2, none⟩ (.slice (some ⟨g2, 0, none⟩) rd.length c2)).drew) (w.heap.size + 1) (.int .i64 st) (.string t) (.slice (some ⟨g2, 0, none⟩) rd.length c2) := (hR5.put (.int .i64 st) (.string t) (.slice (some ⟨g2, 0, none⟩) rd.length c2)).kept rfl
            obtain ⟨q0, q1, q2⟩ := hRd.cells
            go_wp2_with fail
            refine bodyPost_ret (v := .tuple #[.agg #[.int .i64 st, .string t, (.slice (some ⟨g2, 0, none⟩) rd.length c2)], .string ByteArray.empty, .bool true]) (by simp [results, Try.results24, go_sem, q0, q1, q2]) rfl ⟨.agg #[.int .i64 st, .string t, (.slice (some ⟨g2, 0, none⟩) rd.length c2)], by rw [HP.out]; try simp, ?_, (Below.put3M hw5 (by have := HS1.out; omega) _ _ _).trans ⟨rfl, rfl, rfl, Nat.le_refl _, fun _ _ => rfl⟩⟩
            rw [HP.out]
            exact ((HO5.out.put3 hR5 _ _ _).below (B := (((w5.setCell ⟨w.heap.size + 1, 0, none⟩ (.int .i64 st)).setCell ⟨w.heap.size + 1, 1, none⟩ (.string t)).setCell ⟨w.heap.size + 1, 2, none⟩ (.slice (some ⟨g2, 0, none⟩) rd.length c2)).heap.size) ⟨rfl, rfl, rfl, Nat.le_refl _, fun _ _ => rfl⟩ (Nat.le_refl _)).mono (by have := HS1.out; omega)
        · have HP := HRD.out (t.size : Int) (by unfold farM; simp [hn]; omega)
          have HP : Hid (readM ⟨st, t, rd⟩ id most = _) := HP
          obtain ⟨hR5, hT5, hB5, ho5, hw5⟩ := HST.out (t.size : Int)
          have HO5 : Hid (MOwn (w4.setCell ⟨g2, k * 2 + 1, none⟩ (.int .i64 (t.size : Int))) w1.heap.size (.agg #[.int .i64 st, .string t, .slice (some ⟨g2, 0, none⟩) rd.length c2]) ⟨st, t, rd.set k (rd[k].1, (t.size : Int))⟩) := ho5
          obtain ⟨y0, y1, y2⟩ := hT5.cells
          obtain ⟨v0, v1, v2⟩ := hB5.cells
          obtain ⟨s0, s1, s2⟩ := hR5.cells
          obtain ⟨g0, g1, g2'⟩ := (⟨hR5.thaw 0, hR5.thaw 1, hR5.thaw 2⟩ : _ ∧ _ ∧ _)
          have he0 : (0 : Int) ≤ (t.size : Int) := by omega
          have he1 : x ≤ (t.size : Int) := by omega
          have he2 : (t.size : Int) ≤ (t.size : Int) := by omega
          clear ho5 HRD HST r0 r1 r2 f0 f1 f2
          obtain ⟨w5, hw5e⟩ : ∃ q, w4.setCell ⟨g2, k * 2 + 1, none⟩ (.int .i64 (t.size : Int)) = q := ⟨_, rfl⟩
          have HW5 : Hid (w4.setCell ⟨g2, k * 2 + 1, none⟩ (.int .i64 (t.size : Int)) = w5) := hw5e
          rw [hw5e] at y0 y1 y2 v0 v1 v2 s0 s1 s2 g0 g1 g2' hR5 hw5 HO5
          have KS : ∀ W : World, (∀ q, q ≠ w.heap.size + 1 → W.heap[q]? = w5.heap[q]?) → (∀ q, q ≠ w.heap.size + 1 → W.heap[q]? = w5.heap[q]?) ∧ W.cell? ⟨w2.heap.size, 0, none⟩ = some (.int .i64 st) ∧ W.cell? ⟨w2.heap.size, 1, none⟩ = some (.string t) ∧ W.cell? ⟨w2.heap.size, 2, none⟩ = some (.slice (some ⟨g2, 0, none⟩) rd.length c2) ∧ W.cell? ⟨w.heap.size, 1, none⟩ = some (.string t) := fun W hW => ⟨hW, (MBox.kept (by rw [← hw5e]; exact hT5) (hW _ (by omega))).cells.1, (MBox.kept (by rw [← hw5e]; exact hT5) (hW _ (by omega))).cells.2.1, (MBox.kept (by rw [← hw5e]; exact hT5) (hW _ (by omega))).cells.2.2, (MBox.kept (by rw [← hw5e]; exact hB5) (hW _ (by omega))).cells.2.1⟩
          clear hw5e hT5 hB5
          go_wp2_with fail
          rw [HW5.out]
          go_region_held3 (fun W => (∀ q, q ≠ w.heap.size + 1 → W.heap[q]? = w5.heap[q]?) ∧ W.cell? ⟨w2.heap.size, 0, none⟩ = some (.int .i64 st) ∧ W.cell? ⟨w2.heap.size, 1, none⟩ = some (.string t) ∧ W.cell? ⟨w2.heap.size, 2, none⟩ = some (.slice (some ⟨g2, 0, none⟩) rd.length c2) ∧ W.cell? ⟨w.heap.size, 1, none⟩ = some (.string t)) (first | exact KS _ (fun _ _ => rfl) | exact KS _ (fun q hq => (Below.heap_setCell _ _ _ _ hq).trans ((Below.heap_setCell _ _ _ _ hq).trans (Below.heap_setCell _ _ _ _ hq)))) (fail)
          all_goals
            have hRd : MBox ((((w5.setCell ⟨w.heap.size + 1, 0, none⟩ (.int .i64 st)).setCell ⟨w.heap.size + 1, 1, none⟩ (.string t)).setCell ⟨w.heap.size + 1, 2, none⟩ (.slice (some ⟨g2, 0, none⟩) rd.length c2)).drew) (w.heap.size + 1) (.int .i64 st) (.string t) (.slice (some ⟨g2, 0, none⟩) rd.length c2) := (hR5.put (.int .i64 st) (.string t) (.slice (some ⟨g2, 0, none⟩) rd.length c2)).kept rfl
            obtain ⟨q0, q1, q2⟩ := hRd.cells
            go_wp2_with fail
            refine bodyPost_ret (v := .tuple #[.agg #[.int .i64 st, .string t, (.slice (some ⟨g2, 0, none⟩) rd.length c2)], .string (t.extract x.toNat t.size), .bool true]) (by simp [results, Try.results24, go_sem, q0, q1, q2]) rfl ⟨.agg #[.int .i64 st, .string t, (.slice (some ⟨g2, 0, none⟩) rd.length c2)], by rw [HP.out]; try simp, ?_, (Below.put3M hw5 (by have := HS1.out; omega) _ _ _).trans ⟨rfl, rfl, rfl, Nat.le_refl _, fun _ _ => rfl⟩⟩
            rw [HP.out]
            exact ((HO5.out.put3 hR5 _ _ _).below (B := (((w5.setCell ⟨w.heap.size + 1, 0, none⟩ (.int .i64 st)).setCell ⟨w.heap.size + 1, 1, none⟩ (.string t)).setCell ⟨w.heap.size + 1, 2, none⟩ (.slice (some ⟨g2, 0, none⟩) rd.length c2)).heap.size) ⟨rfl, rfl, rfl, Nat.le_refl _, fun _ _ => rfl⟩ (Nat.le_refl _)).mono (by have := HS1.out; omega)
      · by_cases hl : most < (t.size : Int) - x
        · have HP := HRD.out (x + most) (by unfold farM; simp [hn, hl])
          have HP : Hid (readM ⟨st, t, rd⟩ id most = _) := HP
          obtain ⟨hR5, hT5, hB5, ho5, hw5⟩ := HST.out (x + most)
          have HO5 : Hid (MOwn (w4.setCell ⟨g2, k * 2 + 1, none⟩ (.int .i64 (x + most))) w1.heap.size (.agg #[.int .i64 st, .string t, .slice (some ⟨g2, 0, none⟩) rd.length c2]) ⟨st, t, rd.set k (rd[k].1, (x + most))⟩) := ho5
          obtain ⟨y0, y1, y2⟩ := hT5.cells
          obtain ⟨v0, v1, v2⟩ := hB5.cells
          obtain ⟨s0, s1, s2⟩ := hR5.cells
          obtain ⟨g0, g1, g2'⟩ := (⟨hR5.thaw 0, hR5.thaw 1, hR5.thaw 2⟩ : _ ∧ _ ∧ _)
          have he0 : (0 : Int) ≤ (x + most) := by omega
          have he1 : x ≤ (x + most) := by omega
          have he2 : (x + most) ≤ (t.size : Int) := by omega
          clear ho5 HRD HST r0 r1 r2 f0 f1 f2
          obtain ⟨w5, hw5e⟩ : ∃ q, w4.setCell ⟨g2, k * 2 + 1, none⟩ (.int .i64 (x + most)) = q := ⟨_, rfl⟩
          have HW5 : Hid (w4.setCell ⟨g2, k * 2 + 1, none⟩ (.int .i64 (x + most)) = w5) := hw5e
          rw [hw5e] at y0 y1 y2 v0 v1 v2 s0 s1 s2 g0 g1 g2' hR5 hw5 HO5
          have KS : ∀ W : World, (∀ q, q ≠ w.heap.size + 1 → W.heap[q]? = w5.heap[q]?) → (∀ q, q ≠ w.heap.size + 1 → W.heap[q]? = w5.heap[q]?) ∧ W.cell? ⟨w2.heap.size, 0, none⟩ = some (.int .i64 st) ∧ W.cell? ⟨w2.heap.size, 1, none⟩ = some (.string t) ∧ W.cell? ⟨w2.heap.size, 2, none⟩ = some (.slice (some ⟨g2, 0, none⟩) rd.length c2) ∧ W.cell? ⟨w.heap.size, 1, none⟩ = some (.string t) := fun W hW => ⟨hW, (MBox.kept (by rw [← hw5e]; exact hT5) (hW _ (by omega))).cells.1, (MBox.kept (by rw [← hw5e]; exact hT5) (hW _ (by omega))).cells.2.1, (MBox.kept (by rw [← hw5e]; exact hT5) (hW _ (by omega))).cells.2.2, (MBox.kept (by rw [← hw5e]; exact hB5) (hW _ (by omega))).cells.2.1⟩
          clear hw5e hT5 hB5
          go_wp2_with fail
          rw [HW5.out]
          go_region_held3 (fun W => (∀ q, q ≠ w.heap.size + 1 → W.heap[q]? = w5.heap[q]?) ∧ W.cell? ⟨w2.heap.size, 0, none⟩ = some (.int .i64 st) ∧ W.cell? ⟨w2.heap.size, 1, none⟩ = some (.string t) ∧ W.cell? ⟨w2.heap.size, 2, none⟩ = some (.slice (some ⟨g2, 0, none⟩) rd.length c2) ∧ W.cell? ⟨w.heap.size, 1, none⟩ = some (.string t)) (first | exact KS _ (fun _ _ => rfl) | exact KS _ (fun q hq => (Below.heap_setCell _ _ _ _ hq).trans ((Below.heap_setCell _ _ _ _ hq).trans (Below.heap_setCell _ _ _ _ hq)))) (fail)
          all_goals
            have hRd : MBox ((((w5.setCell ⟨w.heap.size + 1, 0, none⟩ (.int .i64 st)).setCell ⟨w.heap.size + 1, 1, none⟩ (.string t)).setCell ⟨w.heap.size + 1, 2, none⟩ (.slice (some ⟨g2, 0, none⟩) rd.length c2)).drew) (w.heap.size + 1) (.int .i64 st) (.string t) (.slice (some ⟨g2, 0, none⟩) rd.length c2) := (hR5.put (.int .i64 st) (.string t) (.slice (some ⟨g2, 0, none⟩) rd.length c2)).kept rfl
            obtain ⟨q0, q1, q2⟩ := hRd.cells
            go_wp2_with fail
            refine bodyPost_ret (v := .tuple #[.agg #[.int .i64 st, .string t, (.slice (some ⟨g2, 0, none⟩) rd.length c2)], .string (t.extract x.toNat (x + most).toNat), .bool true]) (by simp [results, Try.results24, go_sem, q0, q1, q2]) rfl ⟨.agg #[.int .i64 st, .string t, (.slice (some ⟨g2, 0, none⟩) rd.length c2)], by rw [HP.out]; try simp, ?_, (Below.put3M hw5 (by have := HS1.out; omega) _ _ _).trans ⟨rfl, rfl, rfl, Nat.le_refl _, fun _ _ => rfl⟩⟩
            rw [HP.out]
            exact ((HO5.out.put3 hR5 _ _ _).below (B := (((w5.setCell ⟨w.heap.size + 1, 0, none⟩ (.int .i64 st)).setCell ⟨w.heap.size + 1, 1, none⟩ (.string t)).setCell ⟨w.heap.size + 1, 2, none⟩ (.slice (some ⟨g2, 0, none⟩) rd.length c2)).heap.size) ⟨rfl, rfl, rfl, Nat.le_refl _, fun _ _ => rfl⟩ (Nat.le_refl _)).mono (by have := HS1.out; omega)
        · have HP := HRD.out (t.size : Int) (by unfold farM; simp [hn, hl])
          have HP : Hid (readM ⟨st, t, rd⟩ id most = _) := HP
          obtain ⟨hR5, hT5, hB5, ho5, hw5⟩ := HST.out (t.size : Int)
          have HO5 : Hid (MOwn (w4.setCell ⟨g2, k * 2 + 1, none⟩ (.int .i64 (t.size : Int))) w1.heap.size (.agg #[.int .i64 st, .string t, .slice (some ⟨g2, 0, none⟩) rd.length c2]) ⟨st, t, rd.set k (rd[k].1, (t.size : Int))⟩) := ho5
          obtain ⟨y0, y1, y2⟩ := hT5.cells
          obtain ⟨v0, v1, v2⟩ := hB5.cells
          obtain ⟨s0, s1, s2⟩ := hR5.cells
          obtain ⟨g0, g1, g2'⟩ := (⟨hR5.thaw 0, hR5.thaw 1, hR5.thaw 2⟩ : _ ∧ _ ∧ _)
          have he0 : (0 : Int) ≤ (t.size : Int) := by omega
          have he1 : x ≤ (t.size : Int) := by omega
          have he2 : (t.size : Int) ≤ (t.size : Int) := by omega
          clear ho5 HRD HST r0 r1 r2 f0 f1 f2
          obtain ⟨w5, hw5e⟩ : ∃ q, w4.setCell ⟨g2, k * 2 + 1, none⟩ (.int .i64 (t.size : Int)) = q := ⟨_, rfl⟩
          have HW5 : Hid (w4.setCell ⟨g2, k * 2 + 1, none⟩ (.int .i64 (t.size : Int)) = w5) := hw5e
          rw [hw5e] at y0 y1 y2 v0 v1 v2 s0 s1 s2 g0 g1 g2' hR5 hw5 HO5
          have KS : ∀ W : World, (∀ q, q ≠ w.heap.size + 1 → W.heap[q]? = w5.heap[q]?) → (∀ q, q ≠ w.heap.size + 1 → W.heap[q]? = w5.heap[q]?) ∧ W.cell? ⟨w2.heap.size, 0, none⟩ = some (.int .i64 st) ∧ W.cell? ⟨w2.heap.size, 1, none⟩ = some (.string t) ∧ W.cell? ⟨w2.heap.size, 2, none⟩ = some (.slice (some ⟨g2, 0, none⟩) rd.length c2) ∧ W.cell? ⟨w.heap.size, 1, none⟩ = some (.string t) := fun W hW => ⟨hW, (MBox.kept (by rw [← hw5e]; exact hT5) (hW _ (by omega))).cells.1, (MBox.kept (by rw [← hw5e]; exact hT5) (hW _ (by omega))).cells.2.1, (MBox.kept (by rw [← hw5e]; exact hT5) (hW _ (by omega))).cells.2.2, (MBox.kept (by rw [← hw5e]; exact hB5) (hW _ (by omega))).cells.2.1⟩
          clear hw5e hT5 hB5
          go_wp2_with fail
          rw [HW5.out]
          go_region_held3 (fun W => (∀ q, q ≠ w.heap.size + 1 → W.heap[q]? = w5.heap[q]?) ∧ W.cell? ⟨w2.heap.size, 0, none⟩ = some (.int .i64 st) ∧ W.cell? ⟨w2.heap.size, 1, none⟩ = some (.string t) ∧ W.cell? ⟨w2.heap.size, 2, none⟩ = some (.slice (some ⟨g2, 0, none⟩) rd.length c2) ∧ W.cell? ⟨w.heap.size, 1, none⟩ = some (.string t)) (first | exact KS _ (fun _ _ => rfl) | exact KS _ (fun q hq => (Below.heap_setCell _ _ _ _ hq).trans ((Below.heap_setCell _ _ _ _ hq).trans (Below.heap_setCell _ _ _ _ hq)))) (fail)
          all_goals
            have hRd : MBox ((((w5.setCell ⟨w.heap.size + 1, 0, none⟩ (.int .i64 st)).setCell ⟨w.heap.size + 1, 1, none⟩ (.string t)).setCell ⟨w.heap.size + 1, 2, none⟩ (.slice (some ⟨g2, 0, none⟩) rd.length c2)).drew) (w.heap.size + 1) (.int .i64 st) (.string t) (.slice (some ⟨g2, 0, none⟩) rd.length c2) := (hR5.put (.int .i64 st) (.string t) (.slice (some ⟨g2, 0, none⟩) rd.length c2)).kept rfl
            obtain ⟨q0, q1, q2⟩ := hRd.cells
            go_wp2_with fail
            refine bodyPost_ret (v := .tuple #[.agg #[.int .i64 st, .string t, (.slice (some ⟨g2, 0, none⟩) rd.length c2)], .string (t.extract x.toNat t.size), .bool true]) (by simp [results, Try.results24, go_sem, q0, q1, q2]) rfl ⟨.agg #[.int .i64 st, .string t, (.slice (some ⟨g2, 0, none⟩) rd.length c2)], by rw [HP.out]; try simp, ?_, (Below.put3M hw5 (by have := HS1.out; omega) _ _ _).trans ⟨rfl, rfl, rfl, Nat.le_refl _, fun _ _ => rfl⟩⟩
            rw [HP.out]
            exact ((HO5.out.put3 hR5 _ _ _).below (B := (((w5.setCell ⟨w.heap.size + 1, 0, none⟩ (.int .i64 st)).setCell ⟨w.heap.size + 1, 1, none⟩ (.string t)).setCell ⟨w.heap.size + 1, 2, none⟩ (.slice (some ⟨g2, 0, none⟩) rd.length c2)).heap.size) ⟨rfl, rfl, rfl, Nat.le_refl _, fun _ _ => rfl⟩ (Nat.le_refl _)).mono (by have := HS1.out; omega)
end Go.Proofs.Ytmpnjijbahjinaf
