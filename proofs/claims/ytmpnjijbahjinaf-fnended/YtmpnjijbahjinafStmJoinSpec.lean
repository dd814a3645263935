/- The other text's StreamNew and StreamJoin, and the program's StreamNew. -/
import Derived.Test.YtmpnjijbahjinafStmCopy
import Derived.Test.YtmpnjijbahjinafStmOkSpec
import Derived.Test.YtmpnjijbahjinafStmAt
namespace Go.Proofs.Ytmpnjijbahjinaf
open Go.RowKit Go.Sort

theorem specStreamNew_any (w : World) : Calls Try.prog 58 #[] w fun e w' => ∃ v, e = .returned v ∧ MOwn w' w.heap.size v newM ∧ Below w.heap.size w w' := by
  have hb : Below w.heap.size w (w.alloc (.cells #[.int .i64 1, .string ⟨#[]⟩, .slice none 0 0] 26)) := (Below.refl _ _).alloc (Nat.le_refl _) _
  obtain ⟨q0, q1, q2⟩ := (MBox.new w (.int .i64 1) (.string ⟨#[]⟩) (.slice none 0 0)).cells
  go_enter Try.func58, Try.ntmps58
  go_wp2_with fail
  refine bodyPost_ret (v := .agg #[.int .i64 1, .string ⟨#[]⟩, .slice none 0 0]) (by simp [results, Try.results58, go_sem, q0, q1, q2]) rfl ⟨_, rfl, ⟨_, rfl, ⟨by simp [prl, newM], .inl ⟨rfl, rfl⟩⟩⟩, hb⟩
theorem implStreamNew_any (w : World) : Calls Try.prog 28 #[] w fun e w' => ∃ v, e = .returned v ∧ MOwn w' w.heap.size v newM ∧ Below w.heap.size w w' := by
  have hb : Below w.heap.size w (w.alloc (.cells #[.int .i64 1, .string ⟨#[]⟩, .slice none 0 0] 26)) := (Below.refl _ _).alloc (Nat.le_refl _) _
  obtain ⟨q0, q1, q2⟩ := (MBox.new w (.int .i64 1) (.string ⟨#[]⟩) (.slice none 0 0)).cells
  go_enter Try.func28, Try.ntmps28
  go_wp2_with fail
  refine bodyPost_ret (v := .agg #[.int .i64 1, .string ⟨#[]⟩, .slice none 0 0]) (by simp [results, Try.results28, go_sem, q0, q1, q2]) rfl ⟨_, rfl, ⟨_, rfl, ⟨by simp [prl, newM], .inl ⟨rfl, rfl⟩⟩⟩, hb⟩
def ltL (l : List (Int × Int)) (id : Int) : List (Int × Int) := l.filter fun r => decide (r.1 < id)
def gtL (l : List (Int × Int)) (id : Int) : List (Int × Int) := l.filter fun r => decide (id < r.1)
theorem ltL_len (l : List (Int × Int)) (id : Int) : (ltL l id).length ≤ l.length := List.length_filter_le _ _
theorem gtL_len (l : List (Int × Int)) (id : Int) : (gtL l id).length ≤ l.length := List.length_filter_le _ _
theorem ltgt_len (l : List (Int × Int)) (id : Int) : (ltL l id).length + (gtL l id).length ≤ l.length := by
  induction l with
  | nil => simp [ltL, gtL]
  | cons r l ih =>
    unfold ltL gtL at *
    rw [List.filter_cons, List.filter_cons]
    by_cases h1 : r.1 < id
    · have h2 : ¬ id < r.1 := by omega
      simp [h1, h2]; omega
    · by_cases h2 : id < r.1
      · simp [h1, h2]; omega
      · simp [h1, h2]; omega
theorem ltL_on (l : List (Int × Int)) (id : Int) (k : Nat) (hk : k < l.length) : ltL (l.take (k + 1)) id = if l[k].1 < id then ltL (l.take k) id ++ [l[k]] else ltL (l.take k) id := by
  unfold ltL
  rw [List.take_succ_eq_append_getElem hk, List.filter_append]
  by_cases h : l[k].1 < id <;> simp [h]
theorem gtL_on (l : List (Int × Int)) (id : Int) (k : Nat) (hk : k < l.length) : gtL (l.take (k + 1)) id = if id < l[k].1 then gtL (l.take k) id ++ [l[k]] else gtL (l.take k) id := by
  unfold gtL
  rw [List.take_succ_eq_append_getElem hk, List.filter_append]
  by_cases h : id < l[k].1 <;> simp [h]
theorem join_lt (l : List (Int × Int)) (id : Int) : joinL l id = ltL l id ++ [(id, 0)] ++ gtL l id := rfl
set_option maxRecDepth 100000 in
set_option maxHeartbeats 4000000 in
theorem specStreamJoin_any (w : World) (a : Option Addr) (c : Nat) (S : Stm) (id : Int) (hE : PAt w a S.rd w.heap.size) (ht : S.text.size ≤ 1048576) (hm : S.rd.length ≤ 1048576) :
    Calls Try.prog 22 #[.agg #[.int .i64 S.st, .string S.text, .slice a S.rd.length c], .int .i64 id] w fun e w' => ∃ v, e = .returned (.tuple #[v, .bool (joinM S id).2]) ∧ MOwn w' w.heap.size v (joinM S id).1 ∧ Below w.heap.size w w' := by
  obtain ⟨st, t, rd⟩ := S
  dsimp only at hE ht hm ⊢
  obtain ⟨w0, hw0⟩ : ∃ x, w.alloc (.cells #[.int .i64 st, .string t, .slice a rd.length c] 26) = x := ⟨_, rfl⟩
  obtain ⟨w1, hw1⟩ : ∃ x, w0.alloc (.cells #[.int .i64 0, .string ⟨#[]⟩, .slice none 0 0] 26) = x := ⟨_, rfl⟩
  have hb0 : Below w.heap.size w w0 := by rw [← hw0]; exact (Below.refl _ _).alloc (Nat.le_refl _) _
  have hb1 : Below w0.heap.size w0 w1 := by rw [← hw1]; exact (Below.refl _ _).alloc (Nat.le_refl _) _
  have s0 : w0.heap.size = w.heap.size + 1 := by rw [← hw0]; simp
  have s1 : w1.heap.size = w.heap.size + 2 := by rw [← hw1]; simp; omega
  have hB : MBox w1 w.heap.size (.int .i64 st) (.string t) (.slice a rd.length c) := by
    have h : MBox w0 w.heap.size (.int .i64 st) (.string t) (.slice a rd.length c) := by rw [← hw0]; exact MBox.new _ _ _ _
    exact h.on hb1
  have hR : MBox w1 (w.heap.size + 1) (.int .i64 0) (.string ⟨#[]⟩) (.slice none 0 0) := by rw [← hw1, ← s0]; exact MBox.new _ _ _ _
  have hBw : Below w.heap.size w w1 := hb0.trans (hb1.mono hb0.size)
  have HW : Hid ((w.alloc (.cells #[.int .i64 st, .string t, .slice a rd.length c] 26)).alloc (.cells #[.int .i64 0, .string ⟨#[]⟩, .slice none 0 0] 26) = w1) := by rw [hw0]; exact hw1
  have HX : Hid (∀ wi, Below w1.heap.size w1 wi → MBox wi w.heap.size (.int .i64 st) (.string t) (.slice a rd.length c) ∧ MBox wi (w.heap.size + 1) (.int .i64 0) (.string ⟨#[]⟩) (.slice none 0 0) ∧ PAt wi a rd wi.heap.size ∧ Below w.heap.size w wi) := fun wi hi => ⟨hB.on hi, hR.on hi, (hE.on hBw).on hi, hBw.trans (hi.mono hBw.size)⟩
  have HS1 : Hid (w1.heap.size = w.heap.size + 2) := s1
  have c0 := l14Copy_any w1 a c ⟨st, t, rd⟩ (hE.on hBw) hm
  obtain ⟨b0, b1, b2⟩ := hB.cells
  clear hw0 hw1 hb0 hb1 hB hR s0 s1 hE hBw
  go_enter Try.func22, Try.ntmps22
  go_wp2_with fail
  rw [HW.out]
  refine c0.mono ?_
  rintro e w2 ⟨v0, rfl, ho, hb2⟩
  obtain ⟨a2, c2, rfl, hA2⟩ := ho.at
  clear c0 b0 b1 b2
  dsimp only at hA2 ⊢
  obtain ⟨w3, hw3⟩ : ∃ x, w2.alloc (.cells #[.int .i64 st, .string t, .slice a2 rd.length c2] 26) = x := ⟨_, rfl⟩
  have hb3 : Below w2.heap.size w2 w3 := by rw [← hw3]; exact (Below.refl _ _).alloc (Nat.le_refl _) _
  have hb23 : Below w1.heap.size w1 w3 := hb2.trans (hb3.mono hb2.size)
  have hT : MBox w3 w2.heap.size (.int .i64 st) (.string t) (.slice a2 rd.length c2) := by rw [← hw3]; exact MBox.new _ _ _ _
  have ho3 := ho.below hb3 (Nat.le_refl _)
  have HW3 : Hid (w2.alloc (.cells #[.int .i64 st, .string t, .slice a2 rd.length c2] 26) = w3) := hw3
  obtain ⟨hB3, hR3, hE3, hw3b⟩ := HX.out w3 hb23
  obtain ⟨b0, b1, b2⟩ := hB3.cells
  have hsz : w.heap.size + 2 ≤ w2.heap.size := by rw [← HS1.out]; exact hb2.size
  clear hw3
  have hO3 : OwnP (w3.alloc (.cells #[] 38)) w3.heap.size 38 (.slice (some ⟨w2.heap.size + 1, 0, none⟩) 0 0) [] := by
    have s3 : w3.heap.size = w2.heap.size + 1 := by rw [← HW3.out]; simp
    rw [← s3]
    exact ⟨by simp [prl], .inr ⟨w3.heap.size, 0, #[], rfl, Nat.le_refl _, heap_alloc_new w3 _, Nat.le_refl _, by simp [maxLen], by simp, by simp [prl]⟩⟩
  have hbA : Below w3.heap.size w3 (w3.alloc (.cells #[] 38)) := (Below.refl _ _).alloc (Nat.le_refl _) _
  rw [← HW3.out] at b0 b1 b2
  go_wp2_with fail
  rw [HW3.out] at b0 b1 b2 ⊢
  clear b0 b1 b2 hB3 hR3 hE3 hw3b
  go_loopw [7, 8] (fun l i wr => Box (∃ (k : Nat) (va : Option Addr) (vc : Nat), k ≤ rd.length ∧ i = .int .i64 k ∧ l = .slice va (ltL (rd.take k) id).length vc ∧ Hid (OwnP wr w3.heap.size 38 (.slice va (ltL (rd.take k) id).length vc) (ltL (rd.take k) id)) ∧ Hid (Below w3.heap.size w3 wr)))
    (fun _ i _ => rd.length - (intOf i).toNat)
  case atStart => exact ⟨⟨0, some ⟨w2.heap.size + 1, 0, none⟩, 0, by omega, rfl, rfl, hO3, hbA⟩⟩
  case round =>
    obtain ⟨k, va, vc, hk, rfl, rfl, HO, HBR⟩ := hrel.out
    clear hrel
    obtain ⟨hB4, _, hP4, _⟩ := HX.out wr (hb23.trans (HBR.out.mono hb23.size))
    obtain ⟨b0, b1, b2⟩ := hB4.cells
    by_cases hlt : k < rd.length
    · obtain ⟨gg, offg, rfl, _, q0, q1⟩ := hP4 k hlt
      have HON := ltL_on rd id k hlt
      have hln : (ltL (rd.take k) id).length < 10000000 := by have := ltL_len (rd.take k) id; rw [List.length_take] at this; omega
      obtain ⟨f, hf⟩ : ∃ f, rd[k] = f := ⟨_, rfl⟩
      rw [hf] at q0 q1 HON
      have hi1 : (0 : Int) ≤ (k : Int) := by omega
      have hi3 : (k : Int) < (rd.length : Int) := by omega
      have HK : Hid ((k : Int) < (rd.length : Int)) := hi3
      by_cases hx : f.1 < id
      · rw [if_pos hx] at HON
        have HQ : Hid (ltL (rd.take (k + 1)) id = (ltL (rd.take k) id) ++ [f]) := by show _ = _; rw [HON]
        obtain ⟨G, hG⟩ : ∃ G, ltL (rd.take k) id = G := ⟨_, rfl⟩
        rw [hG] at HQ HO hln ⊢
        have hbs : w3.heap.size ≤ wr.heap.size := HBR.out.size
        clear hB4 hP4 HON hf hG
        go_wp2_with (at_builtin; refine wpList_snocP rfl _ _ 24 rfl w3.heap.size 38 Try.underlying24 Try.infoRdr _ G rfl HO.out f wr.heap.size rfl rfl hln hbs ?_; intro v9 w9 h91 h92; obtain ⟨a9, c9, rfl, _⟩ := h91.at)
        go_roundw
        case rel =>
          try ((repeat apply Exists.intro); refine ⟨?_, rfl⟩)
          have hb9 : Below w3.heap.size w3 w9 := (HBR.out.alloc hbs _).grown h92 (by simp; omega) (fun k e => (HO.out.lt k e).1)
          exact ⟨⟨k + 1, a9, c9, by have := HK.out; omega, by go_num, by rw [HQ.out]; simp, by rw [HQ.out]; exact h91, hb9⟩⟩
        case measure => have := HK.out; simp [intOf]; omega
      · rw [if_neg hx] at HON
        have HQ : Hid (ltL (rd.take (k + 1)) id = ltL (rd.take k) id) := by show _ = _; rw [HON]
        clear hB4 hP4 HON hf
        go_wp2_with fail
        go_roundw
        case rel =>
          try ((repeat apply Exists.intro); refine ⟨?_, rfl⟩)
          exact ⟨⟨k + 1, va, vc, by have := HK.out; omega, by go_num, by rw [HQ.out], by rw [HQ.out]; exact HO.out, HBR.out⟩⟩
        case measure => have := HK.out; simp [intOf]; omega
    · have hi3 : ¬ (k : Int) < (rd.length : Int) := by omega
      rw [List.take_of_length_le (by omega)] at HO ⊢
      clear hP4 hlt hk
      obtain ⟨GL, hGL⟩ : ∃ GL, ltL rd id = GL := ⟨_, rfl⟩
      have HGL : Hid (ltL rd id = GL) := hGL
      have hgl : GL.length < 10000000 := by rw [← hGL]; have := ltL_len rd id; omega
      rw [hGL] at HO ⊢
      clear hGL
      have hbs : w3.heap.size ≤ wr.heap.size := HBR.out.size
      obtain ⟨wo, hwo⟩ : ∃ wo, wo = wr := ⟨_, rfl⟩
      subst hwo
      clear hO3 hbA hB4
      go_wp2_with (at_builtin; refine wpList_snocP rfl _ _ 24 rfl w3.heap.size 38 Try.underlying24 Try.infoRdr _ GL rfl HO.out (id, 0) wo.heap.size rfl rfl hgl hbs ?_; intro v9 w9 h91 h92; obtain ⟨a9, c9, rfl, _⟩ := h91.at)
      have HB9 : Hid (Below w3.heap.size w3 w9) := (HBR.out.alloc hbs _).grown h92 (by simp; omega) (fun k e => (HO.out.lt k e).1)
      obtain ⟨G0, hG0⟩ : ∃ G0, GL ++ [(id, 0)] = G0 := ⟨_, rfl⟩
      have HG0 : Hid (GL ++ [(id, 0)] = G0) := hG0
      have hg0 : G0.length < 5000000 := by rw [← hG0, List.length_append, ← HGL.out]; have := ltL_len rd id; simp; omega
      rw [hG0] at h91
      try (rw [show (GL.length + 1 : Nat) = G0.length by rw [← hG0]; simp])
      have HO9 : Hid (OwnP w9 w3.heap.size 38 (.slice a9 (GL ++ [(id, 0)]).length c9) G0) := by rw [hG0]; exact h91
      clear hG0 b0 b1 b2 HO HBR h92
      go_loopw [7, 9] (fun l i wr => Box (∃ (k : Nat) (va : Option Addr) (vc : Nat), k ≤ rd.length ∧ i = .int .i64 k ∧ l = .slice va (G0 ++ gtL (rd.take k) id).length vc ∧ Hid (OwnP wr w3.heap.size 38 (.slice va (G0 ++ gtL (rd.take k) id).length vc) (G0 ++ gtL (rd.take k) id)) ∧ Hid (Below w3.heap.size w3 wr)))
        (fun _ i _ => rd.length - (intOf i).toNat)
      case atStart => exact ⟨⟨0, a9, c9, by omega, rfl, by simp [gtL, ← HG0.out], by have := HO9.out; rw [HG0.out] at this; show OwnP _ _ _ _ _; simpa [gtL] using this, HB9⟩⟩
      case round =>
        obtain ⟨k, va, vc, hk, rfl, rfl, HO, HBR⟩ := hrel.out
        clear hrel
        obtain ⟨hB4, _, hP4, _⟩ := HX.out wr (hb23.trans (HBR.out.mono hb23.size))
        obtain ⟨b0, b1, b2⟩ := hB4.cells
        by_cases hlt : k < rd.length
        · obtain ⟨gg, offg, rfl, _, q0, q1⟩ := hP4 k hlt
          have HON := gtL_on rd id k hlt
          have hln : (G0 ++ gtL (rd.take k) id).length < 10000000 := by have := gtL_len (rd.take k) id; rw [List.length_take] at this; rw [List.length_append]; omega
          obtain ⟨f, hf⟩ : ∃ f, rd[k] = f := ⟨_, rfl⟩
          rw [hf] at q0 q1 HON
          have hi1 : (0 : Int) ≤ (k : Int) := by omega
          have hi3 : (k : Int) < (rd.length : Int) := by omega
          have HK : Hid ((k : Int) < (rd.length : Int)) := hi3
          by_cases hx : id < f.1
          · rw [if_pos hx] at HON
            have HQ : Hid (G0 ++ gtL (rd.take (k + 1)) id = (G0 ++ gtL (rd.take k) id) ++ [f]) := by show _ = _; rw [HON, List.append_assoc]
            obtain ⟨G, hG⟩ : ∃ G, G0 ++ gtL (rd.take k) id = G := ⟨_, rfl⟩
            rw [hG] at HQ HO hln ⊢
            have hbs : w3.heap.size ≤ wr.heap.size := HBR.out.size
            clear hB4 hP4 HON hf hG
            go_wp2_with (at_builtin; refine wpList_snocP rfl _ _ 24 rfl w3.heap.size 38 Try.underlying24 Try.infoRdr _ G rfl HO.out f wr.heap.size rfl rfl hln hbs ?_; intro v9 w9 h91 h92; obtain ⟨a9, c9, rfl, _⟩ := h91.at)
            go_roundw
            case rel =>
              try ((repeat apply Exists.intro); refine ⟨?_, rfl⟩)
              have hb9 : Below w3.heap.size w3 w9 := (HBR.out.alloc hbs _).grown h92 (by simp; omega) (fun k e => (HO.out.lt k e).1)
              exact ⟨⟨k + 1, a9, c9, by have := HK.out; omega, by go_num, by rw [HQ.out]; simp, by rw [HQ.out]; exact h91, hb9⟩⟩
            case measure => have := HK.out; simp [intOf]; omega
          · rw [if_neg hx] at HON
            have HQ : Hid (G0 ++ gtL (rd.take (k + 1)) id = G0 ++ gtL (rd.take k) id) := by show _ = _; rw [HON]
            clear hB4 hP4 HON hf
            go_wp2_with fail
            go_roundw
            case rel =>
              try ((repeat apply Exists.intro); refine ⟨?_, rfl⟩)
              exact ⟨⟨k + 1, va, vc, by have := HK.out; omega, by go_num, by rw [HQ.out], by rw [HQ.out]; exact HO.out, HBR.out⟩⟩
            case measure => have := HK.out; simp [intOf]; omega
        · have hi3 : ¬ (k : Int) < (rd.length : Int) := by omega
          rw [List.take_of_length_le (by omega)] at HO ⊢
          clear hP4 hlt hk
          obtain ⟨JL, hJL⟩ : ∃ JL, G0 ++ gtL rd id = JL := ⟨_, rfl⟩
          have HJ : Hid (joinL rd id = JL) := by show _ = _; rw [join_lt, HGL.out, HG0.out]; exact hJL
          have hjl : JL.length ≤ 1048577 := by
            rw [← HJ.out, join_lt]
            have := ltgt_len rd id
            simp; omega
          rw [hJL] at HO ⊢
          obtain ⟨w5, hw5⟩ : ∃ w5, w5 = wr := ⟨_, rfl⟩
          subst hw5
          obtain ⟨w6, hw6⟩ : ∃ x, w5.alloc (.cells #[.int .i64 st, .string t, .slice va JL.length vc] 26) = x := ⟨_, rfl⟩
          have hb6 : Below w5.heap.size w5 w6 := by rw [← hw6]; exact (Below.refl _ _).alloc (Nat.le_refl _) _
          have hX6 : MBox w6 w5.heap.size (.int .i64 st) (.string t) (.slice va JL.length vc) := by rw [← hw6]; exact MBox.new _ _ _ _
          have hb36 : Below w3.heap.size w3 w6 := HBR.out.trans (hb6.mono HBR.out.size)
          have HW6 : Hid (w5.alloc (.cells #[.int .i64 st, .string t, .slice va JL.length vc] 26) = w6) := hw6
          have hO6 := HO.out.below hb6 (Nat.le_refl _)
          have hs5 : w3.heap.size ≤ w5.heap.size := HBR.out.size
          have hs3 : w2.heap.size < w3.heap.size := hT.lt
          have HF : Hid (∀ wi, Below w6.heap.size w6 wi → MBox wi w.heap.size (.int .i64 st) (.string t) (.slice a rd.length c) ∧ MBox wi (w.heap.size + 1) (.int .i64 0) (.string ⟨#[]⟩) (.slice none 0 0) ∧ MBox wi w2.heap.size (.int .i64 st) (.string t) (.slice a2 rd.length c2) ∧ MBox wi w5.heap.size (.int .i64 st) (.string t) (.slice va JL.length vc) ∧ PAt wi a rd wi.heap.size ∧ PAt wi va JL wi.heap.size ∧ MOwn wi w.heap.size (.agg #[.int .i64 st, .string t, .slice a2 rd.length c2]) ⟨st, t, rd⟩ ∧ MOwn wi w.heap.size (.agg #[.int .i64 st, .string t, .slice va JL.length vc]) ⟨st, t, JL⟩ ∧ Below w.heap.size w wi) := by
            intro wi hi
            have hb3i : Below w3.heap.size w3 wi := hb36.trans (hi.mono hb36.size)
            obtain ⟨y1, y2, y3, y4⟩ := HX.out wi (hb23.trans (hb3i.mono hb23.size))
            have hOi := hO6.below hi (Nat.le_refl _)
            obtain ⟨a', c', e', hAi⟩ := hOi.at
            simp only [Value.slice.injEq, true_and] at e'
            obtain ⟨rfl, rfl⟩ := e'
            exact ⟨y1, y2, hT.on hb3i, hX6.on hi, y3, hAi, (ho3.below hb3i (Nat.le_refl _)).mono (by have := HS1.out; omega), ⟨_, rfl, hOi.mono (by have := HS1.out; omega)⟩, y4⟩
          have cO := specStreamOk_any w6 a c ⟨st, t, rd⟩ (HF.out w6 (Below.refl _ _)).2.2.2.2.1 ht (by dsimp only; omega)
          obtain ⟨b0, b1, b2⟩ := (HF.out w6 (Below.refl _ _)).1.cells
          rw [← hw6] at b0 b1 b2
          obtain ⟨hB5, _, _, _⟩ := HX.out w5 (hb23.trans (HBR.out.mono hb23.size))
          obtain ⟨d0, d1, d2⟩ := hB5.cells
          clear hw6 hO6 hX6 hb36 hb6 hJL hB4 HO HBR hT ho3 HX hB5
          go_wp2_with fail
          rw [HW6.out] at b0 b1 b2 ⊢
          refine cO.mono ?_
          rintro e w7 ⟨rfl, hb7⟩
          clear cO b0 b1 b2 d0 d1 d2
          have HM : Hid (joinM ⟨st, t, rd⟩ id = if (okM ⟨st, t, rd⟩ && !decide (0 ≤ atM rd id) && okM ⟨st, t, JL⟩) = true then (⟨st, t, JL⟩, true) else (⟨st, t, rd⟩, false)) := by show _ = _; unfold joinM; dsimp only; rw [HJ.out]
          cases hok : okM ⟨st, t, rd⟩ with
          | false =>
            have HP : Hid (joinM ⟨st, t, rd⟩ id = (⟨st, t, rd⟩, false)) := by show _ = _; rw [HM.out, hok]; rfl
            obtain ⟨hb_, hr_, ho_, hx_, _, _, hm1, hm2, hw_⟩ := HF.out w7 hb7
            obtain ⟨r0, r1, r2⟩ := hr_.cells
            obtain ⟨f0, f1, f2⟩ := (⟨hr_.thaw 0, hr_.thaw 1, hr_.thaw 2⟩ : _ ∧ _ ∧ _)
            obtain ⟨o0, o1, o2⟩ := ho_.cells
            obtain ⟨x0, x1, x2⟩ := hx_.cells
            go_wp2_with fail
            obtain ⟨q0, q1, q2⟩ := (hr_.put (.int .i64 st) (.string t) (.slice a2 rd.length c2)).cells
            refine bodyPost_ret (v := .tuple #[.agg #[.int .i64 st, .string t, .slice a2 rd.length c2], .bool false]) (by simp [results, Try.results22, go_sem, q0, q1, q2]) rfl ⟨_, by rw [HP.out], ?_, Below.put3M hw_ (by omega) _ _ _⟩
            rw [HP.out]
            exact hm1.put3 hr_ _ _ _
          | true =>
            obtain ⟨b0, b1, b2⟩ := (HF.out w7 hb7).1.cells
            have cA := l14At_any w7 a c ⟨st, t, rd⟩ id (HF.out w7 hb7).2.2.2.2.1 (by dsimp only; omega)
            go_wp2_with fail
            refine cA.mono ?_
            rintro e w8 ⟨rfl, hb8⟩
            have hb68 := hb7.trans (hb8.mono hb7.size)
            clear cA b0 b1 b2
            by_cases h0 : 0 ≤ atM rd id
            · have HP : Hid (joinM ⟨st, t, rd⟩ id = (⟨st, t, rd⟩, false)) := by show _ = _; rw [HM.out, decide_eq_true h0]; simp
              obtain ⟨hb_, hr_, ho_, hx_, _, _, hm1, hm2, hw_⟩ := HF.out w8 hb68
              obtain ⟨r0, r1, r2⟩ := hr_.cells
              obtain ⟨f0, f1, f2⟩ := (⟨hr_.thaw 0, hr_.thaw 1, hr_.thaw 2⟩ : _ ∧ _ ∧ _)
              obtain ⟨o0, o1, o2⟩ := ho_.cells
              obtain ⟨x0, x1, x2⟩ := hx_.cells
              go_wp2_with fail
              obtain ⟨q0, q1, q2⟩ := (hr_.put (.int .i64 st) (.string t) (.slice a2 rd.length c2)).cells
              refine bodyPost_ret (v := .tuple #[.agg #[.int .i64 st, .string t, .slice a2 rd.length c2], .bool false]) (by simp [results, Try.results22, go_sem, q0, q1, q2]) rfl ⟨_, by rw [HP.out], ?_, Below.put3M hw_ (by omega) _ _ _⟩
              rw [HP.out]
              exact hm1.put3 hr_ _ _ _
            · obtain ⟨b0, b1, b2⟩ := (HF.out w8 hb68).2.2.2.1.cells
              have cO := specStreamOk_any w8 va vc ⟨st, t, JL⟩ (HF.out w8 hb68).2.2.2.2.2.1 ht hjl
              go_wp2_with fail
              refine cO.mono ?_
              rintro e w9' ⟨rfl, hb9⟩
              have hb69 := hb68.trans (hb9.mono hb68.size)
              clear cO b0 b1 b2
              cases hok2 : okM ⟨st, t, JL⟩ with
              | false =>
                have HP : Hid (joinM ⟨st, t, rd⟩ id = (⟨st, t, rd⟩, false)) := by show _ = _; rw [HM.out, hok2]; simp
                obtain ⟨hb_, hr_, ho_, hx_, _, _, hm1, hm2, hw_⟩ := HF.out w9' hb69
                obtain ⟨r0, r1, r2⟩ := hr_.cells
                obtain ⟨f0, f1, f2⟩ := (⟨hr_.thaw 0, hr_.thaw 1, hr_.thaw 2⟩ : _ ∧ _ ∧ _)
                obtain ⟨o0, o1, o2⟩ := ho_.cells
                obtain ⟨x0, x1, x2⟩ := hx_.cells
                go_wp2_with fail
                obtain ⟨q0, q1, q2⟩ := (hr_.put (.int .i64 st) (.string t) (.slice a2 rd.length c2)).cells
                refine bodyPost_ret (v := .tuple #[.agg #[.int .i64 st, .string t, .slice a2 rd.length c2], .bool false]) (by simp [results, Try.results22, go_sem, q0, q1, q2]) rfl ⟨_, by rw [HP.out], ?_, Below.put3M hw_ (by omega) _ _ _⟩
                rw [HP.out]
                exact hm1.put3 hr_ _ _ _
              | true =>
                have HP : Hid (joinM ⟨st, t, rd⟩ id = (⟨st, t, JL⟩, true)) := by show _ = _; rw [HM.out, hok2, hok, decide_eq_false (show ¬ 0 ≤ atM rd id by omega)]; rfl
                obtain ⟨hb_, hr_, ho_, hx_, _, _, hm1, hm2, hw_⟩ := HF.out w9' hb69
                obtain ⟨r0, r1, r2⟩ := hr_.cells
                obtain ⟨f0, f1, f2⟩ := (⟨hr_.thaw 0, hr_.thaw 1, hr_.thaw 2⟩ : _ ∧ _ ∧ _)
                obtain ⟨o0, o1, o2⟩ := ho_.cells
                obtain ⟨x0, x1, x2⟩ := hx_.cells
                go_wp2_with fail
                obtain ⟨q0, q1, q2⟩ := (hr_.put (.int .i64 st) (.string t) (.slice va JL.length vc)).cells
                refine bodyPost_ret (v := .tuple #[.agg #[.int .i64 st, .string t, .slice va JL.length vc], .bool true]) (by simp [results, Try.results22, go_sem, q0, q1, q2]) rfl ⟨_, by rw [HP.out], ?_, Below.put3M hw_ (by omega) _ _ _⟩
                rw [HP.out]
                exact hm2.put3 hr_ _ _ _
end Go.Proofs.Ytmpnjijbahjinaf
