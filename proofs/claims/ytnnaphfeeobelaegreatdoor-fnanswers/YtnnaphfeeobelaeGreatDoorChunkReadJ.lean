/- Texts that stand in one: ChunkRead, BodyAns. -/
import Derived.Test.YtnnaphfeeobelaeGreatDoorChunkLenJ
import Derived.Test.YtnnaphfeeobelaeGreatDoorAsImpl
namespace Go.Proofs.YtnnaphfeeobelaeGreatDoor
open Go.RowKit Go.Sort
set_option maxHeartbeats 4000000 in
/-- What a reader reads: R is what readI tells. -/
theorem readC_any (w0 : World) (T : Nat) (t : ByteArray) (ht : t.size ≤ 1048576) (l : List UInt8) (hl : t.data.toList = l) (R : List UInt8 × Int × Int) (w : World) (v0 : Value) (H : Rc w0 T t 0 v0 [] w) (hR : chunksI l = R) :
    Calls Tryz.prog 79 #[.pointer (some ⟨T, 0, none⟩)] w fun e w' =>
      (R = ([], 0, 2) ∧ e = .returned (flt 2) ∧ ∃ k' v' B', Rc w0 T t k' v' B' w') ∨ (R = ([], 0, 1) ∧ e = .returned (flt 1) ∧ ∃ k' v' B', Rc w0 T t k' v' B' w') ∨ (e = .returned .nilIface ∧ ∃ (k : Nat) (v' : Value) (B' : List UInt8), R = (B', (k : Int), 0) ∧ Rc w0 T t k v' B' w') := by
  have hsz : t.size = l.length := by rw [← hl]; exact Lib.size_eq t
  have HL : Hid (t.data.toList = l ∧ t.size = l.length) := ⟨hl, hsz⟩
  have HR : Hid (readI l (l.length + 1) [] 0 = R) := hR
  have HH : Hid (Rc w0 T t 0 v0 [] w) := H
  clear hl hR hsz H
  go_enter Tryz.func79, Tryz.ntmps79
  go_wp2_with fail
  go_loopw [] (fun wr => Box (∃ (k f : Nat) (v : Value) (B : List UInt8), k ≤ l.length ∧ l.length + 1 ≤ k + f ∧ B.length ≤ 400 ∧ Hid (readI l f B k = R) ∧ Rc w0 T t k v B wr))
    (fun wr => t.size + 1 - (intOf ((wr.cell? ⟨T, 1, none⟩).getD (.int .i64 0))).toNat)
  case atStart => exact ⟨⟨0, l.length + 1, v0, [], by omega, by omega, by simp, HR, HH.out⟩⟩
  case round =>
    clear HR HH
    obtain ⟨k, f, v, B, hk, hf, hB, HR, H⟩ := hrel.out
    have HM : Hid ((wr.cell? ⟨T, 1, none⟩).getD (.int .i64 0) = .int .i64 (k : Int)) := by show _ = _; rw [H.box.cells.2.1]; rfl
    clear hrel
    have hkt : k ≤ t.size := by have := HL.out.2; omega
    have c1 := length_any w0 T t k v B wr H hkt ht hB l HL.out.1
    obtain ⟨g, rfl⟩ : ∃ g, f = g + 1 := ⟨f - 1, by omega⟩
    obtain ⟨q, hq⟩ : ∃ q, (figsAt l k).1 = q := ⟨_, rfl⟩
    obtain ⟨n, hn⟩ : ∃ n, (figsAt l k).2 = n := ⟨_, rfl⟩
    have hle := figsAt_le l k
    have HS : Hid ((if l.length ≤ k then ([], 0, 1)
      else if q = 0 ∨ 400 < B.length + n then ([], 0, 2)
      else if endS l (k + q) < 0 then ([], 0, 2)
      else if endS l (k + q) = 0 then ([], 0, 1)
      else if l.length < k + q + 2 + n then ([], 0, 1)
      else if endS l (k + q + 2 + n) < 0 then ([], 0, 2)
      else if endS l (k + q + 2 + n) = 0 then ([], 0, 1)
      else if n = 0 then (B ++ (l.drop (k + q + 2)).take n, ((k + q + 2 + n + 2 : Nat) : Int), 0)
      else readI l g (B ++ (l.drop (k + q + 2)).take n) (k + q + 2 + n + 2)) = R) := by
      show _ = _
      rw [← HR.out, ← hq, ← hn]
      rfl
    have hn255 : n ≤ 255 := by omega
    have HK : Hid (k ≤ l.length ∧ l.length + 1 ≤ k + (g + 1)) := ⟨hk, hf⟩
    rw [hq, hn] at c1
    clear H hk hf hkt HR hq hn hle
    unfold flt at *
    go_wp2_with fail
    refine c1.mono ?_
    clear c1
    rintro e w1 (⟨g1, rfl, k', hr⟩ | ⟨g1, g2, rfl, k', hr⟩ | ⟨g1, g2, g3, ⟨x, rfl⟩, k', hr⟩ | ⟨g1, g2, g3, ⟨x, rfl⟩, k', hr⟩ | ⟨g1, g2, g3, rfl, hr⟩)
    · have HE : Hid (R = ([], 0, 1)) := by show _ = _; rw [← HS.out, if_pos g1]
      clear g1 HS
      go_wp2_with fail
      go_ret
      exact .inr (.inl ⟨HE.out, rfl, _, _, _, hr⟩)
    · have HE : Hid (R = ([], 0, 2)) := by show _ = _; rw [← HS.out, if_neg (by omega), if_pos g2]
      clear g1 g2 HS
      go_wp2_with fail
      go_ret
      exact .inl ⟨HE.out, rfl, _, _, _, hr⟩
    · have HE : Hid (R = ([], 0, 2)) := by show _ = _; rw [← HS.out, if_neg (by omega), if_neg g2, if_pos g3]
      clear g1 g2 g3 HS
      go_wp2_with fail
      go_ret
      exact .inl ⟨HE.out, rfl, _, _, _, hr⟩
    · have HE : Hid (R = ([], 0, 1)) := by show _ = _; rw [← HS.out, if_neg (by omega), if_neg g2, if_neg (by omega), if_pos g3]
      clear g1 g2 g3 HS
      go_wp2_with fail
      go_ret
      exact .inr (.inl ⟨HE.out, rfl, _, _, _, hr⟩)
    · have HS2 : Hid ((if l.length < k + q + 2 + n then ([], 0, 1)
        else if endS l (k + q + 2 + n) < 0 then ([], 0, 2)
        else if endS l (k + q + 2 + n) = 0 then ([], 0, 1)
        else if n = 0 then (B ++ (l.drop (k + q + 2)).take n, ((k + q + 2 + n + 2 : Nat) : Int), 0)
        else readI l g (B ++ (l.drop (k + q + 2)).take n) (k + q + 2 + n + 2)) = R) := by
        have h := HS.out
        rw [if_neg (show ¬ l.length ≤ k by omega), if_neg g2, if_neg (show ¬ endS l (k + q) < 0 by omega), if_neg (show ¬ endS l (k + q) = 0 by omega)] at h
        exact h
      have hke : k + q + 2 ≤ t.size := by
        have := (endS_ok (l := l) (k := k + q) rfl g3)
        have h2 := HL.out.2
        omega
      have HBn : Hid (B.length + n ≤ 400) := by show _ ≤ _; omega
      have c2 := part_any w0 T t (k + q + 2) n v B w1 hr hke ht hB hn255 l HL.out.1
      unfold flt at c2
      obtain ⟨M, hM⟩ : ∃ M, B ++ (l.drop (k + q + 2)).take n = M := ⟨_, rfl⟩
      have HML : Hid (M.length ≤ 400) := by
        show _ ≤ _
        rw [← hM, List.length_append]
        have := List.length_take_le n (l.drop (k + q + 2))
        have := HBn.out
        omega
      rw [hM] at c2 HS2
      obtain ⟨p, hp⟩ : ∃ p, k + q + 2 = p := ⟨_, rfl⟩
      rw [hp] at c2 HS2
      have HP : Hid (k + q + 2 = p) := hp
      clear g1 g2 g3 HS hM hr hke hp HBn hB
      go_wp2_with fail
      refine c2.mono ?_
      clear c2
      rintro e w2 (⟨g1, rfl, k', v', B', hr⟩ | ⟨g1, g2, rfl, k', v', B', hr⟩ | ⟨g1, g2, rfl, k', v', B', hr⟩ | ⟨g1, g2, rfl, v', hr⟩)
      · have HE : Hid (R = ([], 0, 1)) := by show _ = _; rw [← HS2.out, if_pos g1]
        clear g1 HS2
        go_wp2_with fail
        go_ret
        exact .inr (.inl ⟨HE.out, rfl, _, _, _, hr⟩)
      · have HE : Hid (R = ([], 0, 2)) := by show _ = _; rw [← HS2.out, if_neg g1, if_pos g2]
        clear g1 g2 HS2
        go_wp2_with fail
        go_ret
        exact .inl ⟨HE.out, rfl, _, _, _, hr⟩
      · have HE : Hid (R = ([], 0, 1)) := by show _ = _; rw [← HS2.out, if_neg g1, if_neg (by omega), if_pos g2]
        clear g1 g2 HS2
        go_wp2_with fail
        go_ret
        exact .inr (.inl ⟨HE.out, rfl, _, _, _, hr⟩)
      · have hend := (endS_ok (l := l) (k := p + n) rfl g2)
        by_cases hn0 : n = 0
        · have HE : Hid (R = (M, ((p + n + 2 : Nat) : Int), 0)) := by show _ = _; rw [← HS2.out, if_neg g1, if_neg (by omega), if_neg (by omega), if_pos hn0]
          have hb0 : ((n : Int) == 0) = true := by simp [hn0]
          have HRc : Hid (Rc w0 T t (p + n + 2) v' M w2) := hr
          clear g1 g2 HS2 hn0 hend hr
          go_wp2_with fail
          go_ret
          exact .inr (.inr ⟨rfl, _, _, _, HE.out, HRc.out⟩)
        · have HN : Hid (readI l g M (p + n + 2) = R) := by show _ = _; rw [← HS2.out, if_neg g1, if_neg (by omega), if_neg (by omega), if_neg hn0]
          have hb0 : ((n : Int) == 0) = false := by rw [beq_eq_false_iff_ne]; omega
          have HEND : Hid (p + n + 2 ≤ l.length) := by show _ ≤ _; omega
          have HRc : Hid (Rc w0 T t (p + n + 2) v' M w2) := hr
          clear g1 g2 HS2 hn0 hend hr
          go_wp2_with fail
          go_roundw
          case rel =>
            try ((repeat apply Exists.intro); refine ⟨?_, rfl⟩)
            have h5 := HEND.out
            have h6 := HK.out
            have h7 := HP.out
            exact ⟨⟨p + n + 2, g, v', M, h5, by omega, HML.out, HN, HRc.out⟩⟩
          case measure =>
            have h5 := HEND.out
            have h6 := HK.out
            have h7 := HP.out
            have h8 := HL.out.2
            rw [HM.out, HRc.out.box.cells.2.1]
            simp [intOf]
            omega
/-- The variable that errors.As reads: the handle of the type 'error'. -/
def ErrT (w : World) : Prop := w.cell? ⟨0, 0, none⟩ = some (.iface 115 (.agg #[.pointer (some ⟨7, 60, none⟩)]))
theorem ErrT.lt {w : World} (h : ErrT w) : 0 < w.heap.size := by
  rcases Nat.lt_or_ge 0 w.heap.size with h1 | h1
  · exact h1
  · unfold ErrT at h
    simp [World.cell?, Array.getElem?_eq_none h1] at h
theorem ErrT.on {w w' : World} (h : ErrT w) {n : Nat} (hb : Below n w w') (hn : w.heap.size ≤ n) : ErrT w' := (hb.cell (p := ⟨0, 0, none⟩) (Nat.lt_of_lt_of_le h.lt hn)).trans h
theorem nil_text (w : World) : (convert 22 9 (.slice none 0 0)).run Tryz.prog w = .ok (.string ⟨#[]⟩) w := by kernel_rfl
/-- 'string(v)' of bytes that are owned, empty ones too. -/
theorem own_text {w : World} {base : Nat} {v : Value} {l : List UInt8} (h : OwnB w base 5 v l) : (convert 22 9 v).run Tryz.prog w = .ok (.string ⟨l.toArray⟩) w := by
  by_cases hv : v = .slice none 0 0
  · subst hv
    have hl : l = [] := by
      rcases h.2 with ⟨_, hn⟩ | ⟨g, cap, cur, hc, _⟩
      · exact List.length_eq_zero_iff.1 hn
      · cases hc
    subst hl
    exact nil_text w
  · exact h.text 22 9 Tryz.underlying22 Tryz.underlying5 Tryz.underlying9 hv
set_option maxRecDepth 100000 in
set_option maxHeartbeats 4000000 in
theorem readParts_any (t : ByteArray) (w : World) (ht : t.size ≤ 1048576) (R : List UInt8 × Int × Int) (hR : chunksI t.data.toList = R) :
    Calls Tryz.prog 62 #[.string t] w fun e w' => ((R = ([], 0, 2) ∧ ∃ s n, e = .returned (.tuple #[.string s, .int .i64 n, flt 2])) ∨ (R = ([], 0, 1) ∧ ∃ s n, e = .returned (.tuple #[.string s, .int .i64 n, flt 1])) ∨ (R.2.2 = 0 ∧ e = .returned (.tuple #[.string ⟨R.1.toArray⟩, .int .i64 R.2.1, .nilIface]))) ∧ Below w.heap.size w w' := by
  have HR : Hid (chunksI t.data.toList = R) := hR
  clear hR
  obtain ⟨w1, hw1⟩ : ∃ x, w.alloc (.cells #[.string t, .int .i64 0, .slice none 0 0] 131) = x := ⟨_, rfl⟩
  have H1 : Rc w w.heap.size t 0 (.slice none 0 0) [] w1 := by
    rw [← hw1]
    exact ⟨(Below.refl _ _).alloc (Nat.le_refl _) _, Nat.le_refl _, CBx.new w t 0 _, World.ownsRow_nil _ _ _ _⟩
  have c1 := readC_any w w.heap.size t ht _ rfl R w1 _ H1 HR.out
  have HW : Hid (w.alloc (.cells #[.string t, .int .i64 0, .slice none 0 0] 131) = w1) := hw1
  unfold flt at *
  clear H1 hw1
  go_enter Tryz.func62, Tryz.ntmps62
  go_wp2_with fail
  rw [HW.out]
  refine c1.mono ?_
  clear c1 HR
  rintro e w2 (⟨g1, rfl, k', v', B', hr⟩ | ⟨g1, rfl, k', v', B', hr⟩ | ⟨rfl, k', v', B', g1, hr⟩)
  all_goals (
    have hcv : ∀ i, (convert 22 9 v').run Tryz.prog (w2.drewN i) = .ok (.string ⟨B'.toArray⟩) (w2.drewN i) := fun i => own_text (hr.own.kept (w' := w2.drewN i) fun _ _ => rfl)
    obtain ⟨x0, x1, x2⟩ := hr.box.cells
    have HG : Hid _ := g1
    have HB : Hid _ := hr.bel
    clear g1 hr
    go_wp2_with fail
    go_quiet (fail)
    have HD : Hid (Below w.heap.size w (w2.drewN nq)) := HB.out.trans ⟨rfl, rfl, rfl, Nat.le_refl _, fun _ _ => rfl⟩
    generalize w2.drewN nq = w3 at HD ⊢
    go_wp2_with fail
    go_ret3
    first | exact ⟨.inl ⟨HG.out, _, _, rfl⟩, HD.out⟩ | exact ⟨.inr (.inl ⟨HG.out, _, _, rfl⟩), HD.out⟩ | exact ⟨.inr (.inr (by rw [HG.out]; exact ⟨rfl, rfl⟩)), HD.out⟩)
end Go.Proofs.YtnnaphfeeobelaeGreatDoor

namespace Go.Proofs.YtnnaphfeeobelaeGreatDoor
open Go.RowKit Go.Sort
set_option maxHeartbeats 4000000 in
theorem bodyAns_nil (s : ByteArray) (n : Int) (w : World) :
    Calls Tryz.prog 24 #[.string s, .int .i64 n, .nilIface] w fun e w' => e = .returned (.tuple #[.string s, .int .i64 n, .int .i64 0]) ∧ Below w.heap.size w w' := by
  obtain ⟨w1, hw1⟩ : ∃ x, w.alloc (.cells #[.int .i64 0] 81) = x := ⟨_, rfl⟩
  have c1 := as_nil (.iface 83 (.pointer (some ⟨w.heap.size, 0, none⟩))) w1
  have HB : Hid (Below w.heap.size w w1) := by show Below _ _ _; rw [← hw1]; exact (Below.refl _ _).alloc (Nat.le_refl _) _
  have HW : Hid (w.alloc (.cells #[.int .i64 0] 81) = w1) := hw1
  clear hw1
  go_enter Tryz.func24, Tryz.ntmps24
  go_wp2_with fail
  rw [HW.out]
  refine c1.mono ?_
  rintro e w2 ⟨rfl, hw⟩
  rw [hw]
  clear c1
  go_wp2_with fail
  go_ret3
  exact ⟨rfl, HB.out⟩
set_option maxHeartbeats 4000000 in
theorem bodyAns_flt (s : ByteArray) (n c : Int) (w : World) (hT : ErrT w) :
    Calls Tryz.prog 24 #[.string s, .int .i64 n, flt c] w fun e w' => e = .returned (.tuple #[.string ⟨#[]⟩, .int .i64 0, .int .i64 c]) ∧ Below w.heap.size w w' := by
  obtain ⟨w1, hw1⟩ : ∃ x, w.alloc (.cells #[.int .i64 0] 81) = x := ⟨_, rfl⟩
  have b1 : Below w.heap.size w w1 := by rw [← hw1]; exact (Below.refl _ _).alloc (Nat.le_refl _) _
  have hs1 : w1.heap.size = w.heap.size + 1 := by rw [← hw1]; simp
  have hc1 : w1.cell? ⟨w.heap.size, 0, none⟩ = some (.int .i64 0) := by rw [← hw1]; simp
  have hf1 : w1.frozen? ⟨w.heap.size, 0, none⟩ = false := by rw [← hw1]; simp
  have c1 := as_hit c ⟨w.heap.size, 0, none⟩ (.int .i64 0) w1 (hT.on b1 (Nat.le_refl _)) hc1 hf1
  obtain ⟨w2, hw2⟩ : ∃ x, ((((w1.alloc (.cells #[.pointer (some ⟨w.heap.size, 0, none⟩)] 83)).alloc (.cells #[.pointer (some ⟨7, 83, none⟩), .pointer (some ⟨w1.heap.size, 0, none⟩), .int .u64 150] 94)).alloc (.cells #[.pointer (some ⟨7, 83, none⟩), .pointer (some ⟨w1.heap.size, 0, none⟩), .int .u64 150] 94)).alloc (.cells #[.int .i64 c] 81)) = x := ⟨_, rfl⟩
  rw [hw2] at c1
  have b2 : Below w1.heap.size w1 w2 := by
    rw [← hw2]
    exact ((((Below.refl _ _).alloc (Nat.le_refl _) _).alloc (by simp) _).alloc (by simp; omega) _).alloc (by simp; omega) _
  have hT2 : w2.heap[w.heap.size]? = some (.cells #[.int .i64 0] 81 (0, 0)) := by
    refine (b2.block _ (by omega)).trans ?_
    rw [← hw1]
    exact heap_alloc_new w _
  have hc3 : (w2.setCell ⟨w.heap.size, 0, none⟩ (.int .i64 c)).cell? ⟨w.heap.size, 0, none⟩ = some (.int .i64 c) := by
    simp only [World.cell?, World.setCell, Array.getElem?_modify, hT2]
    simp
  have b3 : Below w.heap.size w (w2.setCell ⟨w.heap.size, 0, none⟩ (.int .i64 c)) := by
    refine (b1.trans (b2.mono b1.size)).trans ⟨rfl, rfl, rfl, by simp [World.setCell], fun j hj => Below.heap_setCell _ _ _ _ (by simp only; omega)⟩
  obtain ⟨w3, hw3⟩ : ∃ x, w2.setCell ⟨w.heap.size, 0, none⟩ (.int .i64 c) = x := ⟨_, rfl⟩
  rw [hw3] at c1 hc3 b3
  have HB : Hid (Below w.heap.size w w3) := b3
  have HW : Hid (w.alloc (.cells #[.int .i64 0] 81) = w1) := hw1
  unfold flt
  clear hw1 b1 hs1 hc1 hf1 hw2 b2 hT2 hw3 b3 hT
  go_enter Tryz.func24, Tryz.ntmps24
  go_wp2_with fail
  rw [HW.out]
  refine c1.mono ?_
  rintro e w4 ⟨rfl, hw⟩
  rw [hw]
  clear c1 hw
  go_wp2_with fail
  go_quiet (fail)
  have HD : Hid (Below w.heap.size w (w3.drewN nq)) := HB.out.trans ⟨rfl, rfl, rfl, Nat.le_refl _, fun _ _ => rfl⟩
  generalize w3.drewN nq = w5 at HD ⊢
  go_wp2_with fail
  go_ret3
  exact ⟨rfl, HD.out⟩
end Go.Proofs.YtnnaphfeeobelaeGreatDoor
