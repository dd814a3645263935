/- Texts that stand in one: HoldImpl, StmPut1. -/
import Derived.Test.YtcaakommnglnbaaGreatDoorStmBaseJ
import Derived.Test.YtcaakommnglnbaaGreatDoorShelf
import Derived.Test.YtcaakommnglnbaaGreatDoorStmOkImplJ
import Derived.BigQuiet
namespace Go.Proofs.YtcaakommnglnbaaGreatDoor
open Go.RowKit Go.Sort

theorem cloneSH_any (s : ByteArray) (w : World) (hs : s.size ≤ 281474976710656) :
    Calls Tryz.prog 78 #[.string s] w fun e w' => e = .returned (.string s) ∧ Below w.heap.size w w' := by
  go_enter Tryz.func78, Tryz.ntmps78
  go_wp2_with (go_at_call 103; refine (Tryz.stringslite_Clone s _ hs).mono ?_; rintro e w' ⟨rfl, hb⟩)
  go_ret
  exact ⟨rfl, hb⟩
set_option maxRecDepth 100000 in
set_option maxHeartbeats 4000000 in
theorem streamCopy_any (w : World) (a : Option Addr) (c : Nat) (S : Stm) (hE : PAt w a S.rd w.heap.size) (ht : S.text.size ≤ 281474976710656) (hm : S.rd.length ≤ 1048576) :
    Calls Tryz.prog 173 #[.agg #[.int .i64 S.st, .string S.text, .slice a S.rd.length c]] w fun e w' => ∃ v, e = .returned v ∧ MOwn w' w.heap.size v S ∧ Below w.heap.size w w' := by
  obtain ⟨st, t, rd⟩ := S
  dsimp only at hE hm ht ⊢
  obtain ⟨w0, hw0⟩ : ∃ x, w.alloc (.cells #[.int .i64 st, .string t, .slice a rd.length c] 56) = x := ⟨_, rfl⟩
  obtain ⟨w1, hw1⟩ : ∃ x, w0.alloc (.cells #[.int .i64 0, .string ⟨#[]⟩, .slice none 0 0] 56) = x := ⟨_, rfl⟩
  have hb0 : Below w.heap.size w w0 := by rw [← hw0]; exact (Below.refl _ _).alloc (Nat.le_refl _) _
  have hb1 : Below w0.heap.size w0 w1 := by rw [← hw1]; exact (Below.refl _ _).alloc (Nat.le_refl _) _
  have s0 : w0.heap.size = w.heap.size + 1 := by rw [← hw0]; simp
  have s1 : w1.heap.size = w.heap.size + 2 := by rw [← hw1]; simp; omega
  have hB : MBox w1 w.heap.size (.int .i64 st) (.string t) (.slice a rd.length c) := by
    have h : MBox w0 w.heap.size (.int .i64 st) (.string t) (.slice a rd.length c) := by rw [← hw0]; exact MBox.new _ _ _ _
    exact h.on hb1
  have hR : MBox w1 (w.heap.size + 1) (.int .i64 0) (.string ⟨#[]⟩) (.slice none 0 0) := by rw [← hw1, ← s0]; exact MBox.new _ _ _ _
  have hBw : Below w.heap.size w w1 := hb0.trans (hb1.mono hb0.size)
  have HW : Hid ((w.alloc (.cells #[.int .i64 st, .string t, .slice a rd.length c] 56)).alloc (.cells #[.int .i64 0, .string ⟨#[]⟩, .slice none 0 0] 56) = w1) := by rw [hw0]; exact hw1
  have hS := (hE.on hBw)
  have KC : ∀ W, Below w1.heap.size w1 W → W.cell? ⟨w.heap.size, 0, none⟩ = some (.int .i64 st) ∧ W.cell? ⟨w.heap.size, 1, none⟩ = some (.string t) ∧ W.cell? ⟨w.heap.size, 2, none⟩ = some (.slice a rd.length c) := fun W hW => (hB.on hW).cells
  have HSG : Hid ((a = none → rd.length = 0) ∧ ∀ W, Below w1.heap.size w1 W → ∀ ad, a = some ad → ∀ j u, (prl rd)[j]? = some u → W.cell? (ad.add j) = some u) := ⟨hS.srcR.1, fun W hW => (hS.on hW).srcR.2⟩
  have HR : Hid (∀ W, Below w1.heap.size w1 W → MBox W (w.heap.size + 1) (.int .i64 0) (.string ⟨#[]⟩) (.slice none 0 0)) := fun W hW => hR.on hW
  have HS1 : Hid (w1.heap.size = w.heap.size + 2) := s1
  have hdf : Below w1.heap.size w1 w1.drew := ⟨rfl, rfl, rfl, Nat.le_refl _, fun _ _ => rfl⟩
  have hdr : Below (w.heap.size + 1) w1 w1.drew := hdf.mono (by omega)
  have hn1 : w.heap.size + 1 ≤ w1.heap.size := by omega
  have KS : ∀ W, Below (w.heap.size + 1) w1 W → Below (w.heap.size + 1) w1 W ∧ W.cell? ⟨w.heap.size, 0, none⟩ = some (.int .i64 st) ∧ W.cell? ⟨w.heap.size, 1, none⟩ = some (.string t) ∧ W.cell? ⟨w.heap.size, 2, none⟩ = some (.slice a rd.length c) := by
    intro W hW
    obtain ⟨x0, x1, x2⟩ := hB.cells
    exact ⟨hW, (hW.cell (by simp)).trans x0, (hW.cell (by simp)).trans x1, (hW.cell (by simp)).trans x2⟩
  obtain ⟨b0, b1, b2⟩ := KC w1.drew hdf
  have HC : Hid (∀ W, Calls Tryz.prog 78 #[.string t] W fun e w' => e = .returned (.string t) ∧ Below W.heap.size W w') := fun W => cloneSH_any t W ht
  clear hw0 hw1 hb0 hb1 hB hR s0 s1 hE hS KC
  go_enter Tryz.func173, Tryz.ntmps173
  go_wp2_with fail
  rw [HW.out]
  go_region_held3 (fun W => Below (w.heap.size + 1) w1 W ∧ W.cell? ⟨w.heap.size, 0, none⟩ = some (.int .i64 st) ∧ W.cell? ⟨w.heap.size, 1, none⟩ = some (.string t) ∧ W.cell? ⟨w.heap.size, 2, none⟩ = some (.slice a rd.length c)) (first | exact KS _ (by first | exact hdr | exact fC.mono hn1 | exact fB.mono hn1 | exact ballocR hdr hn1 _ | exact ballocR (fC.mono hn1) hn1 _ | exact (((fB.mono hn1).setCell (Nat.le_refl _) _).setCell (Nat.le_refl _) _).setCell (Nat.le_refl _) _ | exact (((fC.mono hn1).setCell (Nat.le_refl _) _).setCell (Nat.le_refl _) _).setCell (Nat.le_refl _) _))
    (first
      | (refine step_allR rfl (.tmp 8) (.tmp 10) 54 rfl 119 Tryz.underlying54 (.agg #[.int .i64 0, .int .i64 0]) 2 16 Tryz.infoRdr rfl (by omega) (by omega) _ rfl (by first | exact heap_alloc_new _ _ | exact (hC.block _ (by simp)).trans (heap_alloc_new _ _)) a rd.length c (prl rd) rfl (prl_length rd) HSG.out.1 (HSG.out.2 _ (by first | exact hdf | exact bplusR hdf _ | exact fC | exact bplusR fC _)) (prl_one' rd) hm ?_; rintro gB cB wB oB bB nB kB; have fB : Below w1.heap.size w1 wB := Below.trans (by first | exact hdf | exact bplusR hdf _ | exact fC | exact bplusR fC _) (bB.mono (by first | exact Nat.le_refl _ | exact fC.size | omega)); obtain ⟨r0, r1, r2⟩ := (HR.out _ fB).cells; have t0 := (HR.out _ fB).thaw 0; have t1 := (HR.out _ fB).thaw 1; have t2 := (HR.out _ fB).thaw 2; have HE : Hid (OwnP wB w1.heap.size 119 (.slice (some ⟨gB, 0, none⟩) rd.length cB) rd) := OwnP.mono (L := rd) oB (by first | exact Nat.le_refl _ | exact fC.size | omega); have HF : Hid (Below w1.heap.size w1 wB) := fB)
      | (go_simp; go_at_call 78; refine (HC.out _).mono ?_; rintro e wC ⟨rfl, hC⟩; have fC : Below w1.heap.size w1 wC := Below.trans (by first | exact hdf | exact bplusR hdf _ | exact fB) (hC.mono (by first | exact hdf.size | exact (bplusR hdf _).size | exact fB.size)); obtain ⟨r0, r1, r2⟩ := (HR.out _ fC).cells; have t0 := (HR.out _ fC).thaw 0; have t1 := (HR.out _ fC).thaw 1; have t2 := (HR.out _ fC).thaw 2; have HF : Hid (Below w1.heap.size w1 wC) := fC; try (have HE : Hid (OwnP wC w1.heap.size 119 (.slice (some ⟨gB, 0, none⟩) rd.length cB) rd) := OwnP.below HE.out hC (Nat.le_refl _))))
  all_goals
    go_wp2_with fail
    have hRB := HR.out _ HF.out
    obtain ⟨q0, q1, q2⟩ := (hRB.put (.int .i64 st) (.string t) (.slice (some ⟨gB, 0, none⟩) rd.length cB)).cells
    refine bodyPost_ret (v := .agg #[.int .i64 st, .string t, .slice (some ⟨gB, 0, none⟩) rd.length cB]) (by simp [results, Tryz.results173, go_sem, q0, q1, q2]) rfl ⟨_, rfl, ?_, ?_⟩
    · exact (MOwn.put3 (S := ⟨st, t, rd⟩) ⟨_, rfl, HE.out⟩ hRB _ _ _).mono (by have := HS1.out; omega)
    · exact Below.put3M (hBw.trans (HF.out.mono hBw.size)) (by omega) _ _ _
set_option maxRecDepth 100000 in
set_option maxHeartbeats 4000000 in
theorem holdStream_any (w0 w : World) (a : Option Addr) (c : Nat) (S : Stm) (hb : Below w0.heap.size w0 w) (hE : PAt w a S.rd w.heap.size) (ht : S.text.size ≤ 281474976710656) (hm : S.rd.length ≤ 1048576) :
    Calls Tryz.prog 170 #[.agg #[.int .i64 S.st, .string S.text, .slice a S.rd.length c]] w fun e w' => ∃ B v, e = .returned (.pointer (some ⟨B, 0, none⟩)) ∧ Held w0 B 0 S v w' ∧ Below w.heap.size w w' ∧ w.heap.size ≤ B := by
  obtain ⟨st, t, rd⟩ := S
  dsimp only at hE hm ht ⊢
  obtain ⟨w1, hw1⟩ : ∃ x, w.alloc (.cells #[.int .i64 st, .string t, .slice a rd.length c] 56) = x := ⟨_, rfl⟩
  have hb1 : Below w.heap.size w w1 := by rw [← hw1]; exact (Below.refl _ _).alloc (Nat.le_refl _) _
  have hB1 : MBox w1 w.heap.size (.int .i64 st) (.string t) (.slice a rd.length c) := by rw [← hw1]; exact MBox.new _ _ _ _
  have HW : Hid (w.alloc (.cells #[.int .i64 st, .string t, .slice a rd.length c] 56) = w1) := hw1
  have cC := streamCopy_any w1 a c ⟨st, t, rd⟩ (hE.on hb1) ht hm
  obtain ⟨b0, b1, b2⟩ := hB1.cells
  clear hw1
  go_enter Tryz.func170, Tryz.ntmps170
  go_wp2_with fail
  rw [HW.out]
  refine cC.mono ?_
  rintro e w2 ⟨v, rfl, ⟨v1, rfl, ho⟩, hb2⟩
  have hbw2 : Below w.heap.size w w2 := hb1.trans (hb2.mono hb1.size)
  have HH : Hid (Held w0 w2.heap.size 0 ⟨st, t, rd⟩ v1 (w2.alloc (.cells #[.int .i32 0, .int .u32 0, .int .i64 st, .string t, v1] 220)) ∧ Below w.heap.size w (w2.alloc (.cells #[.int .i32 0, .int .u32 0, .int .i64 st, .string t, v1] 220)) ∧ w.heap.size ≤ w2.heap.size) := by
    have hbA : Below w2.heap.size w2 (w2.alloc (.cells #[.int .i32 0, .int .u32 0, .int .i64 st, .string t, v1] 220)) := (Below.refl _ _).alloc (Nat.le_refl _) _
    have hbT := hbw2.trans (hbA.mono hbw2.size)
    exact ⟨⟨hb.trans (hbT.mono hb.size), Nat.le_trans hb.size hbw2.size, heap_alloc_new w2 _, (ho.below hbA (Nat.le_refl _)).mono (Nat.le_trans hb.size hb1.size)⟩, hbT, hbw2.size⟩
  obtain ⟨a1, c1, rfl, _⟩ := ho.at
  clear ho hb2 hbw2 cC b0 b1 b2 hB1 hE hb1
  go_wp2_with fail
  go_ret
  exact ⟨_, _, rfl, HH.out.1, HH.out.2⟩
end Go.Proofs.YtcaakommnglnbaaGreatDoor

namespace Go.Proofs.YtcaakommnglnbaaGreatDoor
open Go.RowKit Go.Sort

theorem bytes_no {z : ByteArray} (h : ¬ z = ⟨#[]⟩) : z.toList.isEmpty = false := by
  rw [ByteArray.toList_eq, List.isEmpty_eq_false_iff]
  intro e
  exact h (ByteArray.ext (Array.toList_inj.1 e))
theorem put1_eg : ∀ args w, (callFunc 172 args).run Tryz.prog w = .ok (.enter 172 args) w := enters_of Tryz.func172 (by kernel_rfl) rfl
set_option maxRecDepth 100000 in
set_option maxHeartbeats 4000000 in
theorem put1_no (w0 : World) (B T : Nat) (S : Stm) (v : Value) (part : ByteArray) (W : World) (H : Held w0 B 1 S v W) (hT : W.heap[T]? = some (.cells #[.string part] 9 (0, 0))) (hp : part.size ≤ 1048576) (ht : S.text.size ≤ 1048576) (G : Ending → World → Prop) (hG : ∀ W', Below W.heap.size W W' → G (.returned (.bool false)) W')
    (hno : ¬ S.st = 1 ∨ part = ⟨#[]⟩ ∨ 40 < part.size ∨ 400 < S.text.size + part.size) :
    Calls Tryz.prog 172 #[.pointer (some ⟨B, 2, none⟩), .pointer (some ⟨T, 0, none⟩)] W G := by
  obtain ⟨b2, b3, b4⟩ := H.box.cells
  have p0 : W.cell? ⟨T, 0, none⟩ = some (.string part) := by rw [cell_of_row W T 0 _ _ (0, 0) hT]; rfl
  obtain ⟨st, t, rd⟩ := S
  have HQ : Hid (∀ W', Below W.heap.size W W' → G (.returned (.bool false)) W') := hG
  dsimp only at b2 b3 ht hno
  clear hG H hT
  by_cases hs : st = 1
  · subst hs
    by_cases he : part = ⟨#[]⟩
    · subst he
      clear hno
      go_enter Tryz.func172, Tryz.ntmps172
      go_wp2_with fail
      go_quiet (fail)
      go_wp2_with fail
      exact HQ.out _ ⟨rfl, rfl, rfl, Nat.le_refl _, fun _ _ => rfl⟩
    · have hn := bytes_no he
      by_cases h4 : 40 < part.size
      · have h4' : decide ((40 : Int) < (part.size : Int)) = true := decide_eq_true (by omega)
        clear hno he
        go_enter Tryz.func172, Tryz.ntmps172
        go_wp2_with fail
        go_quiet (fail)
        go_wp2_with fail
        exact HQ.out _ ⟨rfl, rfl, rfl, Nat.le_refl _, fun _ _ => rfl⟩
      · have h4' : decide ((40 : Int) < (part.size : Int)) = false := decide_eq_false (by omega)
        have h5 : 400 < t.size + part.size := by
          rcases hno with h | h | h | h
          · exact absurd rfl h
          · exact absurd h he
          · omega
          · exact h
        have h6 : IntKind.i64.wrap ((t.size : Int) + (part.size : Int)) = (t.size : Int) + (part.size : Int) := by rw [IntKind.wrap_i64]; omega
        have h5' : decide ((400 : Int) < (t.size : Int) + (part.size : Int)) = true := decide_eq_true (by omega)
        clear hno he
        go_enter Tryz.func172, Tryz.ntmps172
        go_wp2_with fail
        go_quiet (fail)
        go_wp2_with fail
        exact HQ.out _ ⟨rfl, rfl, rfl, Nat.le_refl _, fun _ _ => rfl⟩
  · have hs' : (st != 1) = true := by simp [hs]
    clear hno
    go_enter Tryz.func172, Tryz.ntmps172
    go_wp2_with fail
    go_quiet (fail)
    go_wp2_with fail
    exact HQ.out _ ⟨rfl, rfl, rfl, Nat.le_refl _, fun _ _ => rfl⟩
set_option maxRecDepth 100000 in
set_option maxHeartbeats 4000000 in
theorem put1_yes (w0 : World) (B T : Nat) (S : Stm) (v : Value) (part : ByteArray) (W : World) (H : Held w0 B 1 S v W) (hT : W.heap[T]? = some (.cells #[.string part] 9 (0, 0))) (G : Ending → World → Prop) (hG : ∀ W', Below W.heap.size W W' → G (.returned (.bool true)) (W'.setCell ⟨B, 3, none⟩ (.string (S.text ++ part))))
    (hs : S.st = 1) (he : ¬ part = ⟨#[]⟩) (h4 : ¬ 40 < part.size) (h5 : ¬ 400 < S.text.size + part.size) :
    Calls Tryz.prog 172 #[.pointer (some ⟨B, 2, none⟩), .pointer (some ⟨T, 0, none⟩)] W G := by
  obtain ⟨st, t, rd⟩ := S
  dsimp only at hs h5 hG
  subst hs
  have hn := bytes_no he
  have h4' : decide ((40 : Int) < (part.size : Int)) = false := decide_eq_false (by omega)
  have h6 : IntKind.i64.wrap ((t.size : Int) + (part.size : Int)) = (t.size : Int) + (part.size : Int) := by rw [IntKind.wrap_i64]; omega
  have h5' : decide ((400 : Int) < (t.size : Int) + (part.size : Int)) = false := decide_eq_false (by omega)
  have h7 : ¬ 9223372036854775807 < t.size + part.size := by omega
  have HQ : Hid (∀ W', Below W.heap.size W W' → G (.returned (.bool true)) (W'.setCell ⟨B, 3, none⟩ (.string (t ++ part)))) := hG
  have HX : Hid (∀ W', Below W.heap.size W W' → HBox W' B 1 1 t v ∧ W'.heap[T]? = some (.cells #[.string part] 9 (0, 0))) := fun W' hb => ⟨H.box.on hb, (hb.block T (Array.getElem?_eq_some_iff.1 hT).1).trans hT⟩
  have HC : Hid (∀ W, Calls Tryz.prog 78 #[.string part] W fun e w' => e = .returned (.string part) ∧ Below W.heap.size W w') := fun W => cloneSH_any part W (by omega)
  obtain ⟨b2, b3, b4⟩ := H.box.cells
  have p0 : W.cell? ⟨T, 0, none⟩ = some (.string part) := by rw [cell_of_row W T 0 _ _ (0, 0) hT]; rfl
  clear hG H hT he h4 h5
  go_enter Tryz.func172, Tryz.ntmps172
  go_wp2_with fail
  go_quiet (fail)
  have hb1 : Below W.heap.size W (W.drewN nq) := ⟨rfl, rfl, rfl, Nat.le_refl _, fun _ _ => rfl⟩
  generalize W.drewN nq = W1 at hb1 ⊢
  have hb2 : Below W.heap.size W W1.drew := hb1.trans ⟨rfl, rfl, rfl, Nat.le_refl _, fun _ _ => rfl⟩
  clear b2 b3 b4 p0
  obtain ⟨b2, b3, b4⟩ := (HX.out _ hb2).1.cells
  have z3 := (HX.out _ hb2).1.thaw 3
  have p0 : W1.drew.cell? ⟨T, 0, none⟩ = some (.string part) := by rw [cell_of_row W1.drew T 0 _ _ (0, 0) (HX.out _ hb2).2]; rfl
  go_wp2_with fail
  go_region_law (go_simp; go_at_call 78; refine (HC.out _).mono ?_; rintro e wC ⟨rfl, hC⟩; have fC : Below W.heap.size W wC := hb2.trans (hC.mono hb2.size); have x3 := (HX.out _ fC).1.cells.2.1; have y3 := (HX.out _ fC).1.thaw 3; have x0 : wC.cell? ⟨T, 0, none⟩ = some (.string part) := by rw [cell_of_row wC T 0 _ _ (0, 0) (HX.out _ fC).2]; rfl)
  all_goals go_wp2_with fail
  all_goals exact HQ.out _ fC
theorem put1_any (w0 : World) (B T : Nat) (S : Stm) (v : Value) (part : ByteArray) (W : World) (hp : part.size ≤ 1048576) (H : Held w0 B 1 S v W) (hT : W.heap[T]? = some (.cells #[.string part] 9 (0, 0))) (hok : okM S = true) (ht : S.text.size ≤ 1048576) (_ : S.rd.length ≤ 1048576) :
    Calls Tryz.prog 172 (#[.pointer (some ⟨B, 2, none⟩)] ++ #[.pointer (some ⟨T, 0, none⟩)]) W fun e w' => ∃ ok S' v', e = .returned (.bool ok) ∧ Held w0 B 1 S' v' w' ∧ Tch (fun k => k = B ∨ v.ownBlock = some k) W w' ∧ (S', ok) = putM S part := by
  by_cases hno : ¬ S.st = 1 ∨ part = ⟨#[]⟩ ∨ 40 < part.size ∨ 400 < S.text.size + part.size
  · refine put1_no w0 B T S v part W H hT hp ht _ (fun W' hb => ⟨false, S, v, rfl, H.on hb, Tch.of_below hb, ?_⟩) hno
    unfold putM
    rw [if_neg]
    intro h
    simp only [Bool.and_eq_true, decide_eq_true_eq] at h
    rcases hno with e | e | e | e
    · exact e h.1.1.2
    · rw [e] at h; exact absurd h.1.2.1 (by decide)
    · omega
    · omega
  · simp only [not_or, Classical.not_not] at hno
    obtain ⟨h1, h2, h3, h4⟩ := hno
    refine put1_yes w0 B T S v part W H hT _ (fun W' hb => ⟨true, _, v, rfl, (H.on hb).textTo _, (Tch.of_below hb).trans (tch_set _ _ _ _ (Or.inl rfl)), ?_⟩) h1 h2 h3 h4
    have h0 : 1 ≤ part.size := by
      rcases Nat.eq_zero_or_pos part.size with e | e
      · exact absurd (ByteArray.ext (Array.eq_empty_of_size_eq_zero e)) h2
      · exact e
    unfold putM
    rw [if_pos (by simp only [Bool.and_eq_true, decide_eq_true_eq]; exact ⟨⟨⟨hok, h1⟩, h0, by omega⟩, by omega⟩)]
end Go.Proofs.YtcaakommnglnbaaGreatDoor
