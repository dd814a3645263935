/- The program's copy of a stream, and a held stream made of it. -/
import Derived.Test.YtmpnjijbahjinafHeldKit
import Derived.Test.YtmpnjijbahjinafShelf
namespace Go.Proofs.Ytmpnjijbahjinaf
open Go.RowKit Go.Sort

theorem cloneS_any (s : ByteArray) (w : World) (hs : s.size ≤ 281474976710656) :
    Calls Try.prog 44 #[.string s] w fun e w' => e = .returned (.string s) ∧ Below w.heap.size w w' := by
  go_enter Try.func44, Try.ntmps44
  go_wp2_with (go_at_call 70; refine (Try.stringslite_Clone s _ hs).mono ?_; rintro e w' ⟨rfl, hb⟩)
  go_ret
  exact ⟨rfl, hb⟩
set_option maxRecDepth 100000 in
set_option maxHeartbeats 4000000 in
theorem streamCopy_any (w : World) (a : Option Addr) (c : Nat) (S : Stm) (hE : PAt w a S.rd w.heap.size) (ht : S.text.size ≤ 281474976710656) (hm : S.rd.length ≤ 1048576) :
    Calls Try.prog 60 #[.agg #[.int .i64 S.st, .string S.text, .slice a S.rd.length c]] w fun e w' => ∃ v, e = .returned v ∧ MOwn w' w.heap.size v S ∧ Below w.heap.size w w' := by
  obtain ⟨st, t, rd⟩ := S
  dsimp only at hE hm ht ⊢
  obtain ⟨w0, hw0⟩ : ∃ x, w.alloc (.cells #[.int .i64 st, .string t, .slice a rd.length c] 26) = x := ⟨_, rfl⟩
  obtain ⟨w1, hw1⟩ : ∃ x, w0.alloc (.cells #[.int .i64 0, .string ⟨#[]⟩, .slice none 0 0] 26) = x := ⟨_, rfl⟩
  have hb0 : Below w.heap.size w w0 := by rw [← hw0]; exact (Below.refl _ _).alloc (Nat.le_refl _) _
  have hb1 : Below w0.heap.size w0 w1 := by rw [← hw1]; exact (Below.refl _ _).alloc (Nat.le_refl _) _
  have s0 : w0.heap.size = w.heap.size + 1 := by rw [← hw0]; simp
  have s1 : w1.heap.size = w.heap.size + 2 := by rw [← hw1]; simp; omega
  have hB : MBox w1 w.heap.size (.int .i64 st) (.string t) (.slice a rd.length c) := by
    have h : MBox w0 w.heap.size (.int .i64 st) (.string t) (.slice a rd.length c) := by rw [← hw0]; exact MBox.new _ _ _ _
    exact h.on hb1
  have hR : MBox w1 (w.heap.size + 1) (.int .i64 0) (.string ⟨#[]⟩) (.slice none 0 0) := by rw [← hw1, ← s0]; exact MBox.new _ _ _ _
  have hBw : Below w.heap.size w w1 := hb0.trans (hb1.mono hb0.size)
  have HW : Hid ((w.alloc (.cells #[.int .i64 st, .string t, .slice a rd.length c] 26)).alloc (.cells #[.int .i64 0, .string ⟨#[]⟩, .slice none 0 0] 26) = w1) := by rw [hw0]; exact hw1
  have hS := (hE.on hBw)
  have KC : ∀ W, Below w1.heap.size w1 W → W.cell? ⟨w.heap.size, 0, none⟩ = some (.int .i64 st) ∧ W.cell? ⟨w.heap.size, 1, none⟩ = some (.string t) ∧ W.cell? ⟨w.heap.size, 2, none⟩ = some (.slice a rd.length c) := fun W hW => (hB.on hW).cells
  have HSG : Hid ((a = none → rd.length = 0) ∧ ∀ W, Below w1.heap.size w1 W → ∀ ad, a = some ad → ∀ j u, (prl rd)[j]? = some u → W.cell? (ad.add j) = some u) := ⟨hS.srcR.1, fun W hW => (hS.on hW).srcR.2⟩
  have HR : Hid (∀ W, Below w1.heap.size w1 W → MBox W (w.heap.size + 1) (.int .i64 0) (.string ⟨#[]⟩) (.slice none 0 0)) := fun W hW => hR.on hW
  have HS1 : Hid (w1.heap.size = w.heap.size + 2) := s1
  have hdf : Below w1.heap.size w1 w1.drew := ⟨rfl, rfl, rfl, Nat.le_refl _, fun _ _ => rfl⟩
  have hdr : Below (w.heap.size + 1) w1 w1.drew := hdf.mono (by omega)
  have hn1 : w.heap.size + 1 ≤ w1.heap.size := by omega
  have KS : ∀ W, Below (w.heap.size + 1) w1 W → Below (w.heap.size + 1) w1 W ∧ W.cell? ⟨w.heap.size, 0, none⟩ = some (.int .i64 st) ∧ W.cell? ⟨w.heap.size, 1, none⟩ = some (.string t) ∧ W.cell? ⟨w.heap.size, 2, none⟩ = some (.slice a rd.length c) := by
    intro W hW
    obtain ⟨x0, x1, x2⟩ := hB.cells
    exact ⟨hW, (hW.cell (by simp)).trans x0, (hW.cell (by simp)).trans x1, (hW.cell (by simp)).trans x2⟩
  obtain ⟨b0, b1, b2⟩ := KC w1.drew hdf
  have HC : Hid (∀ W, Calls Try.prog 44 #[.string t] W fun e w' => e = .returned (.string t) ∧ Below W.heap.size W w') := fun W => cloneS_any t W ht
  clear hw0 hw1 hb0 hb1 hB hR s0 s1 hE hS KC
  go_enter Try.func60, Try.ntmps60
  go_wp2_with fail
  rw [HW.out]
  go_region_held3 (fun W => Below (w.heap.size + 1) w1 W ∧ W.cell? ⟨w.heap.size, 0, none⟩ = some (.int .i64 st) ∧ W.cell? ⟨w.heap.size, 1, none⟩ = some (.string t) ∧ W.cell? ⟨w.heap.size, 2, none⟩ = some (.slice a rd.length c)) (first | exact KS _ (by first | exact hdr | exact fC.mono hn1 | exact fB.mono hn1 | exact ballocR hdr hn1 _ | exact ballocR (fC.mono hn1) hn1 _ | exact (((fB.mono hn1).setCell (Nat.le_refl _) _).setCell (Nat.le_refl _) _).setCell (Nat.le_refl _) _ | exact (((fC.mono hn1).setCell (Nat.le_refl _) _).setCell (Nat.le_refl _) _).setCell (Nat.le_refl _) _))
    (first
      | (refine step_allR rfl (.tmp 8) (.tmp 10) 24 rfl 38 Try.underlying24 (.agg #[.int .i64 0, .int .i64 0]) 2 16 Try.infoRdr rfl (by omega) (by omega) _ rfl (by first | exact heap_alloc_new _ _ | exact (hC.block _ (by simp)).trans (heap_alloc_new _ _)) a rd.length c (prl rd) rfl (prl_length rd) HSG.out.1 (HSG.out.2 _ (by first | exact hdf | exact bplusR hdf _ | exact fC | exact bplusR fC _)) (prl_one' rd) hm ?_; rintro gB cB wB oB bB nB kB; have fB : Below w1.heap.size w1 wB := Below.trans (by first | exact hdf | exact bplusR hdf _ | exact fC | exact bplusR fC _) (bB.mono (by first | exact Nat.le_refl _ | exact fC.size | omega)); obtain ⟨r0, r1, r2⟩ := (HR.out _ fB).cells; have t0 := (HR.out _ fB).thaw 0; have t1 := (HR.out _ fB).thaw 1; have t2 := (HR.out _ fB).thaw 2; have HE : Hid (OwnP wB w1.heap.size 38 (.slice (some ⟨gB, 0, none⟩) rd.length cB) rd) := OwnP.mono (L := rd) oB (by first | exact Nat.le_refl _ | exact fC.size | omega); have HF : Hid (Below w1.heap.size w1 wB) := fB)
      | (go_simp; go_at_call 44; refine (HC.out _).mono ?_; rintro e wC ⟨rfl, hC⟩; have fC : Below w1.heap.size w1 wC := Below.trans (by first | exact hdf | exact bplusR hdf _ | exact fB) (hC.mono (by first | exact hdf.size | exact (bplusR hdf _).size | exact fB.size)); obtain ⟨r0, r1, r2⟩ := (HR.out _ fC).cells; have t0 := (HR.out _ fC).thaw 0; have t1 := (HR.out _ fC).thaw 1; have t2 := (HR.out _ fC).thaw 2; have HF : Hid (Below w1.heap.size w1 wC) := fC; try (have HE : Hid (OwnP wC w1.heap.size 38 (.slice (some ⟨gB, 0, none⟩) rd.length cB) rd) := OwnP.below HE.out hC (Nat.le_refl _))))
  all_goals
    go_wp2_with fail
    have hRB := HR.out _ HF.out
    obtain ⟨q0, q1, q2⟩ := (hRB.put (.int .i64 st) (.string t) (.slice (some ⟨gB, 0, none⟩) rd.length cB)).cells
    refine bodyPost_ret (v := .agg #[.int .i64 st, .string t, .slice (some ⟨gB, 0, none⟩) rd.length cB]) (by simp [results, Try.results60, go_sem, q0, q1, q2]) rfl ⟨_, rfl, ?_, ?_⟩
    · exact (MOwn.put3 (S := ⟨st, t, rd⟩) ⟨_, rfl, HE.out⟩ hRB _ _ _).mono (by have := HS1.out; omega)
    · exact Below.put3M (hBw.trans (HF.out.mono hBw.size)) (by omega) _ _ _
set_option maxRecDepth 100000 in
set_option maxHeartbeats 4000000 in
theorem holdStream_any (w0 w : World) (a : Option Addr) (c : Nat) (S : Stm) (hb : Below w0.heap.size w0 w) (hE : PAt w a S.rd w.heap.size) (ht : S.text.size ≤ 281474976710656) (hm : S.rd.length ≤ 1048576) :
    Calls Try.prog 33 #[.agg #[.int .i64 S.st, .string S.text, .slice a S.rd.length c]] w fun e w' => ∃ B v, e = .returned (.pointer (some ⟨B, 0, none⟩)) ∧ Held w0 B 0 S v w' ∧ Below w.heap.size w w' ∧ w.heap.size ≤ B := by
  obtain ⟨st, t, rd⟩ := S
  dsimp only at hE hm ht ⊢
  obtain ⟨w1, hw1⟩ : ∃ x, w.alloc (.cells #[.int .i64 st, .string t, .slice a rd.length c] 26) = x := ⟨_, rfl⟩
  have hb1 : Below w.heap.size w w1 := by rw [← hw1]; exact (Below.refl _ _).alloc (Nat.le_refl _) _
  have hB1 : MBox w1 w.heap.size (.int .i64 st) (.string t) (.slice a rd.length c) := by rw [← hw1]; exact MBox.new _ _ _ _
  have HW : Hid (w.alloc (.cells #[.int .i64 st, .string t, .slice a rd.length c] 26) = w1) := hw1
  have cC := streamCopy_any w1 a c ⟨st, t, rd⟩ (hE.on hb1) ht hm
  obtain ⟨b0, b1, b2⟩ := hB1.cells
  clear hw1
  go_enter Try.func33, Try.ntmps33
  go_wp2_with fail
  rw [HW.out]
  refine cC.mono ?_
  rintro e w2 ⟨v, rfl, ⟨v1, rfl, ho⟩, hb2⟩
  have hbw2 : Below w.heap.size w w2 := hb1.trans (hb2.mono hb1.size)
  have HH : Hid (Held w0 w2.heap.size 0 ⟨st, t, rd⟩ v1 (w2.alloc (.cells #[.int .i32 0, .int .u32 0, .int .i64 st, .string t, v1] 89)) ∧ Below w.heap.size w (w2.alloc (.cells #[.int .i32 0, .int .u32 0, .int .i64 st, .string t, v1] 89)) ∧ w.heap.size ≤ w2.heap.size) := by
    have hbA : Below w2.heap.size w2 (w2.alloc (.cells #[.int .i32 0, .int .u32 0, .int .i64 st, .string t, v1] 89)) := (Below.refl _ _).alloc (Nat.le_refl _) _
    have hbT := hbw2.trans (hbA.mono hbw2.size)
    exact ⟨⟨hb.trans (hbT.mono hb.size), Nat.le_trans hb.size hbw2.size, heap_alloc_new w2 _, (ho.below hbA (Nat.le_refl _)).mono (Nat.le_trans hb.size hb1.size)⟩, hbT, hbw2.size⟩
  obtain ⟨a1, c1, rfl, _⟩ := ho.at
  clear ho hb2 hbw2 cC b0 b1 b2 hB1 hE hb1
  go_wp2_with fail
  go_ret
  exact ⟨_, _, rfl, HH.out.1, HH.out.2⟩
end Go.Proofs.Ytmpnjijbahjinaf
