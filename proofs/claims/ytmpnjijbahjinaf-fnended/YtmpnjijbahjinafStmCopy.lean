/- The other text's copy of a stream. -/
import Derived.Test.YtmpnjijbahjinafStmBase
import Derived.Test.YtmpnjijbahjinafStmRow
namespace Go.Proofs.Ytmpnjijbahjinaf
open Go.RowKit Go.Sort

set_option maxRecDepth 100000 in
set_option maxHeartbeats 4000000 in
theorem l14Copy_any (w : World) (a : Option Addr) (c : Nat) (S : Stm) (hE : PAt w a S.rd w.heap.size) (hm : S.rd.length ≤ 1048576) :
    Calls Try.prog 52 #[.agg #[.int .i64 S.st, .string S.text, .slice a S.rd.length c]] w fun e w' => ∃ v, e = .returned v ∧ MOwn w' w.heap.size v S ∧ Below w.heap.size w w' := by
  obtain ⟨st, t, rd⟩ := S
  dsimp only at hE hm ⊢
  obtain ⟨w0, hw0⟩ : ∃ x, w.alloc (.cells #[.int .i64 st, .string t, .slice a rd.length c] 26) = x := ⟨_, rfl⟩
  obtain ⟨w1, hw1⟩ : ∃ x, w0.alloc (.cells #[.int .i64 0, .string ⟨#[]⟩, .slice none 0 0] 26) = x := ⟨_, rfl⟩
  have hb0 : Below w.heap.size w w0 := by rw [← hw0]; exact (Below.refl _ _).alloc (Nat.le_refl _) _
  have hb1 : Below w0.heap.size w0 w1 := by rw [← hw1]; exact (Below.refl _ _).alloc (Nat.le_refl _) _
  have s0 : w0.heap.size = w.heap.size + 1 := by rw [← hw0]; simp
  have s1 : w1.heap.size = w.heap.size + 2 := by rw [← hw1]; simp; omega
  have hB : MBox w1 w.heap.size (.int .i64 st) (.string t) (.slice a rd.length c) := by
    have h : MBox w0 w.heap.size (.int .i64 st) (.string t) (.slice a rd.length c) := by rw [← hw0]; exact MBox.new _ _ _ _
    exact h.on hb1
  have hR : MBox w1 (w.heap.size + 1) (.int .i64 0) (.string ⟨#[]⟩) (.slice none 0 0) := by rw [← hw1, ← s0]; exact MBox.new _ _ _ _
  have hBw : Below w.heap.size w w1 := hb0.trans (hb1.mono hb0.size)
  have HW : Hid ((w.alloc (.cells #[.int .i64 st, .string t, .slice a rd.length c] 26)).alloc (.cells #[.int .i64 0, .string ⟨#[]⟩, .slice none 0 0] 26) = w1) := by rw [hw0]; exact hw1
  have hS := (hE.on hBw)
  have KC : ∀ W, Below w1.heap.size w1 W → W.cell? ⟨w.heap.size, 0, none⟩ = some (.int .i64 st) ∧ W.cell? ⟨w.heap.size, 1, none⟩ = some (.string t) ∧ W.cell? ⟨w.heap.size, 2, none⟩ = some (.slice a rd.length c) := fun W hW => (hB.on hW).cells
  have HSG : Hid ((a = none → rd.length = 0) ∧ ∀ W, Below w1.heap.size w1 W → ∀ ad, a = some ad → ∀ j u, (prl rd)[j]? = some u → W.cell? (ad.add j) = some u) := ⟨hS.srcR.1, fun W hW => (hS.on hW).srcR.2⟩
  have HR : Hid (∀ W, Below w1.heap.size w1 W → MBox W (w.heap.size + 1) (.int .i64 0) (.string ⟨#[]⟩) (.slice none 0 0)) := fun W hW => hR.on hW
  have HS1 : Hid (w1.heap.size = w.heap.size + 2) := s1
  have hdf : Below w1.heap.size w1 w1.drew := ⟨rfl, rfl, rfl, Nat.le_refl _, fun _ _ => rfl⟩
  have hdr : Below (w.heap.size + 1) w1 w1.drew := hdf.mono (by omega)
  have hn1 : w.heap.size + 1 ≤ w1.heap.size := by omega
  have KS : ∀ W, Below (w.heap.size + 1) w1 W → Below (w.heap.size + 1) w1 W ∧ W.cell? ⟨w.heap.size, 0, none⟩ = some (.int .i64 st) ∧ W.cell? ⟨w.heap.size, 1, none⟩ = some (.string t) ∧ W.cell? ⟨w.heap.size, 2, none⟩ = some (.slice a rd.length c) := by
    intro W hW
    obtain ⟨x0, x1, x2⟩ := hB.cells
    exact ⟨hW, (hW.cell (by simp)).trans x0, (hW.cell (by simp)).trans x1, (hW.cell (by simp)).trans x2⟩
  obtain ⟨b0, b1, b2⟩ := KC w1.drew hdf
  clear hw0 hw1 hb0 hb1 hB hR s0 s1 hE hS KC
  go_enter Try.func52, Try.ntmps52
  go_wp2_with fail
  rw [HW.out]
  go_region_held3 (fun W => Below (w.heap.size + 1) w1 W ∧ W.cell? ⟨w.heap.size, 0, none⟩ = some (.int .i64 st) ∧ W.cell? ⟨w.heap.size, 1, none⟩ = some (.string t) ∧ W.cell? ⟨w.heap.size, 2, none⟩ = some (.slice a rd.length c)) (first | exact KS _ (by first | exact hdr | exact fB.mono hn1 | exact ballocR hdr hn1 _ | exact (((fB.mono hn1).setCell (Nat.le_refl _) _).setCell (Nat.le_refl _) _).setCell (Nat.le_refl _) _))
    (first | (refine step_allR rfl (.tmp 7) (.tmp 9) 24 rfl 38 Try.underlying24 (.agg #[.int .i64 0, .int .i64 0]) 2 16 Try.infoRdr rfl (by omega) (by omega) _ rfl (by exact heap_alloc_new _ _) a rd.length c (prl rd) rfl (prl_length rd) HSG.out.1 (HSG.out.2 _ (by first | exact hdf | exact bplusR hdf _)) (prl_one' rd) hm ?_; rintro gB cB wB oB bB nB kB; have fB : Below w1.heap.size w1 wB := Below.trans (by first | exact hdf | exact bplusR hdf _) (bB.mono (by first | exact Nat.le_refl _ | omega)); obtain ⟨r0, r1, r2⟩ := (HR.out _ fB).cells; have t0 := (HR.out _ fB).thaw 0; have t1 := (HR.out _ fB).thaw 1; have t2 := (HR.out _ fB).thaw 2))
  all_goals
    have HE : Hid (OwnP wB w1.heap.size 38 (.slice (some ⟨gB, 0, none⟩) rd.length cB) rd) := OwnP.mono (L := rd) oB (by first | exact Nat.le_refl _ | omega)
    have HF : Hid (Below w1.heap.size w1 wB) := fB
    clear oB bB nB kB fB
    go_wp2_with fail
    have hRB := HR.out wB HF.out
    obtain ⟨q0, q1, q2⟩ := (hRB.put (.int .i64 st) (.string t) (.slice (some ⟨gB, 0, none⟩) rd.length cB)).cells
    refine bodyPost_ret (v := .agg #[.int .i64 st, .string t, .slice (some ⟨gB, 0, none⟩) rd.length cB]) (by simp [results, Try.results52, go_sem, q0, q1, q2]) rfl ⟨_, rfl, ?_, ?_⟩
    · exact (MOwn.put3 (S := ⟨st, t, rd⟩) ⟨_, rfl, HE.out⟩ hRB _ _ _).mono (by have := HS1.out; omega)
    · exact Below.put3M (hBw.trans (HF.out.mono hBw.size)) (by omega) _ _ _
end Go.Proofs.Ytmpnjijbahjinaf
