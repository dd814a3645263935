/- The other text's copy of epochs: its walk. -/
import Derived.Test.YtockgojdmaladacEpochCopy
namespace Go.Proofs.Ytockgojdmaladac
open Go.RowKit Go.Sort
theorem IAt.src {w : World} {a0 : Option Addr} {l : List Int} {B : Nat} (h : IAt w a0 l B) : (a0 = none → l.length = 0) ∧ ∀ ad, a0 = some ad → ∀ j u, (ints l)[j]? = some u → w.cell? (ad.add j) = some u := by
  refine ⟨fun e => ?_, fun ad e j u hu => ?_⟩
  · cases l with
    | nil => rfl
    | cons x r => obtain ⟨g, off, ha, _⟩ := h 0 (by simp); rw [e] at ha; cases ha
  · have hj := (List.getElem?_eq_some_iff.1 hu).1
    rw [ints_length] at hj
    obtain ⟨g, off, ha, _, hc⟩ := h j hj
    rw [e] at ha
    simp only [Option.some.injEq] at ha
    subst ha
    rw [Addr.add_mid, hc]
    rw [List.getElem?_eq_getElem (by rw [ints_length]; exact hj), ints_at hj] at hu
    exact hu
theorem PAt.src {w : World} {a0 : Option Addr} {l : List (Int × Int)} {B : Nat} (h : PAt w a0 l B) : (a0 = none → l.length = 0) ∧ ∀ ad, a0 = some ad → ∀ j u, (prl l)[j]? = some u → w.cell? (ad.add j) = some u := by
  refine ⟨fun e => ?_, fun ad e j u hu => ?_⟩
  · cases l with
    | nil => rfl
    | cons x r => obtain ⟨g, off, ha, _⟩ := h 0 (by simp); rw [e] at ha; cases ha
  · obtain ⟨hj, _⟩ := List.getElem?_eq_some_iff.1 hu
    rw [prl_length] at hj
    obtain ⟨g, off, ha, _, hc0, hc1⟩ := h (j / 2) (by omega)
    rw [e] at ha
    simp only [Option.some.injEq] at ha
    subst ha
    have hat := prl_at l (j / 2) (by omega)
    rw [Addr.add_mid]
    rcases (by omega : j % 2 = 0 ∨ j % 2 = 1) with h | h
    · have e : j = 2 * (j / 2) := by omega
      rw [e, hat.1] at hu
      rw [show off + j = off + j / 2 * 2 by omega, hc0]
      exact hu
    · have e : j = 2 * (j / 2) + 1 := by omega
      rw [e, hat.2] at hu
      rw [show off + j = off + j / 2 * 2 + 1 by omega, hc1]
      exact hu
theorem bplus {a b : World} (h : Below a.heap.size a b) (o : Obj) : Below a.heap.size a (b.alloc o) := h.alloc h.size o
theorem heap_at {w : World} {k : Nat} (h : w.heap.size = k) (o : Obj) : (w.alloc o).heap[k]? = some o := by subst h; exact heap_alloc_new _ _
theorem heap_old {w : World} {k : Nat} {o x : Obj} (h : w.heap[k]? = some x) : (w.alloc o).heap[k]? = some x := by
  rw [Below.heap_alloc w o k (Array.getElem?_eq_some_iff.1 h).1]; exact h
theorem ints_one' (l : List Int) : ∀ u ∈ ints l, u.oneCell' = true := by
  intro u hu
  simp only [ints, List.mem_map] at hu
  obtain ⟨x, _, rfl⟩ := hu
  rfl
theorem balloc {n : Nat} {a b : World} (h : Below n a b) (hn : n ≤ a.heap.size) (o : Obj) : Below n a (b.alloc o) := h.alloc (Nat.le_trans hn h.size) o
set_option maxRecDepth 100000 in
set_option maxHeartbeats 4000000 in
theorem l08Copy_any (w : World) (pa ga : Option Addr) (pc gc : Nat) (E : Ep) (hE : EAt w pa ga E w.heap.size) (hm : E.pins.length ≤ 1048576) (hm' : E.gone.length ≤ 1048576) :
    Calls Try.prog 80 #[.agg #[.int .i64 E.now, .slice pa E.pins.length pc, .slice ga E.gone.length gc]] w fun e w' => ∃ v, e = .returned v ∧ EOwn w' w.heap.size v E ∧ Below w.heap.size w w' := by
  obtain ⟨now, pins, gone⟩ := E
  dsimp only at hE hm hm' ⊢
  obtain ⟨w0, hw0⟩ : ∃ x, w.alloc (.cells #[.int .i64 now, .slice pa pins.length pc, .slice ga gone.length gc] 50) = x := ⟨_, rfl⟩
  obtain ⟨w1, hw1⟩ : ∃ x, w0.alloc (.cells #[.int .i64 0, .slice none 0 0, .slice none 0 0] 50) = x := ⟨_, rfl⟩
  have hb0 : Below w.heap.size w w0 := by rw [← hw0]; exact (Below.refl _ _).alloc (Nat.le_refl _) _
  have hb1 : Below w0.heap.size w0 w1 := by rw [← hw1]; exact (Below.refl _ _).alloc (Nat.le_refl _) _
  have s0 : w0.heap.size = w.heap.size + 1 := by rw [← hw0]; simp
  have s1 : w1.heap.size = w.heap.size + 2 := by rw [← hw1]; simp; omega
  have hB : EBox w1 w.heap.size (.int .i64 now) (.slice pa pins.length pc) (.slice ga gone.length gc) := by
    have h : EBox w0 w.heap.size (.int .i64 now) (.slice pa pins.length pc) (.slice ga gone.length gc) := by rw [← hw0]; exact EBox.new _ _ _ _
    exact h.on hb1
  have hR : EBox w1 (w.heap.size + 1) (.int .i64 0) (.slice none 0 0) (.slice none 0 0) := by rw [← hw1, ← s0]; exact EBox.new _ _ _ _
  have hBw : Below w.heap.size w w1 := hb0.trans (hb1.mono hb0.size)
  have HW : Hid ((w.alloc (.cells #[.int .i64 now, .slice pa pins.length pc, .slice ga gone.length gc] 50)).alloc (.cells #[.int .i64 0, .slice none 0 0, .slice none 0 0] 50) = w1) := by rw [hw0]; exact hw1
  have HX : ∀ wi, Below w1.heap.size w1 wi → EBox wi w.heap.size (.int .i64 now) (.slice pa pins.length pc) (.slice ga gone.length gc) ∧ EBox wi (w.heap.size + 1) (.int .i64 0) (.slice none 0 0) (.slice none 0 0) ∧ IAt wi pa pins wi.heap.size ∧ PAt wi ga gone wi.heap.size := fun wi hi => ⟨hB.on hi, hR.on hi, (hE.1.on hBw).on hi, (hE.2.on hBw).on hi⟩
  clear hw0 hw1 hb0 hb1 hB hR
  have hdr : Below w1.heap.size w1 w1.drew := ⟨rfl, rfl, rfl, Nat.le_refl _, fun _ _ => rfl⟩
  obtain ⟨b0, b1, b2⟩ := (HX w1.drew hdr).1.cells
  have KS : ∀ W, Below (w.heap.size + 1) w1 W → Below (w.heap.size + 1) w1 W ∧ W.cell? ⟨w.heap.size, 0, none⟩ = some (.int .i64 now) ∧ W.cell? ⟨w.heap.size, 1, none⟩ = some (.slice pa pins.length pc) ∧ W.cell? ⟨w.heap.size, 2, none⟩ = some (.slice ga gone.length gc) := by
    intro W hW
    obtain ⟨x0, x1, x2⟩ := (HX w1 (Below.refl _ _)).1.cells
    exact ⟨hW, (hW.cell (by simp)).trans x0, (hW.cell (by simp)).trans x1, (hW.cell (by simp)).trans x2⟩
  have hdf : Below w1.heap.size w1 w1.drew := hdr
  have HSI : Hid ((pa = none → pins.length = 0) ∧ ∀ W, Below w1.heap.size w1 W → ∀ ad, pa = some ad → ∀ j u, (ints pins)[j]? = some u → W.cell? (ad.add j) = some u) := ⟨((HX w1 (Below.refl _ _)).2.2.1).src.1, fun W hW => ((HX W hW).2.2.1).src.2⟩
  have HSG : Hid ((ga = none → gone.length = 0) ∧ ∀ W, Below w1.heap.size w1 W → ∀ ad, ga = some ad → ∀ j u, (prl gone)[j]? = some u → W.cell? (ad.add j) = some u) := ⟨((HX w1 (Below.refl _ _)).2.2.2).src.1, fun W hW => ((HX W hW).2.2.2).src.2⟩
  have HR : Hid (∀ W, Below w1.heap.size w1 W → EBox W (w.heap.size + 1) (.int .i64 0) (.slice none 0 0) (.slice none 0 0)) := fun W hW => (HX W hW).2.1
  replace hdr : Below (w.heap.size + 1) w1 w1.drew := hdr.mono (by omega)
  have hn1 : w.heap.size + 1 ≤ w1.heap.size := by omega
  have HS1 : Hid (w1.heap.size = w.heap.size + 2) := s1
  clear s1 s0 hE
  go_enter Try.func80, Try.ntmps80
  go_wp2_with fail
  rw [HW.out]
  go_region_held3 (fun W => Below (w.heap.size + 1) w1 W ∧ W.cell? ⟨w.heap.size, 0, none⟩ = some (.int .i64 now) ∧ W.cell? ⟨w.heap.size, 1, none⟩ = some (.slice pa pins.length pc) ∧ W.cell? ⟨w.heap.size, 2, none⟩ = some (.slice ga gone.length gc)) (first | exact KS _ (by first | exact hdr | exact fB.mono hn1 | exact fA.mono hn1 | exact balloc hdr hn1 _ | exact balloc (fA.mono hn1) hn1 _ | exact balloc (balloc hdr hn1 _) hn1 _ | exact (((fB.mono hn1).setCell (Nat.le_refl _) _).setCell (Nat.le_refl _) _).setCell (Nat.le_refl _) _))
    (first
      | (refine step_all0 rfl (.tmp 5) (.tmp 7) 27 rfl 3 Try.underlying27 (.int .i64 0) 1 8 Try.infoInt rfl (by omega) (by omega) _ rfl (by first | exact heap_alloc_new _ _ | exact heap_at (by simp; done) _ | exact heap_old (heap_alloc_new _ _) | exact (kA _ (by first | omega | (simp; done) | (simp; omega)) (by first | omega | (simp; done))).trans (heap_alloc_new _ _) | exact (kB _ (by first | omega | (simp; done) | (simp; omega)) (by first | omega | (simp; done))).trans (heap_alloc_new _ _) | exact (kA _ (by first | omega | (simp; done) | (simp; omega)) (by first | omega | (simp; done))).trans (heap_at (by simp; done) _) | exact (kB _ (by first | omega | (simp; done) | (simp; omega)) (by first | omega | (simp; done))).trans (heap_at (by simp; done) _) | exact (kA _ (by first | omega | (simp; done) | (simp; omega)) (by first | omega | (simp; done))).trans (heap_old (heap_alloc_new _ _)) | exact (kB _ (by first | omega | (simp; done) | (simp; omega)) (by first | omega | (simp; done))).trans (heap_old (heap_alloc_new _ _))) pa pins.length pc (ints pins) rfl (by rw [ints_length]; omega) HSI.out.1 (HSI.out.2 _ (by first | exact hdf | assumption | exact fA | exact fB | exact bplus hdf _ | exact bplus fA _ | exact bplus fB _ | exact bplus (bplus hdf _) _)) (ints_one' pins) hm ?_; rintro gA cA wA oA bA nA kA; have fA : Below w1.heap.size w1 wA := Below.trans (by first | exact hdf | assumption | exact fA | exact fB | exact bplus hdf _ | exact bplus fA _ | exact bplus fB _ | exact bplus (bplus hdf _) _) (bA.mono (by first | exact Nat.le_refl _ | omega)); obtain ⟨r0, r1, r2⟩ := (HR.out _ fA).cells; have t0 := (HR.out _ fA).thaw 0; have t1 := (HR.out _ fA).thaw 1; have t2 := (HR.out _ fA).thaw 2)
      | (refine step_all0 rfl (.tmp 9) (.tmp 11) 48 rfl 101 Try.underlying48 (.agg #[.int .i64 0, .int .i64 0]) 2 16 Try.infoGo rfl (by omega) (by omega) _ rfl (by first | exact heap_alloc_new _ _ | exact heap_at (by simp; done) _ | exact heap_old (heap_alloc_new _ _) | exact (kA _ (by first | omega | (simp; done) | (simp; omega)) (by first | omega | (simp; done))).trans (heap_alloc_new _ _) | exact (kB _ (by first | omega | (simp; done) | (simp; omega)) (by first | omega | (simp; done))).trans (heap_alloc_new _ _) | exact (kA _ (by first | omega | (simp; done) | (simp; omega)) (by first | omega | (simp; done))).trans (heap_at (by simp; done) _) | exact (kB _ (by first | omega | (simp; done) | (simp; omega)) (by first | omega | (simp; done))).trans (heap_at (by simp; done) _) | exact (kA _ (by first | omega | (simp; done) | (simp; omega)) (by first | omega | (simp; done))).trans (heap_old (heap_alloc_new _ _)) | exact (kB _ (by first | omega | (simp; done) | (simp; omega)) (by first | omega | (simp; done))).trans (heap_old (heap_alloc_new _ _))) ga gone.length gc (prl gone) rfl (prl_length gone) HSG.out.1 (HSG.out.2 _ (by first | exact hdf | assumption | exact fA | exact fB | exact bplus hdf _ | exact bplus fA _ | exact bplus fB _ | exact bplus (bplus hdf _) _)) (prl_one' gone) hm' ?_; rintro gB cB wB oB bB nB kB; have fB : Below w1.heap.size w1 wB := Below.trans (by first | exact hdf | assumption | exact fA | exact fB | exact bplus hdf _ | exact bplus fA _ | exact bplus fB _ | exact bplus (bplus hdf _) _) (bB.mono (by first | exact fA.size | exact Nat.le_refl _ | omega)); obtain ⟨r0, r1, r2⟩ := (HR.out _ fB).cells; have t0 := (HR.out _ fB).thaw 0; have t1 := (HR.out _ fB).thaw 1; have t2 := (HR.out _ fB).thaw 2))
  all_goals
    have lA := (World.ownsRow.lt oA gA rfl)
    have lB := (World.ownsRow.lt oB gB rfl)
    have hgg : gA ≠ gB ∧ wB.heap[gA]? = wA.heap[gA]? := by
      simp at nA nB kB
      refine ⟨by omega, ?_⟩
      first
        | exact kB gA (by omega) (by omega)
        | exact (kB gA (by omega) (by omega)).trans (Below.heap_alloc _ _ _ (by omega))
    have gA1 : w1.heap.size ≤ gA := by omega
    have gB1 : w1.heap.size ≤ gB := by
      have := fA.size
      omega
    have HE : Hid (OwnV wB w1.heap.size 3 (.slice (some ⟨gA, 0, none⟩) pins.length cA) (ints pins) ∧ OwnP wB w1.heap.size 101 (.slice (some ⟨gB, 0, none⟩) gone.length cB) gone ∧ gA ≠ gB) := by
      refine ⟨?_, ?_, hgg.1⟩
      · have h : OwnV wA w1.heap.size 3 (.slice (some ⟨gA, 0, none⟩) pins.length cA) (ints pins) := by
          have h2 := OwnV.mono (w := wA) (e := 3) (xs := ints pins) (by unfold OwnV; rw [ints_length]; exact oA) (show w1.heap.size ≤ _ by omega)
          exact h2
        exact h.kept fun k hk => by simp [Value.ownBlock] at hk; subst hk; exact hgg.2
      · exact OwnP.mono (L := gone) oB (by have := fA.size; omega)
    have HF : Hid (Below w1.heap.size w1 wB) := fB
    clear oA oB bA bB nA nB kA kB fA fB lA lB hgg gA1 gB1
    go_wp2_with fail
    have hRB := HR.out wB HF.out
    obtain ⟨q0, q1, q2⟩ := (hRB.put (.int .i64 now) (.slice (some ⟨gA, 0, none⟩) pins.length cA) (.slice (some ⟨gB, 0, none⟩) gone.length cB)).cells
    refine bodyPost_ret (v := .agg #[.int .i64 now, .slice (some ⟨gA, 0, none⟩) pins.length cA, .slice (some ⟨gB, 0, none⟩) gone.length cB]) (by simp [results, Try.results80, go_sem, q0, q1, q2]) rfl ⟨_, rfl, ?_, ?_⟩
    · refine EOwn.put (EOwn.mono (base := w1.heap.size) (E := ⟨now, pins, gone⟩) ⟨_, _, rfl, HE.out.1, HE.out.2.1, fun k hk => ?_⟩ (by have := HS1.out; omega)) hRB _ _ _
      simp [Value.ownBlock] at hk ⊢
      subst hk
      exact fun e => HE.out.2.2 e.symm
    · exact Below.put3 (hBw.trans (HF.out.mono hBw.size)) (by omega) _ _ _
end Go.Proofs.Ytockgojdmaladac
