/- The program's StreamLeave. -/
import Derived.Test.YtmpnjijbahjinafStmLeave1
namespace Go.Proofs.Ytmpnjijbahjinaf
open Go.RowKit Go.Sort

set_option maxRecDepth 100000 in
set_option maxHeartbeats 4000000 in
theorem implStreamLeave_any (w : World) (a : Option Addr) (c : Nat) (S : Stm) (id : Int) (hE : PAt w a S.rd w.heap.size) (ht : S.text.size ≤ 1048576) (hm : S.rd.length ≤ 1048576) :
    Calls Try.prog 10 #[.agg #[.int .i64 S.st, .string S.text, .slice a S.rd.length c], .int .i64 id] w fun e w' => ∃ v, e = .returned v ∧ MOwn w' w.heap.size v (leaveM S id) ∧ Below w.heap.size w w' := by
  obtain ⟨w1, hw1⟩ : ∃ x, w.alloc (.cells #[.int .i64 S.st, .string S.text, .slice a S.rd.length c] 26) = x := ⟨_, rfl⟩
  obtain ⟨w2, hw2⟩ : ∃ x, w1.alloc (.cells #[.int .i64 id] 3) = x := ⟨_, rfl⟩
  obtain ⟨w3, hw3⟩ : ∃ x, w2.alloc (.cells #[.int .i64 0, .string ⟨#[]⟩, .slice none 0 0] 26) = x := ⟨_, rfl⟩
  have hb1 : Below w.heap.size w w1 := by rw [← hw1]; exact (Below.refl _ _).alloc (Nat.le_refl _) _
  have hb2 : Below w1.heap.size w1 w2 := by rw [← hw2]; exact (Below.refl _ _).alloc (Nat.le_refl _) _
  have hb3 : Below w2.heap.size w2 w3 := by rw [← hw3]; exact (Below.refl _ _).alloc (Nat.le_refl _) _
  have s1 : w1.heap.size = w.heap.size + 1 := by rw [← hw1]; simp
  have s2 : w2.heap.size = w.heap.size + 1 + 1 := by rw [← hw2]; simp; omega
  have s3 : w3.heap.size = w.heap.size + 1 + 1 + 1 := by rw [← hw3]; simp; omega
  have hb23 : Below w1.heap.size w1 w3 := hb2.trans (hb3.mono hb2.size)
  have hbw : Below w.heap.size w w3 := hb1.trans (hb23.mono hb1.size)
  have hB3 : MBox w3 w.heap.size (.int .i64 S.st) (.string S.text) (.slice a S.rd.length c) := by
    have h : MBox w1 w.heap.size (.int .i64 S.st) (.string S.text) (.slice a S.rd.length c) := by rw [← hw1]; exact MBox.new _ _ _ _
    exact h.on hb23
  have hP3 : w3.heap[w.heap.size + 1]? = some (.cells #[.int .i64 id] 3 (0, 0)) := by
    rw [hb3.block _ (by omega), ← hw2, ← s1]
    exact heap_alloc_new w1 _
  have hR3 : MBox w3 (w.heap.size + 1 + 1) (.int .i64 0) (.string ⟨#[]⟩) (.slice none 0 0) := by rw [← hw3, ← s2]; exact MBox.new _ _ _ _
  have HW : Hid (((w.alloc (.cells #[.int .i64 S.st, .string S.text, .slice a S.rd.length c] 26)).alloc (.cells #[.int .i64 id] 3)).alloc (.cells #[.int .i64 0, .string ⟨#[]⟩, .slice none 0 0] 26) = w3) := by rw [hw1, hw2]; exact hw3
  have hmf : ∀ (fn : Fn) (first cap : Array Value) (w : World), (Instr.makeFunc fn first cap).run Try.prog w = .ok (.func fn first cap) w := fun _ _ _ _ => rfl
  have cH := holdStream_any w w3 a c S hbw (hE.on hbw) (by omega) hm
  obtain ⟨b0, b1, b2⟩ := hB3.cells
  clear hw1 hw2 hw3 hb1 hb2 hb3 hb23 s1 s2
  go_enter Try.func10, Try.ntmps10
  go_wp2_with fail
  rw [HW.out]
  refine cH.mono ?_
  rintro e w4 ⟨B, v, rfl, hH, hb4, hB⟩
  have hP4 : w4.heap[w.heap.size + 1]? = some (.cells #[.int .i64 id] 3 (0, 0)) := by rw [hb4.block _ (by omega)]; exact hP3
  have hR4 := hR3.on hb4
  have hown : ∀ k, v.ownBlock = some k → k ≠ w.heap.size + 1 + 1 := ownP_notBox hH.own hR4
  have hownP : ∀ k, v.ownBlock = some k → k ≠ w.heap.size + 1 := fun k hk e => by
    obtain ⟨cs, hc⟩ := ownP_type hH.own k hk
    rw [e, hP4] at hc
    simp only [Option.some.injEq, Obj.cells.injEq] at hc
    exact absurd hc.2.1 (by decide)
  have hBw : B < w4.heap.size := hH.box.lt
  have c0 := change_any 40 #[.pointer (some ⟨w.heap.size + 1, 0, none⟩)] leave1_eg w4 B S.st S.text v hH.box (fun ok st' t' v' W => ok = true ∧ ∃ rd', Held w B 1 ⟨st', t', rd'⟩ v' W ∧ (⟨st', t', rd'⟩ : Stm) = leaveM S id ∧ Tch (fun k => k = B ∨ v.ownBlock = some k) w4 W) (by
    intro W hBW hRW hT
    have HWd : Held w B 1 S v W := ⟨Tch.below hH.below hT hH.below.size (fun k e => by rw [e]; exact hH.hB), hH.hB, hBW, hH.own.kept fun k hk => hT.2 k (hH.own.lt k hk).2 (ownP_notHeld hH.own hH.box k hk)⟩
    have hPW : W.heap[w.heap.size + 1]? = some (.cells #[.int .i64 id] 3 (0, 0)) := by rw [hT.2 _ (by have := hb4.size; omega) (by omega)]; exact hP4
    refine (leave1_any w B (w.heap.size + 1) S v id W HWd hPW hm).mono ?_
    rintro e w' ⟨v', rfl, h1, h2⟩
    obtain ⟨a', c', rfl, _⟩ := h1.at
    exact ⟨true, (leaveM S id).st, (leaveM S id).text, a', (leaveM S id).rd.length, c', rfl, h1.box, hRW.kept (h2.2 _ hRW.lt (fun e => e.elim (fun e => by omega) (fun e => by have := (hH.own.lt _ e).2; omega))), rfl, _, h1, rfl, (hT.weak (fun k e => Or.inl e)).trans h2⟩)
  clear cH b0 b1 b2 HW hB3 hP3 hR3
  go_wp2_with fail
  refine c0.mono ?_
  rintro e w5 ⟨ok, st', t', v', w2', rfl, ⟨rfl, rd', h1, he, h2⟩, hB2, hM2, hT3, hB5⟩
  have ho5 : OwnP w5 w.heap.size 38 v' rd' := h1.own.kept fun k hk => hT3.2 k (h1.own.lt k hk).2 (fun e => e.elim (ownP_notHeld h1.own h1.box k hk) (ownP_notBox h1.own hM2 k hk))
  have hb5 : Below w.heap.size w w5 := Tch.below h1.below hT3 h1.below.size (fun k e => by have := hH.below.size; have := hH.hB; omega)
  have hR5 : MBox w5 (w.heap.size + 1 + 1) (.int .i64 0) (.string ⟨#[]⟩) (.slice none 0 0) := (hR4.kept (h2.2 _ hR4.lt (fun e => e.elim (fun e => by omega) (fun e => hown _ e rfl)))).kept (hT3.2 _ (by have := h2.size; have := hR4.lt; omega) (by have := hR4.lt; omega))
  obtain ⟨a5, c5, rfl, _⟩ := ho5.at
  obtain ⟨w6, hw6⟩ : ∃ x, w5.alloc (.cells #[.int .i64 st', .string t', .slice a5 rd'.length c5] 26) = x := ⟨_, rfl⟩
  have hb6 : Below w5.heap.size w5 w6 := by rw [← hw6]; exact (Below.refl _ _).alloc (Nat.le_refl _) _
  have hB6 : MBox w6 w5.heap.size (.int .i64 st') (.string t') (.slice a5 rd'.length c5) := by rw [← hw6]; exact MBox.new _ _ _ _
  have hR6 := hR5.on hb6
  have HW6 : Hid (w5.alloc (.cells #[.int .i64 st', .string t', .slice a5 rd'.length c5] 26) = w6) := hw6
  have HO : Hid (MOwn w6 w.heap.size (.agg #[.int .i64 st', .string t', .slice a5 rd'.length c5]) ⟨st', t', rd'⟩ ∧ Below w.heap.size w w6 ∧ (⟨st', t', rd'⟩ : Stm) = leaveM S id) := ⟨⟨_, rfl, ho5.below hb6 (Nat.le_refl _)⟩, hb5.trans (hb6.mono hb5.size), he⟩
  obtain ⟨b0, b1, b2⟩ := hB6.cells
  obtain ⟨r0, r1, r2⟩ := hR6.cells
  obtain ⟨f0, f1, f2⟩ := (⟨hR6.thaw 0, hR6.thaw 1, hR6.thaw 2⟩ : _ ∧ _ ∧ _)
  rw [← hw6] at b0 b1 b2 r0 r1 r2 f0 f1 f2
  clear hw6 ho5 hb5 h1 h2 hB2 hM2 hT3 hB5 he hP4 hR4 hown hownP hH hb4 hbw hE c0
  go_wp2_with fail
  rw [HW6.out] at *
  obtain ⟨q0, q1, q2⟩ := (hR6.put (.int .i64 st') (.string t') (.slice a5 rd'.length c5)).cells
  refine bodyPost_ret (v := .agg #[.int .i64 st', .string t', .slice a5 rd'.length c5]) (by simp [results, Try.results10, go_sem, q0, q1, q2]) rfl ⟨_, rfl, by rw [← HO.out.2.2]; exact HO.out.1.put3 hR6 _ _ _, Below.put3M HO.out.2.1 (by omega) _ _ _⟩
end Go.Proofs.Ytmpnjijbahjinaf
