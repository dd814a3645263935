/- A new proxy: the program's and the other text's. Written by mkprx2.py. -/
import Derived.Test.YtfdbldmmhomifabPrxBase
import Derived.Test.YtfdbldmmhomifabSkNewSpecJ
import Derived.Test.YtfdbldmmhomifabSkNewImplJ
namespace Go.Proofs.Ytfdbldmmhomifab
open Go.RowKit Go.Sort
def newR : Prx := ⟨1, [], newP, [], [], 0⟩
theorem newR_sz : PxSz newR := by
  have h := newP_sz
  unfold PolSz at h
  unfold PxSz wgtX newR
  simp only [List.length_nil, ewg, ftwg, clwg]
  omega
set_option maxRecDepth 100000 in
set_option maxHeartbeats 4000000 in
theorem specProxyNew_any (w : World) :
    Calls Try.prog 5 #[] w fun e w' => ∃ X : Pc, e = .returned (.agg #[.int .i64 newR.now, X.e, X.w, X.m, X.k, .int .i64 newR.pol.sk.added, X.f, X.c, .int .i64 newR.hits]) ∧ PxOwn w' w.heap.size w'.heap.size X newR ∧ Below w.heap.size w w' := by
  obtain ⟨w1, hw1⟩ : ∃ x, w.alloc (.cells #[.int .i64 0, .slice none 0 0, .slice none 0 0, .slice none 0 0, .slice none 0 0, .int .i64 0, .slice none 0 0, .slice none 0 0, .int .i64 0] 32) = x := ⟨_, rfl⟩
  have hb1 : Below w.heap.size w w1 := by rw [← hw1]; exact (Below.refl _ _).alloc (Nat.le_refl _) _
  have hR : NB w1 w.heap.size 32 (.int .i64 0) (.slice none 0 0) (.slice none 0 0) (.slice none 0 0) (.slice none 0 0) (.int .i64 0) (.slice none 0 0) (.slice none 0 0) (.int .i64 0) := by rw [← hw1]; exact NB.new _ _ _ _ _ _ _ _ _ _ _
  have HW : Hid (w.alloc (.cells #[.int .i64 0, .slice none 0 0, .slice none 0 0, .slice none 0 0, .slice none 0 0, .int .i64 0, .slice none 0 0, .slice none 0 0, .int .i64 0] 32) = w1) := hw1
  have c1 := specPolicyNew_any w1
  clear hw1
  go_enter Try.func5, Try.ntmps5
  go_wp2_with fail
  rw [HW.out]
  refine c1.mono ?_
  rintro e w2 ⟨v, rfl, ho, hb2⟩
  obtain ⟨aw, cw, am, cm, ak, ck, rfl, _⟩ := ho.at
  obtain ⟨nw, hnw⟩ : ∃ n, newP.win.length = n := ⟨_, rfl⟩
  obtain ⟨nm, hnm⟩ : ∃ n, newP.main.length = n := ⟨_, rfl⟩
  obtain ⟨nk, hnk⟩ : ∃ n, newP.sk.rows.length = n := ⟨_, rfl⟩
  rw [hnw, hnm, hnk] at ho ⊢
  clear hnw hnm hnk
  have hR2 := hR.on hb2
  have hbw := hb1.trans (hb2.mono hb1.size)
  obtain ⟨r0, r1, r2, r3, r4, r5, r6, r7, r8⟩ := hR2.cells
  have f0 := hR2.thaw 0
  have f1 := hR2.thaw 1
  have f2 := hR2.thaw 2
  have f3 := hR2.thaw 3
  have f4 := hR2.thaw 4
  have f5 := hR2.thaw 5
  have f6 := hR2.thaw 6
  have f7 := hR2.thaw 7
  have f8 := hR2.thaw 8
  have hz : newP.sk.added = 0 := rfl
  have HO : Hid (PxOwn w2 w1.heap.size w2.heap.size ⟨.slice none 0 0, .slice aw nw cw, .slice am nm cm, .slice ak nk ck, .slice none 0 0, .slice none 0 0⟩ newR) := ⟨ownN_nil _ _ _, ho, OwnFet.nil _ _ _, OwnCli.nil _ _ _, fun k hk => by simp [Value.ownBlock] at hk, fun k hk => by simp [Value.ownBlock] at hk, fun k hk => by simp [Value.ownBlock] at hk⟩
  rw [hz]
  clear c1 ho hR hb2 HW hz
  go_wp2_with fail
  obtain ⟨q0, q1, q2, q3, q4, q5, q6, q7, q8⟩ := (hR2.put (.int .i64 1) (.slice none 0 0) (.slice aw nw cw) (.slice am nm cm) (.slice ak nk ck) (.int .i64 0) (.slice none 0 0) (.slice none 0 0) (.int .i64 0)).cells
  refine bodyPost_ret (v := .agg #[.int .i64 1, .slice none 0 0, .slice aw nw cw, .slice am nm cm, .slice ak nk ck, .int .i64 0, .slice none 0 0, .slice none 0 0, .int .i64 0]) (by simp [results, Try.results5, go_sem, q0, q1, q2, q3, q4, q5, q6, q7, q8]) rfl ⟨⟨.slice none 0 0, .slice aw nw cw, .slice am nm cm, .slice ak nk ck, .slice none 0 0, .slice none 0 0⟩, rfl, ?_, Below.put9 hbw (Nat.le_refl _) _ _ _ _ _ _ _ _ _⟩
  refine (HO.out.box hR2 (by unfold PxT; decide) fun k hk => put9_other _ _ _ _ _ _ _ _ _ _ _ k hk).mono hb1.size ?_
  simp
set_option maxRecDepth 100000 in
set_option maxHeartbeats 4000000 in
theorem implProxyNew_any (w : World) :
    Calls Try.prog 6 #[] w fun e w' => ∃ X : Pc, e = .returned (.agg #[.int .i64 newR.now, X.e, X.w, X.m, X.k, .int .i64 newR.pol.sk.added, X.f, X.c, .int .i64 newR.hits]) ∧ PxOwn w' w.heap.size w'.heap.size X newR ∧ Below w.heap.size w w' := by
  obtain ⟨w1, hw1⟩ : ∃ x, w.alloc (.cells #[.int .i64 0, .slice none 0 0, .slice none 0 0, .slice none 0 0, .slice none 0 0, .int .i64 0, .slice none 0 0, .slice none 0 0, .int .i64 0] 32) = x := ⟨_, rfl⟩
  have hb1 : Below w.heap.size w w1 := by rw [← hw1]; exact (Below.refl _ _).alloc (Nat.le_refl _) _
  have hR : NB w1 w.heap.size 32 (.int .i64 0) (.slice none 0 0) (.slice none 0 0) (.slice none 0 0) (.slice none 0 0) (.int .i64 0) (.slice none 0 0) (.slice none 0 0) (.int .i64 0) := by rw [← hw1]; exact NB.new _ _ _ _ _ _ _ _ _ _ _
  have HW : Hid (w.alloc (.cells #[.int .i64 0, .slice none 0 0, .slice none 0 0, .slice none 0 0, .slice none 0 0, .int .i64 0, .slice none 0 0, .slice none 0 0, .int .i64 0] 32) = w1) := hw1
  have c1 := implPolicyNew_any w1
  clear hw1
  go_enter Try.func6, Try.ntmps6
  go_wp2_with fail
  rw [HW.out]
  refine c1.mono ?_
  rintro e w2 ⟨v, rfl, ho, hb2⟩
  obtain ⟨aw, cw, am, cm, ak, ck, rfl, _⟩ := ho.at
  obtain ⟨nw, hnw⟩ : ∃ n, newP.win.length = n := ⟨_, rfl⟩
  obtain ⟨nm, hnm⟩ : ∃ n, newP.main.length = n := ⟨_, rfl⟩
  obtain ⟨nk, hnk⟩ : ∃ n, newP.sk.rows.length = n := ⟨_, rfl⟩
  rw [hnw, hnm, hnk] at ho ⊢
  clear hnw hnm hnk
  have hR2 := hR.on hb2
  have hbw := hb1.trans (hb2.mono hb1.size)
  obtain ⟨r0, r1, r2, r3, r4, r5, r6, r7, r8⟩ := hR2.cells
  have f0 := hR2.thaw 0
  have f1 := hR2.thaw 1
  have f2 := hR2.thaw 2
  have f3 := hR2.thaw 3
  have f4 := hR2.thaw 4
  have f5 := hR2.thaw 5
  have f6 := hR2.thaw 6
  have f7 := hR2.thaw 7
  have f8 := hR2.thaw 8
  have hz : newP.sk.added = 0 := rfl
  have HO : Hid (PxOwn w2 w1.heap.size w2.heap.size ⟨.slice none 0 0, .slice aw nw cw, .slice am nm cm, .slice ak nk ck, .slice none 0 0, .slice none 0 0⟩ newR) := ⟨ownN_nil _ _ _, ho, OwnFet.nil _ _ _, OwnCli.nil _ _ _, fun k hk => by simp [Value.ownBlock] at hk, fun k hk => by simp [Value.ownBlock] at hk, fun k hk => by simp [Value.ownBlock] at hk⟩
  rw [hz]
  clear c1 ho hR hb2 HW hz
  go_wp2_with fail
  obtain ⟨q0, q1, q2, q3, q4, q5, q6, q7, q8⟩ := (hR2.put (.int .i64 1) (.slice none 0 0) (.slice aw nw cw) (.slice am nm cm) (.slice ak nk ck) (.int .i64 0) (.slice none 0 0) (.slice none 0 0) (.int .i64 0)).cells
  refine bodyPost_ret (v := .agg #[.int .i64 1, .slice none 0 0, .slice aw nw cw, .slice am nm cm, .slice ak nk ck, .int .i64 0, .slice none 0 0, .slice none 0 0, .int .i64 0]) (by simp [results, Try.results6, go_sem, q0, q1, q2, q3, q4, q5, q6, q7, q8]) rfl ⟨⟨.slice none 0 0, .slice aw nw cw, .slice am nm cm, .slice ak nk ck, .slice none 0 0, .slice none 0 0⟩, rfl, ?_, Below.put9 hbw (Nat.le_refl _) _ _ _ _ _ _ _ _ _⟩
  refine (HO.out.box hR2 (by unfold PxT; decide) fun k hk => put9_other _ _ _ _ _ _ _ _ _ _ _ k hk).mono hb1.size ?_
  simp
end Go.Proofs.Ytfdbldmmhomifab
