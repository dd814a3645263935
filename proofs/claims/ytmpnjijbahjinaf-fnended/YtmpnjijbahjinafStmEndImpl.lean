/- The program's StreamEnd. Written by mkstmI.py. -/
import Derived.Test.YtmpnjijbahjinafStmEnd1
namespace Go.Proofs.Ytmpnjijbahjinaf
open Go.RowKit Go.Sort

set_option maxRecDepth 100000 in
set_option maxHeartbeats 4000000 in
theorem implStreamEnd_any (w : World) (a : Option Addr) (c : Nat) (S : Stm) (br : Bool) (hE : PAt w a S.rd w.heap.size) (ht : S.text.size ≤ 1048576) (hm : S.rd.length ≤ 1048576) :
    Calls Try.prog 19 #[.agg #[.int .i64 S.st, .string S.text, .slice a S.rd.length c], .bool br] w fun e w' => ∃ v, e = .returned (.tuple #[v, .bool (endM S br).2]) ∧ MOwn w' w.heap.size v (endM S br).1 ∧ Below w.heap.size w w' := by
  obtain ⟨w1, hw1⟩ : ∃ x, w.alloc (.cells #[.int .i64 S.st, .string S.text, .slice a S.rd.length c] 26) = x := ⟨_, rfl⟩
  obtain ⟨w2, hw2⟩ : ∃ x, w1.alloc (.cells #[.bool br] 4) = x := ⟨_, rfl⟩
  obtain ⟨w3, hw3⟩ : ∃ x, w2.alloc (.cells #[.int .i64 0, .string ⟨#[]⟩, .slice none 0 0] 26) = x := ⟨_, rfl⟩
  have hb1 : Below w.heap.size w w1 := by rw [← hw1]; exact (Below.refl _ _).alloc (Nat.le_refl _) _
  have hb2 : Below w1.heap.size w1 w2 := by rw [← hw2]; exact (Below.refl _ _).alloc (Nat.le_refl _) _
  have hb3 : Below w2.heap.size w2 w3 := by rw [← hw3]; exact (Below.refl _ _).alloc (Nat.le_refl _) _
  have s1 : w1.heap.size = w.heap.size + 1 := by rw [← hw1]; simp
  have s2 : w2.heap.size = w.heap.size + 1 + 1 := by rw [← hw2]; simp; omega
  have s3 : w3.heap.size = w.heap.size + 1 + 1 + 1 := by rw [← hw3]; simp; omega
  have hb23 : Below w1.heap.size w1 w3 := hb2.trans (hb3.mono hb2.size)
  have hbw : Below w.heap.size w w3 := hb1.trans (hb23.mono hb1.size)
  have hB3 : MBox w3 w.heap.size (.int .i64 S.st) (.string S.text) (.slice a S.rd.length c) := by
    have h : MBox w1 w.heap.size (.int .i64 S.st) (.string S.text) (.slice a S.rd.length c) := by rw [← hw1]; exact MBox.new _ _ _ _
    exact h.on hb23
  have hP3 : w3.heap[w.heap.size + 1]? = some (.cells #[.bool br] 4 (0, 0)) := by
    rw [hb3.block _ (by omega), ← hw2, ← s1]
    exact heap_alloc_new w1 _
  have hR3 : MBox w3 (w.heap.size + 1 + 1) (.int .i64 0) (.string ⟨#[]⟩) (.slice none 0 0) := by rw [← hw3, ← s2]; exact MBox.new _ _ _ _
  have HW : Hid (((w.alloc (.cells #[.int .i64 S.st, .string S.text, .slice a S.rd.length c] 26)).alloc (.cells #[.bool br] 4)).alloc (.cells #[.int .i64 0, .string ⟨#[]⟩, .slice none 0 0] 26) = w3) := by rw [hw1, hw2]; exact hw3
  have hmf : ∀ (fn : Fn) (first cap : Array Value) (w : World), (Instr.makeFunc fn first cap).run Try.prog w = .ok (.func fn first cap) w := fun _ _ _ _ => rfl
  have cH := holdStream_any w w3 a c S hbw (hE.on hbw) (by omega) hm
  obtain ⟨b0, b1, b2⟩ := hB3.cells
  clear hw1 hw2 hw3 hb1 hb2 hb3 hb23 s1 s2
  go_enter Try.func19, Try.ntmps19
  go_wp2_with fail
  rw [HW.out]
  refine cH.mono ?_
  rintro e w4 ⟨B, v, rfl, hH, hb4, hB⟩
  have hP4 : w4.heap[w.heap.size + 1]? = some (.cells #[.bool br] 4 (0, 0)) := by rw [hb4.block _ (by omega)]; exact hP3
  have hR4 := hR3.on hb4
  have hown : ∀ k, v.ownBlock = some k → k ≠ w.heap.size + 1 + 1 := ownP_notBox hH.own hR4
  have hownP : ∀ k, v.ownBlock = some k → k ≠ w.heap.size + 1 := fun k hk e => by
    obtain ⟨cs, hc⟩ := ownP_type hH.own k hk
    rw [e, hP4] at hc
    simp only [Option.some.injEq, Obj.cells.injEq] at hc
    exact absurd hc.2.1 (by decide)
  clear cH b0 b1 b2 HW hB3 hP3 hR3
  go_wp2_with fail
  refine changeRight_to _ 55 #[.pointer (some ⟨w.heap.size + 1, 0, none⟩)] end1_eg w w4 B S v hH ht hm (fun k => k = B ∨ v.ownBlock = some k) (Or.inl rfl) ?_ (fun ok S' _ => (S', ok) = endM S br) (fun _ _ _ _ h _ => h) ?_ ?_ ?_
  · rintro k (rfl | hk)
    · exact ⟨hH.hB, hH.box.lt⟩
    · exact hH.own.lt k hk
  · intro hok
    unfold endM
    rw [hok]
    rfl
  · intro hok W hW hT
    have hPW : W.heap[w.heap.size + 1]? = some (.cells #[.bool br] 4 (0, 0)) := by rw [hT.2 _ (by have := hb4.size; omega) (by omega)]; exact hP4
    exact end1_any w B (w.heap.size + 1) S v br W hW hPW hok ht hm
  · intro ok S' u w5 ho5 hb5 hT5 hQ5
    have HQ1 : Hid ((endM S br).1 = S') := by show _ = _; rw [← hQ5]
    have HQ2 : Hid ((endM S br).2 = ok) := by show _ = _; rw [← hQ5]
    have hR5 : MBox w5 (w.heap.size + 1 + 1) (.int .i64 0) (.string ⟨#[]⟩) (.slice none 0 0) := hR4.kept (hT5.2 _ (by have := hb4.size; omega) (fun e => e.elim (fun e => by omega) (fun e => hown _ e rfl)))
    obtain ⟨u1, rfl, hu1⟩ := ho5
    obtain ⟨a5, c5, rfl, _⟩ := hu1.at
    have HO : Hid (MOwn w5 w.heap.size (.agg #[.int .i64 S'.st, .string S'.text, .slice a5 S'.rd.length c5]) S' ∧ Below w.heap.size w w5) := ⟨⟨_, rfl, hu1⟩, hb5⟩
    obtain ⟨r0, r1, r2⟩ := hR5.cells
    obtain ⟨f0, f1, f2⟩ := (⟨hR5.thaw 0, hR5.thaw 1, hR5.thaw 2⟩ : _ ∧ _ ∧ _)
    clear hu1 hb5 hT5 hQ5 hP4 hR4 hown hownP hH hb4 hbw hE
    go_wp2_with fail
    obtain ⟨q0, q1, q2⟩ := (hR5.put (.int .i64 S'.st) (.string S'.text) (.slice a5 S'.rd.length c5)).cells
    refine bodyPost_ret (v := .tuple #[.agg #[.int .i64 S'.st, .string S'.text, .slice a5 S'.rd.length c5], .bool ok]) (by simp [results, Try.results19, go_sem, q0, q1, q2]) rfl ⟨_, by rw [HQ2.out], by rw [HQ1.out]; exact HO.out.1.put3 hR5 _ _ _, Below.put3M HO.out.2 (by omega) _ _ _⟩
end Go.Proofs.Ytmpnjijbahjinaf
