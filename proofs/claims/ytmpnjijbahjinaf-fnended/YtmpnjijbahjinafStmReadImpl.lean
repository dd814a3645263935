/- The program's StreamRead. -/
import Derived.Test.YtmpnjijbahjinafStmRead1
import Derived.Deep.RegionHeld3
namespace Go.Proofs.Ytmpnjijbahjinaf
open Go.RowKit Go.Sort

set_option maxRecDepth 100000 in
set_option maxHeartbeats 4000000 in
theorem implStreamRead_any (w : World) (a : Option Addr) (c : Nat) (S : Stm) (id most : Int) (hE : PAt w a S.rd w.heap.size) (ht : S.text.size ≤ 1048576) (hm : S.rd.length ≤ 1048576) :
    Calls Try.prog 13 #[.agg #[.int .i64 S.st, .string S.text, .slice a S.rd.length c], .int .i64 id, .int .i64 most] w fun e w' => ∃ v, e = .returned (.tuple #[v, .string (readM S id most).2.1, .bool (readM S id most).2.2]) ∧ MOwn w' w.heap.size v (readM S id most).1 ∧ Below w.heap.size w w' := by
  obtain ⟨w1, hw1⟩ : ∃ x, w.alloc (.cells #[.int .i64 S.st, .string S.text, .slice a S.rd.length c] 26) = x := ⟨_, rfl⟩
  obtain ⟨w2, hw2⟩ : ∃ x, w1.alloc (.cells #[.int .i64 id] 3) = x := ⟨_, rfl⟩
  obtain ⟨w3, hw3⟩ : ∃ x, w2.alloc (.cells #[.int .i64 most] 3) = x := ⟨_, rfl⟩
  obtain ⟨w4, hw4⟩ : ∃ x, w3.alloc (.cells #[.int .i64 0, .string ⟨#[]⟩, .slice none 0 0] 26) = x := ⟨_, rfl⟩
  obtain ⟨w5, hw5⟩ : ∃ x, w4.alloc (.cells #[.string ⟨#[]⟩] 9) = x := ⟨_, rfl⟩
  have hb1 : Below w.heap.size w w1 := by rw [← hw1]; exact (Below.refl _ _).alloc (Nat.le_refl _) _
  have hb2 : Below w1.heap.size w1 w2 := by rw [← hw2]; exact (Below.refl _ _).alloc (Nat.le_refl _) _
  have hb3 : Below w2.heap.size w2 w3 := by rw [← hw3]; exact (Below.refl _ _).alloc (Nat.le_refl _) _
  have hb4 : Below w3.heap.size w3 w4 := by rw [← hw4]; exact (Below.refl _ _).alloc (Nat.le_refl _) _
  have hb5 : Below w4.heap.size w4 w5 := by rw [← hw5]; exact (Below.refl _ _).alloc (Nat.le_refl _) _
  have s1 : w1.heap.size = w.heap.size + 1 := by rw [← hw1]; simp
  have s2 : w2.heap.size = w.heap.size + 1 + 1 := by rw [← hw2]; simp; omega
  have s3 : w3.heap.size = w.heap.size + 1 + 1 + 1 := by rw [← hw3]; simp; omega
  have s4 : w4.heap.size = w.heap.size + 1 + 1 + 1 + 1 := by rw [← hw4]; simp; omega
  have s5 : w5.heap.size = w.heap.size + 1 + 1 + 1 + 1 + 1 := by rw [← hw5]; simp; omega
  have hb45 : Below w3.heap.size w3 w5 := hb4.trans (hb5.mono hb4.size)
  have hb35 : Below w2.heap.size w2 w5 := hb3.trans (hb45.mono hb3.size)
  have hb25 : Below w1.heap.size w1 w5 := hb2.trans (hb35.mono hb2.size)
  have hbw : Below w.heap.size w w5 := hb1.trans (hb25.mono hb1.size)
  have hB5 : MBox w5 w.heap.size (.int .i64 S.st) (.string S.text) (.slice a S.rd.length c) := by
    have h : MBox w1 w.heap.size (.int .i64 S.st) (.string S.text) (.slice a S.rd.length c) := by rw [← hw1]; exact MBox.new _ _ _ _
    exact h.on hb25
  have hP1 : w5.heap[w.heap.size + 1]? = some (.cells #[.int .i64 id] 3 (0, 0)) := by
    rw [hb35.block _ (by omega), ← hw2, ← s1]
    exact heap_alloc_new w1 _
  have hP2 : w5.heap[w.heap.size + 1 + 1]? = some (.cells #[.int .i64 most] 3 (0, 0)) := by
    rw [hb45.block _ (by omega), ← hw3, ← s2]
    exact heap_alloc_new w2 _
  have hR5 : MBox w5 (w.heap.size + 1 + 1 + 1) (.int .i64 0) (.string ⟨#[]⟩) (.slice none 0 0) := by
    have h : MBox w4 (w.heap.size + 1 + 1 + 1) (.int .i64 0) (.string ⟨#[]⟩) (.slice none 0 0) := by rw [← hw4, ← s3]; exact MBox.new _ _ _ _
    exact h.on hb5
  have hP3 : w5.heap[w.heap.size + 1 + 1 + 1 + 1]? = some (.cells #[.string ⟨#[]⟩] 9 (0, 0)) := by
    rw [← hw5, ← s4]
    exact heap_alloc_new w4 _
  have HW : Hid (((((w.alloc (.cells #[.int .i64 S.st, .string S.text, .slice a S.rd.length c] 26)).alloc (.cells #[.int .i64 id] 3)).alloc (.cells #[.int .i64 most] 3)).alloc (.cells #[.int .i64 0, .string ⟨#[]⟩, .slice none 0 0] 26)).alloc (.cells #[.string ⟨#[]⟩] 9) = w5) := by rw [hw1, hw2, hw3, hw4]; exact hw5
  have hmf : ∀ (fn : Fn) (first cap : Array Value) (w : World), (Instr.makeFunc fn first cap).run Try.prog w = .ok (.func fn first cap) w := fun _ _ _ _ => rfl
  have cH := holdStream_any w w5 a c S hbw (hE.on hbw) (by omega) hm
  obtain ⟨b0, b1, b2⟩ := hB5.cells
  rw [← hw5, ← hw4, ← hw3, ← hw2, ← hw1] at b0 b1 b2
  clear hw1 hw2 hw3 hw4 hw5 hb1 hb2 hb3 hb4 hb5 hb45 hb35 hb25 s1 s2 s3 s4
  go_enter Try.func13, Try.ntmps13
  go_wp2_with fail
  rw [HW.out] at *
  refine cH.mono ?_
  rintro e w6 ⟨B, v, rfl, hH, hb6, hB⟩
  have hq1 : w6.heap[w.heap.size + 1]? = some (.cells #[.int .i64 id] 3 (0, 0)) := by rw [hb6.block _ (by omega)]; exact hP1
  have hq2 : w6.heap[w.heap.size + 1 + 1]? = some (.cells #[.int .i64 most] 3 (0, 0)) := by rw [hb6.block _ (by omega)]; exact hP2
  have hq3 : w6.heap[w.heap.size + 1 + 1 + 1 + 1]? = some (.cells #[.string ⟨#[]⟩] 9 (0, 0)) := by rw [hb6.block _ (by omega)]; exact hP3
  have hR6 := hR5.on hb6
  have hs6 := hb6.size
  have hown : ∀ k, v.ownBlock = some k → k ≠ w.heap.size + 1 + 1 + 1 := ownP_notBox hH.own hR6
  have hown3 : ∀ k, v.ownBlock = some k → k ≠ w.heap.size + 1 + 1 + 1 + 1 := fun k hk e => by
    obtain ⟨cs, hc⟩ := ownP_type hH.own k hk
    rw [e, hq3] at hc
    simp only [Option.some.injEq, Obj.cells.injEq] at hc
    exact absurd hc.2.1 (by decide)
  clear cH b0 b1 b2 HW hB5 hP1 hP2 hP3 hR5
  go_wp2_with fail
  refine changeRight_to _ 46 #[.pointer (some ⟨w.heap.size + 1, 0, none⟩), .pointer (some ⟨w.heap.size + 1 + 1, 0, none⟩), .pointer (some ⟨w.heap.size + 1 + 1 + 1 + 1, 0, none⟩)] read1_eg w w6 B S v hH ht hm (fun k => k = B ∨ v.ownBlock = some k ∨ k = w.heap.size + 1 + 1 + 1 + 1) (Or.inl rfl) ?_ (fun ok S' W => ∃ tx, W.heap[w.heap.size + 1 + 1 + 1 + 1]? = some (.cells #[.string tx] 9 (0, 0)) ∧ (S', tx, ok) = readM S id most) ?_ ?_ ?_ ?_
  · rintro k (rfl | hk | rfl)
    · exact ⟨hH.hB, hH.box.lt⟩
    · exact hH.own.lt k hk
    · exact ⟨by omega, by omega⟩
  · rintro ok S' W W' ⟨tx, h1, h2⟩ hT
    exact ⟨tx, (hT.2 _ (Array.getElem?_eq_some_iff.1 h1).1 (by omega)).trans h1, h2⟩
  · intro hok
    exact ⟨_, hq3, by unfold readM; rw [hok]; rfl⟩
  · intro hok W hW hT
    have hk : ∀ k o, w6.heap[k]? = some o → k < B → W.heap[k]? = some o := fun k o h hk => (hT.2 k (Array.getElem?_eq_some_iff.1 h).1 (by omega)).trans h
    exact read1_any w B _ _ _ S v id most W hW (hk _ _ hq1 (by omega)) (hk _ _ hq2 (by omega)) (hk _ _ hq3 (by omega)) (by omega) hok ht hm
  · rintro ok S' u w7 ho7 hb7 hT7 ⟨tx, hx7, hQ7⟩
    have HQ : Hid ((readM S id most).1 = S' ∧ (readM S id most).2.1 = tx ∧ (readM S id most).2.2 = ok) := by rw [← hQ7]; exact ⟨rfl, rfl, rfl⟩
    have hR7 : MBox w7 (w.heap.size + 1 + 1 + 1) (.int .i64 0) (.string ⟨#[]⟩) (.slice none 0 0) := hR6.kept (hT7.2 _ (by omega) (fun e => e.elim (fun e => by omega) (fun e => e.elim (fun e => hown _ e rfl) (fun e => by omega))))
    obtain ⟨u1, rfl, hu1⟩ := ho7
    obtain ⟨a7, c7, rfl, _⟩ := hu1.at
    obtain ⟨st', t', rd'⟩ := S'
    dsimp only at hu1 ⊢
    obtain ⟨w8, hw8⟩ : ∃ x, w7.alloc (.cells #[.int .i64 st', .string t', .slice a7 rd'.length c7] 26) = x := ⟨_, rfl⟩
    have hb8 : Below w7.heap.size w7 w8 := by rw [← hw8]; exact (Below.refl _ _).alloc (Nat.le_refl _) _
    have hB8 : MBox w8 w7.heap.size (.int .i64 st') (.string t') (.slice a7 rd'.length c7) := by rw [← hw8]; exact MBox.new _ _ _ _
    have hR8 := hR7.on hb8
    have hx8 : w8.heap[w.heap.size + 1 + 1 + 1 + 1]? = some (.cells #[.string tx] 9 (0, 0)) := (hb8.block _ (Array.getElem?_eq_some_iff.1 hx7).1).trans hx7
    have HO : Hid (MOwn w8 w.heap.size (.agg #[.int .i64 st', .string t', .slice a7 rd'.length c7]) ⟨st', t', rd'⟩ ∧ Below w.heap.size w w8) := ⟨⟨_, rfl, hu1.below hb8 (Nat.le_refl _)⟩, hb7.trans (hb8.mono hb7.size)⟩
    have HW8 : Hid (w7.alloc (.cells #[.int .i64 st', .string t', .slice a7 rd'.length c7] 26) = w8) := hw8
    have hlt7 : w.heap.size + 1 + 1 + 1 < w7.heap.size := hR7.lt
    have KS : ∀ W : World, (∀ q, q ≠ w.heap.size + 1 + 1 + 1 → W.heap[q]? = w8.heap[q]?) → (∀ q, q ≠ w.heap.size + 1 + 1 + 1 → W.heap[q]? = w8.heap[q]?) ∧ W.cell? ⟨w7.heap.size, 0, none⟩ = some (.int .i64 st') ∧ W.cell? ⟨w7.heap.size, 1, none⟩ = some (.string t') ∧ W.cell? ⟨w7.heap.size, 2, none⟩ = some (.slice a7 rd'.length c7) ∧ W.cell? ⟨w.heap.size + 1 + 1 + 1 + 1, 0, none⟩ = some (.string tx) := fun W hW => ⟨hW, (hB8.kept (hW _ (by omega))).cells.1, (hB8.kept (hW _ (by omega))).cells.2.1, (hB8.kept (hW _ (by omega))).cells.2.2, by rw [cell_of_row W _ 0 _ _ (0, 0) ((hW _ (by omega)).trans hx8)]; rfl⟩
    obtain ⟨r0, r1, r2⟩ := hR8.cells
    obtain ⟨f0, f1, f2⟩ := (⟨hR8.thaw 0, hR8.thaw 1, hR8.thaw 2⟩ : _ ∧ _ ∧ _)
    clear hu1 hb7 hT7 hQ7 hq1 hq2 hq3 hR6 hown hown3 hH hb6 hbw hE hx7 hw8 hs6 hB hB8 hx8 hR7 hb8
    go_wp2_with fail
    rw [HW8.out]
    go_region_held3 (fun W => (∀ q, q ≠ w.heap.size + 1 + 1 + 1 → W.heap[q]? = w8.heap[q]?) ∧ W.cell? ⟨w7.heap.size, 0, none⟩ = some (.int .i64 st') ∧ W.cell? ⟨w7.heap.size, 1, none⟩ = some (.string t') ∧ W.cell? ⟨w7.heap.size, 2, none⟩ = some (.slice a7 rd'.length c7) ∧ W.cell? ⟨w.heap.size + 1 + 1 + 1 + 1, 0, none⟩ = some (.string tx)) (first | exact KS _ (fun _ _ => rfl) | exact KS _ (fun q hq => (Below.heap_setCell _ _ _ _ hq).trans ((Below.heap_setCell _ _ _ _ hq).trans (Below.heap_setCell _ _ _ _ hq)))) (fail)
    all_goals
      have hRd : MBox ((((w8.setCell ⟨w.heap.size + 1 + 1 + 1, 0, none⟩ (.int .i64 st')).setCell ⟨w.heap.size + 1 + 1 + 1, 1, none⟩ (.string t')).setCell ⟨w.heap.size + 1 + 1 + 1, 2, none⟩ (.slice a7 rd'.length c7)).drew) (w.heap.size + 1 + 1 + 1) (.int .i64 st') (.string t') (.slice a7 rd'.length c7) := (hR8.put (.int .i64 st') (.string t') (.slice a7 rd'.length c7)).kept rfl
      obtain ⟨q0, q1, q2⟩ := hRd.cells
      go_wp2_with fail
      refine bodyPost_ret (v := .tuple #[.agg #[.int .i64 st', .string t', .slice a7 rd'.length c7], .string tx, .bool ok]) (by simp [results, Try.results13, go_sem, q0, q1, q2]) rfl ⟨.agg #[.int .i64 st', .string t', .slice a7 rd'.length c7], by rw [HQ.out.2.1, HQ.out.2.2], ?_, (Below.put3M HO.out.2 (by omega) _ _ _).trans ⟨rfl, rfl, rfl, Nat.le_refl _, fun _ _ => rfl⟩⟩
      rw [HQ.out.1]
      exact (HO.out.1.put3 hR8 _ _ _).below (B := (((w8.setCell ⟨w.heap.size + 1 + 1 + 1, 0, none⟩ (.int .i64 st')).setCell ⟨w.heap.size + 1 + 1 + 1, 1, none⟩ (.string t')).setCell ⟨w.heap.size + 1 + 1 + 1, 2, none⟩ (.slice a7 rd'.length c7)).heap.size) ⟨rfl, rfl, rfl, Nat.le_refl _, fun _ _ => rfl⟩ (Nat.le_refl _)
end Go.Proofs.Ytmpnjijbahjinaf
