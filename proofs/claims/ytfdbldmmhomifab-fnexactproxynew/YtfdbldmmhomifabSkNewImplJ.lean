/- Texts that stand in one: SkNewImpl, PolNewImpl, PolSizes. -/
import Derived.Test.YtfdbldmmhomifabSkListsImpl
import Derived.Test.YtfdbldmmhomifabStrsJ
import Derived.Test.YtfdbldmmhomifabPolLaw
namespace Go.Proofs.Ytfdbldmmhomifab
open Go.RowKit Go.Sort

set_option maxRecDepth 100000 in
set_option maxHeartbeats 4000000 in
theorem implSketchNew_any (w : World) :
    Calls Try.prog 46 #[] w fun e w' => ∃ v, e = .returned v ∧ SkOwn w' w.heap.size w'.heap.size v newS ∧ Below w.heap.size w w' := by
  obtain ⟨w1, hw1⟩ : ∃ x, w.alloc (.cells #[.slice none 0 0, .int .i64 0] 26) = x := ⟨_, rfl⟩
  have hb1 : Below w.heap.size w w1 := by rw [← hw1]; exact (Below.refl _ _).alloc (Nat.le_refl _) _
  have hR : SkBox w1 w.heap.size (.slice none 0 0) (.int .i64 0) := by rw [← hw1]; exact SkBox.new _ _ _
  have HW : Hid (w.alloc (.cells #[.slice none 0 0, .int .i64 0] 26) = w1) := hw1
  have c1 := lists_any w1 (List.replicate 3 (List.replicate 16 0)) rfl all16_zero
  clear hw1
  go_enter Try.func46, Try.ntmps46
  go_wp2_with fail
  rw [HW.out]
  refine c1.mono ?_
  rintro e w2 ⟨v, rfl, ho, hb2⟩
  obtain ⟨a, c, rfl, _⟩ := ho.at
  have hR2 := hR.on hb2
  have hbw := hb1.trans (hb2.mono hb1.size)
  obtain ⟨r0, r1⟩ := hR2.cells
  have f0 := hR2.thaw 0
  have f1 := hR2.thaw 1
  have HO : Hid (OwnSS w2 w1.heap.size w2.heap.size (.slice a 3 c) newS.rows) := ho
  rw [show (List.replicate 3 (List.replicate 16 (0 : Int))).length = 3 from rfl]
  clear c1 ho hR hb2 HW
  go_wp2_with fail
  obtain ⟨q0, q1⟩ := (hR2.put (.slice a 3 c) (.int .i64 0)).cells
  refine bodyPost_ret (v := .agg #[.slice a 3 c, .int .i64 0]) (by simp [results, Try.results46, go_sem, q0, q1]) rfl ⟨_, rfl, ⟨_, rfl, ?_⟩, Below.put2 hbw (Nat.le_refl _) _ _⟩
  refine (HO.out.put2 hR2 _ _).mono hb1.size ?_
  simp
end Go.Proofs.Ytfdbldmmhomifab

namespace Go.Proofs.Ytfdbldmmhomifab
open Go.RowKit Go.Sort

set_option maxRecDepth 100000 in
set_option maxHeartbeats 4000000 in
theorem implPolicyNew_any (w : World) :
    Calls Try.prog 15 #[] w fun e w' => ∃ v, e = .returned v ∧ POwn w' w.heap.size w'.heap.size v newP ∧ Below w.heap.size w w' := by
  obtain ⟨w1, hw1⟩ : ∃ x, w.alloc (.cells #[.slice none 0 0, .slice none 0 0, .slice none 0 0, .int .i64 0] 28) = x := ⟨_, rfl⟩
  have hb1 : Below w.heap.size w w1 := by rw [← hw1]; exact (Below.refl _ _).alloc (Nat.le_refl _) _
  have hR : PBox w1 w.heap.size (.slice none 0 0) (.slice none 0 0) (.slice none 0 0) (.int .i64 0) := by rw [← hw1]; exact PBox.new _ _ _ _ _
  have HW : Hid (w.alloc (.cells #[.slice none 0 0, .slice none 0 0, .slice none 0 0, .int .i64 0] 28) = w1) := hw1
  have c1 := implSketchNew_any w1
  clear hw1
  go_enter Try.func15, Try.ntmps15
  go_wp2_with fail
  rw [HW.out]
  refine c1.mono ?_
  rintro e w2 ⟨v, rfl, ⟨u, rfl, ho⟩, hb2⟩
  obtain ⟨a, c, rfl, _⟩ := ho.at
  have hR2 := hR.on hb2
  have hbw := hb1.trans (hb2.mono hb1.size)
  obtain ⟨r0, r1, r2, r3⟩ := hR2.cells
  have f0 := hR2.thaw 0
  have f1 := hR2.thaw 1
  have f2 := hR2.thaw 2
  have f3 := hR2.thaw 3
  have HO : Hid (POwn w2 w1.heap.size w2.heap.size (.agg #[.slice none 0 0, .slice none 0 0, .slice a newS.rows.length c, .int .i64 0]) newP) := ⟨_, _, _, rfl, OwnV.nil _ _ _, OwnV.nil _ _ _, fun k hk => by simp [Value.ownBlock] at hk, fun k hk => by simp [Value.ownBlock] at hk, ho⟩
  obtain ⟨n, hn⟩ : ∃ n, newS.rows.length = n := ⟨_, rfl⟩
  have hz : newS.added = 0 := rfl
  rw [hn] at HO ⊢
  rw [hz]
  clear c1 ho hR hb2 HW hn hz
  go_wp2_with fail
  obtain ⟨q0, q1, q2, q3⟩ := (hR2.put (.slice none 0 0) (.slice none 0 0) (.slice a n c) (.int .i64 0)).cells
  refine bodyPost_ret (v := .agg #[.slice none 0 0, .slice none 0 0, .slice a n c, .int .i64 0]) (by simp [results, Try.results15, go_sem, q0, q1, q2, q3]) rfl ⟨_, rfl, ?_, Below.put4 hbw (Nat.le_refl _) _ _ _ _⟩
  refine (HO.out.put4 hR2 _ _ _ _).mono hb1.size ?_
  simp
end Go.Proofs.Ytfdbldmmhomifab

namespace Go.Proofs.Ytfdbldmmhomifab
open Go.RowKit

theorem wgtL_without (l : List ByteArray) (s : ByteArray) : (without l s).length + wgtL (without l s) ≤ l.length + wgtL l := by
  induction l with
  | nil => simp [without, wgtL]
  | cons a r ih =>
    by_cases e : a = s
    · have h1 : without (a :: r) s = without r s := by simp [without, e]
      rw [h1]
      simp only [List.length_cons, wgtL, List.map_cons, List.sum_cons] at ih ⊢
      omega
    · have h1 : without (a :: r) s = a :: without r s := by simp [without, e]
      rw [h1]
      simp only [List.length_cons, wgtL, List.map_cons, List.sum_cons] at ih ⊢
      omega
theorem dropP_sz {P : Pol} (key : ByteArray) (h : PolSz P) : PolSz (dropP P key) := by
  unfold PolSz wgtP dropP at *
  have h1 := wgtL_without P.win key
  have h2 := wgtL_without P.main key
  dsimp only
  omega
theorem wgtL_keys {l : List ByteArray} (h : ∀ z ∈ l, keyOk z = true) : wgtL l ≤ 30 * l.length := by
  induction l with
  | nil => simp [wgtL]
  | cons a r ih =>
    have h1 := ih (fun z hz => h z (List.mem_cons_of_mem _ hz))
    have h2 := h a (List.mem_cons_self ..)
    simp only [keyOk, decide_eq_true_eq] at h2
    simp only [wgtL, List.map_cons, List.sum_cons, List.length_cons] at h1 ⊢
    omega
/-- A right policy is small. -/
theorem okP_wgt {P : Pol} (h : okP P = true) : wgtP P ≤ 300 := by
  obtain ⟨h1, h2, _, _, _, h6, h7, h8⟩ := okP_iff.1 h
  obtain ⟨a, b, c, e, ra, rb, rc, _, _⟩ := okK_parts h8
  have w1 := wgtL_keys h1
  have w2 := wgtL_keys h2
  have hl : P.sk.rows.length = 3 := by rw [e]; rfl
  have ht : tot P.sk.rows P.sk.rows.length = 48 := by
    rw [hl, e]
    simp [tot, rowOk_len ra, rowOk_len rb, rowOk_len rc]
  unfold wgtP
  omega
theorem okP_sz {P : Pol} (h : okP P = true) : PolSz P := by
  have := okP_wgt h
  unfold PolSz
  omega
end Go.Proofs.Ytfdbldmmhomifab
