/- PolicyDrop: the program's. -/
import Derived.Test.YtbcjkinalghokatPolCopyImpl
import Derived.Test.YtbcjkinalghokatDelFunc
import Derived.Test.YtbcjkinalghokatPolHold
namespace Go.Proofs.Ytbcjkinalghokat
open Go.RowKit Go.Sort

set_option maxRecDepth 100000 in
set_option maxHeartbeats 8000000 in
theorem implPolicyDrop_any (w : World) (aw am ak : Option Addr) (cw cm ck : Nat) (P : Pol) (key : ByteArray) (hA : PolAt w aw am ak P w.heap.size) (hsz : PolSz P) :
    Calls Try.prog 19 #[.agg #[.slice aw P.win.length cw, .slice am P.main.length cm, .slice ak P.sk.rows.length ck, .int .i64 P.sk.added], .string key] w fun e w' => ∃ v, e = .returned v ∧ POwn w' w.heap.size w'.heap.size v (dropP P key) ∧ Below w.heap.size w w' := by
  obtain ⟨l1, l2, l3⟩ := hsz.parts
  obtain ⟨w1, hw1⟩ : ∃ x, ((w.alloc (.cells #[.slice aw P.win.length cw, .slice am P.main.length cm, .slice ak P.sk.rows.length ck, .int .i64 P.sk.added] 27)).alloc (.cells #[.string key] 9)).alloc (.cells #[.slice none 0 0, .slice none 0 0, .slice none 0 0, .int .i64 0] 27) = x := ⟨_, rfl⟩
  have hb1 : Below w.heap.size w w1 := by rw [← hw1]; exact (((Below.refl _ _).alloc (Nat.le_refl _) _).alloc (by simp) _).alloc (by simp; omega) _
  have s1 : w1.heap.size = w.heap.size + 3 := by rw [← hw1]; simp
  have hK : w1.heap[w.heap.size + 1]? = some (.cells #[.string key] 9 (0, 0)) := by
    have h := heap_alloc_new (w.alloc (.cells #[.slice aw P.win.length cw, .slice am P.main.length cm, .slice ak P.sk.rows.length ck, .int .i64 P.sk.added] 27)) (.cells #[.string key] 9)
    rw [← hw1]
    exact (((Below.refl _ _).alloc (Nat.le_refl _) _).block _ (by simp)).trans (by simpa using h)
  have hR : PBox w1 (w.heap.size + 2) (.slice none 0 0) (.slice none 0 0) (.slice none 0 0) (.int .i64 0) := by
    have h := PBox.new ((w.alloc (.cells #[.slice aw P.win.length cw, .slice am P.main.length cm, .slice ak P.sk.rows.length ck, .int .i64 P.sk.added] 27)).alloc (.cells #[.string key] 9)) (.slice none 0 0) (.slice none 0 0) (.slice none 0 0) (.int .i64 0)
    rw [hw1] at h
    simpa using h
  have c1 := policyCopy_any w1 aw am ak cw cm ck P (hA.on hb1) hsz
  have HW : Hid (((w.alloc (.cells #[.slice aw P.win.length cw, .slice am P.main.length cm, .slice ak P.sk.rows.length ck, .int .i64 P.sk.added] 27)).alloc (.cells #[.string key] 9)).alloc (.cells #[.slice none 0 0, .slice none 0 0, .slice none 0 0, .int .i64 0] 27) = w1) := hw1
  have HB1 : Hid (Below w.heap.size w w1 ∧ w1.heap.size = w.heap.size + 3) := ⟨hb1, s1⟩
  clear hw1 hb1 s1 hA
  go_enter Try.func19, Try.ntmps19
  go_wp2_with fail
  rw [HW.out]
  refine c1.mono ?_
  rintro e w2 ⟨v, rfl, hO, hb2⟩
  have hO0 := hO
  obtain ⟨v1, v2, v3, rfl, o1, o2, d1, d2, o3⟩ := hO
  obtain ⟨a2, k2, rfl, _⟩ := o1.strsAt
  obtain ⟨a3, k3, rfl, _⟩ := o2.strsAt
  obtain ⟨a4, k4, rfl, _⟩ := o3.at
  obtain ⟨hb1, s1⟩ := HB1.out
  have H3 := hO0.hold 27 []
  have ht : tyOk 27 := by unfold tyOk; decide
  obtain ⟨w3, hw3⟩ : ∃ x, w2.alloc (.cells #[.slice a2 P.win.length k2, .slice a3 P.main.length k3, .slice a4 P.sk.rows.length k4, .int .i64 P.sk.added] 27) = x := ⟨_, rfl⟩
  have hb3 : Below w1.heap.size w1 w3 := by
    rw [← hw3]
    exact hb2.alloc hb2.size _
  rw [hw3] at H3
  have HW3 : Hid (w2.alloc (.cells #[.slice a2 P.win.length k2, .slice a3 P.main.length k3, .slice a4 P.sk.rows.length k4, .int .i64 P.sk.added] 27) = w3) := hw3
  obtain ⟨V, hV⟩ : ∃ V, w2.heap.size = V := ⟨_, rfl⟩
  rw [hV] at H3
  have hVlo : w1.heap.size ≤ V := by rw [← hV]; exact hb2.size
  have hKc : ∀ W, Below w1.heap.size w1 W → W.cell? ⟨w.heap.size + 1, 0, none⟩ = some (.string key) := fun W h => by
    rw [cell_of_row W (w.heap.size + 1) 0 _ _ (0, 0) ((h.block _ (by omega)).trans hK)]; rfl
  have hs3 := hb3.size
  have c2 := deleteF_any w3 w1.heap.size (w.heap.size + 1) _ P.win key H3.2.1 l1 (by omega) (by omega) (hKc _ hb3)
  have HL : Hid (P.win.length ≤ 1048576 ∧ P.main.length ≤ 1048576) := ⟨l1, l2⟩
  have HKC : Hid _ := hKc
  have HV : Hid (w2.heap.size = V) := hV
  clear c1 hO0 o1 o2 d1 d2 o3 hw3 hKc hV hK hs3 l1 l2 l3 hsz hb2
  go_wp2_with fail
  rw [HW3.out]
  refine c2.mono ?_
  rintro e w4 ⟨v1', rfl, ho4, hn4, hg4⟩
  obtain ⟨a5, k5, rfl, _⟩ := ho4.strsAt
  obtain ⟨x0, xf⟩ := H3.var1 ht hg4
  have xf0 := xf 0
  have hb4 : Below w1.heap.size w1 w4 := hb3.grown hg4 hb3.size (fun k e => (H3.2.1.lt k e).1)
  have H5 := H3.setWin ht hg4 ho4 (fun k e => .inl (by rw [← hn4]; exact e))
  have hb5 : Below w1.heap.size w1 (w4.setCell ⟨V, 0, none⟩ (.slice a5 (without P.win key).length k5)) := hb4.setCell hVlo _
  obtain ⟨w5, hw5⟩ : ∃ x, w4.setCell ⟨V, 0, none⟩ (.slice a5 (without P.win key).length k5) = x := ⟨_, rfl⟩
  have HW5 : Hid (w4.setCell ⟨V, 0, none⟩ (.slice a5 (without P.win key).length k5) = w5) := hw5
  obtain ⟨n1, hn1⟩ : ∃ n, (without P.win key).length = n := ⟨_, rfl⟩
  rw [hw5] at H5 hb5
  rw [hn1] at H5 HW5 ⊢
  have c3 := deleteF_any w5 w1.heap.size (w.heap.size + 1) _ P.main key H5.2.2.1 HL.out.2 (by omega) (by have := hb5.size; omega) (HKC.out _ hb5)
  obtain ⟨y0, y1, y2, y3, _⟩ := H5.cells
  have HP5 : Hid (PHold w5 V 27 [] w1.heap.size (.slice a5 n1 k5) (.slice a3 P.main.length k3) (.slice a4 P.sk.rows.length k4) ⟨without P.win key, P.main, P.sk⟩) := H5
  have HQ5 : Hid (Below w1.heap.size w1 w5 ∧ w1.heap.size ≤ V ∧ Below w.heap.size w w1 ∧ w1.heap.size = w.heap.size + 3 ∧ PBox w1 (w.heap.size + 2) (.slice none 0 0) (.slice none 0 0) (.slice none 0 0) (.int .i64 0)) := ⟨hb5, hVlo, hb1, s1, hR⟩
  rw [← HW5.out] at y0 y1 y2 y3
  rw [HV.out]
  clear c2 hw5 hn1 H3 H5 hb3 hb4 hb5 ho4 hn4 hg4 xf hb1 s1 hVlo HB1 HW HW3 hR
  go_wp2_with fail
  rw [HW5.out] at y0 y1 y2 y3 ⊢
  refine c3.mono ?_
  rintro e w6 ⟨v2', rfl, ho6, hn6, hg6⟩
  obtain ⟨a6, k6, rfl, _⟩ := ho6.strsAt
  have H5 : PHold w5 V 27 [] w1.heap.size (.slice a5 n1 k5) (.slice a3 P.main.length k3) (.slice a4 P.sk.rows.length k4) ⟨without P.win key, P.main, P.sk⟩ := HP5.out
  obtain ⟨hb5, hVlo, hb1, s1, hR⟩ := HQ5.out
  obtain ⟨z0, zf⟩ := H5.var2 ht hg6
  have zf1 := zf 1
  have hb6 : Below w1.heap.size w1 w6 := hb5.grown hg6 hb5.size (fun k e => (H5.2.2.1.lt k e).1)
  have H7 := H5.setMain ht hg6 ho6 (fun k e => .inl (by rw [← hn6]; exact e))
  have hb7 : Below w1.heap.size w1 (w6.setCell ⟨V, 1, none⟩ (.slice a6 (without P.main key).length k6)) := hb6.setCell hVlo _
  obtain ⟨w7, hw7⟩ : ∃ x, w6.setCell ⟨V, 1, none⟩ (.slice a6 (without P.main key).length k6) = x := ⟨_, rfl⟩
  have HW7 : Hid (w6.setCell ⟨V, 1, none⟩ (.slice a6 (without P.main key).length k6) = w7) := hw7
  obtain ⟨n2, hn2⟩ : ∃ n, (without P.main key).length = n := ⟨_, rfl⟩
  rw [hw7] at H7 hb7
  rw [hn2] at H7 HW7 ⊢
  obtain ⟨u0, u1, u2, u3, _⟩ := H7.cells
  have hR7 := hR.on hb7
  obtain ⟨r0, r1, r2, r3⟩ := hR7.cells
  have f0 := hR7.thaw 0
  have f1 := hR7.thaw 1
  have f2 := hR7.thaw 2
  have f3 := hR7.thaw 3
  have HF : Hid (PHold w7 V 27 [] w1.heap.size (.slice a5 n1 k5) (.slice a6 n2 k6) (.slice a4 P.sk.rows.length k4) (dropP P key) ∧ PBox w7 (w.heap.size + 2) (.slice none 0 0) (.slice none 0 0) (.slice none 0 0) (.int .i64 0) ∧ Below w.heap.size w w7 ∧ w.heap.size ≤ w1.heap.size) := ⟨H7, hR7, hb1.trans (hb7.mono (by omega)), by omega⟩
  dsimp only at u3
  rw [← HW7.out] at u0 u1 u2 u3 r0 r1 r2 r3 f0 f1 f2 f3
  clear c3 hw7 hn2 H5 H7 hb5 hb6 hb7 ho6 hn6 hg6 zf hb1 s1 hVlo hR hR7 HP5 HQ5 y0 y1 y2 y3
  go_wp2_with fail
  rw [HW7.out]
  obtain ⟨H7', hR7, hbw, hlo⟩ := HF.out
  have H7 : PHold w7 V 27 [] w1.heap.size (.slice a5 n1 k5) (.slice a6 n2 k6) (.slice a4 P.sk.rows.length k4) (dropP P key) := H7'
  obtain ⟨q0, q1, q2, q3⟩ := (hR7.put (.slice a5 n1 k5) (.slice a6 n2 k6) (.slice a4 P.sk.rows.length k4) (.int .i64 P.sk.added)).cells
  refine bodyPost_ret (v := .agg #[.slice a5 n1 k5, .slice a6 n2 k6, .slice a4 P.sk.rows.length k4, .int .i64 P.sk.added]) (by simp [results, Try.results19, go_sem, q0, q1, q2, q3]) rfl ⟨_, rfl, ?_, Below.put4 hbw (by omega) _ _ _ _⟩
  refine POwn.mono (H7.own.put4 hR7 _ _ _ _) hlo ?_
  simp
end Go.Proofs.Ytbcjkinalghokat
