/- Texts that stand in one: PolSzText, PolCopyImpl. -/
import Derived.Test.YtonaaimefcgcnaaPolLaw
import Derived.Test.YtonaaimefcgcnaaKeysCopyJ
import Derived.Test.YtonaaimefcgcnaaSkCopyImpl
import Derived.Deep.RegionHeld3
namespace Go.Proofs.Ytonaaimefcgcnaa
open Go.RowKit
theorem PolSz.texts {P : Pol} (h : PolSz P) : ∀ z ∈ P.win ++ P.main, z.size ≤ 1048576 := fun z hz => by
  unfold PolSz wgtP at h
  rcases List.mem_append.1 hz with hz | hz
  · have := wgtL_mem hz
    omega
  · have := wgtL_mem hz
    omega
end Go.Proofs.Ytonaaimefcgcnaa

namespace Go.Proofs.Ytonaaimefcgcnaa
open Go.RowKit Go.Sort

set_option maxRecDepth 100000 in
set_option maxHeartbeats 8000000 in
theorem policyCopy_any (w : World) (aw am ak : Option Addr) (cw cm ck : Nat) (P : Pol) (hA : PolAt w aw am ak P w.heap.size) (hsz : PolSz P) :
    Calls Try.prog 89 #[.agg #[.slice aw P.win.length cw, .slice am P.main.length cm, .slice ak P.sk.rows.length ck, .int .i64 P.sk.added]] w fun e w' => ∃ v, e = .returned v ∧ POwn w' w.heap.size w'.heap.size v P ∧ Below w.heap.size w w' := by
  obtain ⟨l1, l2, l3⟩ := hsz.parts
  obtain ⟨w0, hw0⟩ : ∃ x, w.alloc (.cells #[.slice aw P.win.length cw, .slice am P.main.length cm, .slice ak P.sk.rows.length ck, .int .i64 P.sk.added] 47) = x := ⟨_, rfl⟩
  obtain ⟨w1, hw1⟩ : ∃ x, w0.alloc (.cells #[.slice none 0 0, .slice none 0 0, .slice none 0 0, .int .i64 0] 47) = x := ⟨_, rfl⟩
  have hb0 : Below w.heap.size w w0 := by rw [← hw0]; exact (Below.refl _ _).alloc (Nat.le_refl _) _
  have hb01 : Below w0.heap.size w0 w1 := by rw [← hw1]; exact (Below.refl _ _).alloc (Nat.le_refl _) _
  have s0 : w0.heap.size = w.heap.size + 1 := by rw [← hw0]; simp
  have s1 : w1.heap.size = w.heap.size + 2 := by rw [← hw1]; simp; omega
  have hb1 : Below w.heap.size w w1 := hb0.trans (hb01.mono hb0.size)
  have hB : PBox w1 w.heap.size (.slice aw P.win.length cw) (.slice am P.main.length cm) (.slice ak P.sk.rows.length ck) (.int .i64 P.sk.added) := by
    have h : PBox w0 w.heap.size (.slice aw P.win.length cw) (.slice am P.main.length cm) (.slice ak P.sk.rows.length ck) (.int .i64 P.sk.added) := by rw [← hw0]; exact PBox.new _ _ _ _ _
    exact h.on hb01
  have hR : PBox w1 (w.heap.size + 1) (.slice none 0 0) (.slice none 0 0) (.slice none 0 0) (.int .i64 0) := by rw [← hw1, ← s0]; exact PBox.new _ _ _ _ _
  have hA1 := hA.on hb1
  have HW : Hid ((w.alloc (.cells #[.slice aw P.win.length cw, .slice am P.main.length cm, .slice ak P.sk.rows.length ck, .int .i64 P.sk.added] 47)).alloc (.cells #[.slice none 0 0, .slice none 0 0, .slice none 0 0, .int .i64 0] 47) = w1) := by rw [hw0]; exact hw1
  have KS : ∀ W, Below w1.heap.size w1 W → W.cell? ⟨w.heap.size, 0, none⟩ = some (.slice aw P.win.length cw) ∧ W.cell? ⟨w.heap.size, 1, none⟩ = some (.slice am P.main.length cm) ∧ W.cell? ⟨w.heap.size, 2, none⟩ = some (.slice ak P.sk.rows.length ck) ∧ W.cell? ⟨w.heap.size, 3, none⟩ = some (.int .i64 P.sk.added) := fun W h => (hB.on h).cells
  have HC1 : Hid (∀ W, Below w1.heap.size w1 W → Calls Try.prog 112 #[.slice aw P.win.length cw] W fun e w' => ∃ a2 k2, e = .returned (.slice a2 P.win.length k2) ∧ OwnV w' W.heap.size 9 (.slice a2 P.win.length k2) (strs P.win) ∧ Below w1.heap.size w1 w') := fun W h => by
    refine (keysCopy_any W aw cw P.win (hA1.on h).1 l1 (fun z hz => by have := hsz.texts z (List.mem_append_left _ hz); omega)).mono ?_
    rintro e w' ⟨v, rfl, ho, hb⟩
    obtain ⟨a2, k2, rfl, _⟩ := ho.strsAt
    exact ⟨a2, k2, rfl, ho, h.trans (hb.mono h.size)⟩
  have HC2 : Hid (∀ W, Below w1.heap.size w1 W → Calls Try.prog 112 #[.slice am P.main.length cm] W fun e w' => ∃ a2 k2, e = .returned (.slice a2 P.main.length k2) ∧ OwnV w' W.heap.size 9 (.slice a2 P.main.length k2) (strs P.main) ∧ Below W.heap.size W w') := fun W h => by
    refine (keysCopy_any W am cm P.main (hA1.on h).2.1 l2 (fun z hz => by have := hsz.texts z (List.mem_append_right _ hz); omega)).mono ?_
    rintro e w' ⟨v, rfl, ho, hb⟩
    obtain ⟨a2, k2, rfl, _⟩ := ho.strsAt
    exact ⟨a2, k2, rfl, ho, hb⟩
  have HC3 : Hid (∀ W, Below w1.heap.size w1 W → Calls Try.prog 113 #[.agg #[.slice ak P.sk.rows.length ck, .int .i64 P.sk.added]] W fun e w' => ∃ a2 k2, e = .returned (.agg #[.slice a2 P.sk.rows.length k2, .int .i64 P.sk.added]) ∧ OwnSS w' W.heap.size w'.heap.size (.slice a2 P.sk.rows.length k2) P.sk.rows ∧ Below W.heap.size W w') := fun W h => by
    refine (sketchCopy_any W ak ck P.sk (hA1.on h).2.2 l3).mono ?_
    rintro e w' ⟨v, rfl, ⟨u, rfl, ho⟩, hb⟩
    obtain ⟨a2, k2, rfl, _⟩ := ho.at
    exact ⟨a2, k2, rfl, ho, hb⟩
  have hdr : Below w1.heap.size w1 w1.drew := ⟨rfl, rfl, rfl, Nat.le_refl _, fun _ _ => rfl⟩
  have HRB : Hid (∀ W, Below w1.heap.size w1 W → PBox W (w.heap.size + 1) (.slice none 0 0) (.slice none 0 0) (.slice none 0 0) (.int .i64 0)) := fun W h => hR.on h
  have HB1 : Hid (Below w.heap.size w w1 ∧ w1.heap.size = w.heap.size + 2) := ⟨hb1, s1⟩
  have HS5 : Hid (∀ W x y z u, Below w1.heap.size w1 W → PBox ((((W.setCell ⟨w.heap.size + 1, 0, none⟩ x).setCell ⟨w.heap.size + 1, 1, none⟩ y).setCell ⟨w.heap.size + 1, 2, none⟩ z).setCell ⟨w.heap.size + 1, 3, none⟩ u) w.heap.size (.slice aw P.win.length cw) (.slice am P.main.length cm) (.slice ak P.sk.rows.length ck) (.int .i64 P.sk.added)) := fun W x y z u h => (hB.on h).kept (put4_other W _ x y z u _ (by omega))
  clear hw0 hw1 hb0 hb01 s0 hA hA1 hB hR hb1 s1 hsz l1 l2 l3
  go_enter Try.func89, Try.ntmps89
  go_wp2
  rw [HW.out]
  clear HW
  go_region_held3 (fun W => W.cell? ⟨w.heap.size, 0, none⟩ = some (.slice aw P.win.length cw) ∧ W.cell? ⟨w.heap.size, 1, none⟩ = some (.slice am P.main.length cm) ∧ W.cell? ⟨w.heap.size, 2, none⟩ = some (.slice ak P.sk.rows.length ck) ∧ W.cell? ⟨w.heap.size, 3, none⟩ = some (.int .i64 P.sk.added)) (first | with_reducible exact KS _ hdr | with_reducible exact KS _ hC4 | with_reducible exact KS _ hC3 | with_reducible exact KS _ hC2 | with_reducible exact hS5)
    (first
      | (go_at_call 112; first
          | (with_reducible refine (HC1.out _ hdr).mono ?_; rintro e w2 ⟨a2, k2, rfl, ho2, hC2⟩)
          | (with_reducible refine (HC2.out _ hC2).mono ?_; rintro e w3 ⟨a3, k3, rfl, ho3, hb3⟩; have hC3 : Below w1.heap.size w1 w3 := hC2.trans (hb3.mono hC2.size)))
      | (go_at_call 113; with_reducible refine (HC3.out _ hC3).mono ?_; rintro e w4 ⟨a4, k4, rfl, ho4, hb4⟩; have hC4 : Below w1.heap.size w1 w4 := hC3.trans (hb4.mono hC3.size); have hR4 := HRB.out _ hC4; obtain ⟨r0, r1, r2, r3⟩ := hR4.cells; have f0 := hR4.thaw 0; have f1 := hR4.thaw 1; have f2 := hR4.thaw 2; have f3 := hR4.thaw 3; have hS5 := (HS5.out w4 (.slice a2 P.win.length k2) (.slice a3 P.main.length k3) (.slice a4 P.sk.rows.length k4) (.int .i64 P.sk.added) hC4).cells))
  all_goals (
    obtain ⟨hb1, s1⟩ := HB1.out
    have hR4 := HRB.out _ hC4
    have hOA : POwn w4 w.heap.size w4.heap.size (.agg #[.slice a2 P.win.length k2, .slice a3 P.main.length k3, .slice a4 P.sk.rows.length k4, .int .i64 P.sk.added]) ⟨P.win, P.main, P.sk⟩ :=
      POwn.mk3 (P := ⟨P.win, P.main, P.sk⟩) ((ho2.below hb3 (Nat.le_refl _)).below hb4 (Nat.le_refl _)) (ho3.below hb4 (Nat.le_refl _)) ho4 (by simp; omega) (by have := hC2.size; omega) (by have := hC3.size; omega) (fun k hk => by
        intro e
        have h1 := (ho2.lt k hk).2
        have h2 := (ho3.lt k e).1
        omega)
    have HOA : Hid _ := hOA.put4 hR4 (.slice a2 P.win.length k2) (.slice a3 P.main.length k3) (.slice a4 P.sk.rows.length k4) (.int .i64 P.sk.added)
    have HBF : Hid _ := Below.put4 (hb1.trans (hC4.mono (by omega))) (T := w.heap.size + 1) (by omega) (.slice a2 P.win.length k2) (.slice a3 P.main.length k3) (.slice a4 P.sk.rows.length k4) (.int .i64 P.sk.added)
    obtain ⟨q0, q1, q2, q3⟩ := (hR4.put (.slice a2 P.win.length k2) (.slice a3 P.main.length k3) (.slice a4 P.sk.rows.length k4) (.int .i64 P.sk.added)).cells
    clear hOA
    try go_wp2_with fail
    refine bodyPost_ret (v := .agg #[.slice a2 P.win.length k2, .slice a3 P.main.length k3, .slice a4 P.sk.rows.length k4, .int .i64 P.sk.added]) (by simp [results, Try.results89, go_sem, q0, q1, q2, q3]) rfl ⟨_, rfl, ?_, HBF.out⟩
    refine POwn.mono HOA.out (Nat.le_refl _) ?_
    simp)
end Go.Proofs.Ytonaaimefcgcnaa
