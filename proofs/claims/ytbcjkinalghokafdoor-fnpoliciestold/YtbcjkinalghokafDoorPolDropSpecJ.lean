/- Texts that stand in one: PolDropSpec, SkNewImpl, PolNewImpl, PolHasImpl, PolHasSz, Big. -/
import Derived.Test.YtbcjkinalghokafDoorSkNewSpecJ
import Derived.Test.YtbcjkinalghokafDoorPolKitJ
import Derived.Test.YtbcjkinalghokafDoorSkCopySpecJ
import Derived.Deep.RegionHeld3
import Derived.Test.YtbcjkinalghokafDoorSkArr3J
import Derived.Test.YtbcjkinalghokafDoorKeyImplJ
import Derived.Test.YtbcjkinalghokafDoorMarkTextJ
import Derived.Test.YtbcjkinalghokafDoorBaseJ
namespace Go.Proofs.YtbcjkinalghokafDoor
open Go.RowKit Go.Sort

set_option maxRecDepth 100000 in
set_option maxHeartbeats 8000000 in
theorem specPolicyDrop_any (w : World) (aw am ak : Option Addr) (cw cm ck : Nat) (P : Pol) (key : ByteArray) (hA : PolAt w aw am ak P w.heap.size) (hsz : PolSz P) :
    Calls Tryd.prog 19 #[.agg #[.slice aw P.win.length cw, .slice am P.main.length cm, .slice ak P.sk.rows.length ck, .int .i64 P.sk.added], .string key] w fun e w' => ∃ v, e = .returned v ∧ POwn w' w.heap.size w'.heap.size v (dropP P key) ∧ Below w.heap.size w w' := by
  obtain ⟨l1, l2, l3⟩ := hsz.parts
  obtain ⟨w0, hw0⟩ : ∃ x, w.alloc (.cells #[.slice aw P.win.length cw, .slice am P.main.length cm, .slice ak P.sk.rows.length ck, .int .i64 P.sk.added] 29) = x := ⟨_, rfl⟩
  obtain ⟨w1, hw1⟩ : ∃ x, w0.alloc (.cells #[.slice none 0 0, .slice none 0 0, .slice none 0 0, .int .i64 0] 29) = x := ⟨_, rfl⟩
  have hb0 : Below w.heap.size w w0 := by rw [← hw0]; exact (Below.refl _ _).alloc (Nat.le_refl _) _
  have hb01 : Below w0.heap.size w0 w1 := by rw [← hw1]; exact (Below.refl _ _).alloc (Nat.le_refl _) _
  have s0 : w0.heap.size = w.heap.size + 1 := by rw [← hw0]; simp
  have s1 : w1.heap.size = w.heap.size + 2 := by rw [← hw1]; simp; omega
  have hb1 : Below w.heap.size w w1 := hb0.trans (hb01.mono hb0.size)
  have hB : PBox w1 w.heap.size (.slice aw P.win.length cw) (.slice am P.main.length cm) (.slice ak P.sk.rows.length ck) (.int .i64 P.sk.added) := by
    have h : PBox w0 w.heap.size (.slice aw P.win.length cw) (.slice am P.main.length cm) (.slice ak P.sk.rows.length ck) (.int .i64 P.sk.added) := by rw [← hw0]; exact PBox.new _ _ _ _ _
    exact h.on hb01
  have hR : PBox w1 (w.heap.size + 1) (.slice none 0 0) (.slice none 0 0) (.slice none 0 0) (.int .i64 0) := by rw [← hw1, ← s0]; exact PBox.new _ _ _ _ _
  have hA1 := hA.on hb1
  have HW : Hid ((w.alloc (.cells #[.slice aw P.win.length cw, .slice am P.main.length cm, .slice ak P.sk.rows.length ck, .int .i64 P.sk.added] 29)).alloc (.cells #[.slice none 0 0, .slice none 0 0, .slice none 0 0, .int .i64 0] 29) = w1) := by rw [hw0]; exact hw1
  have KS : ∀ W, Below w1.heap.size w1 W → W.cell? ⟨w.heap.size, 0, none⟩ = some (.slice aw P.win.length cw) ∧ W.cell? ⟨w.heap.size, 1, none⟩ = some (.slice am P.main.length cm) ∧ W.cell? ⟨w.heap.size, 2, none⟩ = some (.slice ak P.sk.rows.length ck) ∧ W.cell? ⟨w.heap.size, 3, none⟩ = some (.int .i64 P.sk.added) := fun W h => (hB.on h).cells
  have HC1 : Hid (∀ W, Below w1.heap.size w1 W → Calls Tryd.prog 36 #[.slice aw P.win.length cw, .string key] W fun e w' => ∃ a2 k2, e = .returned (.slice a2 (without P.win key).length k2) ∧ OwnV w' W.heap.size 9 (.slice a2 (without P.win key).length k2) (strs (without P.win key)) ∧ Below w1.heap.size w1 w') := fun W h => by
    refine (l13Without_any W aw cw P.win key (hA1.on h).1 (by omega)).mono ?_
    rintro e w' ⟨v, rfl, _, ho, hb⟩
    obtain ⟨a2, k2, rfl, _⟩ := ho.strsAt
    exact ⟨a2, k2, rfl, ho, h.trans (hb.mono h.size)⟩
  have HC2 : Hid (∀ W, Below w1.heap.size w1 W → Calls Tryd.prog 36 #[.slice am P.main.length cm, .string key] W fun e w' => ∃ a2 k2, e = .returned (.slice a2 (without P.main key).length k2) ∧ OwnV w' W.heap.size 9 (.slice a2 (without P.main key).length k2) (strs (without P.main key)) ∧ Below W.heap.size W w') := fun W h => by
    refine (l13Without_any W am cm P.main key (hA1.on h).2.1 (by omega)).mono ?_
    rintro e w' ⟨v, rfl, _, ho, hb⟩
    obtain ⟨a2, k2, rfl, _⟩ := ho.strsAt
    exact ⟨a2, k2, rfl, ho, hb⟩
  have HC3 : Hid (∀ W, Below w1.heap.size w1 W → Calls Tryd.prog 51 #[.agg #[.slice ak P.sk.rows.length ck, .int .i64 P.sk.added]] W fun e w' => ∃ a2 k2, e = .returned (.agg #[.slice a2 P.sk.rows.length k2, .int .i64 P.sk.added]) ∧ OwnSS w' W.heap.size w'.heap.size (.slice a2 P.sk.rows.length k2) P.sk.rows ∧ Below W.heap.size W w') := fun W h => by
    refine (l12Copy_any W ak ck P.sk (hA1.on h).2.2 l3).mono ?_
    rintro e w' ⟨v, rfl, ⟨u, rfl, ho⟩, hb⟩
    obtain ⟨a2, k2, rfl, _⟩ := ho.at
    exact ⟨a2, k2, rfl, ho, hb⟩
  have hdr : Below w1.heap.size w1 w1.drew := ⟨rfl, rfl, rfl, Nat.le_refl _, fun _ _ => rfl⟩
  have HRB : Hid (∀ W, Below w1.heap.size w1 W → PBox W (w.heap.size + 1) (.slice none 0 0) (.slice none 0 0) (.slice none 0 0) (.int .i64 0)) := fun W h => hR.on h
  have HB1 : Hid (Below w.heap.size w w1 ∧ w1.heap.size = w.heap.size + 2) := ⟨hb1, s1⟩
  have HS5 : Hid (∀ W x y z u, Below w1.heap.size w1 W → PBox ((((W.setCell ⟨w.heap.size + 1, 0, none⟩ x).setCell ⟨w.heap.size + 1, 1, none⟩ y).setCell ⟨w.heap.size + 1, 2, none⟩ z).setCell ⟨w.heap.size + 1, 3, none⟩ u) w.heap.size (.slice aw P.win.length cw) (.slice am P.main.length cm) (.slice ak P.sk.rows.length ck) (.int .i64 P.sk.added)) := fun W x y z u h => (hB.on h).kept (put4_other W _ x y z u _ (by omega))
  obtain ⟨R1, hR1⟩ : ∃ R, (without P.win key) = R := ⟨_, rfl⟩
  obtain ⟨R2, hR2⟩ : ∃ R, (without P.main key) = R := ⟨_, rfl⟩
  rw [hR1] at HC1
  rw [hR2] at HC2
  have HRS : Hid ((dropP P key) = ⟨R1, R2, P.sk⟩) := by show _ = _; rw [← hR1, ← hR2]; rfl
  clear hR1 hR2
  clear hw0 hw1 hb0 hb01 s0 hA hA1 hB hR hb1 s1 hsz l1 l2 l3
  go_enter Tryd.func19, Tryd.ntmps19
  go_wp2
  rw [HW.out]
  clear HW
  go_region_held3 (fun W => W.cell? ⟨w.heap.size, 0, none⟩ = some (.slice aw P.win.length cw) ∧ W.cell? ⟨w.heap.size, 1, none⟩ = some (.slice am P.main.length cm) ∧ W.cell? ⟨w.heap.size, 2, none⟩ = some (.slice ak P.sk.rows.length ck) ∧ W.cell? ⟨w.heap.size, 3, none⟩ = some (.int .i64 P.sk.added)) (first | with_reducible exact KS _ hdr | with_reducible exact KS _ hC4 | with_reducible exact KS _ hC3 | with_reducible exact KS _ hC2 | with_reducible exact hS5)
    (first
      | (go_at_call 36; first
          | (with_reducible refine (HC1.out _ hdr).mono ?_; rintro e w2 ⟨a2, k2, rfl, ho2, hC2⟩)
          | (with_reducible refine (HC2.out _ hC2).mono ?_; rintro e w3 ⟨a3, k3, rfl, ho3, hb3⟩; have hC3 : Below w1.heap.size w1 w3 := hC2.trans (hb3.mono hC2.size)))
      | (go_at_call 51; with_reducible refine (HC3.out _ hC3).mono ?_; rintro e w4 ⟨a4, k4, rfl, ho4, hb4⟩; have hC4 : Below w1.heap.size w1 w4 := hC3.trans (hb4.mono hC3.size); have hR4 := HRB.out _ hC4; obtain ⟨r0, r1, r2, r3⟩ := hR4.cells; have f0 := hR4.thaw 0; have f1 := hR4.thaw 1; have f2 := hR4.thaw 2; have f3 := hR4.thaw 3; have hS5 := (HS5.out w4 (.slice a2 R1.length k2) (.slice a3 R2.length k3) (.slice a4 P.sk.rows.length k4) (.int .i64 P.sk.added) hC4).cells))
  all_goals (
    obtain ⟨hb1, s1⟩ := HB1.out
    have hR4 := HRB.out _ hC4
    have hOA : POwn w4 w.heap.size w4.heap.size (.agg #[.slice a2 R1.length k2, .slice a3 R2.length k3, .slice a4 P.sk.rows.length k4, .int .i64 P.sk.added]) ⟨R1, R2, P.sk⟩ :=
      POwn.mk3 (P := ⟨R1, R2, P.sk⟩) ((ho2.below hb3 (Nat.le_refl _)).below hb4 (Nat.le_refl _)) (ho3.below hb4 (Nat.le_refl _)) ho4 (by simp; omega) (by have := hC2.size; omega) (by have := hC3.size; omega) (fun k hk => by
        intro e
        have h1 := (ho2.lt k hk).2
        have h2 := (ho3.lt k e).1
        omega)
    have HOA : Hid _ := hOA.put4 hR4 (.slice a2 R1.length k2) (.slice a3 R2.length k3) (.slice a4 P.sk.rows.length k4) (.int .i64 P.sk.added)
    have HBF : Hid _ := Below.put4 (hb1.trans (hC4.mono (by omega))) (T := w.heap.size + 1) (by omega) (.slice a2 R1.length k2) (.slice a3 R2.length k3) (.slice a4 P.sk.rows.length k4) (.int .i64 P.sk.added)
    obtain ⟨q0, q1, q2, q3⟩ := (hR4.put (.slice a2 R1.length k2) (.slice a3 R2.length k3) (.slice a4 P.sk.rows.length k4) (.int .i64 P.sk.added)).cells
    clear hOA
    try go_wp2_with fail
    refine bodyPost_ret (v := .agg #[.slice a2 R1.length k2, .slice a3 R2.length k3, .slice a4 P.sk.rows.length k4, .int .i64 P.sk.added]) (by simp [results, Tryd.results19, go_sem, q0, q1, q2, q3]) rfl ⟨_, rfl, ?_, HBF.out⟩
    rw [HRS.out]
    refine POwn.mono HOA.out (Nat.le_refl _) ?_
    simp)
end Go.Proofs.YtbcjkinalghokafDoor

namespace Go.Proofs.YtbcjkinalghokafDoor
open Go.RowKit Go.Sort

set_option maxRecDepth 100000 in
set_option maxHeartbeats 4000000 in
theorem implSketchNew_any (w : World) :
    Calls Tryd.prog 49 #[] w fun e w' => ∃ v, e = .returned v ∧ SkOwn w' w.heap.size w'.heap.size v newS ∧ Below w.heap.size w w' := by
  obtain ⟨w1, hw1⟩ : ∃ x, w.alloc (.cells #[.slice none 0 0, .int .i64 0] 27) = x := ⟨_, rfl⟩
  have hb1 : Below w.heap.size w w1 := by rw [← hw1]; exact (Below.refl _ _).alloc (Nat.le_refl _) _
  have hR : SkBox w1 w.heap.size (.slice none 0 0) (.int .i64 0) := by rw [← hw1]; exact SkBox.new _ _ _
  have HW : Hid (w.alloc (.cells #[.slice none 0 0, .int .i64 0] 27) = w1) := hw1
  have c1 := lists_any w1 (List.replicate 3 (List.replicate 16 0)) rfl all16_zero
  clear hw1
  go_enter Tryd.func49, Tryd.ntmps49
  go_wp2_with fail
  rw [HW.out]
  refine c1.mono ?_
  rintro e w2 ⟨v, rfl, ho, hb2⟩
  obtain ⟨a, c, rfl, _⟩ := ho.at
  have hR2 := hR.on hb2
  have hbw := hb1.trans (hb2.mono hb1.size)
  obtain ⟨r0, r1⟩ := hR2.cells
  have f0 := hR2.thaw 0
  have f1 := hR2.thaw 1
  have HO : Hid (OwnSS w2 w1.heap.size w2.heap.size (.slice a 3 c) newS.rows) := ho
  rw [show (List.replicate 3 (List.replicate 16 (0 : Int))).length = 3 from rfl]
  clear c1 ho hR hb2 HW
  go_wp2_with fail
  obtain ⟨q0, q1⟩ := (hR2.put (.slice a 3 c) (.int .i64 0)).cells
  refine bodyPost_ret (v := .agg #[.slice a 3 c, .int .i64 0]) (by simp [results, Tryd.results49, go_sem, q0, q1]) rfl ⟨_, rfl, ⟨_, rfl, ?_⟩, Below.put2 hbw (Nat.le_refl _) _ _⟩
  refine (HO.out.put2 hR2 _ _).mono hb1.size ?_
  simp
end Go.Proofs.YtbcjkinalghokafDoor

namespace Go.Proofs.YtbcjkinalghokafDoor
open Go.RowKit Go.Sort

set_option maxRecDepth 100000 in
set_option maxHeartbeats 4000000 in
theorem implPolicyNew_any (w : World) :
    Calls Tryd.prog 17 #[] w fun e w' => ∃ v, e = .returned v ∧ POwn w' w.heap.size w'.heap.size v newP ∧ Below w.heap.size w w' := by
  obtain ⟨w1, hw1⟩ : ∃ x, w.alloc (.cells #[.slice none 0 0, .slice none 0 0, .slice none 0 0, .int .i64 0] 29) = x := ⟨_, rfl⟩
  have hb1 : Below w.heap.size w w1 := by rw [← hw1]; exact (Below.refl _ _).alloc (Nat.le_refl _) _
  have hR : PBox w1 w.heap.size (.slice none 0 0) (.slice none 0 0) (.slice none 0 0) (.int .i64 0) := by rw [← hw1]; exact PBox.new _ _ _ _ _
  have HW : Hid (w.alloc (.cells #[.slice none 0 0, .slice none 0 0, .slice none 0 0, .int .i64 0] 29) = w1) := hw1
  have c1 := implSketchNew_any w1
  clear hw1
  go_enter Tryd.func17, Tryd.ntmps17
  go_wp2_with fail
  rw [HW.out]
  refine c1.mono ?_
  rintro e w2 ⟨v, rfl, ⟨u, rfl, ho⟩, hb2⟩
  obtain ⟨a, c, rfl, _⟩ := ho.at
  have hR2 := hR.on hb2
  have hbw := hb1.trans (hb2.mono hb1.size)
  obtain ⟨r0, r1, r2, r3⟩ := hR2.cells
  have f0 := hR2.thaw 0
  have f1 := hR2.thaw 1
  have f2 := hR2.thaw 2
  have f3 := hR2.thaw 3
  have HO : Hid (POwn w2 w1.heap.size w2.heap.size (.agg #[.slice none 0 0, .slice none 0 0, .slice a newS.rows.length c, .int .i64 0]) newP) := ⟨_, _, _, rfl, OwnV.nil _ _ _, OwnV.nil _ _ _, fun k hk => by simp [Value.ownBlock] at hk, fun k hk => by simp [Value.ownBlock] at hk, ho⟩
  obtain ⟨n, hn⟩ : ∃ n, newS.rows.length = n := ⟨_, rfl⟩
  have hz : newS.added = 0 := rfl
  rw [hn] at HO ⊢
  rw [hz]
  clear c1 ho hR hb2 HW hn hz
  go_wp2_with fail
  obtain ⟨q0, q1, q2, q3⟩ := (hR2.put (.slice none 0 0) (.slice none 0 0) (.slice a n c) (.int .i64 0)).cells
  refine bodyPost_ret (v := .agg #[.slice none 0 0, .slice none 0 0, .slice a n c, .int .i64 0]) (by simp [results, Tryd.results17, go_sem, q0, q1, q2, q3]) rfl ⟨_, rfl, ?_, Below.put4 hbw (Nat.le_refl _) _ _ _ _⟩
  refine (HO.out.put4 hR2 _ _ _ _).mono hb1.size ?_
  simp
end Go.Proofs.YtbcjkinalghokafDoor

namespace Go.Proofs.YtbcjkinalghokafDoor
open Go.RowKit Go.Sort

set_option maxHeartbeats 2000000 in
theorem implPolicyHas_any (w : World) (aw am ak : Option Addr) (cw cm ck : Nat) (P : Pol) (key : ByteArray) (hA : PolAt w aw am ak P w.heap.size) (hm : P.win.length ≤ 10000000) (hm' : P.main.length ≤ 10000000) :
    Calls Tryd.prog 13 #[.agg #[.slice aw P.win.length cw, .slice am P.main.length cm, .slice ak P.sk.rows.length ck, .int .i64 P.sk.added], .string key] w fun e w' => e = .returned (.bool (hasP P key)) ∧ Below w.heap.size w w' := by
  obtain ⟨w1, hw1⟩ : ∃ x, w.alloc (.cells #[.slice aw P.win.length cw, .slice am P.main.length cm, .slice ak P.sk.rows.length ck, .int .i64 P.sk.added] 29) = x := ⟨_, rfl⟩
  have hb1 : Below w.heap.size w w1 := by rw [← hw1]; exact (Below.refl _ _).alloc (Nat.le_refl _) _
  have hB : PBox w1 w.heap.size (.slice aw P.win.length cw) (.slice am P.main.length cm) (.slice ak P.sk.rows.length ck) (.int .i64 P.sk.added) := by rw [← hw1]; exact PBox.new _ _ _ _ _
  have hA1 := hA.on hb1
  obtain ⟨b0, b1, b2, b3⟩ := hB.cells
  have c1 := containsS_any w1 aw cw P.win key hA1.1 hm
  have c2 := containsS_any w1 am cm P.main key hA1.2.1 hm'
  have HW : Hid (w.alloc (.cells #[.slice aw P.win.length cw, .slice am P.main.length cm, .slice ak P.sk.rows.length ck, .int .i64 P.sk.added] 29) = w1) := hw1
  rw [← hw1] at b0 b1 b2 b3
  clear hw1 hB hA1 hA
  go_enter Tryd.func13, Tryd.ntmps13
  cases h : inL P.win key with
  | true =>
    rw [h] at c1
    have HH : Hid (hasP P key = true) := by show _ = _; simp [hasP, h]
    clear h
    go_wp2_with fail
    rw [HW.out] at b0 b1 b2 b3 ⊢
    refine c1.mono ?_
    rintro e w' ⟨rfl, rfl⟩
    go_wp2_with fail
    go_ret
    exact ⟨by rw [HH.out]; rfl, hb1⟩
  | false =>
    rw [h] at c1
    have HH : Hid (hasP P key = inL P.main key) := by show _ = _; simp [hasP, h]
    clear h
    go_wp2_with fail
    rw [HW.out] at b0 b1 b2 b3 ⊢
    refine c1.mono ?_
    rintro e w' ⟨rfl, rfl⟩
    generalize inL P.main key = q at c2 HH
    go_wp2_with fail
    refine c2.mono ?_
    rintro e w' ⟨rfl, rfl⟩
    go_wp2_with fail
    go_ret
    exact ⟨by rw [HH.out]; rfl, hb1⟩
theorem implPolicyHas_sz (w : World) (aw am ak : Option Addr) (cw cm ck : Nat) (P : Pol) (key : ByteArray) (hA : PolAt w aw am ak P w.heap.size) (hsz : PolSz P) (_hk : key.size ≤ 1048576) :
    Calls Tryd.prog 13 #[.agg #[.slice aw P.win.length cw, .slice am P.main.length cm, .slice ak P.sk.rows.length ck, .int .i64 P.sk.added], .string key] w fun e w' => e = .returned (.bool (hasP P key)) ∧ Below w.heap.size w w' := by
  obtain ⟨l1, l2, l3⟩ := hsz.parts
  exact implPolicyHas_any w aw am ak cw cm ck P key hA (by omega) (by omega)
end Go.Proofs.YtbcjkinalghokafDoor

namespace Go.Proofs.YtbcjkinalghokafDoor
open Go.RowKit Go.Sort

theorem specPolicyHas_sz (w : World) (aw am ak : Option Addr) (cw cm ck : Nat) (P : Pol) (key : ByteArray) (hA : PolAt w aw am ak P w.heap.size) (hsz : PolSz P) (_hk : key.size ≤ 1048576) :
    Calls Tryd.prog 20 #[.agg #[.slice aw P.win.length cw, .slice am P.main.length cm, .slice ak P.sk.rows.length ck, .int .i64 P.sk.added], .string key] w fun e w' => e = .returned (.bool (hasP P key)) ∧ Below w.heap.size w w' := by
  obtain ⟨l1, l2, l3⟩ := hsz.parts
  exact specPolicyHas_any w aw am ak cw cm ck P key hA (by omega) (by omega)
end Go.Proofs.YtbcjkinalghokafDoor

namespace Go.Proofs.YtbcjkinalghokafDoor
open Go.RowKit

theorem big_any (ca : Option Addr) (n cap : Nat) (w : World) (hn : n ≤ 9223372036854775807) :
    Calls Tryd.prog 6 #[.slice ca n cap] w fun e w' => e = .returned (.bool (decide (1048576 < n))) ∧ w = w' := by
  go_enter Tryd.func6, Tryd.ntmps6
  go_wp2
  go_ret
  exact ⟨by rw [show decide ((1048576 : Int) < (n : Int)) = decide (1048576 < n) by simp; omega]; rfl, rfl⟩

end Go.Proofs.YtbcjkinalghokafDoor
