/- Texts that stand in one: SkNewImpl, PolNewImpl, PolHasImpl, Fig. -/
import Derived.Test.YtbcjkinalghokafDoorSkArr3J
import Derived.Test.YtbcjkinalghokafDoorStrsJ
import Derived.Test.YtbcjkinalghokafDoorKeyImplJ
import Derived.Test.YtbcjkinalghokafDoorPolLaw
import Derived.Test.YtbcjkinalghokafDoorHeadPlainJ
import Derived.Test.YtbcjkinalghokafDoorBaseJ
namespace Go.Proofs.YtbcjkinalghokafDoor
open Go.RowKit Go.Sort

set_option maxRecDepth 100000 in
set_option maxHeartbeats 4000000 in
theorem implSketchNew_any (w : World) :
    Calls Tryd.prog 49 #[] w fun e w' => ∃ v, e = .returned v ∧ SkOwn w' w.heap.size w'.heap.size v newS ∧ Below w.heap.size w w' := by
  obtain ⟨w1, hw1⟩ : ∃ x, w.alloc (.cells #[.slice none 0 0, .int .i64 0] 27) = x := ⟨_, rfl⟩
  have hb1 : Below w.heap.size w w1 := by rw [← hw1]; exact (Below.refl _ _).alloc (Nat.le_refl _) _
  have hR : SkBox w1 w.heap.size (.slice none 0 0) (.int .i64 0) := by rw [← hw1]; exact SkBox.new _ _ _
  have HW : Hid (w.alloc (.cells #[.slice none 0 0, .int .i64 0] 27) = w1) := hw1
  have c1 := lists_any w1 (List.replicate 3 (List.replicate 16 0)) rfl all16_zero
  clear hw1
  go_enter Tryd.func49, Tryd.ntmps49
  go_wp2_with fail
  rw [HW.out]
  refine c1.mono ?_
  rintro e w2 ⟨v, rfl, ho, hb2⟩
  obtain ⟨a, c, rfl, _⟩ := ho.at
  have hR2 := hR.on hb2
  have hbw := hb1.trans (hb2.mono hb1.size)
  obtain ⟨r0, r1⟩ := hR2.cells
  have f0 := hR2.thaw 0
  have f1 := hR2.thaw 1
  have HO : Hid (OwnSS w2 w1.heap.size w2.heap.size (.slice a 3 c) newS.rows) := ho
  rw [show (List.replicate 3 (List.replicate 16 (0 : Int))).length = 3 from rfl]
  clear c1 ho hR hb2 HW
  go_wp2_with fail
  obtain ⟨q0, q1⟩ := (hR2.put (.slice a 3 c) (.int .i64 0)).cells
  refine bodyPost_ret (v := .agg #[.slice a 3 c, .int .i64 0]) (by simp [results, Tryd.results49, go_sem, q0, q1]) rfl ⟨_, rfl, ⟨_, rfl, ?_⟩, Below.put2 hbw (Nat.le_refl _) _ _⟩
  refine (HO.out.put2 hR2 _ _).mono hb1.size ?_
  simp
end Go.Proofs.YtbcjkinalghokafDoor

namespace Go.Proofs.YtbcjkinalghokafDoor
open Go.RowKit Go.Sort

set_option maxRecDepth 100000 in
set_option maxHeartbeats 4000000 in
theorem implPolicyNew_any (w : World) :
    Calls Tryd.prog 17 #[] w fun e w' => ∃ v, e = .returned v ∧ POwn w' w.heap.size w'.heap.size v newP ∧ Below w.heap.size w w' := by
  obtain ⟨w1, hw1⟩ : ∃ x, w.alloc (.cells #[.slice none 0 0, .slice none 0 0, .slice none 0 0, .int .i64 0] 29) = x := ⟨_, rfl⟩
  have hb1 : Below w.heap.size w w1 := by rw [← hw1]; exact (Below.refl _ _).alloc (Nat.le_refl _) _
  have hR : PBox w1 w.heap.size (.slice none 0 0) (.slice none 0 0) (.slice none 0 0) (.int .i64 0) := by rw [← hw1]; exact PBox.new _ _ _ _ _
  have HW : Hid (w.alloc (.cells #[.slice none 0 0, .slice none 0 0, .slice none 0 0, .int .i64 0] 29) = w1) := hw1
  have c1 := implSketchNew_any w1
  clear hw1
  go_enter Tryd.func17, Tryd.ntmps17
  go_wp2_with fail
  rw [HW.out]
  refine c1.mono ?_
  rintro e w2 ⟨v, rfl, ⟨u, rfl, ho⟩, hb2⟩
  obtain ⟨a, c, rfl, _⟩ := ho.at
  have hR2 := hR.on hb2
  have hbw := hb1.trans (hb2.mono hb1.size)
  obtain ⟨r0, r1, r2, r3⟩ := hR2.cells
  have f0 := hR2.thaw 0
  have f1 := hR2.thaw 1
  have f2 := hR2.thaw 2
  have f3 := hR2.thaw 3
  have HO : Hid (POwn w2 w1.heap.size w2.heap.size (.agg #[.slice none 0 0, .slice none 0 0, .slice a newS.rows.length c, .int .i64 0]) newP) := ⟨_, _, _, rfl, OwnV.nil _ _ _, OwnV.nil _ _ _, fun k hk => by simp [Value.ownBlock] at hk, fun k hk => by simp [Value.ownBlock] at hk, ho⟩
  obtain ⟨n, hn⟩ : ∃ n, newS.rows.length = n := ⟨_, rfl⟩
  have hz : newS.added = 0 := rfl
  rw [hn] at HO ⊢
  rw [hz]
  clear c1 ho hR hb2 HW hn hz
  go_wp2_with fail
  obtain ⟨q0, q1, q2, q3⟩ := (hR2.put (.slice none 0 0) (.slice none 0 0) (.slice a n c) (.int .i64 0)).cells
  refine bodyPost_ret (v := .agg #[.slice none 0 0, .slice none 0 0, .slice a n c, .int .i64 0]) (by simp [results, Tryd.results17, go_sem, q0, q1, q2, q3]) rfl ⟨_, rfl, ?_, Below.put4 hbw (Nat.le_refl _) _ _ _ _⟩
  refine (HO.out.put4 hR2 _ _ _ _).mono hb1.size ?_
  simp
end Go.Proofs.YtbcjkinalghokafDoor

namespace Go.Proofs.YtbcjkinalghokafDoor
open Go.RowKit Go.Sort

set_option maxHeartbeats 2000000 in
theorem implPolicyHas_any (w : World) (aw am ak : Option Addr) (cw cm ck : Nat) (P : Pol) (key : ByteArray) (hA : PolAt w aw am ak P w.heap.size) (hm : P.win.length ≤ 10000000) (hm' : P.main.length ≤ 10000000) :
    Calls Tryd.prog 13 #[.agg #[.slice aw P.win.length cw, .slice am P.main.length cm, .slice ak P.sk.rows.length ck, .int .i64 P.sk.added], .string key] w fun e w' => e = .returned (.bool (hasP P key)) ∧ Below w.heap.size w w' := by
  obtain ⟨w1, hw1⟩ : ∃ x, w.alloc (.cells #[.slice aw P.win.length cw, .slice am P.main.length cm, .slice ak P.sk.rows.length ck, .int .i64 P.sk.added] 29) = x := ⟨_, rfl⟩
  have hb1 : Below w.heap.size w w1 := by rw [← hw1]; exact (Below.refl _ _).alloc (Nat.le_refl _) _
  have hB : PBox w1 w.heap.size (.slice aw P.win.length cw) (.slice am P.main.length cm) (.slice ak P.sk.rows.length ck) (.int .i64 P.sk.added) := by rw [← hw1]; exact PBox.new _ _ _ _ _
  have hA1 := hA.on hb1
  obtain ⟨b0, b1, b2, b3⟩ := hB.cells
  have c1 := containsS_any w1 aw cw P.win key hA1.1 hm
  have c2 := containsS_any w1 am cm P.main key hA1.2.1 hm'
  have HW : Hid (w.alloc (.cells #[.slice aw P.win.length cw, .slice am P.main.length cm, .slice ak P.sk.rows.length ck, .int .i64 P.sk.added] 29) = w1) := hw1
  rw [← hw1] at b0 b1 b2 b3
  clear hw1 hB hA1 hA
  go_enter Tryd.func13, Tryd.ntmps13
  cases h : inL P.win key with
  | true =>
    rw [h] at c1
    have HH : Hid (hasP P key = true) := by show _ = _; simp [hasP, h]
    clear h
    go_wp2_with fail
    rw [HW.out] at b0 b1 b2 b3 ⊢
    refine c1.mono ?_
    rintro e w' ⟨rfl, rfl⟩
    go_wp2_with fail
    go_ret
    exact ⟨by rw [HH.out]; rfl, hb1⟩
  | false =>
    rw [h] at c1
    have HH : Hid (hasP P key = inL P.main key) := by show _ = _; simp [hasP, h]
    clear h
    go_wp2_with fail
    rw [HW.out] at b0 b1 b2 b3 ⊢
    refine c1.mono ?_
    rintro e w' ⟨rfl, rfl⟩
    generalize inL P.main key = q at c2 HH
    go_wp2_with fail
    refine c2.mono ?_
    rintro e w' ⟨rfl, rfl⟩
    go_wp2_with fail
    go_ret
    exact ⟨by rw [HH.out]; rfl, hb1⟩
theorem implPolicyHas_sz (w : World) (aw am ak : Option Addr) (cw cm ck : Nat) (P : Pol) (key : ByteArray) (hA : PolAt w aw am ak P w.heap.size) (hsz : PolSz P) (_hk : key.size ≤ 1048576) :
    Calls Tryd.prog 13 #[.agg #[.slice aw P.win.length cw, .slice am P.main.length cm, .slice ak P.sk.rows.length ck, .int .i64 P.sk.added], .string key] w fun e w' => e = .returned (.bool (hasP P key)) ∧ Below w.heap.size w w' := by
  obtain ⟨l1, l2, l3⟩ := hsz.parts
  exact implPolicyHas_any w aw am ak cw cm ck P key hA (by omega) (by omega)
end Go.Proofs.YtbcjkinalghokafDoor

namespace Go.Proofs.YtbcjkinalghokafDoor
open Go.RowKit

theorem l01Figure_any (x : Nat) (w : World) (hx : x < 16) :
    Calls Tryd.prog 53 #[.int .i64 x] w fun e w' => e = .returned (.int .u8 ((fig x).toNat : Int)) ∧ w = w' := by
  by_cases h : x < 10
  · rw [fig_lo h]
    go_enter Tryd.func53, Tryd.ntmps53
    go_wp2
    go_ret
    exact ⟨by simp, rfl⟩
  · rw [fig_hi h hx]
    go_enter Tryd.func53, Tryd.ntmps53
    go_wp2
    go_ret
    exact ⟨ret_int (by omega), rfl⟩
end Go.Proofs.YtbcjkinalghokafDoor
