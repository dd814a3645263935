/- Texts that stand in one: PolHasImpl, Big. -/
import Derived.Test.YtbcjkinalghokafDoorKeyImplJ
import Derived.Test.YtbcjkinalghokafDoorPolLaw
import Derived.Test.YtbcjkinalghokafDoorBaseJ
namespace Go.Proofs.YtbcjkinalghokafDoor
open Go.RowKit Go.Sort

set_option maxHeartbeats 2000000 in
theorem implPolicyHas_any (w : World) (aw am ak : Option Addr) (cw cm ck : Nat) (P : Pol) (key : ByteArray) (hA : PolAt w aw am ak P w.heap.size) (hm : P.win.length ≤ 10000000) (hm' : P.main.length ≤ 10000000) :
    Calls Tryd.prog 13 #[.agg #[.slice aw P.win.length cw, .slice am P.main.length cm, .slice ak P.sk.rows.length ck, .int .i64 P.sk.added], .string key] w fun e w' => e = .returned (.bool (hasP P key)) ∧ Below w.heap.size w w' := by
  obtain ⟨w1, hw1⟩ : ∃ x, w.alloc (.cells #[.slice aw P.win.length cw, .slice am P.main.length cm, .slice ak P.sk.rows.length ck, .int .i64 P.sk.added] 29) = x := ⟨_, rfl⟩
  have hb1 : Below w.heap.size w w1 := by rw [← hw1]; exact (Below.refl _ _).alloc (Nat.le_refl _) _
  have hB : PBox w1 w.heap.size (.slice aw P.win.length cw) (.slice am P.main.length cm) (.slice ak P.sk.rows.length ck) (.int .i64 P.sk.added) := by rw [← hw1]; exact PBox.new _ _ _ _ _
  have hA1 := hA.on hb1
  obtain ⟨b0, b1, b2, b3⟩ := hB.cells
  have c1 := containsS_any w1 aw cw P.win key hA1.1 hm
  have c2 := containsS_any w1 am cm P.main key hA1.2.1 hm'
  have HW : Hid (w.alloc (.cells #[.slice aw P.win.length cw, .slice am P.main.length cm, .slice ak P.sk.rows.length ck, .int .i64 P.sk.added] 29) = w1) := hw1
  rw [← hw1] at b0 b1 b2 b3
  clear hw1 hB hA1 hA
  go_enter Tryd.func13, Tryd.ntmps13
  cases h : inL P.win key with
  | true =>
    rw [h] at c1
    have HH : Hid (hasP P key = true) := by show _ = _; simp [hasP, h]
    clear h
    go_wp2_with fail
    rw [HW.out] at b0 b1 b2 b3 ⊢
    refine c1.mono ?_
    rintro e w' ⟨rfl, rfl⟩
    go_wp2_with fail
    go_ret
    exact ⟨by rw [HH.out]; rfl, hb1⟩
  | false =>
    rw [h] at c1
    have HH : Hid (hasP P key = inL P.main key) := by show _ = _; simp [hasP, h]
    clear h
    go_wp2_with fail
    rw [HW.out] at b0 b1 b2 b3 ⊢
    refine c1.mono ?_
    rintro e w' ⟨rfl, rfl⟩
    generalize inL P.main key = q at c2 HH
    go_wp2_with fail
    refine c2.mono ?_
    rintro e w' ⟨rfl, rfl⟩
    go_wp2_with fail
    go_ret
    exact ⟨by rw [HH.out]; rfl, hb1⟩
theorem implPolicyHas_sz (w : World) (aw am ak : Option Addr) (cw cm ck : Nat) (P : Pol) (key : ByteArray) (hA : PolAt w aw am ak P w.heap.size) (hsz : PolSz P) (_hk : key.size ≤ 1048576) :
    Calls Tryd.prog 13 #[.agg #[.slice aw P.win.length cw, .slice am P.main.length cm, .slice ak P.sk.rows.length ck, .int .i64 P.sk.added], .string key] w fun e w' => e = .returned (.bool (hasP P key)) ∧ Below w.heap.size w w' := by
  obtain ⟨l1, l2, l3⟩ := hsz.parts
  exact implPolicyHas_any w aw am ak cw cm ck P key hA (by omega) (by omega)
end Go.Proofs.YtbcjkinalghokafDoor

namespace Go.Proofs.YtbcjkinalghokafDoor
open Go.RowKit

theorem big_any (ca : Option Addr) (n cap : Nat) (w : World) (hn : n ≤ 9223372036854775807) :
    Calls Tryd.prog 6 #[.slice ca n cap] w fun e w' => e = .returned (.bool (decide (1048576 < n))) ∧ w = w' := by
  go_enter Tryd.func6, Tryd.ntmps6
  go_wp2
  go_ret
  exact ⟨by rw [show decide ((1048576 : Int) < (n : Int)) = decide (1048576 < n) by simp; omega]; rfl, rfl⟩

end Go.Proofs.YtbcjkinalghokafDoor
