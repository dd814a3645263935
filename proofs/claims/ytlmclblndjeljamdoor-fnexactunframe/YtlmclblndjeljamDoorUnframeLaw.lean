/- The walk of the law on Unframe. -/
import Derived.Test.YtlmclblndjeljamDoorUnframeImpl
import Derived.Test.YtlmclblndjeljamDoorUnframeSpec
namespace Go.Proofs.YtlmclblndjeljamDoor
open Go.RowKit Go.Sort

theorem OwnV.apart {w1 w2 : World} {b1 : Nat} {e1 e2 : TypeId} {v1 v2 : Value} {xs ys : List Value} (h1 : OwnV w1 b1 e1 v1 xs) (h2 : OwnV w2 w1.heap.size e2 v2 ys) : ∀ k, v1.ownBlock = some k → v2.ownBlock ≠ some k := fun k hk he => by
  have := (h1.lt k hk).2
  have := (h2.lt k he).1
  omega

theorem drawn_below2 {B : Nat} {a w : World} (h : Below B a w) (n : Nat) : Below B a (w.drewN n) := h.trans ⟨rfl, rfl, rfl, Nat.le_refl _, fun _ _ => rfl⟩

set_option maxHeartbeats 2000000 in
theorem unframe_walk (s : ByteArray) (hs : s.size ≤ maxLen) (w : World) (htab : Tab w) :
    Calls Tryd.prog 3 #[.string s] w fun e w' => e = .returned (.bool true) ∧ Below w.heap.size w w' := by
  unfold maxLen at hs
  by_cases h : s.size ≤ 1048576
  · have c1 := specUnframe_any s w h
    have c2 : ∀ w', Below w.heap.size w w' → _ := fun w' hb => implUnframe_any s w' h (htab.below hb (Nat.le_refl _))
    have hlen := ufL_le s
    obtain ⟨L, hL⟩ : ∃ L, ufL s = L := ⟨_, rfl⟩
    obtain ⟨ok, hok⟩ : ∃ ok, ufE s = ok := ⟨_, rfl⟩
    rw [hL, hok] at c1
    simp only [hL, hok] at c2
    rw [hL] at hlen
    clear hL hok htab
    have C2 : Hid (∀ w', Below w.heap.size w w' → Calls Tryd.prog 5 #[.string s] w' fun e w'' => ∃ v, e = .returned (.tuple #[v, .int .i64 (ok : Int)]) ∧ OwnV w'' w'.heap.size 9 v (strs L) ∧ Below w'.heap.size w' w'') := c2
    clear c2
    go_enter Tryd.func3, Tryd.ntmps3
    go_wp2_with fail
    refine c1.mono ?_
    rintro e w1 ⟨v0, rfl, ho0, hb1⟩
    go_wp2_with fail
    refine (C2.out w1 hb1).mono ?_
    rintro e w2 ⟨v1, rfl, ho1, hb2⟩
    have ho0' := ho0.below hb2 (Nat.le_refl _)
    have hap := ho0.apart ho1
    go_wp2_with fail
    refine (eqS_same w2 _ _ v1 v0 L ho1 ho0' (by omega)).mono ?_
    rintro e w3 ⟨rfl, n3, rfl⟩
    go_wp2_with fail
    have hml := markS_any (w2.drewN n3) _ v1 (strs L) 1 ho1 (by rw [strs_length]; omega) (by omega) (by omega)
    rw [strs_length] at hml
    refine hml.mono ?_
    rintro e w4 ⟨rfl, ho4, hgr4⟩
    have ho04 : OwnV w4 w.heap.size 9 v0 (strs L) := OwnV.grown (w := w2.drewN n3) ho0' hgr4 hap
    go_wp2_with fail
    refine (heldS_any w4 _ v1 L.length 1 ho4 (by omega) (by omega) (by omega)).mono ?_
    rintro e w5 ⟨rfl, hb5⟩
    have hB2 : Below w.heap.size w w2 := hb1.trans (hb2.mono hb1.size)
    have hB4 : Below w.heap.size w w4 := Below.grown (w := w2.drewN n3) (drawn_below2 hB2 n3) hgr4 hB2.size (fun k hk => Nat.le_trans hb1.size (ho1.lt k hk).1)
    have hB5 : Below w.heap.size w w5 := hB4.trans (hb5.mono hB4.size)
    have ho05 : OwnV w5 w.heap.size 9 v0 (strs L) := ho04.below hb5 (Nat.le_refl _)
    have ho15 : OwnV w5 w1.heap.size 9 v1 (marks 1 L.length) := ho4.below hb5 (Nat.le_refl _)
    clear ho0 ho1 ho0' hap hml hgr4 ho4 ho04 hb2 hb5 hB4 hB2
    have hq : ((1 : Int) + (L.length : Int) != 1 + (L.length : Int)) = false := by simp
    go_wp2_with fail
    refine (C2.out w5 hB5).mono ?_
    rintro e w6 ⟨v2, rfl, ho6, hb6⟩
    have ho06 := ho05.below hb6 (Nat.le_refl _)
    have ho16 := ho15.below hb6 (Nat.le_refl _)
    have hB6 : Below w.heap.size w w6 := hB5.trans (hb6.mono hB5.size)
    go_wp2_with fail
    refine (eqS_same w6 _ _ v2 v0 L ho6 ho06 (by omega)).mono ?_
    rintro e w7 ⟨rfl, n7, rfl⟩
    go_wp2_with fail
    refine (heldS_any (w6.drewN n7) _ v1 L.length 1 ho16 (by omega) (by omega) (by omega)).mono ?_
    rintro e w8 ⟨rfl, hb8⟩
    have hB8 : Below w.heap.size w w8 := (drawn_below2 hB6 n7).trans (hb8.mono hB6.size)
    go_wp2
    go_ret
    exact ⟨rfl, hB8⟩
  · go_enter Tryd.func3, Tryd.ntmps3
    go_wp2
    go_ret
    exact ⟨rfl, Below.refl _ _⟩
end Go.Proofs.YtlmclblndjeljamDoor
