/- The marks that a law lays into acts. -/
import Derived.Test.YtepfblabdibggabDoorActsLaw
namespace Go.Proofs.YtepfblabdibggabDoor
open Go.RowKit Go.Sort

theorem row4_stored {w : World} {base : Nat} {e : TypeId} {g n cap : Nat} {xs : List Value} (h : w.ownsRow base e 4 (.slice (some ⟨g, 0, none⟩) n cap) n xs) (i : Nat) (u : Value) :
    (w.setCell ⟨g, i, none⟩ u).ownsRow base e 4 (.slice (some ⟨g, 0, none⟩) n cap) n (xs.set i u) ∧ w.grownBy (w.setCell ⟨g, i, none⟩ u) (some g) := World.ownsRow.stored h i u

set_option maxRecDepth 100000 in
set_option maxHeartbeats 2000000 in
theorem markActS_any (w : World) (base : Nat) (v : Value) (L : List Ac) (k : Nat) (hown : OwnA w base 57 v L) (hl : L.length ≤ 1048576) (hk0 : 0 < k) (hk1 : k ≤ 100000000) :
    Calls Tryd.prog 11 #[v, .int .i64 k] w fun e w' => e = .returned (.int .i64 ((k + 4 * L.length : Nat) : Int)) ∧ w.grownBy w' v.ownBlock := by
  obtain ⟨a, cap, rfl, _⟩ := hown.at
  obtain ⟨n, hn⟩ : ∃ n, L.length = n := ⟨_, rfl⟩
  have hrow : w.ownsRow base 57 4 (.slice a n cap) n (acl L) := by rw [← hn]; exact hown
  rw [hn] at hl ⊢
  clear hown hn
  go_enter Tryd.func11, Tryd.ntmps11
  go_wp2
  go_loopw [1, 5] (fun q i wr => Box (∃ (j : Nat) (xs : List Value), j ≤ n ∧ i = .int .i64 j ∧ q = .int .i64 ((k + 4 * j : Nat) : Int) ∧ wr.ownsRow base 57 4 (.slice a n cap) n xs ∧ w.grownBy wr (Value.slice a n cap).ownBlock))
    (fun _ i _ => n - (intOf i).toNat)
  case atStart => exact ⟨⟨0, _, by omega, rfl, rfl, hrow, grownBy_refl _ _⟩⟩
  case round =>
    obtain ⟨j, xs, hj, rfl, rfl, hrow1, hgr⟩ := hrel.out
    clear hrel hrow
    by_cases hlt : j < n
    · obtain ⟨g, rfl, hgs, _⟩ := row4_addr hrow1 (by omega)
      have hi1 : (0 : Int) ≤ (j : Int) := by omega
      have hi2 : (j : Int) < (n : Int) := by omega
      obtain ⟨p, hp⟩ : ∃ p, k + 4 * j = p := ⟨_, rfl⟩
      have HP : Hid (k + 4 * j = p) := hp
      have hpb : p ≤ 110000000 := by omega
      have hp0 : 0 < p := by omega
      rw [hp]
      clear hp
      obtain ⟨u0, k0, f0⟩ := row4_there hrow1 (j * 4) (by omega)
      have R1 := row4_stored hrow1 (j * 4) (.int .i64 (p : Int))
      have G1 := grownBy_trans hgr R1.2
      obtain ⟨wa, hwa⟩ : ∃ wa, wr.setCell ⟨g, j * 4, none⟩ (.int .i64 (p : Int)) = wa := ⟨_, rfl⟩
      rw [hwa] at R1 G1
      have HWA : Hid (wr.setCell ⟨g, j * 4, none⟩ (.int .i64 (p : Int)) = wa) := hwa
      have HR1 : Hid (wa.ownsRow base 57 4 (.slice (some ⟨g, 0, none⟩) n cap) n (xs.set (j * 4) (.int .i64 (p : Int)))) := R1.1
      have HG1 : Hid (w.grownBy wa (some g)) := G1
      clear hwa R1 G1 hrow1 hgr
      have cM := markText_any (p + 1) wa (by omega) (by omega)
      rw [show ((p + 1 : Nat) : Int) = (p : Int) + 1 by omega] at cM
      go_wp2_with fail
      rw [HWA.out]
      refine cM.mono ?_
      rintro e w1 ⟨rfl, hb1⟩
      clear cM k0 f0
      have R2 := row4_below HR1.out hb1 (Nat.le_refl _)
      obtain ⟨u1, k1, f1⟩ := row4_there R2 (j * 4 + 1) (by omega)
      have R3 := row4_stored R2 (j * 4 + 1) (.string (mkT (p + 1)))
      have G3 := grownBy_trans HG1.out (grownBy_trans (grownBy_below hb1) R3.2)
      obtain ⟨wb, hwb⟩ : ∃ wb, w1.setCell ⟨g, j * 4 + 1, none⟩ (.string (mkT (p + 1))) = wb := ⟨_, rfl⟩
      rw [hwb] at R3 G3
      have HWB : Hid (w1.setCell ⟨g, j * 4 + 1, none⟩ (.string (mkT (p + 1))) = wb) := hwb
      have HR3 : Hid (∃ ys, wb.ownsRow base 57 4 (.slice (some ⟨g, 0, none⟩) n cap) n ys) := ⟨_, R3.1⟩
      have HG3 : Hid (w.grownBy wb (some g)) := G3
      clear hwb R2 R3 G3 HR1 HG1
      have cM := markText_any (p + 2) wb (by omega) (by omega)
      rw [show ((p + 2 : Nat) : Int) = (p : Int) + 1 + 1 by omega] at cM
      go_wp2_with fail
      rw [HWB.out]
      refine cM.mono ?_
      rintro e w2 ⟨rfl, hb2⟩
      clear cM k1 f1
      obtain ⟨ys, R4'⟩ := HR3.out
      have R4 := row4_below R4' hb2 (Nat.le_refl _)
      obtain ⟨u2, k2, f2⟩ := row4_there R4 (j * 4 + 2) (by omega)
      have R5 := row4_stored R4 (j * 4 + 2) (.string (mkT (p + 2)))
      have G5 := grownBy_trans HG3.out (grownBy_trans (grownBy_below hb2) R5.2)
      obtain ⟨wd, hwd⟩ : ∃ wd, w2.setCell ⟨g, j * 4 + 2, none⟩ (.string (mkT (p + 2))) = wd := ⟨_, rfl⟩
      rw [hwd] at R5 G5
      have HWD : Hid (w2.setCell ⟨g, j * 4 + 2, none⟩ (.string (mkT (p + 2))) = wd) := hwd
      have HR5 : Hid (∃ ys, wd.ownsRow base 57 4 (.slice (some ⟨g, 0, none⟩) n cap) n ys) := ⟨_, R5.1⟩
      have HG5 : Hid (w.grownBy wd (some g)) := G5
      clear hwd R4 R4' R5 G5 HR3 HG3
      have cM := markText_any (p + 3) wd (by omega) (by omega)
      rw [show ((p + 3 : Nat) : Int) = (p : Int) + 1 + 1 + 1 by omega] at cM
      go_wp2_with fail
      rw [HWD.out]
      refine cM.mono ?_
      rintro e w3 ⟨rfl, hb3⟩
      clear cM k2 f2
      obtain ⟨zs, R6'⟩ := HR5.out
      have R6 := row4_below R6' hb3 (Nat.le_refl _)
      obtain ⟨u3, k3, f3⟩ := row4_there R6 (j * 4 + 3) (by omega)
      have R7 := row4_stored R6 (j * 4 + 3) (.string (mkT (p + 3)))
      have G7 := grownBy_trans HG5.out (grownBy_trans (grownBy_below hb3) R7.2)
      have HR7 : Hid ((w3.setCell ⟨g, j * 4 + 3, none⟩ (.string (mkT (p + 3)))).ownsRow base 57 4 (.slice (some ⟨g, 0, none⟩) n cap) n (zs.set (j * 4 + 3) (.string (mkT (p + 3))))) := R7.1
      have HG7 : Hid (w.grownBy (w3.setCell ⟨g, j * 4 + 3, none⟩ (.string (mkT (p + 3)))) (some g)) := G7
      clear R6 R6' R7 G7 HR5 HG5
      go_wp2
      go_roundw
      case rel =>
        try ((repeat apply Exists.intro); refine ⟨?_, rfl⟩)
        refine ⟨⟨j + 1, _, by omega, by go_num, ?_, HR7.out, HG7.out⟩⟩
        have := HP.out
        congr 1
        omega
      case measure => simp [intOf]; omega
    · go_wp2
      go_ret
      have hke : j = n := by omega
      subst hke
      exact ⟨rfl, hgr⟩
end Go.Proofs.YtepfblabdibggabDoor
