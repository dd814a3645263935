/- The marks that a law lays into files, and looks for again. -/
import Derived.Test.YtepfblabdibggabDoorEnPlusJ
import Derived.Test.YtepfblabdibggabDoorFilesLaw
namespace Go.Proofs.YtepfblabdibggabDoor
open Go.RowKit Go.Sort

def mfil (n : Nat) : Fil := ⟨mkT n, mkT (n + 1), ((n + 2 : Nat) : Int)⟩
def mfl (k n : Nat) : List Fil := (List.range n).map fun j => mfil (k + 3 * j)
theorem mfl_length (k n : Nat) : (mfl k n).length = n := by simp [mfl]
theorem mfl_at {k n j : Nat} (h : j < n) : (mfl k n)[j]'(by rw [mfl_length]; exact h) = mfil (k + 3 * j) := by simp [mfl]
theorem mfl_succ (k n : Nat) : mfl k (n + 1) = mfl k n ++ [mfil (k + 3 * n)] := by simp [mfl, List.range_succ]
theorem mfl_set (k j : Nat) (L : List Fil) (h : j < L.length) : (mfl k j ++ L.drop j).set j (mfil (k + 3 * j)) = mfl k (j + 1) ++ L.drop (j + 1) := by
  rw [List.set_append_right _ _ (by rw [mfl_length]; exact Nat.le_refl _), mfl_length, Nat.sub_self, List.drop_eq_getElem_cons h, List.set_cons_zero, mfl_succ]
  simp
theorem modify_three' (L : List Fil) (j : Nat) (f : Fil) : ((L.modify j fun g => { g with nm := f.nm }).modify j fun g => { g with tx := f.tx }).modify j (fun g => { g with kp := f.kp }) = L.set j f := modify_three L j f

set_option maxHeartbeats 2000000 in
theorem markFileS_any (w : World) (base : Nat) (v : Value) (L : List Fil) (k : Nat) (hown : OwnF w base 90 v L) (hl : L.length ≤ 1048576) (hk0 : 0 < k) (hk1 : k ≤ 100000000) :
    Calls Tryd.prog 48 #[v, .int .i64 k] w fun e w' => e = .returned (.int .i64 ((k + 3 * L.length : Nat) : Int)) ∧ OwnF w' base 90 v (mfl k L.length) ∧ w.grownBy w' v.ownBlock := by
  obtain ⟨a, cap, rfl, _⟩ := hown.shape
  go_enter Tryd.func48, Tryd.ntmps48
  go_wp2
  go_loopw [1, 5] (fun n i wr => Box (∃ (j : Nat), j ≤ L.length ∧ i = .int .i64 j ∧ n = .int .i64 ((k + 3 * j : Nat) : Int) ∧ OwnF wr base 90 (.slice a L.length cap) (mfl k j ++ L.drop j) ∧ w.grownBy wr (Value.slice a L.length cap).ownBlock))
    (fun _ i _ => L.length - (intOf i).toNat)
  case atStart => exact ⟨⟨0, by omega, rfl, rfl, hown, grownBy_refl _ _⟩⟩
  case round =>
    obtain ⟨j, hj, rfl, rfl, hown1, hgr⟩ := hrel.out
    by_cases hlt : j < L.length
    · have hlen : (mfl k j ++ L.drop j).length = L.length := by rw [List.length_append, mfl_length, List.length_drop]; omega
      obtain ⟨g, rfl, hgs⟩ := hown1.addr (by omega)
      clear hrel hown
      obtain ⟨n, hn⟩ : ∃ n, k + 3 * j = n := ⟨_, rfl⟩
      have hn1 : n ≤ 110000000 := by omega
      have hn0 : 0 < n := by omega
      obtain ⟨M, hM⟩ : ∃ M, mfl k j ++ L.drop j = M := ⟨_, rfl⟩
      have HS : Hid (M.set j (mfil n) = mfl k (j + 1) ++ L.drop (j + 1)) := by rw [← hM, ← hn]; exact mfl_set k j L hlt
      have HM : Hid (M.length = L.length) := by rw [← hM]; exact hlen
      have HK : Hid (k + 3 * j = n) := hn
      rw [hM] at hown1
      rw [hn]
      clear hM hlen hn
      obtain ⟨u0, u1, u2, c0, c1, c2, z0, z1, z2⟩ := hown1.there j (by rw [HM.out]; exact hlt)
      have hi1 : (0 : Int) ≤ (j : Int) := by omega
      have hi2 : (j : Int) < (L.length : Int) := by omega
      have HO : Hid (OwnF wr base 90 (.slice (some ⟨g, 0, none⟩) L.length cap) M) := hown1
      have HG : Hid (w.grownBy wr (Value.slice (some ⟨g, 0, none⟩) L.length cap).ownBlock) := hgr
      clear hown1 hgr
      go_wp2_with fail
      refine (markText_any n wr (by omega) (by omega)).mono ?_
      rintro e w1 ⟨rfl, hb1⟩
      have c01 := (hb1.cell (p := ⟨g, j * 3, none⟩) hgs).trans c0
      have c11 := (hb1.cell (p := ⟨g, j * 3 + 1, none⟩) hgs).trans c1
      have c21 := (hb1.cell (p := ⟨g, j * 3 + 2, none⟩) hgs).trans c2
      have z01 := (hb1.frozen (p := ⟨g, j * 3, none⟩) hgs).trans z0
      clear c0 c1 c2 z0 z1 z2
      have O1 := (HO.out.below hb1 (Nat.le_refl _)).storedNm HM.out.symm j (mkT n)
      have G1 := grownBy_trans HG.out (grownBy_trans (grownBy_below hb1) O1.2)
      obtain ⟨wa, hwa⟩ : ∃ wa, w1.setCell ⟨g, j * 3, none⟩ (.string (mkT n)) = wa := ⟨_, rfl⟩
      rw [hwa] at O1 G1
      have HWA : Hid (w1.setCell ⟨g, j * 3, none⟩ (.string (mkT n)) = wa) := hwa
      clear hwa
      have HO1 : Hid (OwnF wa base 90 (.slice (some ⟨g, 0, none⟩) L.length cap) (M.modify j fun f => { f with nm := mkT n })) := O1.1
      have HG1 : Hid (w.grownBy wa (Value.slice (some ⟨g, 0, none⟩) L.length cap).ownBlock) := G1
      have hgs1 : g < wa.heap.size := (O1.1.lt g rfl).2
      clear O1 G1
      have cM := markText_any (n + 1) wa (by omega) (by omega)
      rw [show ((n + 1 : Nat) : Int) = (n : Int) + 1 by omega] at cM
      go_wp2_with fail
      rw [HWA.out]
      refine cM.mono ?_
      rintro e w2 ⟨rfl, hb2⟩
      clear cM c01 c11 c21 z01
      have O2 := (HO1.out.below hb2 (Nat.le_refl _))
      obtain ⟨x0, x1, x2, d0, d1, d2, y0, y1, y2⟩ := O2.there j (by rw [List.length_modify, HM.out]; exact hlt)
      have O3 := O2.storedTx (by rw [List.length_modify, HM.out]) j (mkT (n + 1))
      have G3 := grownBy_trans HG1.out (grownBy_trans (grownBy_below hb2) O3.2)
      have O4 := O3.1.storedKp (by rw [List.length_modify, List.length_modify, HM.out]) j ((n + 2 : Nat) : Int)
      have G4 := grownBy_trans G3 O4.2
      have hthree := modify_three M j (mfil n)
      simp only [mfil] at hthree
      rw [hthree] at O4
      obtain ⟨e0, e1, e2, _, _, b2, _, _, f2⟩ := O3.1.there j (by rw [List.length_modify, List.length_modify, HM.out]; exact hlt)
      have HO4 : Hid (OwnF ((w2.setCell ⟨g, j * 3 + 1, none⟩ (.string (mkT (n + 1)))).setCell ⟨g, j * 3 + 2, none⟩ (.int .i64 ((n + 2 : Nat) : Int))) base 90 (.slice (some ⟨g, 0, none⟩) L.length cap) (M.set j (mfil n))) := O4.1
      have HG4 : Hid (w.grownBy ((w2.setCell ⟨g, j * 3 + 1, none⟩ (.string (mkT (n + 1)))).setCell ⟨g, j * 3 + 2, none⟩ (.int .i64 ((n + 2 : Nat) : Int))) (Value.slice (some ⟨g, 0, none⟩) L.length cap).ownBlock) := G4
      clear O2 O3 O4 G3 G4 hthree HO1 HG1
      rw [show ((n + 2 : Nat) : Int) = (n : Int) + 1 + 1 by omega] at HO4 HG4
      go_wp2
      go_roundw
      case rel =>
        try ((repeat apply Exists.intro); refine ⟨?_, rfl⟩)
        have h := HO4.out
        rw [HS.out] at h
        exact ⟨⟨j + 1, by omega, by go_num, by have := HK.out; congr 1; omega, h, HG4.out⟩⟩
      case measure => simp [intOf]; omega
    · go_wp2
      go_ret
      have hje : j = L.length := by omega
      subst hje
      rw [List.drop_of_length_le (Nat.le_refl _), List.append_nil] at hown1
      exact ⟨rfl, hown1, hgr⟩
theorem markDisk_any (w : World) (base : Nat) (v : Value) (L : List Fil) (k : Nat) (hown : OwnF w base 90 v L) (hl : L.length ≤ 1048576) (hk0 : 0 < k) (hk1 : k ≤ 100000000) :
    Calls Tryd.prog 19 #[.agg #[v], .int .i64 k] w fun e w' => e = .returned (.int .i64 ((k + 3 * L.length : Nat) : Int)) ∧ OwnF w' base 90 v (mfl k L.length) ∧ w.grownBy w' v.ownBlock := by
  obtain ⟨wb, hwb⟩ : ∃ wb, w.alloc (.cells #[v] 41) = wb := ⟨_, rfl⟩
  have hb : Below w.heap.size w wb := by rw [← hwb]; exact (Below.refl _ _).alloc (Nat.le_refl _) _
  have c0 := markFileS_any wb base v L k (hown.below hb (Nat.le_refl _)) hl hk0 hk1
  obtain ⟨a, cap, rfl, _⟩ := hown.shape
  have HW : Hid (w.alloc (.cells #[.slice a L.length cap] 41) = wb) := hwb
  clear hwb hown
  go_enter Tryd.func19, Tryd.ntmps19
  go_wp2_with fail
  rw [HW.out]
  refine c0.mono ?_
  rintro e w1 ⟨rfl, ho1, hg1⟩
  go_wp2
  go_ret
  exact ⟨rfl, ho1, grownBy_trans (grownBy_below hb) hg1⟩
end Go.Proofs.YtepfblabdibggabDoor
