/- Marks in readers, laid and found again. Written by mkreader.py. -/
import Derived.Test.YtmpnjijbahjinatRdLaw
namespace Go.Proofs.Ytmpnjijbahjinat
open Go.RowKit Go.Sort

/-- The marks of the first j pairs, and the rest. -/
def mkR (k : Nat) (L : List (Int × Int)) (j : Nat) : List (Int × Int) := (List.range j).map (fun i => (((k + 2 * i : Nat) : Int), ((k + 2 * i + 1 : Nat) : Int))) ++ L.drop j
theorem mkR_length (k : Nat) (L : List (Int × Int)) {j : Nat} (h : j ≤ L.length) : (mkR k L j).length = L.length := by simp [mkR]; omega
theorem mkR_zero (k : Nat) (L : List (Int × Int)) : mkR k L 0 = L := by simp [mkR]
theorem mkR_succ (k : Nat) (L : List (Int × Int)) {j : Nat} (h : j < L.length) : (mkR k L j).set j (((k + 2 * j : Nat) : Int), ((k + 2 * j + 1 : Nat) : Int)) = mkR k L (j + 1) := by
  unfold mkR
  rw [List.set_append_right _ _ (by simp), List.length_map, List.length_range, Nat.sub_self, List.drop_eq_getElem_cons h, List.set_cons_zero, List.range_succ, List.map_append, List.append_assoc]
  rfl
theorem mkR_at (k : Nat) (L : List (Int × Int)) {i : Nat} (h : i < L.length) : (mkR k L L.length)[i]'(by rw [mkR_length k L (Nat.le_refl _)]; exact h) = (((k + 2 * i : Nat) : Int), ((k + 2 * i + 1 : Nat) : Int)) := by
  unfold mkR
  rw [List.getElem_append_left (by simpa using h)]
  simp

set_option maxRecDepth 100000 in
set_option maxHeartbeats 2000000 in
theorem markReaderS_any (w : World) (base : Nat) (v : Value) (L : List (Int × Int)) (k : Nat) (hown : OwnP w base 83 v L) (hl : L.length ≤ 1048577) (hk1 : k ≤ 100000000) :
    Calls Try.prog 51 #[v, .int .i64 k] w fun e w' => e = .returned (.int .i64 ((k + 2 * L.length : Nat) : Int)) ∧ OwnP w' base 83 v (mkR k L L.length) ∧ w.grownBy w' v.ownBlock := by
  obtain ⟨a, cap, rfl, _⟩ := hown.at
  go_enter Try.func51, Try.ntmps51
  go_wp2
  go_loopw [1, 5] (fun q i wr => Box (∃ (j : Nat), j ≤ L.length ∧ i = .int .i64 j ∧ q = .int .i64 ((k + 2 * j : Nat) : Int) ∧ OwnP wr base 83 (.slice a L.length cap) (mkR k L j) ∧ w.grownBy wr (Value.slice a L.length cap).ownBlock))
    (fun _ i _ => L.length - (intOf i).toNat)
  case atStart => exact ⟨⟨0, by omega, rfl, rfl, by rw [mkR_zero]; exact hown, grownBy_refl _ _⟩⟩
  case round =>
    obtain ⟨j, hj, rfl, rfl, hown1, hgr⟩ := hrel.out
    clear hrel hown
    by_cases hlt : j < L.length
    · have hlen : L.length = (mkR k L j).length := (mkR_length k L hj).symm
      have hrow : wr.ownsRow base 83 2 (.slice a L.length cap) L.length (prl (mkR k L j)) := by
        have h := hown1
        unfold OwnP at h
        rwa [← hlen] at h
      obtain ⟨g, rfl, hgs, _⟩ := row2_addrR hrow (by omega)
      obtain ⟨u0, k0, f0⟩ := row2_thereR hrow (j * 2) (by omega)
      obtain ⟨u1, k1, f1⟩ := row2_thereR hrow (j * 2 + 1) (by omega)
      obtain ⟨p, hp⟩ : ∃ p, k + 2 * j = p := ⟨_, rfl⟩
      have hst := hown1.stored hlen j ((p : Int), ((p + 1 : Nat) : Int))
      have hset := mkR_succ k L hlt
      rw [hp] at hset ⊢
      rw [hset] at hst
      have HST : Hid (OwnP ((wr.setCell ⟨g, j * 2, none⟩ (.int .i64 (p : Int))).setCell ⟨g, j * 2 + 1, none⟩ (.int .i64 ((p + 1 : Nat) : Int))) base 83 (.slice (some ⟨g, 0, none⟩) L.length cap) (mkR k L (j + 1)) ∧ w.grownBy ((wr.setCell ⟨g, j * 2, none⟩ (.int .i64 (p : Int))).setCell ⟨g, j * 2 + 1, none⟩ (.int .i64 ((p + 1 : Nat) : Int))) (some g)) := ⟨hst.1, grownBy_trans hgr hst.2⟩
      rw [show ((p + 1 : Nat) : Int) = (p : Int) + 1 by omega] at HST
      have HP : Hid (k + 2 * j = p) := hp
      have hpb : p ≤ 110000000 := by omega
      have hi1 : (0 : Int) ≤ (j : Int) := by omega
      have hi2 : (j : Int) < (L.length : Int) := by omega
      clear hrow hst hset hp hown1 hgr hlen
      go_wp2
      go_roundw
      case rel =>
        try ((repeat apply Exists.intro); refine ⟨?_, rfl⟩)
        refine ⟨⟨j + 1, by omega, by go_num, ?_, HST.out.1, HST.out.2⟩⟩
        have := HP.out
        congr 1
        omega
      case measure => simp [intOf]; omega
    · go_wp2
      go_ret
      have hke : j = L.length := by omega
      subst hke
      exact ⟨rfl, hown1, hgr⟩
set_option maxRecDepth 100000 in
set_option maxHeartbeats 2000000 in
theorem heldReaderS_any (w : World) (a : Option Addr) (cap : Nat) (L : List (Int × Int)) (k : Nat) (hA : PAt w a (mkR k L L.length) w.heap.size) (hl : L.length ≤ 1048577) (hk1 : k ≤ 100000000) :
    Calls Try.prog 52 #[.slice a L.length cap, .int .i64 k] w fun e w' => e = .returned (.int .i64 ((k + 2 * L.length : Nat) : Int)) ∧ Below w.heap.size w w' := by
  go_enter Try.func52, Try.ntmps52
  go_wp2
  go_loopw [1, 5] (fun q i wr => Box (∃ (j nq : Nat), j ≤ L.length ∧ i = .int .i64 j ∧ q = .int .i64 ((k + 2 * j : Nat) : Int) ∧ wr = w.drewN nq))
    (fun _ i _ => L.length - (intOf i).toNat)
  case atStart => exact ⟨⟨0, 0, by omega, rfl, rfl, rfl⟩⟩
  case round =>
    obtain ⟨j, nq, hj, rfl, rfl, rfl⟩ := hrel.out
    clear hrel
    by_cases hlt : j < L.length
    · obtain ⟨g, off, rfl, _, hc0, hc1⟩ := hA j (by rw [mkR_length k L (Nat.le_refl _)]; exact hlt)
      rw [mkR_at k L hlt] at hc0 hc1
      dsimp only at hc0 hc1
      obtain ⟨p, hp⟩ : ∃ p, k + 2 * j = p := ⟨_, rfl⟩
      have HP : Hid (k + 2 * j = p) := hp
      have hpb : p ≤ 110000000 := by omega
      rw [hp] at hc0 hc1 ⊢
      rw [show ((p + 1 : Nat) : Int) = (p : Int) + 1 by omega] at hc1
      have hi1 : (0 : Int) ≤ (j : Int) := by omega
      have hi2 : (j : Int) < (L.length : Int) := by omega
      clear hp hA
      go_wp2
      go_roundw
      case rel =>
        try ((repeat apply Exists.intro); refine ⟨?_, rfl⟩)
        refine ⟨⟨j + 1, _, by omega, by go_num, ?_, rfl⟩⟩
        have := HP.out
        congr 1
        omega
      case measure => simp [intOf]; omega
    · go_wp2
      go_ret
      have hke : j = L.length := by omega
      subst hke
      exact ⟨rfl, ⟨rfl, rfl, rfl, Nat.le_refl _, fun _ _ => rfl⟩⟩
end Go.Proofs.Ytmpnjijbahjinat
