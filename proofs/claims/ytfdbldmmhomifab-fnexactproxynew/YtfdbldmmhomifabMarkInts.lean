/- Marks in rows of numbers, laid and found again. -/
import Derived.Test.YtfdbldmmhomifabInts
namespace Go.Proofs.Ytfdbldmmhomifab
open Go.RowKit Go.Sort

/-- The first n numbers are k, k + 1, .. -/
def Marked (k : Nat) (m : List Int) (n : Nat) : Prop := ∀ i, i < n → m[i]? = some ((k + i : Nat) : Int)

set_option maxHeartbeats 1000000 in
theorem markI_any (w : World) (base : Nat) (v : Value) (l : List Int) (k : Nat) (hown : OwnV w base 3 v (ints l)) (hl : l.length ≤ 1048576) (hk1 : k ≤ 100000000) :
    Calls Try.prog 97 #[v, .int .i64 k] w fun e w' => e = .returned (.int .i64 ((k + l.length : Nat) : Int)) ∧ (∃ m, m.length = l.length ∧ Marked k m l.length ∧ OwnV w' base 3 v (ints m)) ∧ w.grownBy w' v.ownBlock := by
  obtain ⟨a, cap, rfl, _⟩ := hown.shape
  rw [ints_length] at hown ⊢
  go_enter Try.func97, Try.ntmps97
  go_wp2
  go_loopw [1, 5] (fun n i wr => Box (∃ (j : Nat) (m : List Int), Hid (m.length = l.length) ∧ Hid (Marked k m j) ∧ j ≤ l.length ∧ i = .int .i64 j ∧ n = .int .i64 ((k + j : Nat) : Int) ∧ OwnV wr base 3 (.slice a l.length cap) (ints m) ∧ w.grownBy wr (Value.slice a l.length cap).ownBlock))
    (fun _ i _ => l.length - (intOf i).toNat)
  case atStart => exact ⟨⟨0, l, rfl, fun i h => by omega, by omega, rfl, rfl, hown, grownBy_refl _ _⟩⟩
  case round =>
    obtain ⟨j, m, HL, HM, hj, rfl, rfl, hown1, hgr⟩ := hrel.out
    by_cases hlt : j < l.length
    · have hjm : j < (ints m).length := by rw [ints_length, HL.out]; exact hlt
      obtain ⟨a', cap', hv, hc⟩ := hown1.shape
      obtain ⟨g, hg, hcell, hfr, hbg, hgs⟩ := hc j hjm
      rw [hg] at hv
      have ha : a = some ⟨g, 0, none⟩ := by simp only [Value.slice.injEq] at hv; exact hv.1
      subst ha
      have hst := hown1.stored (by rw [ints_length, HL.out]) j (.int .i64 ((k : Int) + (j : Int)))
      have he : (ints m).set j (.int .i64 ((k : Int) + (j : Int))) = ints (m.set j ((k : Int) + (j : Int))) := by simp [ints, List.map_set]
      rw [he] at hst
      have HX : Hid (OwnV (wr.setCell ⟨g, j, none⟩ (.int .i64 ((k : Int) + (j : Int)))) base 3 (.slice (some ⟨g, 0, none⟩) l.length cap) (ints (m.set j ((k : Int) + (j : Int)))) ∧ w.grownBy (wr.setCell ⟨g, j, none⟩ (.int .i64 ((k : Int) + (j : Int)))) (Value.slice (some ⟨g, 0, none⟩) l.length cap).ownBlock) := ⟨hst.1, grownBy_trans hgr hst.2⟩
      have HN : Hid (Marked k (m.set j ((k : Int) + (j : Int))) (j + 1)) := by
        intro i hi
        by_cases hij : j = i
        · subst hij
          have hjl : j < m.length := by rw [HL.out]; exact hlt
          simp [hjl]
        · rw [List.getElem?_set_ne hij]
          exact HM.out i (by omega)
      obtain ⟨u, hu⟩ : ∃ u, (ints m)[j] = u := ⟨_, rfl⟩
      rw [hu] at hcell
      clear hown1 hgr hc hv hg hown hst hrel hu he
      have hi1 : (0 : Int) ≤ (j : Int) := by omega
      have hi2 : (j : Int) < (l.length : Int) := by omega
      go_wp2
      go_roundw
      case rel =>
        try ((repeat apply Exists.intro); refine ⟨?_, rfl⟩)
        exact ⟨⟨j + 1, _, (by show _ = _; rw [List.length_set]; exact HL.out), HN, by omega, by go_num, by go_num, HX.out.1, HX.out.2⟩⟩
      case measure => simp [intOf]; omega
    · go_wp2
      go_ret
      have hje : j = l.length := by omega
      subst hje
      exact ⟨rfl, ⟨m, HL.out, HM.out, hown1⟩, hgr⟩

set_option maxHeartbeats 1000000 in
theorem heldI_any (w : World) (base : Nat) (v : Value) (m : List Int) (n k : Nat) (hn : m.length = n) (hown : OwnV w base 3 v (ints m)) (hM : Marked k m n) (hl : n ≤ 1048576) (hk1 : k ≤ 100000000) :
    Calls Try.prog 98 #[v, .int .i64 k] w fun e w' => e = .returned (.int .i64 ((k + n : Nat) : Int)) ∧ w' = w := by
  obtain ⟨a, cap, rfl, hc⟩ := hown.shape
  rw [ints_length, hn]
  go_enter Try.func98, Try.ntmps98
  go_wp2
  go_loopw [1, 5] (fun m i wr => Box (∃ (j : Nat), j ≤ n ∧ i = .int .i64 j ∧ m = .int .i64 ((k + j : Nat) : Int) ∧ w = wr))
    (fun _ i _ => n - (intOf i).toNat)
  case atStart => exact ⟨⟨0, by omega, rfl, rfl, rfl⟩⟩
  case round =>
    obtain ⟨j, hj, rfl, rfl, rfl⟩ := hrel.out
    by_cases hlt : j < n
    · have hjm : j < m.length := by omega
      obtain ⟨g, rfl, hcell, _, _, hgs⟩ := hc j (by rw [ints_length]; exact hjm)
      have hmj : m[j] = ((k + j : Nat) : Int) := by
        have := hM j hlt
        rw [List.getElem?_eq_getElem hjm] at this
        exact Option.some.inj this
      rw [ints_at hjm, hmj] at hcell
      simp only [Int.natCast_add] at hcell
      clear hc hown hM hmj hjm hn hrel
      have hi1 : (0 : Int) ≤ (j : Int) := by omega
      have hi2 : (j : Int) < (n : Int) := by omega
      go_wp2
      go_roundw
      case rel =>
        try ((repeat apply Exists.intro); refine ⟨?_, rfl⟩)
        exact ⟨⟨j + 1, by omega, by go_num, by go_num, by first | rfl | trivial⟩⟩
      case measure => simp [intOf]; omega
    · go_wp2
      go_ret
      exact ⟨ret_int (by omega), rfl⟩
end Go.Proofs.Ytfdbldmmhomifab
