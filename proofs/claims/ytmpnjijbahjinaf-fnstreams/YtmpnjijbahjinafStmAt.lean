/- The other text's l14At: where a reader is. -/
import Derived.Test.YtmpnjijbahjinafStmBase
namespace Go.Proofs.Ytmpnjijbahjinaf
open Go.RowKit Go.Sort

theorem atM_hit (l : List (Int × Int)) (id : Int) (k : Nat) (hk : k < l.length) (h : l[k].1 = id) (hb : ∀ j (hj : j < l.length), j < k → ¬ l[j].1 = id) : atM l id = k := by
  have : l.findIdx? (fun r => decide (r.1 = id)) = some k := by
    rw [List.findIdx?_eq_some_iff_getElem]
    exact ⟨hk, by simpa using h, fun j hj => by simpa using hb j (by omega) hj⟩
  unfold atM
  rw [this]
theorem atM_miss (l : List (Int × Int)) (id : Int) (hb : ∀ j (hj : j < l.length), ¬ l[j].1 = id) : atM l id = -1 := by
  have : l.findIdx? (fun r => decide (r.1 = id)) = none := by
    rw [List.findIdx?_eq_none_iff]
    intro r hr
    obtain ⟨j, hj, rfl⟩ := List.getElem_of_mem hr
    simpa using hb j hj
  unfold atM
  rw [this]
set_option maxRecDepth 100000 in
set_option maxHeartbeats 4000000 in
theorem l14At_any (w : World) (a : Option Addr) (c : Nat) (S : Stm) (id : Int) (hE : PAt w a S.rd w.heap.size) (hm : S.rd.length ≤ 1048577) :
    Calls Try.prog 57 #[.agg #[.int .i64 S.st, .string S.text, .slice a S.rd.length c], .int .i64 id] w fun e w' => e = .returned (.int .i64 (atM S.rd id)) ∧ Below w.heap.size w w' := by
  obtain ⟨st, t, rd⟩ := S
  dsimp only at hE hm ⊢
  obtain ⟨w1, hw1⟩ : ∃ w1, w.alloc (.cells #[.int .i64 st, .string t, .slice a rd.length c] 26) = w1 := ⟨_, rfl⟩
  have hb1 : Below w.heap.size w w1 := by rw [← hw1]; exact (Below.refl _ _).alloc (Nat.le_refl _) _
  have hB1 : MBox w1 w.heap.size (.int .i64 st) (.string t) (.slice a rd.length c) := by rw [← hw1]; exact MBox.new _ _ _ _
  have hE1 : PAt w1 a rd w1.heap.size := hE.on hb1
  have HW : Hid (w.alloc (.cells #[.int .i64 st, .string t, .slice a rd.length c] 26) = w1) := hw1
  have HB : Hid (Below w.heap.size w w1) := hb1
  obtain ⟨b0, b1, b2⟩ := hB1.cells
  clear hw1 hE hb1
  go_enter Try.func57, Try.ntmps57
  go_wp2_with fail
  rw [HW.out]
  go_loopw [5] (fun i wr => Box (∃ k : Nat, k ≤ rd.length ∧ i = .int .i64 k ∧ (∀ j (hj : j < rd.length), j < k → ¬ rd[j].1 = id) ∧ wr = w1))
    (fun i _ => rd.length - (intOf i).toNat)
  case atStart => exact ⟨⟨0, by omega, rfl, fun j _ hj => absurd hj (Nat.not_lt_zero _), rfl⟩⟩
  case round =>
    obtain ⟨k, hk, rfl, hno, rfl⟩ := hrel.out
    have HN : Hid (∀ j (hj : j < rd.length), j < k → ¬ rd[j].1 = id) := hno
    clear hno hrel
    by_cases hlt : k < rd.length
    · obtain ⟨gg, offg, rfl, _, q0, q1⟩ := hE1 k hlt
      have hi1 : (0 : Int) ≤ (k : Int) := by omega
      have hi3 : (k : Int) < (rd.length : Int) := by omega
      by_cases hx : rd[k].1 = id
      · have HA : Hid (atM rd id = k) := atM_hit rd id k hlt hx HN.out
        have hx' : (rd[k].1 == id) = true := by simp [hx]
        go_wp2_with fail
        go_ret
        exact ⟨by rw [HA.out]; rfl, HB.out⟩
      · have hx' : (rd[k].1 == id) = false := by simp [hx]
        go_wp2_with fail
        go_roundw
        case rel =>
          try ((repeat apply Exists.intro); refine ⟨?_, rfl⟩)
          refine ⟨⟨k + 1, by omega, by go_num, fun j hj hjk => ?_, by first | rfl | trivial⟩⟩
          by_cases e : j = k
          · subst e; exact hx
          · exact HN.out j hj (by omega)
        case measure => simp [intOf]; omega
    · have hi3 : ¬ (k : Int) < (rd.length : Int) := by omega
      have HA : Hid (atM rd id = -1) := atM_miss rd id fun j hj => HN.out j hj (by omega)
      go_wp2_with fail
      go_ret
      exact ⟨by rw [HA.out]; rfl, HB.out⟩
end Go.Proofs.Ytmpnjijbahjinaf
