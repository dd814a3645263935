/- Texts that stand in one: MarkText, MarkListW. -/
import Derived.Test.YtonaaimefcgcnaaSkLaw3J
import Derived.Test.YtonaaimefcgcnaaRowedJ
import Derived.Lib.QuietBelow
import Derived.BigQuiet
namespace Go.Proofs.Ytonaaimefcgcnaa
open Go.RowKit Go.Sort

theorem mark_cons (c : UInt8) (l : List UInt8) : (⟨[c].toArray⟩ : ByteArray) ++ (⟨l.toArray⟩ : ByteArray) = ⟨(c :: l).toArray⟩ := by rw [ByteArray.mk_append_mk]; rfl
theorem mark_down {f k : Nat} (h : k < 10 ^ (f + 1)) : k / 10 < 10 ^ f := by rw [Nat.pow_succ] at h; omega

/-- The mark of the number k. -/
def mkT (k : Nat) : ByteArray := ⟨(109 :: digF 20 k []).toArray⟩

set_option maxHeartbeats 1000000 in
theorem markText_any (m : Nat) (w : World) (h0 : 0 < m) (hm : m ≤ 9223372036854775807) :
    Calls Try.prog 92 #[.int .i64 m] w fun e w' => e = .returned (.string (mkT m)) ∧ Below w.heap.size w w' := by
  go_enter Try.func92, Try.ntmps92
  go_wp2
  go_loopw [0, 3] (fun n v wr => Box (∃ (f k : Nat) (l : List UInt8), n = .int .i64 k ∧ v = .string ⟨l.toArray⟩ ∧ k ≤ 9223372036854775807 ∧ k < 10 ^ f ∧ l.length + f ≤ 20 ∧ Hid (digF f k l = digF 20 m []) ∧ Below w.heap.size w wr))
    (fun n _ _ => (intOf n).toNat)
  case atStart => exact ⟨⟨20, m, [], rfl, rfl, hm, by omega, by simp, rfl, Below.refl _ _⟩⟩
  case round =>
    obtain ⟨f, k, l, rfl, rfl, hk, hkf, hlf, hl, hbel⟩ := hrel.out
    have hsz := hbel.size
    by_cases hlt : 0 < k
    · obtain ⟨d, hd, HD⟩ : ∃ d : Nat, d < 10 ∧ (k : Int) % 10 = (d : Int) := ⟨k % 10, by omega, by omega⟩
      have hcv := fun w => one_text_of (P := Try.prog) w 135 9 5 (fig d) (48 + (d : Int)) (by rw [fig_lo hd]; simp) Try.underlying135 Try.underlying5 Try.underlying9
      go_wp2
      go_roundw
      case rel =>
        try ((repeat apply Exists.intro); refine ⟨?_, rfl⟩)
        match f, hkf, hlf, hl with
        | 0, hkf, _, _ => simp at hkf; omega
        | f + 1, hkf, hlf, hl =>
          exact ⟨⟨f, k / 10, fig d :: l, by go_num, congrArg Value.string (mark_cons _ _), by omega, mark_down hkf, by simp; omega, by
            have := hl.out
            rw [digF_on (by omega), show k % 10 = d by omega] at this
            exact this, hbel.alloc hsz _⟩⟩
      case measure => simp [intOf]; omega
    · go_wp2
      go_ret
      have hk0 : k = 0 := by omega
      exact ⟨by
        have h1 := hl.out
        rw [hk0, digF_zero] at h1
        rw [show (⟨#[109]⟩ : ByteArray) ++ ⟨l.toArray⟩ = ⟨(109 :: l).toArray⟩ from mark_cons _ _, h1]
        rfl, hbel⟩
end Go.Proofs.Ytonaaimefcgcnaa

namespace Go.Proofs.Ytonaaimefcgcnaa
open Go.RowKit Go.Sort

theorem Try.info9 : (Try.prog.info? 9).map (fun i => (i.zero, i.size, i.bytes)) = some (some (.string ⟨#[]⟩), 1, 16) := by kernel_rfl

/-- Two lists of the same texts are found alike. -/
theorem eqS_same (w : World) (b1 b2 : Nat) (va vb : Value) (l : List ByteArray) (ha : OwnV w b1 9 va (strs l)) (hb : OwnV w b2 9 vb (strs l)) (hl : l.length ≤ 1000000) :
    Calls Try.prog 84 #[va, vb] w fun e w' => e = .returned (.bool true) ∧ ∃ n, w' = w.drewN n := by
  obtain ⟨a, cap, rfl, hca⟩ := ha.shape
  obtain ⟨a2, cap2, rfl, hcb⟩ := hb.shape
  rw [strs_length]
  clear ha hb
  go_enter Try.func84, Try.ntmps84
  go_wp2
  go_loopw [5] (fun i wr => Box (∃ (k nq : Nat), k ≤ l.length ∧ i = .int .i64 k ∧ wr = w.drewN nq))
    (fun i _ => l.length - (intOf i).toNat)
  case atStart => exact ⟨⟨0, 0, by omega, rfl, rfl⟩⟩
  case round =>
    obtain ⟨k, nq, hk, rfl, rfl⟩ := hrel.out
    by_cases hlt : k < l.length
    · obtain ⟨g, rfl, hc1, _⟩ := hca k (by rw [strs_length]; exact hlt)
      obtain ⟨g2, rfl, hc2, _⟩ := hcb k (by rw [strs_length]; exact hlt)
      rw [strs_at hlt] at hc1 hc2
      obtain ⟨x, hx⟩ : ∃ x, l[k] = x := ⟨_, rfl⟩
      rw [hx] at hc1 hc2
      clear hca hcb hx
      have hi1 : (0 : Int) ≤ (k : Int) := by omega
      have hi2 : (k : Int) < (l.length : Int) := by omega
      go_wp2
      go_quiet (fail)
      go_wp2
      go_roundw
      case rel =>
        try ((repeat apply Exists.intro); refine ⟨?_, rfl⟩)
        exact ⟨⟨k + 1, _, by omega, by go_num, rfl⟩⟩
      case measure => simp [intOf]; omega
    · go_wp2
      go_ret
      exact ⟨rfl, _, rfl⟩

/-- The marks k, k + 1 .. -/
def marks (k n : Nat) : List Value := (List.range n).map fun j => Value.string (mkT (k + j))
theorem marks_length (k n : Nat) : (marks k n).length = n := by simp [marks]
theorem marks_at {k n j : Nat} (h : j < n) : (marks k n)[j]'(by rw [marks_length]; exact h) = .string (mkT (k + j)) := by simp [marks]
theorem marks_succ (k n : Nat) : marks k (n + 1) = marks k n ++ [.string (mkT (k + n))] := by simp [marks, List.range_succ]
theorem marks_set (k j : Nat) (xs : List Value) (h : j < xs.length) : (marks k j ++ xs.drop j).set j (.string (mkT (k + j))) = marks k (j + 1) ++ xs.drop (j + 1) := by
  rw [List.set_append_right _ _ (by rw [marks_length]; exact Nat.le_refl _), marks_length, Nat.sub_self, List.drop_eq_getElem_cons h, List.set_cons_zero, marks_succ]
  simp

set_option maxHeartbeats 1000000 in
/-- The marks are laid. -/
theorem markS_any (w : World) (base : Nat) (v : Value) (xs : List Value) (k : Nat) (hown : OwnV w base 9 v xs) (hl : xs.length ≤ 10000000) (hk0 : 0 < k) (hk1 : k ≤ 10000000) :
    Calls Try.prog 93 #[v, .int .i64 k] w fun e w' => e = .returned (.int .i64 ((k + xs.length : Nat) : Int)) ∧ OwnV w' base 9 v (marks k xs.length) ∧ w.grownBy w' v.ownBlock := by
  obtain ⟨a, cap, rfl, _⟩ := hown.shape
  go_enter Try.func93, Try.ntmps93
  go_wp2
  go_loopw [1, 5] (fun n i wr => Box (∃ (j : Nat), j ≤ xs.length ∧ i = .int .i64 j ∧ n = .int .i64 ((k + j : Nat) : Int) ∧ OwnV wr base 9 (.slice a xs.length cap) (marks k j ++ xs.drop j) ∧ w.grownBy wr (Value.slice a xs.length cap).ownBlock))
    (fun _ i _ => xs.length - (intOf i).toNat)
  case atStart => exact ⟨⟨0, by omega, rfl, rfl, hown, grownBy_refl _ _⟩⟩
  case round =>
    obtain ⟨j, hj, rfl, rfl, hown1, hgr⟩ := hrel.out
    by_cases hlt : j < xs.length
    · have hlen : (marks k j ++ xs.drop j).length = xs.length := by rw [List.length_append, marks_length, List.length_drop]; omega
      obtain ⟨a', cap', hv, hc⟩ := hown1.shape
      obtain ⟨g, hg, hcell, hfr, hbg, hgs⟩ := hc j (by omega)
      rw [hg] at hv
      have ha : a = some ⟨g, 0, none⟩ := by simp only [Value.slice.injEq] at hv; exact hv.1
      subst ha
      have c1 := markText_any (k + j) wr (by omega) (by omega)
      have HX : Hid (∀ w1, Below wr.heap.size wr w1 → OwnV (w1.setCell ⟨g, j, none⟩ (.string (mkT (k + j)))) base 9 (.slice (some ⟨g, 0, none⟩) xs.length cap) (marks k (j + 1) ++ xs.drop (j + 1)) ∧ w.grownBy (w1.setCell ⟨g, j, none⟩ (.string (mkT (k + j)))) (Value.slice (some ⟨g, 0, none⟩) xs.length cap).ownBlock) := by
        intro w1 hb
        have h1 := hown1.below hb (Nat.le_refl _)
        have h2 := h1.stored hlen.symm j (.string (mkT (k + j)))
        rw [marks_set k j xs hlt] at h2
        exact ⟨h2.1, grownBy_trans hgr (grownBy_trans (grownBy_below hb) h2.2)⟩
      clear hown1 hgr hc hv hg hown
      have hi1 : (0 : Int) ≤ (j : Int) := by omega
      have hi2 : (j : Int) < (xs.length : Int) := by omega
      go_wp2_with (go_at_call 92; refine c1.mono ?_; rintro e w1 ⟨rfl, hb1⟩; have hcell1 := (hb1.cell (p := ⟨g, j, none⟩) hgs).trans hcell; have hfr1 := (hb1.frozen (p := ⟨g, j, none⟩) hgs).trans hfr)
      go_roundw
      case rel =>
        try ((repeat apply Exists.intro); refine ⟨?_, rfl⟩)
        have h := HX.out w1 hb1
        exact ⟨⟨j + 1, by omega, by go_num, by go_num, h.1, h.2⟩⟩
      case measure => simp [intOf]; omega
    · go_wp2
      go_ret
      have hje : j = xs.length := by omega
      subst hje
      rw [List.drop_of_length_le (Nat.le_refl _), List.append_nil] at hown1
      exact ⟨ret_int (by simp), hown1, hgr⟩

set_option maxHeartbeats 1000000 in
/-- The marks are found again. -/
theorem heldS_any (w : World) (base : Nat) (v : Value) (n k : Nat) (hown : OwnV w base 9 v (marks k n)) (hl : n ≤ 10000000) (hk0 : 0 < k) (hk1 : k ≤ 10000000) :
    Calls Try.prog 95 #[v, .int .i64 k] w fun e w' => e = .returned (.int .i64 ((k + n : Nat) : Int)) ∧ Below w.heap.size w w' := by
  obtain ⟨a, cap, rfl, hc⟩ := hown.shape
  rw [marks_length] at *
  go_enter Try.func95, Try.ntmps95
  go_wp2
  go_loopw [1, 5] (fun m i wr => Box (∃ (j : Nat), j ≤ n ∧ i = .int .i64 j ∧ m = .int .i64 ((k + j : Nat) : Int) ∧ Below w.heap.size w wr))
    (fun _ i _ => n - (intOf i).toNat)
  case atStart => exact ⟨⟨0, by omega, rfl, rfl, Below.refl _ _⟩⟩
  case round =>
    obtain ⟨j, hj, rfl, rfl, hbel⟩ := hrel.out
    by_cases hlt : j < n
    · obtain ⟨g, rfl, hcell, _, _, hgs⟩ := hc j (by rw [marks_length]; exact hlt)
      rw [marks_at hlt] at hcell
      have hcell1 := (hbel.cell (p := ⟨g, j, none⟩) hgs).trans hcell
      have kc := cell_regrown hcell1
      have cV : ∀ d os, Calls Try.prog 92 #[.int .i64 ((k : Int) + (j : Int))] (grow (redrawn wr d) os) fun e w'' => e = .returned (.string (mkT (k + j))) ∧ ∃ p : Regrown, w'' = grow (redrawn wr p.d) p.os := fun d os => Calls.regrown_of (by have := markText_any (k + j) (grow (redrawn wr d) os) (by omega) (by omega); simpa using this)
      clear hc hown hcell
      have hi1 : (0 : Int) ≤ (j : Int) := by omega
      have hi2 : (j : Int) < (n : Int) := by omega
      go_wp2
      refine wp_region_quiet_below (by kernel_rfl) (by kernel_rfl) ?_
      repeat (first | go_big_quiet_step (exact cV _ _) | quiet_step (exact cV _ _))
      refine wpQuiet_nil ?_
      intro _ hw'
      obtain ⟨⟨dq, osq⟩, hw''⟩ := hw'
      subst hw''
      go_wp2
      go_roundw
      case rel =>
        try ((repeat apply Exists.intro); refine ⟨?_, rfl⟩)
        exact ⟨⟨j + 1, by omega, by go_num, by go_num, hbel.trans ((below_regrown wr dq osq).mono hbel.size)⟩⟩
      case measure => simp [intOf]; omega
    · go_wp2
      go_ret
      exact ⟨ret_int (by omega), hbel⟩
end Go.Proofs.Ytonaaimefcgcnaa
