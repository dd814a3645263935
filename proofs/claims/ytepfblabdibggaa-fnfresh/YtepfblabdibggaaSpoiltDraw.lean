/- A text is spoilt, or not. -/
import Derived.Test.YtepfblabdibggaaDraws
import Derived.Deep.RegionLaw
namespace Go.Proofs.Ytepfblabdibggaa
open Go.RowKit
set_option maxRecDepth 100000 in
set_option maxHeartbeats 4000000 in
theorem spoilt_any (w : World) (p : Nat) (ca : Option Addr) (n cap : Nat) (s : ByteArray) (hs : s.size ≤ 100000) (hc : Cur w p ca n cap) (hcode : CodeAt w ca n p) (hn : n ≤ 1048576) :
    Calls Try.prog 31 #[.pointer (some ⟨p, 0, none⟩), .string s] w fun e w' => ∃ t : ByteArray, e = .returned (.string t) ∧ t.size ≤ s.size + 1 ∧ Left w w' p ca n cap := by
  have hp := hc.lt
  have c1 := below_any w p ca n cap 12 hc hcode hn (by omega) (by omega)
  clear hc hcode
  go_enter Try.func31, Try.ntmps31
  go_wp2_with fail
  refine c1.mono ?_
  rintro e w1 ⟨x, hx, _, rfl, hl⟩
  have hx2 := hx (by omega)
  clear c1 hx
  by_cases h0 : x = 0
  · subst h0
    have c2 := text_any w1 p ca n cap 1 hl.1 hl.2.1 hn (by omega) (by omega)
    go_wp2_with fail
    refine c2.mono ?_
    rintro e w2 ⟨t, ht, rfl, hl2⟩
    have hl3 := hl.trans hl2
    clear c2 hl hl2
    go_wp2_with fail
    go_ret
    exact ⟨_, rfl, by simp; omega, hl3⟩
  by_cases h1 : x = 1
  · subst h1
    have c2 := below_any w1 p ca n cap ((s.size : Int) + 1) hl.1 hl.2.1 hn (by omega) (by omega)
    go_wp2_with fail
    refine c2.mono ?_
    rintro e w2 ⟨y, hy, _, rfl, hl2⟩
    have hy2 := hy (by omega)
    have hl3 := hl.trans hl2
    have hsl := fun w => run_slice_string_h (P := Try.prog) w 9 s Try.underlying9 .i64 (y : Int) (by omega) (by omega)
    clear c2 hl hl2 hy
    go_wp2_with fail
    go_ret
    exact ⟨_, rfl, by simp; omega, hl3⟩
  by_cases h2 : (x = 2 ∨ x = 3) ∧ 0 < s.size
  · obtain ⟨h23, hs0⟩ := h2
    have hs1 : (0 : Int) < (s.size : Int) := by omega
    have c2 := below_any w1 p ca n cap (s.size : Int) hl.1 hl.2.1 hn (by omega) (by omega)
    have main : ∀ x : Nat, (x = 2 ∨ x = 3) → True := fun _ _ => trivial
    clear main
    rcases h23 with rfl | rfl
    all_goals
      go_wp2_with fail
      refine c2.mono ?_
      rintro e w2 ⟨y, hy, _, rfl, hl2⟩
      have hy2 := hy (by omega)
      have hl3 := hl.trans hl2
      have hsl := fun w => run_slice_string_h (P := Try.prog) w 9 s Try.underlying9 .i64 (y : Int) (by omega) (by omega)
      have hsr := fun w => run_slice_string_l (P := Try.prog) w 9 s Try.underlying9 .i64 ((y : Int) + 1) (by omega) (by omega)
      rw [Int.toNat_natCast] at hsl
      rw [show ((y : Int) + 1).toNat = y + 1 by omega] at hsr
      obtain ⟨A, hA⟩ : ∃ A, s.extract 0 y = A := ⟨_, rfl⟩
      obtain ⟨B, hB⟩ : ∃ B, s.extract (y + 1) s.size = B := ⟨_, rfl⟩
      have HA1 : Hid (A.size = y ∧ y < s.size) := by refine ⟨?_, by omega⟩; rw [← hA]; simp; omega
      have HB1 : Hid (B.size = s.size - (y + 1)) := by show _ = _; rw [← hB]; simp
      rw [hA] at hsl
      rw [hB] at hsr
      clear hA hB
      have hdf : Left w2 w2.drew p ca n cap := ⟨hl3.1.kept rfl, hl3.2.1.kept (fun _ _ => rfl), ⟨rfl, rfl, rfl, Nat.le_refl _, fun _ _ _ => rfl⟩⟩
      have hld := hl3.trans hdf
      have haz : IntKind.i64.wrap ((y : Int) + 1) = (y : Int) + 1 := by rw [IntKind.wrap_i64]; omega
      clear c2 hl hl2 hy hl3 hdf
      go_wp2_with fail
      go_region_law (go_simp; go_at_call 50; refine (text_any _ p ca n cap 1 hld.1 hld.2.1 hn (by omega) (by omega)).mono ?_; rintro e w3 ⟨t, ht, rfl, hl4⟩; have hl5 := hld.trans hl4; have HT : Hid (A.size + t.size + B.size = s.size) := (by show _ = _; have := HA1.out; have := HB1.out; omega); clear ht; have q1 : ¬ 9223372036854775807 < A.size + t.size := (by have := HT.out; omega); have q2 : ¬ 9223372036854775807 < (A ++ t).size + B.size := (by rw [ByteArray.size_append]; have := HT.out; omega); have q3 : ¬ 9223372036854775807 < A.size + t.size + B.size := (by have := HT.out; omega))
      all_goals (
        clear hld hl4
        go_wp2_with fail
        go_ret
        exact ⟨_, rfl, by have := HT.out; simp; omega, hl5⟩)
  by_cases h3 : x = 2
  · subst h3
    have hs0 : ¬ (0 : Int) < (s.size : Int) := by omega
    go_wp2_with fail
    go_ret
    exact ⟨_, rfl, by omega, hl⟩
  by_cases h4 : x = 3
  · subst h4
    have hs0 : ¬ (0 : Int) < (s.size : Int) := by omega
    go_wp2_with fail
    go_ret
    exact ⟨_, rfl, by omega, hl⟩
  have e0 : (x : Int) ≠ 0 := by omega
  have e1 : (x : Int) ≠ 1 := by omega
  have e2 : (x : Int) ≠ 2 := by omega
  have e3 : (x : Int) ≠ 3 := by omega
  go_wp2_with fail
  go_ret
  exact ⟨_, rfl, by omega, hl⟩
end Go.Proofs.Ytepfblabdibggaa
