/- Parts of a body: the other text's small functions. -/
import Derived.Test.YtnnaphfeeobelarDoorChunkPlain
import Derived.Test.YtnnaphfeeobelarDoorBase
import Derived.BigQuiet
import Derived.Lib.Strings
namespace Go.Proofs.YtnnaphfeeobelarDoor
open Go.RowKit Go.Sort
def allHex : ByteArray := ⟨#[48, 49, 50, 51, 52, 53, 54, 55, 56, 57, 97, 98, 99, 100, 101, 102]⟩
theorem allHex_at : ∀ n, n < 16 → allHex.extract n (n + 1) = ⟨#[fig n]⟩ := by decide
theorem run_hexAt (n : Nat) (hn : n < 16) (i j : Int) (hi : i = (n : Int)) (hj : j = (n : Int) + 1) (w : World) :
    (Instr.slice 9 (.string ⟨#[48, 49, 50, 51, 52, 53, 54, 55, 56, 57, 97, 98, 99, 100, 101, 102]⟩) (some (.int .i64 i)) (some (.int .i64 j)) none).run Tryd.prog w = .ok (.string ⟨#[fig n]⟩) w := by
  subst hi hj
  have h := run_slice_string (P := Tryd.prog) (w := w) 9 allHex .i64 .i64 (n : Int) ((n : Int) + 1) Tryd.underlying9 (by omega) (by omega) (by show (n : Int) + 1 ≤ 16; omega)
  rw [show (((n : Int) + 1).toNat) = n + 1 by omega, Int.toNat_natCast, allHex_at n hn] at h
  exact h
set_option maxRecDepth 100000 in
set_option maxHeartbeats 2000000 in
theorem specFigures_any (n : Nat) (hn : n < 256) (w : World) :
    Calls Tryd.prog 43 #[.int .i64 n] w fun e w' => e = .returned (.string ⟨(figsL n).toArray⟩) ∧ Below w.heap.size w w' := by
  unfold figsL
  by_cases h : n < 16
  · rw [if_pos h]
    have hi : (n : Int) < 16 := by omega
    have h1 := run_hexAt n h (n : Int) ((n : Int) + 1) rfl rfl
    clear hn
    go_enter Tryd.func43, Tryd.ntmps43
    go_wp2_with fail
    go_ret
    exact ⟨rfl, Below.refl _ _⟩
  · rw [if_neg h]
    have hi : ¬ (n : Int) < 16 := by omega
    obtain ⟨q, hq⟩ : ∃ q : Nat, n / 16 = q := ⟨_, rfl⟩
    obtain ⟨r, hr⟩ : ∃ r : Nat, n % 16 = r := ⟨_, rfl⟩
    have d1 : (n : Int).tdiv 16 = (q : Int) := by rw [Int.tdiv_eq_ediv_of_nonneg (by omega)]; omega
    have d2 : (n : Int).tmod 16 = (r : Int) := by rw [Int.tmod_eq_emod_of_nonneg (by omega)]; omega
    have hq16 : q < 16 := by omega
    have hr16 : r < 16 := by omega
    have h1 := run_hexAt q hq16 (q : Int) ((q : Int) + 1) rfl rfl
    have h2 := run_hexAt r hr16 (r : Int) ((r : Int) + 1) rfl rfl
    have s1 := fun w => run_string_add_sum (P := Tryd.prog) (w := w) ⟨#[fig q]⟩ ⟨#[fig r]⟩ (by show 1 + 1 ≤ _; omega)
    rw [hq, hr]
    have e : (⟨#[fig q]⟩ ++ ⟨#[fig r]⟩ : ByteArray) = ⟨[fig q, fig r].toArray⟩ := rfl
    rw [e] at s1
    have HN : Hid (n < 256) := hn
    clear hn h hq hr e
    generalize (⟨[fig q, fig r].toArray⟩ : ByteArray) = z at s1 ⊢
    go_enter Tryd.func43, Tryd.ntmps43
    go_wp2_with fail
    go_quiet (fail)
    go_wp2_with fail
    go_ret
    exact ⟨rfl, ⟨rfl, rfl, rfl, Nat.le_refl _, fun _ _ => rfl⟩⟩
set_option maxRecDepth 100000 in
set_option maxHeartbeats 2000000 in
theorem specValue_any (b : UInt8) (w : World) :
    Calls Tryd.prog 70 #[.int .u8 (b.toNat : Int)] w fun e w' => e = .returned (.int .i64 (hexI b)) ∧ w' = w := by
  have hbl : b.toNat < 256 := b.toNat_lt
  obtain ⟨R, hR⟩ : ∃ R, hexI b = R := ⟨_, rfl⟩
  rw [hR]
  have HR : Hid (hexI b = R) := hR
  clear hR
  unfold hexI hexV at HR
  by_cases h1 : 48 ≤ b.toNat ∧ b.toNat ≤ 57
  · have HE : Hid (R = (b.toNat : Int) - 48) := by show _ = _; rw [← HR.out, if_pos h1]; simp only []; omega
    obtain ⟨g1, g2⟩ := h1
    clear HR
    go_enter Tryd.func70, Tryd.ntmps70
    go_wp2
    go_ret
    exact ⟨by rw [HE.out]; rfl, rfl⟩
  by_cases h2 : 97 ≤ b.toNat ∧ b.toNat ≤ 102
  · have HE : Hid (R = (b.toNat : Int) - 87) := by show _ = _; rw [← HR.out, if_neg h1, if_pos h2]; simp only []; omega
    obtain ⟨g1, g2⟩ := h2
    have g3 : ¬ (b.toNat : Int) ≤ 57 := by omega
    have g4 : (48 : Int) ≤ (b.toNat : Int) := by omega
    clear HR h1
    go_enter Tryd.func70, Tryd.ntmps70
    go_wp2
    go_ret
    exact ⟨by rw [HE.out]; rfl, rfl⟩
  by_cases h3 : 65 ≤ b.toNat ∧ b.toNat ≤ 70
  · have HE : Hid (R = (b.toNat : Int) - 55) := by show _ = _; rw [← HR.out, if_neg h1, if_neg h2, if_pos h3]; simp only []; omega
    obtain ⟨g1, g2⟩ := h3
    have g3 : ¬ (b.toNat : Int) ≤ 57 := by omega
    have g4 : (48 : Int) ≤ (b.toNat : Int) := by omega
    have g5 : ¬ (97 : Int) ≤ (b.toNat : Int) := by omega
    clear HR h1 h2
    go_enter Tryd.func70, Tryd.ntmps70
    go_wp2
    go_ret
    exact ⟨by rw [HE.out]; rfl, rfl⟩
  have HE : Hid (R = -1) := by show _ = _; rw [← HR.out, if_neg h1, if_neg h2, if_neg h3]
  clear HR
  rcases (show b.toNat < 48 ∨ (57 < b.toNat ∧ b.toNat < 65) ∨ (70 < b.toNat ∧ b.toNat < 97) ∨ 102 < b.toNat by omega) with g | ⟨g, g'⟩ | ⟨g, g'⟩ | g
  all_goals
    have i1 := Nat.lt_irrefl 0
    clear h1 h2 h3
    go_enter Tryd.func70, Tryd.ntmps70
    go_wp2
    go_ret
    exact ⟨by rw [HE.out]; rfl, rfl⟩
set_option maxRecDepth 100000 in
set_option maxHeartbeats 4000000 in
theorem specEnd_any (s : ByteArray) (k : Nat) (hk : k ≤ s.size) (hs : s.size ≤ 1048576) (w : World) :
    Calls Tryd.prog 46 #[.string s, .int .i64 k] w fun e w' => e = .returned (.int .i64 (endS s.data.toList k)) ∧ Below w.heap.size w w' := by
  obtain ⟨l, hl⟩ : ∃ l, s.data.toList = l := ⟨_, rfl⟩
  have hsz : s.size = l.length := by rw [← hl]; exact Lib.size_eq s
  rw [hl]
  obtain ⟨R, hR⟩ : ∃ R, endS l k = R := ⟨_, rfl⟩
  rw [hR]
  have HR : Hid (endS l k = R) := hR
  clear hR
  have gt : ∀ j (hj : j < s.size), l[j]? = some s[j] := by
    intro j hj
    subst hl
    rw [List.getElem?_eq_getElem (by rw [← Lib.size_eq]; exact hj)]
    rfl
  have HD : Hid (∀ (W : World) (n : Nat), Below W.heap.size W (W.drewN n)) := fun W n => ⟨rfl, rfl, rfl, Nat.le_refl _, fun _ _ => rfl⟩
  by_cases h0 : k < s.size
  case neg =>
    have HE : Hid (R = 0) := by show _ = _; rw [← HR.out]; unfold endS; rw [List.getElem?_eq_none (by omega)]
    have hin : s.size ≤ k := by omega
    clear HR gt hl hsz h0
    go_enter Tryd.func46, Tryd.ntmps46
    go_wp2_with fail
    refine wp_loop_rounds 3 ?_
    rw [rounds_succ]
    go_wp2_with fail
    go_ret
    exact ⟨by rw [HE.out]; rfl, Below.refl _ _⟩
  obtain ⟨b, hb⟩ : ∃ b, s[k] = b := ⟨_, rfl⟩
  have gb : l[k]? = some b := by rw [gt k h0, hb]
  have hbl : b.toNat < 256 := b.toNat_lt
  have hin : ¬ s.size ≤ k := by omega
  have hi1 : (k : Int) < (s.size : Int) := by omega
  have hx0 : ∀ W : World, (Instr.index 9 (.string s) (.int .i64 (k : Int))).run Tryd.prog W = .ok (.int .u8 (b.toNat : Int)) W := by
    intro W
    rw [run_index_string W 9 s .i64 (k : Int) Tryd.underlying9, dif_pos ⟨by omega, by omega⟩]
    rw [← hb]
    rfl
  have e0 : ∀ W : World, (Instr.index 9 (.string ⟨#[13, 10]⟩) (.int .i64 0)).run Tryd.prog W = .ok (.int .u8 13) W := fun W => by rw [run_index_string W 9 _ .i64 0 Tryd.underlying9]; rfl
  have e1 : ∀ W : World, (Instr.index 9 (.string ⟨#[13, 10]⟩) (.int .i64 1)).run Tryd.prog W = .ok (.int .u8 10) W := fun W => by rw [run_index_string W 9 _ .i64 1 Tryd.underlying9]; rfl
  by_cases h13 : b.toNat = 13
  case neg =>
    have HE : Hid (R = -1) := by show _ = _; rw [← HR.out]; unfold endS; rw [gb]; simp only []; rw [if_neg h13]
    have hne : ((b.toNat : Int) != 13) = true := by simp; omega
    clear HR gt hl hsz h0 hk hb gb h13
    go_enter Tryd.func46, Tryd.ntmps46
    go_wp2_with fail
    refine wp_loop_rounds 3 ?_
    rw [rounds_succ]
    go_wp2_with fail
    go_quiet (fail)
    go_wp2_with fail
    go_ret
    exact ⟨by rw [HE.out]; rfl, HD.out _ _⟩
  have hne : ((b.toNat : Int) != 13) = false := by simp; omega
  by_cases h1 : k + 1 < s.size
  case neg =>
    have HE : Hid (R = 0) := by show _ = _; rw [← HR.out]; unfold endS; rw [gb]; simp only []; rw [if_pos h13, List.getElem?_eq_none (by omega)]
    have hin1 : s.size ≤ k + 1 := by omega
    have hin2 : (s.size : Int) ≤ (k : Int) + 1 := by omega
    clear HR gt hl hsz h0 hk hb gb h13 h1
    go_enter Tryd.func46, Tryd.ntmps46
    go_wp2_with fail
    refine wp_loop_rounds 3 ?_
    rw [rounds_succ]
    go_wp2_with fail
    go_quiet (fail)
    go_wp2_with fail
    rw [rounds_succ]
    go_wp2_with fail
    go_ret
    exact ⟨by rw [HE.out]; rfl, HD.out _ _⟩
  obtain ⟨c, hc⟩ : ∃ c, s[k + 1] = c := ⟨_, rfl⟩
  have gc : l[k + 1]? = some c := by rw [gt (k + 1) h1, hc]
  have hcl : c.toNat < 256 := c.toNat_lt
  have hin1 : ¬ s.size ≤ k + 1 := by omega
  have hin2 : ¬ (s.size : Int) ≤ (k : Int) + 1 := by omega
  have hx1 : ∀ W : World, (Instr.index 9 (.string s) (.int .i64 ((k : Int) + 1))).run Tryd.prog W = .ok (.int .u8 (c.toNat : Int)) W := by
    intro W
    have := run_index_string (P := Tryd.prog) W 9 s .i64 ((k + 1 : Nat) : Int) Tryd.underlying9
    rw [dif_pos ⟨by omega, by omega⟩] at this
    rw [show (k : Int) + 1 = ((k + 1 : Nat) : Int) by omega, this, ← hc]
    rfl
  by_cases h10 : c.toNat = 10
  · have HE : Hid (R = (k : Int) + 2) := by show _ = _; rw [← HR.out]; unfold endS; rw [gb]; simp only []; rw [if_pos h13, gc]; simp only []; rw [if_pos h10]
    have hnc : ((c.toNat : Int) != 10) = false := by simp; omega
    clear HR gt hl hsz h0 hk hb gb h13 h1 hc gc h10
    go_enter Tryd.func46, Tryd.ntmps46
    go_wp2_with fail
    refine wp_loop_rounds 3 ?_
    rw [rounds_succ]
    go_wp2_with fail
    go_quiet (fail)
    go_wp2_with fail
    rw [rounds_succ]
    go_wp2_with fail
    go_quiet (fail)
    go_wp2_with fail
    rw [rounds_succ]
    go_wp2_with fail
    go_ret
    exact ⟨by rw [HE.out]; rfl, ⟨rfl, rfl, rfl, Nat.le_refl _, fun _ _ => rfl⟩⟩
  · have HE : Hid (R = -1) := by show _ = _; rw [← HR.out]; unfold endS; rw [gb]; simp only []; rw [if_pos h13, gc]; simp only []; rw [if_neg h10]
    have hnc : ((c.toNat : Int) != 10) = true := by simp; omega
    clear HR gt hl hsz h0 hk hb gb h13 h1 hc gc h10
    go_enter Tryd.func46, Tryd.ntmps46
    go_wp2_with fail
    refine wp_loop_rounds 3 ?_
    rw [rounds_succ]
    go_wp2_with fail
    go_quiet (fail)
    go_wp2_with fail
    rw [rounds_succ]
    go_wp2_with fail
    go_quiet (fail)
    go_wp2_with fail
    go_ret
    exact ⟨by rw [HE.out]; rfl, ⟨rfl, rfl, rfl, Nat.le_refl _, fun _ _ => rfl⟩⟩
end Go.Proofs.YtnnaphfeeobelarDoor
