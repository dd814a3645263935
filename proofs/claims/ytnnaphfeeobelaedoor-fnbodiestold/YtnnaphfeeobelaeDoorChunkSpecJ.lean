/- Texts that stand in one: ChunkSpec, ChunkTextSpec. -/
import Derived.Test.YtnnaphfeeobelaeDoorChunkPlain
import Derived.Test.YtnnaphfeeobelaeDoorBase
import Derived.BigQuiet
import Derived.Lib.Strings
import Derived.Test.YtnnaphfeeobelaeDoorStrs
import Derived.Lib.QuietBelow
namespace Go.Proofs.YtnnaphfeeobelaeDoor
open Go.RowKit Go.Sort
def allHex : ByteArray := ⟨#[48, 49, 50, 51, 52, 53, 54, 55, 56, 57, 97, 98, 99, 100, 101, 102]⟩
theorem allHex_at : ∀ n, n < 16 → allHex.extract n (n + 1) = ⟨#[fig n]⟩ := by decide
theorem run_hexAt (n : Nat) (hn : n < 16) (i j : Int) (hi : i = (n : Int)) (hj : j = (n : Int) + 1) (w : World) :
    (Instr.slice 9 (.string ⟨#[48, 49, 50, 51, 52, 53, 54, 55, 56, 57, 97, 98, 99, 100, 101, 102]⟩) (some (.int .i64 i)) (some (.int .i64 j)) none).run Tryd.prog w = .ok (.string ⟨#[fig n]⟩) w := by
  subst hi hj
  have h := run_slice_string (P := Tryd.prog) (w := w) 9 allHex .i64 .i64 (n : Int) ((n : Int) + 1) Tryd.underlying9 (by omega) (by omega) (by show (n : Int) + 1 ≤ 16; omega)
  rw [show (((n : Int) + 1).toNat) = n + 1 by omega, Int.toNat_natCast, allHex_at n hn] at h
  exact h
set_option maxRecDepth 100000 in
set_option maxHeartbeats 2000000 in
theorem specFigures_any (n : Nat) (hn : n < 256) (w : World) :
    Calls Tryd.prog 32 #[.int .i64 n] w fun e w' => e = .returned (.string ⟨(figsL n).toArray⟩) ∧ Below w.heap.size w w' := by
  unfold figsL
  by_cases h : n < 16
  · rw [if_pos h]
    have hi : (n : Int) < 16 := by omega
    have h1 := run_hexAt n h (n : Int) ((n : Int) + 1) rfl rfl
    clear hn
    go_enter Tryd.func32, Tryd.ntmps32
    go_wp2_with fail
    go_ret
    exact ⟨rfl, Below.refl _ _⟩
  · rw [if_neg h]
    have hi : ¬ (n : Int) < 16 := by omega
    obtain ⟨q, hq⟩ : ∃ q : Nat, n / 16 = q := ⟨_, rfl⟩
    obtain ⟨r, hr⟩ : ∃ r : Nat, n % 16 = r := ⟨_, rfl⟩
    have d1 : (n : Int).tdiv 16 = (q : Int) := by rw [Int.tdiv_eq_ediv_of_nonneg (by omega)]; omega
    have d2 : (n : Int).tmod 16 = (r : Int) := by rw [Int.tmod_eq_emod_of_nonneg (by omega)]; omega
    have hq16 : q < 16 := by omega
    have hr16 : r < 16 := by omega
    have h1 := run_hexAt q hq16 (q : Int) ((q : Int) + 1) rfl rfl
    have h2 := run_hexAt r hr16 (r : Int) ((r : Int) + 1) rfl rfl
    have s1 := fun w => run_string_add_sum (P := Tryd.prog) (w := w) ⟨#[fig q]⟩ ⟨#[fig r]⟩ (by show 1 + 1 ≤ _; omega)
    rw [hq, hr]
    have e : (⟨#[fig q]⟩ ++ ⟨#[fig r]⟩ : ByteArray) = ⟨[fig q, fig r].toArray⟩ := rfl
    rw [e] at s1
    have HN : Hid (n < 256) := hn
    clear hn h hq hr e
    generalize (⟨[fig q, fig r].toArray⟩ : ByteArray) = z at s1 ⊢
    go_enter Tryd.func32, Tryd.ntmps32
    go_wp2_with fail
    go_quiet (fail)
    go_wp2_with fail
    go_ret
    exact ⟨rfl, ⟨rfl, rfl, rfl, Nat.le_refl _, fun _ _ => rfl⟩⟩
set_option maxRecDepth 100000 in
set_option maxHeartbeats 2000000 in
theorem specValue_any (b : UInt8) (w : World) :
    Calls Tryd.prog 44 #[.int .u8 (b.toNat : Int)] w fun e w' => e = .returned (.int .i64 (hexI b)) ∧ w' = w := by
  have hbl : b.toNat < 256 := b.toNat_lt
  obtain ⟨R, hR⟩ : ∃ R, hexI b = R := ⟨_, rfl⟩
  rw [hR]
  have HR : Hid (hexI b = R) := hR
  clear hR
  unfold hexI hexV at HR
  by_cases h1 : 48 ≤ b.toNat ∧ b.toNat ≤ 57
  · have HE : Hid (R = (b.toNat : Int) - 48) := by show _ = _; rw [← HR.out, if_pos h1]; simp only []; omega
    obtain ⟨g1, g2⟩ := h1
    clear HR
    go_enter Tryd.func44, Tryd.ntmps44
    go_wp2
    go_ret
    exact ⟨by rw [HE.out]; rfl, rfl⟩
  by_cases h2 : 97 ≤ b.toNat ∧ b.toNat ≤ 102
  · have HE : Hid (R = (b.toNat : Int) - 87) := by show _ = _; rw [← HR.out, if_neg h1, if_pos h2]; simp only []; omega
    obtain ⟨g1, g2⟩ := h2
    have g3 : ¬ (b.toNat : Int) ≤ 57 := by omega
    have g4 : (48 : Int) ≤ (b.toNat : Int) := by omega
    clear HR h1
    go_enter Tryd.func44, Tryd.ntmps44
    go_wp2
    go_ret
    exact ⟨by rw [HE.out]; rfl, rfl⟩
  by_cases h3 : 65 ≤ b.toNat ∧ b.toNat ≤ 70
  · have HE : Hid (R = (b.toNat : Int) - 55) := by show _ = _; rw [← HR.out, if_neg h1, if_neg h2, if_pos h3]; simp only []; omega
    obtain ⟨g1, g2⟩ := h3
    have g3 : ¬ (b.toNat : Int) ≤ 57 := by omega
    have g4 : (48 : Int) ≤ (b.toNat : Int) := by omega
    have g5 : ¬ (97 : Int) ≤ (b.toNat : Int) := by omega
    clear HR h1 h2
    go_enter Tryd.func44, Tryd.ntmps44
    go_wp2
    go_ret
    exact ⟨by rw [HE.out]; rfl, rfl⟩
  have HE : Hid (R = -1) := by show _ = _; rw [← HR.out, if_neg h1, if_neg h2, if_neg h3]
  clear HR
  rcases (show b.toNat < 48 ∨ (57 < b.toNat ∧ b.toNat < 65) ∨ (70 < b.toNat ∧ b.toNat < 97) ∨ 102 < b.toNat by omega) with g | ⟨g, g'⟩ | ⟨g, g'⟩ | g
  all_goals
    have i1 := Nat.lt_irrefl 0
    clear h1 h2 h3
    go_enter Tryd.func44, Tryd.ntmps44
    go_wp2
    go_ret
    exact ⟨by rw [HE.out]; rfl, rfl⟩
set_option maxRecDepth 100000 in
set_option maxHeartbeats 4000000 in
theorem specEnd_any (s : ByteArray) (k : Nat) (hk : k ≤ s.size) (hs : s.size ≤ 1048576) (w : World) :
    Calls Tryd.prog 29 #[.string s, .int .i64 k] w fun e w' => e = .returned (.int .i64 (endS s.data.toList k)) ∧ Below w.heap.size w w' := by
  obtain ⟨l, hl⟩ : ∃ l, s.data.toList = l := ⟨_, rfl⟩
  have hsz : s.size = l.length := by rw [← hl]; exact Lib.size_eq s
  rw [hl]
  obtain ⟨R, hR⟩ : ∃ R, endS l k = R := ⟨_, rfl⟩
  rw [hR]
  have HR : Hid (endS l k = R) := hR
  clear hR
  have gt : ∀ j (hj : j < s.size), l[j]? = some s[j] := by
    intro j hj
    subst hl
    rw [List.getElem?_eq_getElem (by rw [← Lib.size_eq]; exact hj)]
    rfl
  have HD : Hid (∀ (W : World) (n : Nat), Below W.heap.size W (W.drewN n)) := fun W n => ⟨rfl, rfl, rfl, Nat.le_refl _, fun _ _ => rfl⟩
  by_cases h0 : k < s.size
  case neg =>
    have HE : Hid (R = 0) := by show _ = _; rw [← HR.out]; unfold endS; rw [List.getElem?_eq_none (by omega)]
    have hin : s.size ≤ k := by omega
    clear HR gt hl hsz h0
    go_enter Tryd.func29, Tryd.ntmps29
    go_wp2_with fail
    refine wp_loop_rounds 3 ?_
    rw [rounds_succ]
    go_wp2_with fail
    go_ret
    exact ⟨by rw [HE.out]; rfl, Below.refl _ _⟩
  obtain ⟨b, hb⟩ : ∃ b, s[k] = b := ⟨_, rfl⟩
  have gb : l[k]? = some b := by rw [gt k h0, hb]
  have hbl : b.toNat < 256 := b.toNat_lt
  have hin : ¬ s.size ≤ k := by omega
  have hi1 : (k : Int) < (s.size : Int) := by omega
  have hx0 : ∀ W : World, (Instr.index 9 (.string s) (.int .i64 (k : Int))).run Tryd.prog W = .ok (.int .u8 (b.toNat : Int)) W := by
    intro W
    rw [run_index_string W 9 s .i64 (k : Int) Tryd.underlying9, dif_pos ⟨by omega, by omega⟩]
    rw [← hb]
    rfl
  have e0 : ∀ W : World, (Instr.index 9 (.string ⟨#[13, 10]⟩) (.int .i64 0)).run Tryd.prog W = .ok (.int .u8 13) W := fun W => by rw [run_index_string W 9 _ .i64 0 Tryd.underlying9]; rfl
  have e1 : ∀ W : World, (Instr.index 9 (.string ⟨#[13, 10]⟩) (.int .i64 1)).run Tryd.prog W = .ok (.int .u8 10) W := fun W => by rw [run_index_string W 9 _ .i64 1 Tryd.underlying9]; rfl
  by_cases h13 : b.toNat = 13
  case neg =>
    have HE : Hid (R = -1) := by show _ = _; rw [← HR.out]; unfold endS; rw [gb]; simp only []; rw [if_neg h13]
    have hne : ((b.toNat : Int) != 13) = true := by simp; omega
    clear HR gt hl hsz h0 hk hb gb h13
    go_enter Tryd.func29, Tryd.ntmps29
    go_wp2_with fail
    refine wp_loop_rounds 3 ?_
    rw [rounds_succ]
    go_wp2_with fail
    go_quiet (fail)
    go_wp2_with fail
    go_ret
    exact ⟨by rw [HE.out]; rfl, HD.out _ _⟩
  have hne : ((b.toNat : Int) != 13) = false := by simp; omega
  by_cases h1 : k + 1 < s.size
  case neg =>
    have HE : Hid (R = 0) := by show _ = _; rw [← HR.out]; unfold endS; rw [gb]; simp only []; rw [if_pos h13, List.getElem?_eq_none (by omega)]
    have hin1 : s.size ≤ k + 1 := by omega
    have hin2 : (s.size : Int) ≤ (k : Int) + 1 := by omega
    clear HR gt hl hsz h0 hk hb gb h13 h1
    go_enter Tryd.func29, Tryd.ntmps29
    go_wp2_with fail
    refine wp_loop_rounds 3 ?_
    rw [rounds_succ]
    go_wp2_with fail
    go_quiet (fail)
    go_wp2_with fail
    rw [rounds_succ]
    go_wp2_with fail
    go_ret
    exact ⟨by rw [HE.out]; rfl, HD.out _ _⟩
  obtain ⟨c, hc⟩ : ∃ c, s[k + 1] = c := ⟨_, rfl⟩
  have gc : l[k + 1]? = some c := by rw [gt (k + 1) h1, hc]
  have hcl : c.toNat < 256 := c.toNat_lt
  have hin1 : ¬ s.size ≤ k + 1 := by omega
  have hin2 : ¬ (s.size : Int) ≤ (k : Int) + 1 := by omega
  have hx1 : ∀ W : World, (Instr.index 9 (.string s) (.int .i64 ((k : Int) + 1))).run Tryd.prog W = .ok (.int .u8 (c.toNat : Int)) W := by
    intro W
    have := run_index_string (P := Tryd.prog) W 9 s .i64 ((k + 1 : Nat) : Int) Tryd.underlying9
    rw [dif_pos ⟨by omega, by omega⟩] at this
    rw [show (k : Int) + 1 = ((k + 1 : Nat) : Int) by omega, this, ← hc]
    rfl
  by_cases h10 : c.toNat = 10
  · have HE : Hid (R = (k : Int) + 2) := by show _ = _; rw [← HR.out]; unfold endS; rw [gb]; simp only []; rw [if_pos h13, gc]; simp only []; rw [if_pos h10]
    have hnc : ((c.toNat : Int) != 10) = false := by simp; omega
    clear HR gt hl hsz h0 hk hb gb h13 h1 hc gc h10
    go_enter Tryd.func29, Tryd.ntmps29
    go_wp2_with fail
    refine wp_loop_rounds 3 ?_
    rw [rounds_succ]
    go_wp2_with fail
    go_quiet (fail)
    go_wp2_with fail
    rw [rounds_succ]
    go_wp2_with fail
    go_quiet (fail)
    go_wp2_with fail
    rw [rounds_succ]
    go_wp2_with fail
    go_ret
    exact ⟨by rw [HE.out]; rfl, ⟨rfl, rfl, rfl, Nat.le_refl _, fun _ _ => rfl⟩⟩
  · have HE : Hid (R = -1) := by show _ = _; rw [← HR.out]; unfold endS; rw [gb]; simp only []; rw [if_pos h13, gc]; simp only []; rw [if_neg h10]
    have hnc : ((c.toNat : Int) != 10) = true := by simp; omega
    clear HR gt hl hsz h0 hk hb gb h13 h1 hc gc h10
    go_enter Tryd.func29, Tryd.ntmps29
    go_wp2_with fail
    refine wp_loop_rounds 3 ?_
    rw [rounds_succ]
    go_wp2_with fail
    go_quiet (fail)
    go_wp2_with fail
    rw [rounds_succ]
    go_wp2_with fail
    go_quiet (fail)
    go_wp2_with fail
    go_ret
    exact ⟨by rw [HE.out]; rfl, ⟨rfl, rfl, rfl, Nat.le_refl _, fun _ _ => rfl⟩⟩
end Go.Proofs.YtnnaphfeeobelaeDoor

namespace Go.Proofs.YtnnaphfeeobelaeDoor
open Go.RowKit Go.Sort
theorem partsT_len {P : List (List UInt8)} (h : ∀ p ∈ P, p.length ≤ 99) : (partsT P).length ≤ 105 * P.length := by
  induction P with
  | nil => simp [partsT]
  | cons p r ih =>
    have h1 := ih (fun q hq => h q (List.mem_cons_of_mem _ hq))
    have h2 := h p List.mem_cons_self
    have h3 := partT_len p
    simp only [partsT, List.length_append, List.length_cons]
    omega
theorem bysL_take {P : List ByteArray} {k : Nat} (hk : k < P.length) : bysL (P.take (k + 1)) = bysL (P.take k) ++ [(P[k]).data.toList] := by
  unfold bysL
  rw [List.take_succ_eq_append_getElem hk, List.map_append]
  rfl
theorem partsOk_no {P : List ByteArray} (h : 10 < P.length ∨ ∃ k, ∃ hk : k < P.length, ¬ (1 ≤ P[k].size ∧ P[k].size ≤ 99)) : chunkS P = (⟨#[]⟩, false) := by
  unfold chunkS
  rw [if_neg]
  unfold partsOk
  rcases h with h | ⟨k, hk, h⟩
  · rw [decide_eq_false (by omega)]; simp
  · intro e
    simp only [Bool.and_eq_true, List.all_eq_true, decide_eq_true_eq] at e
    exact h (e.2 _ (List.getElem_mem hk))
theorem partsOk_yes {P : List ByteArray} (h1 : P.length ≤ 10) (h2 : ∀ k (hk : k < P.length), 1 ≤ P[k].size ∧ P[k].size ≤ 99) : chunkS P = (⟨(partsT (bysL P) ++ lastL).toArray⟩, true) := by
  unfold chunkS
  rw [if_pos]
  unfold partsOk
  rw [decide_eq_true h1, Bool.true_and, List.all_eq_true]
  intro p hp
  obtain ⟨j, hj, rfl⟩ := List.getElem_of_mem hp
  exact decide_eq_true (h2 j hj)
set_option maxRecDepth 100000 in
set_option maxHeartbeats 8000000 in
theorem specChunkText_any (w : World) (a : Option Addr) (cap : Nat) (P : List ByteArray) (hA : LAt w a P w.heap.size) (hm : P.length ≤ 1048576) (hz : ∀ p ∈ P, p.size ≤ 1048576) :
    Calls Tryd.prog 14 #[.slice a P.length cap] w fun e w' => e = .returned (.tuple #[.string (chunkS P).1, .bool (chunkS P).2]) ∧ Below w.heap.size w w' := by
  obtain ⟨R, hR⟩ : ∃ R, chunkS P = R := ⟨_, rfl⟩
  rw [hR]
  have HR : Hid (chunkS P = R) := hR
  have HA : Hid (LAt w a P w.heap.size) := hA
  have HZ : Hid (∀ p ∈ P, p.size ≤ 1048576) := hz
  clear hR hA hz
  go_enter Tryd.func14, Tryd.ntmps14
  go_wp2_with fail
  go_loopw [4, 5] (fun s i wr => Box (∃ k : Nat, k ≤ P.length ∧ k ≤ 10 ∧ i = .int .i64 k ∧ s = .string ⟨(partsT (bysL (P.take k))).toArray⟩ ∧ Hid (∀ q (hq : q < P.length), q < k → 1 ≤ P[q].size ∧ P[q].size ≤ 99) ∧ Below w.heap.size w wr))
    (fun _ i _ => P.length - (intOf i).toNat)
  case atStart => exact ⟨⟨0, by omega, by omega, rfl, by simp [bysL, partsT], fun q _ h => by omega, Below.refl _ _⟩⟩
  case round =>
    obtain ⟨k, hk, hk10, rfl, rfl, HQ, hbw⟩ := hrel.out
    clear hrel
    have HPL : Hid ((partsT (bysL (P.take k))).length ≤ 105 * k) := by
      show _ ≤ _
      have h := partsT_len (P := bysL (P.take k)) (by
        intro p hp
        unfold bysL at hp
        obtain ⟨x, hx, rfl⟩ := List.mem_map.1 hp
        obtain ⟨j, hj, rfl⟩ := List.getElem_of_mem hx
        rw [List.length_take] at hj
        have := HQ.out j (by omega) (by omega)
        rw [List.getElem_take, ← Lib.size_eq]
        omega)
      have e : (bysL (P.take k)).length = k := by unfold bysL; rw [List.length_map, List.length_take]; omega
      rw [e] at h
      exact h
    by_cases hlt : k < P.length
    · obtain ⟨g, off, ha, hg, hc⟩ := HA.out k hlt
      subst ha
      have hc2 : wr.cell? ⟨g, off + k, none⟩ = some (.string P[k]) := (hbw.cell (p := ⟨g, off + k, none⟩) hg).trans hc
      obtain ⟨p, hp⟩ : ∃ p, P[k] = p := ⟨_, rfl⟩
      rw [hp] at hc2
      have hpz : p.size ≤ 1048576 := by rw [← hp]; exact HZ.out _ (List.getElem_mem hlt)
      have hi : (k : Int) < (P.length : Int) := by omega
      have hi0 : (0 : Int) ≤ (k : Int) := by omega
      have cI := in_any (p.size : Int) 1 99 wr
      clear hc
      by_cases h99 : 1 ≤ p.size ∧ p.size ≤ 99
      case neg =>
        rw [show inN (p.size : Int) 1 99 = false from decide_eq_false (by omega)] at cI
        have HE : Hid (R = (⟨#[]⟩, false)) := by show _ = _; rw [← HR.out]; exact partsOk_no (.inr ⟨k, hlt, by rw [hp]; exact h99⟩)
        clear h99 hp
        go_wp2_with fail
        refine cI.mono ?_
        rintro e wv ⟨rfl, hwv⟩
        rw [hwv]
        clear hwv wv cI
        go_wp2_with fail
        go_ret2
        exact ⟨by rw [HE.out]; rfl, hbw⟩
      rw [show inN (p.size : Int) 1 99 = true from decide_eq_true (by omega)] at cI
      by_cases h10 : k < 10
      case neg =>
        have HE : Hid (R = (⟨#[]⟩, false)) := by show _ = _; rw [← HR.out]; exact partsOk_no (.inl (by omega))
        have hg10 : (10 : Int) ≤ (k : Int) := by omega
        clear h99 hp
        go_wp2_with fail
        refine cI.mono ?_
        rintro e wv ⟨rfl, hwv⟩
        rw [hwv]
        clear hwv wv cI
        go_wp2_with fail
        go_ret2
        exact ⟨by rw [HE.out]; rfl, hbw⟩
      have hg10 : ¬ (10 : Int) ≤ (k : Int) := by omega
      have hl10 : (k : Int) < 10 := by omega
      have HN : Hid (∀ q (hq : q < P.length), q < k + 1 → 1 ≤ P[q].size ∧ P[q].size ≤ 99) := by
        intro q hq hqk
        by_cases e : q = k
        · subst e; rw [hp]; exact h99
        · exact HQ.out q hq (by omega)
      obtain ⟨S, hS⟩ : ∃ S : ByteArray, (⟨(partsT (bysL (P.take k))).toArray⟩ : ByteArray) = S := ⟨_, rfl⟩
      have hSz : S.size ≤ 1050 := by rw [← hS]; show (partsT (bysL (P.take k))).toArray.size ≤ _; have := HPL.out; simp; omega
      obtain ⟨F, hF⟩ : ∃ F : ByteArray, (⟨(figsL p.size).toArray⟩ : ByteArray) = F := ⟨_, rfl⟩
      have hFz : F.size ≤ 2 := by rw [← hF]; show (figsL p.size).toArray.size ≤ _; have := figsL_len p.size; simpa using this
      have HNX : Hid ((((S ++ F) ++ ⟨#[13, 10]⟩) ++ p) ++ ⟨#[13, 10]⟩ = (⟨(partsT (bysL (P.take (k + 1)))).toArray⟩ : ByteArray)) := by
        show _ = _
        rw [bysL_take hlt, partsT_snoc, hp, ← hS, ← hF]
        rw [← Lib.mk_data ((((⟨(partsT (bysL (P.take k))).toArray⟩ ++ ⟨(figsL p.size).toArray⟩) ++ ⟨#[13, 10]⟩) ++ p) ++ ⟨#[13, 10]⟩ : ByteArray)]
        congr 1
        simp [partT, endL]
      have cF : ∀ d os, Calls Tryd.prog 32 #[.int .i64 (p.size : Int)] (grow (redrawn wr d) os) fun e w'' => e = .returned (.string F) ∧ ∃ x : Regrown, w'' = grow (redrawn wr x.d) x.os := fun d os => Calls.regrown_of (by rw [← hF]; exact specFigures_any p.size (by omega) _)
      have a1 := fun w => run_string_add_sum (P := Tryd.prog) (w := w) S F (by omega)
      have a2 := fun w => run_string_add_sum (P := Tryd.prog) (w := w) (S ++ F) ⟨#[13, 10]⟩ (by rw [ByteArray.size_append]; show _ + _ + 2 ≤ _; omega)
      have a3 := fun w => run_string_add_sum (P := Tryd.prog) (w := w) ((S ++ F) ++ ⟨#[13, 10]⟩) p (by rw [ByteArray.size_append, ByteArray.size_append]; show _ + _ + 2 + _ ≤ _; omega)
      have a4 := fun w => run_string_add_sum (P := Tryd.prog) (w := w) (((S ++ F) ++ ⟨#[13, 10]⟩) ++ p) ⟨#[13, 10]⟩ (by rw [ByteArray.size_append, ByteArray.size_append, ByteArray.size_append]; show _ + _ + 2 + _ + 2 ≤ _; omega)
      rw [hS]
      generalize (((S ++ F) ++ ⟨#[13, 10]⟩) ++ p) ++ ⟨#[13, 10]⟩ = T4 at a4 HNX
      generalize ((S ++ F) ++ ⟨#[13, 10]⟩) ++ p = T3 at a3 a4
      generalize (S ++ F) ++ ⟨#[13, 10]⟩ = T2 at a2 a3
      generalize S ++ F = T1 at a1 a2
      have zc := cell_regrown hc2
      clear hS hF hFz hSz h99 hp HQ HPL
      go_wp2_with fail
      refine cI.mono ?_
      rintro e wv ⟨rfl, hwv⟩
      rw [hwv]
      clear hwv wv cI
      go_wp2_with fail
      clear hc2
      refine wp_region_quiet_below (by kernel_rfl) (by kernel_rfl) ?_
      repeat (first | go_big_quiet_step (first | with_reducible exact cF _ _) | quiet_step (first | with_reducible exact cF _ _))
      refine wpQuiet_nil ?_
      intro _ hw'
      obtain ⟨⟨dq, osq⟩, hw''⟩ := hw'
      subst hw''
      have hbq : Below w.heap.size w (grow (redrawn wr dq) osq) := hbw.trans ((below_regrown wr dq osq).mono hbw.size)
      generalize grow (redrawn wr dq) osq = wq at hbq ⊢
      go_wp2_with fail
      go_roundw
      case rel =>
        try ((repeat apply Exists.intro); refine ⟨?_, rfl⟩)
        exact ⟨⟨k + 1, by omega, by omega, by go_num, by rw [HNX.out], HN, hbq⟩⟩
      case measure => simp [intOf]; omega
    · have hi : ¬ (k : Int) < (P.length : Int) := by omega
      have hke : k = P.length := by omega
      obtain ⟨S, hS⟩ : ∃ S : ByteArray, (⟨(partsT (bysL (P.take k))).toArray⟩ : ByteArray) = S := ⟨_, rfl⟩
      have hSz : S.size ≤ 1050 := by rw [← hS]; show (partsT (bysL (P.take k))).toArray.size ≤ _; have := HPL.out; simp; omega
      have HE : Hid (R = (S ++ ⟨#[48, 13, 10, 13, 10]⟩, true)) := by
        show _ = _
        rw [← HR.out, partsOk_yes (by omega) (fun q hq => HQ.out q hq (by omega)), ← hS, hke, List.take_length]
        congr 1
      rw [hS]
      have a1 := fun w => run_string_add_sum (P := Tryd.prog) (w := w) S ⟨#[48, 13, 10, 13, 10]⟩ (by show _ + 5 ≤ _; omega)
      generalize S ++ ⟨#[48, 13, 10, 13, 10]⟩ = T at a1 HE
      clear hS hke
      go_wp2_with fail
      go_ret2
      exact ⟨by rw [HE.out]; rfl, hbw⟩
end Go.Proofs.YtnnaphfeeobelaeDoor
