/- l11Body: a text of parts, whole, cut, spoilt or another. -/
import Derived.Test.YtnnaphfeeobelaeDoorPartsDraw11J
import Derived.Test.YtnnaphfeeobelaeDoorChunkSpecJ
import Derived.Test.YtnnaphfeeobelaeDoorHeadTextPlainJ
namespace Go.Proofs.YtnnaphfeeobelaeDoor
open Go.RowKit Go.Sort
/-- A text that both read alike. -/
def Tame (t : ByteArray) : Prop := chunksI t.data.toList = chunksS t.data.toList
theorem Tame.short {t : ByteArray} (h : t.size ≤ 145) : Tame t := chunks_short (by rw [← Lib.size_eq]; exact h)
/-- Whole parts. -/
def Parts (t : ByteArray) : Prop := ∃ P : List (List UInt8), t.data.toList = partsT P ++ lastL ∧ ∀ p ∈ P, 1 ≤ p.length ∧ p.length ≤ 99
theorem Parts.tame {t : ByteArray} (h : Parts t) : Tame t := by
  obtain ⟨P, e, hP⟩ := h
  have := chunks_whole P [] hP
  rw [List.append_nil, ← e] at this
  exact this
theorem Parts.more {t z : ByteArray} (h : Parts t) (hz : z.size = 99) : Parts ((⟨#[54, 51, 13, 10]⟩ ++ z) ++ ⟨#[13, 10]⟩ ++ t) := by
  obtain ⟨P, e, hP⟩ := h
  have hl : z.data.toList.length = 99 := by rw [← Lib.size_eq]; exact hz
  refine ⟨z.data.toList :: P, ?_, ?_⟩
  · have e2 : ((⟨#[54, 51, 13, 10]⟩ ++ z) ++ ⟨#[13, 10]⟩ ++ t : ByteArray).data.toList = [54, 51, 13, 10] ++ z.data.toList ++ [13, 10] ++ t.data.toList := by simp
    rw [e2, e]
    have e3 : partT z.data.toList = [54, 51, 13, 10] ++ z.data.toList ++ [13, 10] := by
      unfold partT
      rw [hl]
      rfl
    simp only [partsT, e3, List.append_assoc]
  · intro p hp
    rcases List.mem_cons.1 hp with rfl | hp
    · omega
    · exact hP p hp
theorem chunkS_parts {P : List ByteArray} (h3 : P.length ≤ 3) (h : fewB P) : (chunkS P).1.size ≤ 83 ∧ Parts (chunkS P).1 := by
  have hp : ∀ p ∈ bysL P, 1 ≤ p.length ∧ p.length ≤ 20 := by
    intro p hp
    unfold bysL at hp
    obtain ⟨x, hx, rfl⟩ := List.mem_map.1 hp
    have := h x hx
    rw [← Lib.size_eq]
    exact this
  have hc : chunkS P = (⟨(partsT (bysL P) ++ lastL).toArray⟩, true) := partsOk_yes (by omega) (fun k hk => by have := h _ (List.getElem_mem hk); omega)
  have hl : ∀ (Q : List (List UInt8)), (∀ p ∈ Q, p.length ≤ 20) → (partsT Q).length ≤ 26 * Q.length := by
    intro Q
    induction Q with
    | nil => intro _; simp [partsT]
    | cons p r ih =>
      intro hq
      have h1 := ih (fun q hq' => hq q (List.mem_cons_of_mem _ hq'))
      have h2 := hq p List.mem_cons_self
      have h3 := partT_len p
      simp only [partsT, List.length_append, List.length_cons]
      omega
  have h1 := hl (bysL P) (fun p hp' => (hp p hp').2)
  have e : (bysL P).length = P.length := by unfold bysL; simp
  have e5 : lastL.length = 5 := rfl
  rw [hc]
  refine ⟨?_, bysL P, rfl, fun p hp' => by have := hp p hp'; omega⟩
  rw [Lib.size_eq]
  show ((partsT (bysL P) ++ lastL).toArray.toList).length ≤ 83
  rw [List.toList_toArray, List.length_append]
  omega
set_option maxRecDepth 100000 in
set_option maxHeartbeats 4000000 in
theorem l11Body_any (w : World) (p : Nat) (ca : Option Addr) (n cap : Nat) (hc : Cur w p ca n cap) (hcode : CodeAt w ca n p) (hn : n ≤ 1048576) :
    Calls Tryd.prog 27 #[.pointer (some ⟨p, 0, none⟩)] w fun e w' => ∃ t : ByteArray, e = .returned (.string t) ∧ t.size ≤ 2000 ∧ Tame t ∧ Left w w' p ca n cap := by
  have hp := hc.lt
  have c1 := below_any w p ca n cap 10 hc hcode hn (by omega) (by omega)
  clear hc hcode
  go_enter Tryd.func27, Tryd.ntmps27
  go_wp2_with fail
  refine c1.mono ?_
  rintro e w1 ⟨k, hk, _, rfl, hl⟩
  have hk2 := hk (by omega)
  have c2 := below_any w1 p ca n cap 200 hl.1 hl.2.1 hn (by omega) (by omega)
  clear c1 hk
  go_wp2_with fail
  refine c2.mono ?_
  rintro e w2 ⟨x, hx, _, rfl, hl2⟩
  have hx2 := hx (by omega)
  have hl3 := hl.trans hl2
  have hs2 := hl3.2.2.size
  have c3 := l11Parts_any w2 p ca n cap hl3.1 hl3.2.1 hn
  clear c2 hx hl hl2
  go_wp2_with fail
  refine c3.mono ?_
  rintro e w3 ⟨v, P, rfl, h3, hf, ho, hl4⟩
  have hl5 := hl3.trans hl4
  have hs3 := hl5.2.2.size
  obtain ⟨a, c, rfl, hA⟩ := ho.strsAt
  have c4 := specChunkText_any w3 a c P hA (by omega) (fun q hq => by have := hf q hq; omega)
  obtain ⟨hz, hpt⟩ := chunkS_parts h3 hf
  have HPT : Hid (Parts (chunkS P).1) := hpt
  clear c3 hl3 hl4 hA ho hf hpt
  generalize (chunkS P).1 = s at c4 hz HPT
  generalize (chunkS P).2 = b at c4
  go_wp2_with fail
  refine c4.mono ?_
  rintro e w4 ⟨rfl, hb4⟩
  have hl6 := hl5.below (hb4.mono hs3) hp
  clear c4 hl5 hb4
  by_cases k0 : k = 0 ∨ k = 1
  · obtain ⟨d, hd⟩ : ∃ d : Nat, (d : Int) = (x : Int) % ((s.size : Int) + 1) := ⟨x % (s.size + 1), by simp⟩
    have hd1 := Int.emod_lt_of_pos (x : Int) (show (0 : Int) < (s.size : Int) + 1 by omega)
    have m1 : (x : Int).tmod ((s.size : Int) + 1) = (d : Int) := by rw [Int.tmod_eq_emod_of_nonneg (by omega)]; exact hd.symm
    rw [← hd] at hd1
    have n0 : ¬ (s.size : Int) + 1 = 0 := by omega
    have hsl := fun w => run_slice_string_h (P := Tryd.prog) w 9 s Tryd.underlying9 .i64 (d : Int) (by omega) (by omega)
    clear hd
    rcases k0 with rfl | rfl
    all_goals (
      go_wp2_with fail
      go_ret
      exact ⟨_, rfl, by simp; omega, .short (by simp; omega), hl6⟩)
  by_cases k2 : k = 2
  · subst k2
    have c5 := spoilt_any w4 p ca n cap s (by omega) hl6.1 hl6.2.1 hn
    go_wp2_with fail
    refine c5.mono ?_
    rintro e w5 ⟨t, rfl, ht, hl7⟩
    have hl8 := hl6.trans hl7
    clear c5
    go_wp2_with fail
    go_ret
    exact ⟨_, rfl, by omega, .short (by omega), hl8⟩
  by_cases k3 : k = 3
  · subst k3
    go_wp2_with fail
    go_ret
    exact ⟨_, rfl, Nat.le_trans (Nat.le_of_eq ByteArray.size_append) (by show s.size + 4 ≤ 2000; omega), .short (Nat.le_trans (Nat.le_of_eq ByteArray.size_append) (by show s.size + 4 ≤ 145; omega)), hl6⟩
  by_cases k4 : k = 4
  · subst k4
    obtain ⟨d, hd⟩ : ∃ d : Nat, (d : Int) = (x : Int) % 7 := ⟨x % 7, by omega⟩
    have m1 : (x : Int).tmod 7 = (d : Int) := by rw [Int.tmod_eq_emod_of_nonneg (by omega)]; exact hd.symm
    have hd1 : d < 7 := by omega
    have hl7 := hl6.plus hp
    clear hd
    obtain rfl | rfl | rfl | rfl | rfl | rfl | rfl : d = 0 ∨ d = 1 ∨ d = 2 ∨ d = 3 ∨ d = 4 ∨ d = 5 ∨ d = 6 := by omega
    all_goals (
      go_wp2_with fail
      go_ret
      exact ⟨_, rfl, by decide, .short (by decide), hl7 _⟩)
  by_cases k5 : k = 5
  · subst k5
    obtain ⟨d, hd⟩ : ∃ d : Nat, (d : Int) = (x : Int) % 2 := ⟨x % 2, by omega⟩
    have m1 : (x : Int).tmod 2 = (d : Int) := by rw [Int.tmod_eq_emod_of_nonneg (by omega)]; exact hd.symm
    have hd1 : d < 2 := by omega
    clear hd
    go_wp2_with fail
    go_loopw [5, 7] (fun u i wr => Box (∃ (j : Nat) (t : ByteArray), j ≤ 5 ∧ i = .int .i64 j ∧ u = .string t ∧ t.size ≤ 83 + 105 * j ∧ Hid (Parts t) ∧ Left w wr p ca n cap))
      (fun _ i _ => 5 - (intOf i).toNat)
    case atStart => exact ⟨⟨0, s, by omega, rfl, rfl, by omega, HPT, hl6⟩⟩
    case round =>
      clear hl6 hz HPT
      obtain ⟨j, t, hj, rfl, rfl, ht, HPt, hl⟩ := hrel.out
      clear hrel
      have hs4 := hl.2.2.size
      by_cases hlt : (j : Int) < 4 + (d : Int)
      · have c5 := long_any wr 99 97 (by omega) (by omega) (by omega) (by omega)
        go_wp2_with fail
        refine c5.mono ?_
        rintro e w5 ⟨z, hz, rfl, hb5⟩
        have hl7 := hl.below (hb5.mono hs4) hp
        clear c5 hl
        go_wp2_with fail
        go_roundw
        case rel =>
          try ((repeat apply Exists.intro); refine ⟨?_, rfl⟩)
          exact ⟨⟨j + 1, _, by omega, by go_num, rfl, by (repeat rw [ByteArray.size_append]); show 4 + z.size + 2 + t.size ≤ _; omega, HPt.out.more (by omega), hl7⟩⟩
        case measure => simp [intOf]; omega
      · go_wp2_with fail
        go_ret
        exact ⟨_, rfl, by omega, HPt.out.tame, hl⟩
  have e0 : (k : Int) ≠ 0 := by omega
  have e1 : (k : Int) ≠ 1 := by omega
  have e2 : (k : Int) ≠ 2 := by omega
  have e3 : (k : Int) ≠ 3 := by omega
  have e4 : (k : Int) ≠ 4 := by omega
  have e5 : (k : Int) ≠ 5 := by omega
  go_wp2_with fail
  go_ret
  exact ⟨_, rfl, by omega, .short (by omega), hl6⟩
end Go.Proofs.YtnnaphfeeobelaeDoor
