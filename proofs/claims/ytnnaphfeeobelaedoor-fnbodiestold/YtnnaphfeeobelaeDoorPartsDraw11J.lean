/- Texts that stand in one: PartsDraw11, SpoiltDraw. -/
import Derived.Test.YtnnaphfeeobelaeDoorDraws
import Derived.Test.YtnnaphfeeobelaeDoorStrs
import Derived.Test.YtnnaphfeeobelaeDoorChunkPlain
import Derived.Deep.RegionLaw
namespace Go.Proofs.YtnnaphfeeobelaeDoor
open Go.RowKit Go.Sort
theorem OwnV.past11 {w w1 : World} {p base : Nat} {e : TypeId} {v : Value} {xs : List Value} {ca : Option Addr} {n cap : Nat} (h : OwnV w base e v xs) (hl : Left w w1 p ca n cap) (hp : p < base) : OwnV w1 base e v xs :=
  h.grown hl.2.2 fun q hq e => by
    have := (h.lt q hq).1
    simp at e
    omega
theorem Tryd.infoS11 : (Tryd.prog.info? 9).map (fun i => (i.zero, i.size, i.bytes)) = some (some (.string ⟨#[]⟩), 1, 16) := by kernel_rfl
def fewB (P : List ByteArray) : Prop := ∀ p ∈ P, 1 ≤ p.size ∧ p.size ≤ 20
set_option maxHeartbeats 2000000 in
theorem l11Parts_any (w : World) (p : Nat) (ca : Option Addr) (n cap : Nat) (hc : Cur w p ca n cap) (hcode : CodeAt w ca n p) (hn : n ≤ 1048576) :
    Calls Tryd.prog 20 #[.pointer (some ⟨p, 0, none⟩)] w fun e w' => ∃ (v : Value) (P : List ByteArray), e = .returned v ∧ P.length ≤ 3 ∧ fewB P ∧ OwnV w' w.heap.size 9 v (strs P) ∧ Left w w' p ca n cap := by
  have hp := hc.lt
  go_enter Tryd.func20, Tryd.ntmps20
  go_wp2
  go_loopw [3, 4] (fun v i wr => Box (∃ (k : Nat) (P : List ByteArray), k ≤ 3 ∧ i = .int .i64 k ∧ P.length ≤ k ∧ k ≤ P.length ∧ Hid (fewB P) ∧ OwnV wr w.heap.size 9 v (strs P) ∧ Left w wr p ca n cap))
    (fun _ i _ => 3 - (intOf i).toNat)
  case atStart => exact ⟨⟨0, [], by omega, rfl, by simp, by simp, (by intro p hp; cases hp), World.ownsRow_made w #[] 0 (Nat.le_refl _) (by simp [maxLen]) (by simp), Cur.alloc hc hp _, CodeAt.alloc hcode _, World.grownBy_alloc _ _ _⟩⟩
  case round =>
    obtain ⟨k, P, hk, rfl, hl1, hl2, HL, hown, hleft⟩ := hrel.out
    clear hrel hc hcode
    have c1 := below_any wr p ca n cap 4 hleft.1 hleft.2.1 hn (by omega) (by omega)
    go_wp2_with fail
    refine c1.mono ?_
    rintro e w1 ⟨x, hx, _, rfl, hl3⟩
    have hx2 := hx (by omega)
    have hown1 := hown.past11 hl3 hp
    have hl4 := hleft.trans hl3
    have hs1 := hl4.2.2.size
    clear c1 hx hown hleft hl3
    by_cases hlt : (k : Int) < (x : Int)
    · have c2 := below_any w1 p ca n cap 20 hl4.1 hl4.2.1 hn (by omega) (by omega)
      go_wp2_with fail
      refine c2.mono ?_
      rintro e w2 ⟨y, hy, _, rfl, hl5⟩
      have hy2 := hy (by omega)
      have hown2 := hown1.past11 hl5 hp
      have hl6 := hl4.trans hl5
      have hs2 := hl6.2.2.size
      have c3 := text_any w2 p ca n cap (1 + (y : Int)) hl6.1 hl6.2.1 hn (by omega) (by omega)
      clear c2 hy hown1 hl4 hl5
      go_wp2_with fail
      refine c3.mono ?_
      rintro e w3 ⟨s, hsz, rfl, hl7⟩
      have hown3 := hown2.past11 hl7 hp
      have hl8 := hl6.trans hl7
      have hs3 := hl8.2.2.size
      have hsl := strs_length P
      have HL2 : Hid (fewB (P ++ [s])) := by
        intro q hq
        rcases List.mem_append.1 hq with hq | hq
        · exact HL.out q hq
        · rw [List.mem_singleton.1 hq]; omega
      clear c3 hown2 hl6 hl7 hsz
      go_wp2_with (at_builtin; refine wpList_snocV rfl (.tmp 12) (.tmp 18) 24 rfl w.heap.size 9 Tryd.underlying24 (.string ⟨#[]⟩) 16 Tryd.infoS11 rfl _ (strs P) rfl hown3 (.string s) rfl rfl (by omega) (by omega) (by omega) ?_; intro v' w4 hown' hne' hbel' hsz')
      go_roundw
      case rel =>
        try ((repeat apply Exists.intro); refine ⟨?_, rfl⟩)
        exact ⟨⟨k + 1, P ++ [s], by omega, by go_num, by simp; omega, by simp; omega, HL2, by simpa [strs] using hown', hl8.below (hbel' _ (Below.refl _ _)) hp⟩⟩
      case measure => simp [intOf]; omega
    · go_wp2
      go_ret
      exact ⟨_, P, rfl, by omega, HL.out, hown1, hl4⟩
set_option maxHeartbeats 2000000 in
theorem drawParts_any (w : World) (ca : Option Addr) (n cap : Nat) (hcode : CodeAt w ca n w.heap.size) (hn : n ≤ 1048576) :
    Calls Tryd.prog 7 #[.slice ca n cap] w fun e w' => ∃ (a : Option Addr) (c : Nat) (P : List ByteArray), e = .returned (.slice a P.length c) ∧ P.length ≤ 3 ∧ fewB P ∧ LAt w' a P w'.heap.size ∧ Below w.heap.size w w' := by
  have c1 := new_any w ca n cap hcode hn
  clear hcode
  go_enter Tryd.func7, Tryd.ntmps7
  go_wp2_with fail
  refine c1.mono ?_
  rintro e w1 ⟨p, rfl, hp1, hp2, hcur, hcd, hb1⟩
  have c2 := l11Parts_any w1 p ca n cap hcur hcd hn
  clear c1 hcur hcd
  go_wp2_with fail
  refine c2.mono ?_
  rintro e w2 ⟨v, P, rfl, h3, hf, ho, hl⟩
  have hb2 := below_of_left hb1 hp2 hl
  obtain ⟨a, c, rfl, hA⟩ := ho.strsAt
  clear c2 ho hl hb1
  go_wp2_with fail
  go_ret
  exact ⟨a, c, P, rfl, h3, hf, hA, hb2⟩
end Go.Proofs.YtnnaphfeeobelaeDoor

namespace Go.Proofs.YtnnaphfeeobelaeDoor
open Go.RowKit
set_option maxRecDepth 100000 in
set_option maxHeartbeats 4000000 in
theorem spoilt_any (w : World) (p : Nat) (ca : Option Addr) (n cap : Nat) (s : ByteArray) (hs : s.size ≤ 100000) (hc : Cur w p ca n cap) (hcode : CodeAt w ca n p) (hn : n ≤ 1048576) :
    Calls Tryd.prog 43 #[.pointer (some ⟨p, 0, none⟩), .string s] w fun e w' => ∃ t : ByteArray, e = .returned (.string t) ∧ t.size ≤ s.size + 1 ∧ Left w w' p ca n cap := by
  have hp := hc.lt
  have c1 := below_any w p ca n cap 12 hc hcode hn (by omega) (by omega)
  clear hc hcode
  go_enter Tryd.func43, Tryd.ntmps43
  go_wp2_with fail
  refine c1.mono ?_
  rintro e w1 ⟨x, hx, _, rfl, hl⟩
  have hx2 := hx (by omega)
  clear c1 hx
  by_cases h0 : x = 0
  · subst h0
    have c2 := text_any w1 p ca n cap 1 hl.1 hl.2.1 hn (by omega) (by omega)
    go_wp2_with fail
    refine c2.mono ?_
    rintro e w2 ⟨t, ht, rfl, hl2⟩
    have hl3 := hl.trans hl2
    clear c2 hl hl2
    go_wp2_with fail
    go_ret
    exact ⟨_, rfl, by simp; omega, hl3⟩
  by_cases h1 : x = 1
  · subst h1
    have c2 := below_any w1 p ca n cap ((s.size : Int) + 1) hl.1 hl.2.1 hn (by omega) (by omega)
    go_wp2_with fail
    refine c2.mono ?_
    rintro e w2 ⟨y, hy, _, rfl, hl2⟩
    have hy2 := hy (by omega)
    have hl3 := hl.trans hl2
    have hsl := fun w => run_slice_string_h (P := Tryd.prog) w 9 s Tryd.underlying9 .i64 (y : Int) (by omega) (by omega)
    clear c2 hl hl2 hy
    go_wp2_with fail
    go_ret
    exact ⟨_, rfl, by simp; omega, hl3⟩
  by_cases h2 : (x = 2 ∨ x = 3) ∧ 0 < s.size
  · obtain ⟨h23, hs0⟩ := h2
    have hs1 : (0 : Int) < (s.size : Int) := by omega
    have c2 := below_any w1 p ca n cap (s.size : Int) hl.1 hl.2.1 hn (by omega) (by omega)
    have main : ∀ x : Nat, (x = 2 ∨ x = 3) → True := fun _ _ => trivial
    clear main
    rcases h23 with rfl | rfl
    all_goals
      go_wp2_with fail
      refine c2.mono ?_
      rintro e w2 ⟨y, hy, _, rfl, hl2⟩
      have hy2 := hy (by omega)
      have hl3 := hl.trans hl2
      have hsl := fun w => run_slice_string_h (P := Tryd.prog) w 9 s Tryd.underlying9 .i64 (y : Int) (by omega) (by omega)
      have hsr := fun w => run_slice_string_l (P := Tryd.prog) w 9 s Tryd.underlying9 .i64 ((y : Int) + 1) (by omega) (by omega)
      rw [Int.toNat_natCast] at hsl
      rw [show ((y : Int) + 1).toNat = y + 1 by omega] at hsr
      obtain ⟨A, hA⟩ : ∃ A, s.extract 0 y = A := ⟨_, rfl⟩
      obtain ⟨B, hB⟩ : ∃ B, s.extract (y + 1) s.size = B := ⟨_, rfl⟩
      have HA1 : Hid (A.size = y ∧ y < s.size) := by refine ⟨?_, by omega⟩; rw [← hA]; simp; omega
      have HB1 : Hid (B.size = s.size - (y + 1)) := by show _ = _; rw [← hB]; simp
      rw [hA] at hsl
      rw [hB] at hsr
      clear hA hB
      have hdf : Left w2 w2.drew p ca n cap := ⟨hl3.1.kept rfl, hl3.2.1.kept (fun _ _ => rfl), ⟨rfl, rfl, rfl, Nat.le_refl _, fun _ _ _ => rfl⟩⟩
      have hld := hl3.trans hdf
      have haz : IntKind.i64.wrap ((y : Int) + 1) = (y : Int) + 1 := by rw [IntKind.wrap_i64]; omega
      clear c2 hl hl2 hy hl3 hdf
      go_wp2_with fail
      go_region_law (go_simp; go_at_call 38; refine (text_any _ p ca n cap 1 hld.1 hld.2.1 hn (by omega) (by omega)).mono ?_; rintro e w3 ⟨t, ht, rfl, hl4⟩; have hl5 := hld.trans hl4; have HT : Hid (A.size + t.size + B.size = s.size) := (by show _ = _; have := HA1.out; have := HB1.out; omega); clear ht; have q1 : ¬ 9223372036854775807 < A.size + t.size := (by have := HT.out; omega); have q2 : ¬ 9223372036854775807 < (A ++ t).size + B.size := (by rw [ByteArray.size_append]; have := HT.out; omega); have q3 : ¬ 9223372036854775807 < A.size + t.size + B.size := (by have := HT.out; omega))
      all_goals (
        clear hld hl4
        go_wp2_with fail
        go_ret
        exact ⟨_, rfl, by have := HT.out; simp; omega, hl5⟩)
  by_cases h3 : x = 2
  · subst h3
    have hs0 : ¬ (0 : Int) < (s.size : Int) := by omega
    go_wp2_with fail
    go_ret
    exact ⟨_, rfl, by omega, hl⟩
  by_cases h4 : x = 3
  · subst h4
    have hs0 : ¬ (0 : Int) < (s.size : Int) := by omega
    go_wp2_with fail
    go_ret
    exact ⟨_, rfl, by omega, hl⟩
  have e0 : (x : Int) ≠ 0 := by omega
  have e1 : (x : Int) ≠ 1 := by omega
  have e2 : (x : Int) ≠ 2 := by omega
  have e3 : (x : Int) ≠ 3 := by omega
  go_wp2_with fail
  go_ret
  exact ⟨_, rfl, by omega, hl⟩
end Go.Proofs.YtnnaphfeeobelaeDoor
