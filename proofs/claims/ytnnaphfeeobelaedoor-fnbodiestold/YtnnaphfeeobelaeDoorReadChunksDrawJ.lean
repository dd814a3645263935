/- Texts that stand in one: ReadChunksDraw, ChunkTextDraw. -/
import Derived.Test.YtnnaphfeeobelaeDoorBodyDraw
import Derived.Test.YtnnaphfeeobelaeDoorPartsDraw11J
namespace Go.Proofs.YtnnaphfeeobelaeDoor
open Go.RowKit Go.Sort
set_option maxRecDepth 100000 in
set_option maxHeartbeats 2000000 in
theorem drawReadChunks_any (w : World) (ca : Option Addr) (n cap : Nat) (hcode : CodeAt w ca n w.heap.size) (hn : n ≤ 1048576) :
    Calls Tryd.prog 11 #[.slice ca n cap] w fun e w' => ∃ t : ByteArray, e = .returned (.string t) ∧ t.size ≤ 2000 ∧ Tame t ∧ Below w.heap.size w w' := by
  have c1 := new_any w ca n cap hcode hn
  clear hcode
  go_enter Tryd.func11, Tryd.ntmps11
  go_wp2_with fail
  refine c1.mono ?_
  rintro e w1 ⟨p, rfl, hp1, hp2, hcur, hcd, hb1⟩
  have c2 := l11Body_any w1 p ca n cap hcur hcd hn
  clear c1 hcur hcd
  go_wp2_with fail
  refine c2.mono ?_
  rintro e w2 ⟨t, rfl, ht, htm, hl⟩
  have hb2 := below_of_left hb1 hp2 hl
  clear c2 hl hb1
  go_wp2_with fail
  go_ret
  exact ⟨t, rfl, ht, htm, hb2⟩
end Go.Proofs.YtnnaphfeeobelaeDoor

namespace Go.Proofs.YtnnaphfeeobelaeDoor
open Go.RowKit Go.Sort
def midB (P : List ByteArray) : Prop := ∀ p ∈ P, p.size ≤ 100
theorem midB.snoc {P : List ByteArray} {s : ByteArray} (h : midB P) (hs : s.size ≤ 100) : midB (P ++ [s]) := by
  intro q hq
  rcases List.mem_append.1 hq with hq | hq
  · exact h q hq
  · rw [List.mem_singleton.1 hq]; exact hs
def lenV11 : Value → Nat
  | .slice _ n _ => n
  | _ => 0
set_option maxRecDepth 100000 in
set_option maxHeartbeats 4000000 in
theorem drawChunkText_any (w : World) (ca : Option Addr) (n cap : Nat) (hcode : CodeAt w ca n w.heap.size) (hn : n ≤ 1048576) :
    Calls Tryd.prog 13 #[.slice ca n cap] w fun e w' => ∃ (a : Option Addr) (c : Nat) (P : List ByteArray), e = .returned (.slice a P.length c) ∧ P.length ≤ 12 ∧ midB P ∧ LAt w' a P w'.heap.size ∧ Below w.heap.size w w' := by
  have c1 := new_any w ca n cap hcode hn
  clear hcode
  go_enter Tryd.func13, Tryd.ntmps13
  go_wp2_with fail
  refine c1.mono ?_
  rintro e w1 ⟨p, rfl, hp1, hp2, hcur, hcd, hb1⟩
  have c2 := l11Parts_any w1 p ca n cap hcur hcd hn
  clear c1 hcur hcd
  go_wp2_with fail
  refine c2.mono ?_
  rintro e w2 ⟨v, P, rfl, h3, hf, ho, hl⟩
  have hp := hp1
  have HP : Hid (midB P) := fun q hq => by have := hf q hq; omega
  have c3 := below_any w2 p ca n cap 8 hl.1 hl.2.1 hn (by omega) (by omega)
  clear c2 hf
  go_wp2_with fail
  refine c3.mono ?_
  rintro e w3 ⟨x, hx, _, rfl, hl2⟩
  have hx2 := hx (by omega)
  have ho3 := ho.past11 hl2 hp
  have hl3 := hl.trans hl2
  have hs3 := hl3.2.2.size
  have hsl := strs_length P
  clear c3 hx ho hl hl2
  by_cases h0 : x = 0
  · subst h0
    go_wp2_with (at_builtin; refine wpList_snocV rfl (.tmp 13) (.tmp 14) 24 rfl w1.heap.size 9 Tryd.underlying24 (.string ⟨#[]⟩) 16 Tryd.infoS11 rfl _ (strs P) rfl ho3 (.string ⟨#[]⟩) rfl rfl (by omega) (by omega) (by omega) ?_; intro v' w4 hown' hne' hbel' hsz')
    have hl4 := hl3.below (hbel' _ (Below.refl _ _)) hp
    have hb4 := below_of_left hb1 hp2 hl4
    have ho4 : OwnV w4 w1.heap.size 9 v' (strs (P ++ [⟨#[]⟩])) := by simpa [strs] using hown'
    obtain ⟨a, c, rfl, hA⟩ := ho4.strsAt
    go_wp2_with fail
    go_ret
    exact ⟨a, c, _, rfl, by simp; omega, HP.out.snoc (by simp [ByteArray.size]), hA, hb4⟩
  by_cases h1 : x = 1
  · subst h1
    have c4 := below_any w3 p ca n cap 2 hl3.1 hl3.2.1 hn (by omega) (by omega)
    go_wp2_with fail
    refine c4.mono ?_
    rintro e w4 ⟨y, hy, _, rfl, hl4⟩
    have hy2 := hy (by omega)
    have ho4 := ho3.past11 hl4 hp
    have hl5 := hl3.trans hl4
    have c5 := long_any w4 (99 + (y : Int)) 97 (by omega) (by omega) (by omega) (by omega)
    clear c4 hy
    go_wp2_with fail
    refine c5.mono ?_
    rintro e w5 ⟨s, hs, rfl, hb5⟩
    clear c5
    have ho5 := ho4.below hb5 (Nat.le_refl _)
    have hs4 := hl5.2.2.size
    have hs5 := hb5.size
    have hl6 := hl5.below (hb5.mono hs4) hp
    clear ho3 ho4 hl3 hl4 hl5 hb5
    go_wp2_with (at_builtin; refine wpList_snocV rfl (.tmp 18) (.tmp 23) 24 rfl w1.heap.size 9 Tryd.underlying24 (.string ⟨#[]⟩) 16 Tryd.infoS11 rfl _ (strs P) rfl ho5 (.string s) rfl rfl (by omega) (by omega) (by omega) ?_; intro v' w6 hown' hne' hbel' hsz')
    have hl7 := hl6.below (hbel' _ (Below.refl _ _)) hp
    have hb7 := below_of_left hb1 hp2 hl7
    have ho7 : OwnV w6 w1.heap.size 9 v' (strs (P ++ [s])) := by simpa [strs] using hown'
    obtain ⟨a, c, rfl, hA⟩ := ho7.strsAt
    go_wp2_with fail
    go_ret
    exact ⟨a, c, _, rfl, by simp; omega, HP.out.snoc (by omega), hA, hb7⟩
  by_cases h2 : x = 2
  · subst h2
    go_wp2_with fail
    go_loopw [4] (fun v wr => Box (∃ P : List ByteArray, P.length ≤ 11 ∧ Hid (midB P) ∧ OwnV wr w1.heap.size 9 v (strs P) ∧ Left w1 wr p ca n cap))
      (fun v _ => 11 - lenV11 v)
    case atStart => exact ⟨⟨P, by omega, HP, ho3, hl3⟩⟩
    case round =>
      clear ho3 hl3 hs3 hsl HP h3
      obtain ⟨P, h3, HP, ho, hl⟩ := hrel.out
      clear hrel
      obtain ⟨a, c, rfl, hA⟩ := ho.strsAt
      have hsl := strs_length P
      have c4 := below_any wr p ca n cap 2 hl.1 hl.2.1 hn (by omega) (by omega)
      go_wp2_with fail
      refine c4.mono ?_
      rintro e w4 ⟨y, hy, _, rfl, hl4⟩
      have hy2 := hy (by omega)
      have ho4 := ho.past11 hl4 hp
      have hl5 := hl.trans hl4
      have hs4 := hl5.2.2.size
      clear c4 hy ho hl hl4 hA
      by_cases hlt : (P.length : Int) < 10 + (y : Int)
      · go_wp2_with (at_builtin; refine wpList_snocV rfl (.tmp 33) (.tmp 34) 24 rfl w1.heap.size 9 Tryd.underlying24 (.string ⟨#[]⟩) 16 Tryd.infoS11 rfl _ (strs P) rfl ho4 (.string ⟨#[120]⟩) rfl rfl (by omega) (by omega) (by omega) ?_; intro v' w6 hown' hne' hbel' hsz')
        have ho7 : OwnV w6 w1.heap.size 9 v' (strs (P ++ [⟨#[120]⟩])) := by simpa [strs] using hown'
        obtain ⟨a', c', hv', _⟩ := ho7.strsAt
        go_roundw
        case rel =>
          try ((repeat apply Exists.intro); refine ⟨?_, rfl⟩)
          exact ⟨⟨P ++ [⟨#[120]⟩], by simp; omega, HP.out.snoc (by simp [ByteArray.size]), ho7, hl5.below (hbel' _ (Below.refl _ _)) hp⟩⟩
        case measure => rw [hv']; simp [lenV11]; omega
      · have hb4 := below_of_left hb1 hp2 hl5
        obtain ⟨a2, c2, e2, hA2⟩ := ho4.strsAt
        cases e2
        go_wp2_with fail
        go_ret
        exact ⟨_, _, P, rfl, by omega, HP.out, hA2, hb4⟩
  · have e0 : (x : Int) ≠ 0 := by omega
    have e1 : (x : Int) ≠ 1 := by omega
    have e2 : (x : Int) ≠ 2 := by omega
    have hb4 := below_of_left hb1 hp2 hl3
    obtain ⟨a, c, rfl, hA⟩ := ho3.strsAt
    go_wp2_with fail
    go_ret
    exact ⟨a, c, P, rfl, by omega, HP.out, hA, hb4⟩
end Go.Proofs.YtnnaphfeeobelaeDoor
