/- Keys are drawn. -/
import Derived.Test.YtifjjfjadcpmaaeDoorDraws
import Derived.Test.YtifjjfjadcpmaaeDoorStrs
import Derived.Test.YtifjjfjadcpmaaeDoorInts
namespace Go.Proofs.YtifjjfjadcpmaaeDoor
open Go.RowKit Go.Sort

def keyL12 : List ByteArray := [⟨#[47, 97]⟩, ⟨#[47, 98]⟩, ⟨#[47, 99]⟩, ⟨#[47, 100]⟩, ⟨#[47, 101]⟩, ⟨#[47, 102]⟩, ⟨#[47, 103]⟩, ⟨#[47, 104]⟩]
theorem keyL12_size : ∀ z ∈ keyL12, z.size ≤ 2 := by decide
theorem OwnV.past12 {w w1 : World} {p base : Nat} {e : TypeId} {v : Value} {xs : List Value} {ca : Option Addr} {n cap : Nat} (h : OwnV w base e v xs) (hl : Left w w1 p ca n cap) (hp : p < base) : OwnV w1 base e v xs :=
  h.grown hl.2.2 fun q hq e => by
    have := (h.lt q hq).1
    simp at e
    omega
theorem Tryd.infoS12 : (Tryd.prog.info? 9).map (fun i => (i.zero, i.size, i.bytes)) = some (some (.string ⟨#[]⟩), 1, 16) := by kernel_rfl
set_option maxHeartbeats 1000000 in
theorem l12Key_any (w : World) (p : Nat) (ca : Option Addr) (n cap : Nat) (hc : Cur w p ca n cap) (hcode : CodeAt w ca n p) (hn : n ≤ 1048576) (hp : p < w.heap.size) :
    Calls Tryd.prog 54 #[.pointer (some ⟨p, 0, none⟩)] w fun e w' => ∃ z : ByteArray, z.size ≤ 2 ∧ e = .returned (.string z) ∧ Left w w' p ca n cap := by
  have c3 := pick_any (w.alloc (.cells (strs keyL12).toArray 9)) p ca n cap w.heap.size (.slice (some ⟨w.heap.size, 0, none⟩) 8 8) keyL12 (hc.alloc hp _) (hcode.alloc _) hn
      (World.ownsRow_lit (base := w.heap.size) (e := 9) (size := 1) w (strs keyL12).toArray 8 (Nat.le_refl _) (by simp [maxLen]) (by rfl)) hp (by decide) (by decide)
  clear hc hcode
  go_enter Tryd.func54, Tryd.ntmps54
  go_wp2_with fail
  refine c3.mono ?_
  rintro e w2 ⟨z, hz, rfl, hl2⟩
  have HZ : Hid (z.size ≤ 2) := keyL12_size z hz
  clear hz
  go_wp2
  go_ret
  exact ⟨z, HZ.out, rfl, ⟨hl2.1, hl2.2.1, grownBy_trans (World.grownBy_alloc _ _ _) hl2.2.2⟩⟩
def keysB (P : List ByteArray) : Prop := ∀ p ∈ P, p.size ≤ 2
set_option maxHeartbeats 2000000 in
theorem drawKeys_any (w : World) (ca : Option Addr) (n cap : Nat) (hcode : CodeAt w ca n w.heap.size) (hn : n ≤ 1048576) :
    Calls Tryd.prog 22 #[.slice ca n cap] w fun e w' => ∃ (a : Option Addr) (c : Nat) (P : List ByteArray), e = .returned (.slice a P.length c) ∧ P.length ≤ 42 ∧ keysB P ∧ LAt w' a P w'.heap.size ∧ Below w.heap.size w w' := by
  have c1 := new_any w ca n cap hcode hn
  clear hcode
  go_enter Tryd.func22, Tryd.ntmps22
  go_wp2_with fail
  refine c1.mono ?_
  rintro e w1 ⟨p, rfl, hp, hp2, hcur, hcd, hb1⟩
  clear c1
  go_wp2
  go_loopw [4, 5] (fun v i wr => Box (∃ (k : Nat) (P : List ByteArray), k ≤ 42 ∧ i = .int .i64 k ∧ P.length ≤ k ∧ k ≤ P.length ∧ Hid (keysB P) ∧ OwnV wr w1.heap.size 9 v (strs P) ∧ Left w1 wr p ca n cap))
    (fun _ i _ => 42 - (intOf i).toNat)
  case atStart => exact ⟨⟨0, [], by omega, rfl, by simp, by simp, (by intro p hp; cases hp), World.ownsRow_made w1 #[] 0 (Nat.le_refl _) (by simp [maxLen]) (by simp), Cur.alloc hcur hp _, CodeAt.alloc hcd _, World.grownBy_alloc _ _ _⟩⟩
  case round =>
    obtain ⟨k, P, hk, rfl, hl1, hl2, HL, hown, hleft⟩ := hrel.out
    clear hrel hcur hcd
    have c1 := below_any wr p ca n cap 40 hleft.1 hleft.2.1 hn (by omega) (by omega)
    go_wp2_with fail
    refine c1.mono ?_
    rintro e w2 ⟨x, hx, _, rfl, hl3⟩
    have hx2 := hx (by omega)
    have hown1 := hown.past12 hl3 hp
    have hl4 := hleft.trans hl3
    have hs1 := hl4.2.2.size
    clear c1 hx hown hleft hl3
    by_cases hlt : (k : Int) < 3 + (x : Int)
    · have c2 := l12Key_any w2 p ca n cap hl4.1 hl4.2.1 hn (by omega)
      go_wp2_with fail
      refine c2.mono ?_
      rintro e w3 ⟨s, hsz, rfl, hl7⟩
      have hown3 := hown1.past12 hl7 hp
      have hl8 := hl4.trans hl7
      have hs3 := hl8.2.2.size
      have hsl := strs_length P
      have HL2 : Hid (keysB (P ++ [s])) := by
        intro q hq
        rcases List.mem_append.1 hq with hq | hq
        · exact HL.out q hq
        · rw [List.mem_singleton.1 hq]; omega
      clear c2 hown1 hl4 hl7 hsz
      go_wp2_with (at_builtin; refine wpList_snocV rfl (.tmp 16) (.tmp 19) 24 rfl w1.heap.size 9 Tryd.underlying24 (.string ⟨#[]⟩) 16 Tryd.infoS12 rfl _ (strs P) rfl hown3 (.string s) rfl rfl (by omega) (by omega) (by omega) ?_; intro v' w4 hown' hne' hbel' hsz')
      go_roundw
      case rel =>
        try ((repeat apply Exists.intro); refine ⟨?_, rfl⟩)
        exact ⟨⟨k + 1, P ++ [s], by omega, by go_num, by simp; omega, by simp; omega, HL2, by simpa [strs] using hown', hl8.below (hbel' _ (Below.refl _ _)) hp⟩⟩
      case measure => simp [intOf]; omega
    · obtain ⟨av, cv, rfl, hA⟩ := hown1.strsAt
      go_wp2
      go_ret
      exact ⟨av, cv, P, rfl, by omega, HL.out, hA, below_of_left hb1 hp2 hl4⟩
end Go.Proofs.YtifjjfjadcpmaaeDoor
