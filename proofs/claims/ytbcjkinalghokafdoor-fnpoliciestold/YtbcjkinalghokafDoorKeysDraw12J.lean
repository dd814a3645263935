/- Texts that stand in one: KeysDraw12, KeysDraw13, SkBase, PolBase, Touch. -/
import Derived.Test.YtbcjkinalghokafDoorDraws
import Derived.Test.YtbcjkinalghokafDoorStrsJ
import Derived.WalkKit
import Derived.Test.YtbcjkinalghokafDoorSumTabJ
namespace Go.Proofs.YtbcjkinalghokafDoor
open Go.RowKit Go.Sort

def keyL12 : List ByteArray := [⟨#[47, 97]⟩, ⟨#[47, 98]⟩, ⟨#[47, 99]⟩, ⟨#[47, 100]⟩, ⟨#[47, 101]⟩, ⟨#[47, 102]⟩, ⟨#[47, 103]⟩, ⟨#[47, 104]⟩]
theorem keyL12_size : ∀ z ∈ keyL12, z.size ≤ 2 := by decide
theorem OwnV.past12 {w w1 : World} {p base : Nat} {e : TypeId} {v : Value} {xs : List Value} {ca : Option Addr} {n cap : Nat} (h : OwnV w base e v xs) (hl : Left w w1 p ca n cap) (hp : p < base) : OwnV w1 base e v xs :=
  h.grown hl.2.2 fun q hq e => by
    have := (h.lt q hq).1
    simp at e
    omega
theorem Tryd.infoS12 : (Tryd.prog.info? 9).map (fun i => (i.zero, i.size, i.bytes)) = some (some (.string ⟨#[]⟩), 1, 16) := by kernel_rfl
set_option maxHeartbeats 1000000 in
theorem l12Key_any (w : World) (p : Nat) (ca : Option Addr) (n cap : Nat) (hc : Cur w p ca n cap) (hcode : CodeAt w ca n p) (hn : n ≤ 1048576) (hp : p < w.heap.size) :
    Calls Tryd.prog 27 #[.pointer (some ⟨p, 0, none⟩)] w fun e w' => ∃ z : ByteArray, z.size ≤ 2 ∧ e = .returned (.string z) ∧ Left w w' p ca n cap := by
  have c3 := pick_any (w.alloc (.cells (strs keyL12).toArray 9)) p ca n cap w.heap.size (.slice (some ⟨w.heap.size, 0, none⟩) 8 8) keyL12 (hc.alloc hp _) (hcode.alloc _) hn
      (World.ownsRow_lit (base := w.heap.size) (e := 9) (size := 1) w (strs keyL12).toArray 8 (Nat.le_refl _) (by simp [maxLen]) (by rfl)) hp (by decide) (by decide)
  clear hc hcode
  go_enter Tryd.func27, Tryd.ntmps27
  go_wp2_with fail
  refine c3.mono ?_
  rintro e w2 ⟨z, hz, rfl, hl2⟩
  have HZ : Hid (z.size ≤ 2) := keyL12_size z hz
  clear hz
  go_wp2
  go_ret
  exact ⟨z, HZ.out, rfl, ⟨hl2.1, hl2.2.1, grownBy_trans (World.grownBy_alloc _ _ _) hl2.2.2⟩⟩
def keysB (P : List ByteArray) : Prop := ∀ p ∈ P, p.size ≤ 2
set_option maxHeartbeats 2000000 in
theorem drawKeys_any (w : World) (ca : Option Addr) (n cap : Nat) (hcode : CodeAt w ca n w.heap.size) (hn : n ≤ 1048576) :
    Calls Tryd.prog 8 #[.slice ca n cap] w fun e w' => ∃ (a : Option Addr) (c : Nat) (P : List ByteArray), e = .returned (.slice a P.length c) ∧ P.length ≤ 42 ∧ keysB P ∧ LAt w' a P w'.heap.size ∧ Below w.heap.size w w' := by
  have c1 := new_any w ca n cap hcode hn
  clear hcode
  go_enter Tryd.func8, Tryd.ntmps8
  go_wp2_with fail
  refine c1.mono ?_
  rintro e w1 ⟨p, rfl, hp, hp2, hcur, hcd, hb1⟩
  clear c1
  go_wp2
  go_loopw [4, 5] (fun v i wr => Box (∃ (k : Nat) (P : List ByteArray), k ≤ 42 ∧ i = .int .i64 k ∧ P.length ≤ k ∧ k ≤ P.length ∧ Hid (keysB P) ∧ OwnV wr w1.heap.size 9 v (strs P) ∧ Left w1 wr p ca n cap))
    (fun _ i _ => 42 - (intOf i).toNat)
  case atStart => exact ⟨⟨0, [], by omega, rfl, by simp, by simp, (by intro p hp; cases hp), World.ownsRow_made w1 #[] 0 (Nat.le_refl _) (by simp [maxLen]) (by simp), Cur.alloc hcur hp _, CodeAt.alloc hcd _, World.grownBy_alloc _ _ _⟩⟩
  case round =>
    obtain ⟨k, P, hk, rfl, hl1, hl2, HL, hown, hleft⟩ := hrel.out
    clear hrel hcur hcd
    have c1 := below_any wr p ca n cap 40 hleft.1 hleft.2.1 hn (by omega) (by omega)
    go_wp2_with fail
    refine c1.mono ?_
    rintro e w2 ⟨x, hx, _, rfl, hl3⟩
    have hx2 := hx (by omega)
    have hown1 := hown.past12 hl3 hp
    have hl4 := hleft.trans hl3
    have hs1 := hl4.2.2.size
    clear c1 hx hown hleft hl3
    by_cases hlt : (k : Int) < 3 + (x : Int)
    · have c2 := l12Key_any w2 p ca n cap hl4.1 hl4.2.1 hn (by omega)
      go_wp2_with fail
      refine c2.mono ?_
      rintro e w3 ⟨s, hsz, rfl, hl7⟩
      have hown3 := hown1.past12 hl7 hp
      have hl8 := hl4.trans hl7
      have hs3 := hl8.2.2.size
      have hsl := strs_length P
      have HL2 : Hid (keysB (P ++ [s])) := by
        intro q hq
        rcases List.mem_append.1 hq with hq | hq
        · exact HL.out q hq
        · rw [List.mem_singleton.1 hq]; omega
      clear c2 hown1 hl4 hl7 hsz
      go_wp2_with (at_builtin; refine wpList_snocV rfl (.tmp 16) (.tmp 19) 24 rfl w1.heap.size 9 Tryd.underlying24 (.string ⟨#[]⟩) 16 Tryd.infoS12 rfl _ (strs P) rfl hown3 (.string s) rfl rfl (by omega) (by omega) (by omega) ?_; intro v' w4 hown' hne' hbel' hsz')
      go_roundw
      case rel =>
        try ((repeat apply Exists.intro); refine ⟨?_, rfl⟩)
        exact ⟨⟨k + 1, P ++ [s], by omega, by go_num, by simp; omega, by simp; omega, HL2, by simpa [strs] using hown', hl8.below (hbel' _ (Below.refl _ _)) hp⟩⟩
      case measure => simp [intOf]; omega
    · obtain ⟨av, cv, rfl, hA⟩ := hown1.strsAt
      go_wp2
      go_ret
      exact ⟨av, cv, P, rfl, by omega, HL.out, hA, below_of_left hb1 hp2 hl4⟩
end Go.Proofs.YtbcjkinalghokafDoor

namespace Go.Proofs.YtbcjkinalghokafDoor
open Go.RowKit Go.Sort

def key2 (z : ByteArray) : Prop := 1 ≤ z.size ∧ z.size ≤ 2
theorem keyL12_two : ∀ z ∈ keyL12, key2 z := by
  have h : ∀ z ∈ keyL12, 1 ≤ z.size ∧ z.size ≤ 2 := by decide
  exact h
set_option maxHeartbeats 1000000 in
theorem l12Key2_any (w : World) (p : Nat) (ca : Option Addr) (n cap : Nat) (hc : Cur w p ca n cap) (hcode : CodeAt w ca n p) (hn : n ≤ 1048576) (hp : p < w.heap.size) :
    Calls Tryd.prog 27 #[.pointer (some ⟨p, 0, none⟩)] w fun e w' => ∃ z : ByteArray, key2 z ∧ e = .returned (.string z) ∧ Left w w' p ca n cap := by
  have c3 := pick_any (w.alloc (.cells (strs keyL12).toArray 9)) p ca n cap w.heap.size (.slice (some ⟨w.heap.size, 0, none⟩) 8 8) keyL12 (hc.alloc hp _) (hcode.alloc _) hn
      (World.ownsRow_lit (base := w.heap.size) (e := 9) (size := 1) w (strs keyL12).toArray 8 (Nat.le_refl _) (by simp [maxLen]) (by rfl)) hp (by decide) (by decide)
  clear hc hcode
  go_enter Tryd.func27, Tryd.ntmps27
  go_wp2_with fail
  refine c3.mono ?_
  rintro e w2 ⟨z, hz, rfl, hl2⟩
  have HZ : Hid (key2 z) := keyL12_two z hz
  clear hz
  go_wp2
  go_ret
  exact ⟨z, HZ.out, rfl, ⟨hl2.1, hl2.2.1, grownBy_trans (World.grownBy_alloc _ _ _) hl2.2.2⟩⟩
def keysT (P : List ByteArray) : Prop := ∀ p ∈ P, key2 p
set_option maxHeartbeats 2000000 in
theorem drawKeys2_any (w : World) (ca : Option Addr) (n cap : Nat) (hcode : CodeAt w ca n w.heap.size) (hn : n ≤ 1048576) :
    Calls Tryd.prog 8 #[.slice ca n cap] w fun e w' => ∃ (a : Option Addr) (c : Nat) (P : List ByteArray), e = .returned (.slice a P.length c) ∧ P.length ≤ 42 ∧ keysT P ∧ LAt w' a P w'.heap.size ∧ Below w.heap.size w w' ∧ Hid (OwnV w' w.heap.size 9 (.slice a P.length c) (strs P)) := by
  have c1 := new_any w ca n cap hcode hn
  clear hcode
  go_enter Tryd.func8, Tryd.ntmps8
  go_wp2_with fail
  refine c1.mono ?_
  rintro e w1 ⟨p, rfl, hp, hp2, hcur, hcd, hb1⟩
  clear c1
  go_wp2
  go_loopw [4, 5] (fun v i wr => Box (∃ (k : Nat) (P : List ByteArray), k ≤ 42 ∧ i = .int .i64 k ∧ P.length ≤ k ∧ k ≤ P.length ∧ Hid (keysT P) ∧ OwnV wr w1.heap.size 9 v (strs P) ∧ Left w1 wr p ca n cap))
    (fun _ i _ => 42 - (intOf i).toNat)
  case atStart => exact ⟨⟨0, [], by omega, rfl, by simp, by simp, (by intro p hp; cases hp), World.ownsRow_made w1 #[] 0 (Nat.le_refl _) (by simp [maxLen]) (by simp), Cur.alloc hcur hp _, CodeAt.alloc hcd _, World.grownBy_alloc _ _ _⟩⟩
  case round =>
    obtain ⟨k, P, hk, rfl, hl1, hl2, HL, hown, hleft⟩ := hrel.out
    clear hrel hcur hcd
    have c1 := below_any wr p ca n cap 40 hleft.1 hleft.2.1 hn (by omega) (by omega)
    go_wp2_with fail
    refine c1.mono ?_
    rintro e w2 ⟨x, hx, _, rfl, hl3⟩
    have hx2 := hx (by omega)
    have hown1 := hown.past12 hl3 hp
    have hl4 := hleft.trans hl3
    have hs1 := hl4.2.2.size
    clear c1 hx hown hleft hl3
    by_cases hlt : (k : Int) < 3 + (x : Int)
    · have c2 := l12Key2_any w2 p ca n cap hl4.1 hl4.2.1 hn (by omega)
      go_wp2_with fail
      refine c2.mono ?_
      rintro e w3 ⟨s, hsz, rfl, hl7⟩
      have hown3 := hown1.past12 hl7 hp
      have hl8 := hl4.trans hl7
      have hs3 := hl8.2.2.size
      have hsl := strs_length P
      have HL2 : Hid (keysT (P ++ [s])) := by
        intro q hq
        rcases List.mem_append.1 hq with hq | hq
        · exact HL.out q hq
        · rw [List.mem_singleton.1 hq]; exact hsz
      clear c2 hown1 hl4 hl7 hsz
      go_wp2_with (at_builtin; refine wpList_snocV rfl (.tmp 16) (.tmp 19) 24 rfl w1.heap.size 9 Tryd.underlying24 (.string ⟨#[]⟩) 16 Tryd.infoS12 rfl _ (strs P) rfl hown3 (.string s) rfl rfl (by omega) (by omega) (by omega) ?_; intro v' w4 hown' hne' hbel' hsz')
      go_roundw
      case rel =>
        try ((repeat apply Exists.intro); refine ⟨?_, rfl⟩)
        exact ⟨⟨k + 1, P ++ [s], by omega, by go_num, by simp; omega, by simp; omega, HL2, by simpa [strs] using hown', hl8.below (hbel' _ (Below.refl _ _)) hp⟩⟩
      case measure => simp [intOf]; omega
    · obtain ⟨av, cv, rfl, hA⟩ := hown1.strsAt
      have HOW : Hid (OwnV w2 w.heap.size 9 (.slice av P.length cv) (strs P)) := hown1.mono hb1.size
      clear hown1
      go_wp2
      go_ret
      exact ⟨av, cv, P, rfl, by omega, HL.out, hA, below_of_left hb1 hp2 hl4, HOW⟩
end Go.Proofs.YtbcjkinalghokafDoor

namespace Go.Proofs.YtbcjkinalghokafDoor
open Go.RowKit

structure Sk where
  rows : List (List Int)
  added : Int

def numOk (z : Int) : Bool := decide (0 ≤ z ∧ z ≤ 15)
def rowOk (r : List Int) : Bool := decide (r.length = 16) && r.all numOk
def headOkK (S : Sk) : Bool := decide (S.rows.length = 3) && decide (0 ≤ S.added ∧ S.added ≤ 63)
def okK (S : Sk) : Bool := headOkK S && S.rows.all rowOk
def newS : Sk := ⟨List.replicate 3 (List.replicate 16 0), 0⟩

theorem rowOk_len {r : List Int} (h : rowOk r = true) : r.length = 16 := by
  unfold rowOk at h
  simp only [Bool.and_eq_true, decide_eq_true_eq] at h
  exact h.1
theorem rowOk_at {r : List Int} (h : rowOk r = true) (p : Nat) (hp : p < 16) : 0 ≤ r.getD p 0 ∧ r.getD p 0 ≤ 15 := by
  have hl := rowOk_len h
  unfold rowOk at h
  simp only [Bool.and_eq_true, List.all_eq_true] at h
  have h2 := h.2 r[p] (List.getElem_mem (by omega))
  simp only [numOk, decide_eq_true_eq] at h2
  rw [List.getD_eq_getElem?_getD, List.getElem?_eq_getElem (by omega)]
  exact h2
theorem list3S {l : List (List Int)} (h : l.length = 3) : ∃ a b c, l = [a, b, c] := by
  match l, h with
  | [a, b, c], _ => exact ⟨a, b, c, rfl⟩
/-- A right sketch has three right rows. -/
theorem okK_parts {S : Sk} (h : okK S = true) : ∃ a b c, S.rows = [a, b, c] ∧ rowOk a = true ∧ rowOk b = true ∧ rowOk c = true ∧ 0 ≤ S.added ∧ S.added ≤ 63 := by
  unfold okK headOkK at h
  simp only [Bool.and_eq_true, decide_eq_true_eq, List.all_eq_true] at h
  obtain ⟨⟨h1, h2⟩, h3⟩ := h
  obtain ⟨a, b, c, e⟩ := list3S h1
  rw [e] at h3
  exact ⟨a, b, c, e, h3 a (by simp), h3 b (by simp), h3 c (by simp), h2.1, h2.2⟩
theorem okK_mk {a b c : List Int} {n : Int} (ha : rowOk a = true) (hb : rowOk b = true) (hc : rowOk c = true) (h0 : 0 ≤ n) (h1 : n ≤ 63) : okK ⟨[a, b, c], n⟩ = true := by
  simp [okK, headOkK, ha, hb, hc, h0, h1]
theorem newS_ok : okK newS = true := by decide
end Go.Proofs.YtbcjkinalghokafDoor

namespace Go.Proofs.YtbcjkinalghokafDoor
open Go.RowKit

structure Pol where
  win : List ByteArray
  main : List ByteArray
  sk : Sk

def noKey : ByteArray := ⟨#[]⟩
def inL (l : List ByteArray) (s : ByteArray) : Bool := l.any fun z => decide (z = s)
def keyOk (s : ByteArray) : Bool := decide (1 ≤ s.size ∧ s.size ≤ 30)
/-- The first k of them are right: of their size, none twice. -/
def listOkTo (l : List ByteArray) (k : Nat) : Bool := (List.range k).all fun i => keyOk (l.getD i noKey) && !inL (l.take i) (l.getD i noKey)
def listOk (l : List ByteArray) : Bool := listOkTo l l.length
def okP (P : Pol) : Bool := listOk (P.win ++ P.main) && (decide (P.win.length ≤ 2) && decide (P.main.length ≤ 4) && okK P.sk)
def hasP (P : Pol) (key : ByteArray) : Bool := inL P.win key || inL P.main key
def without (l : List ByteArray) (s : ByteArray) : List ByteArray := l.filter fun z => !decide (z = s)
def dropP (P : Pol) (key : ByteArray) : Pol := ⟨without P.win key, without P.main key, P.sk⟩
def newP : Pol := ⟨[], [], newS⟩
theorem inL_iff {l : List ByteArray} {s : ByteArray} : inL l s = true ↔ s ∈ l := by
  unfold inL
  rw [List.any_eq_true]
  constructor
  · rintro ⟨z, hz, e⟩
    simp only [decide_eq_true_eq] at e
    rw [← e]
    exact hz
  · intro h
    exact ⟨s, h, by simp⟩
theorem inL_false {l : List ByteArray} {s : ByteArray} : inL l s = false ↔ s ∉ l := by
  rw [← inL_iff]
  simp
theorem without_mem {l : List ByteArray} {s z : ByteArray} : z ∈ without l s ↔ z ∈ l ∧ z ≠ s := by
  unfold without
  rw [List.mem_filter]
  simp
theorem without_none {l : List ByteArray} {s : ByteArray} (h : s ∉ l) : without l s = l := by
  unfold without
  rw [List.filter_eq_self]
  intro z hz
  simp only [Bool.not_eq_true', decide_eq_false_iff_not]
  intro e
  rw [e] at hz
  exact h hz
theorem nodup_snoc {l : List ByteArray} {z : ByteArray} : (l ++ [z]).Nodup ↔ l.Nodup ∧ z ∉ l := by
  rw [List.nodup_append]
  constructor
  · rintro ⟨h1, _, h3⟩
    exact ⟨h1, fun hz => h3 z hz z (by simp) rfl⟩
  · rintro ⟨h1, h2⟩
    refine ⟨h1, by simp, fun a ha b hb e => ?_⟩
    rw [List.mem_singleton] at hb
    rw [hb] at e
    rw [e] at ha
    exact h2 ha
theorem listOkTo_iff (l : List ByteArray) : ∀ k, k ≤ l.length → (listOkTo l k = true ↔ (∀ z ∈ l.take k, keyOk z = true) ∧ (l.take k).Nodup)
  | 0, _ => by simp [listOkTo]
  | k + 1, hk => by
    have ih := listOkTo_iff l k (by omega)
    have hlt : k < l.length := by omega
    have hg : l.getD k noKey = l[k] := by simp [List.getD_eq_getElem?_getD, hlt]
    have e : listOkTo l (k + 1) = (listOkTo l k && (keyOk l[k] && !inL (l.take k) l[k])) := by
      unfold listOkTo
      rw [List.range_succ, List.all_append]
      simp only [List.all_cons, List.all_nil, Bool.and_true, hg]
    rw [e, Bool.and_eq_true, ih, Bool.and_eq_true, Bool.not_eq_true', inL_false, List.take_succ_eq_append_getElem hlt, nodup_snoc]
    constructor
    · rintro ⟨⟨h1, h2⟩, h3, h4⟩
      refine ⟨fun z hz => ?_, h2, h4⟩
      rcases List.mem_append.1 hz with hz | hz
      · exact h1 z hz
      · rw [List.mem_singleton.1 hz]; exact h3
    · rintro ⟨h1, h2, h3⟩
      exact ⟨⟨fun z hz => h1 z (List.mem_append_left _ hz), h2⟩, h1 _ (List.mem_append_right _ (List.mem_singleton.2 rfl)), h3⟩
theorem listOk_iff {l : List ByteArray} : listOk l = true ↔ (∀ z ∈ l, keyOk z = true) ∧ l.Nodup := by
  have := listOkTo_iff l l.length (Nat.le_refl _)
  rw [List.take_length] at this
  exact this
theorem okP_iff {P : Pol} : okP P = true ↔ (∀ z ∈ P.win, keyOk z = true) ∧ (∀ z ∈ P.main, keyOk z = true) ∧ P.win.Nodup ∧ P.main.Nodup ∧ (∀ z ∈ P.win, z ∉ P.main) ∧ P.win.length ≤ 2 ∧ P.main.length ≤ 4 ∧ okK P.sk = true := by
  unfold okP
  simp only [Bool.and_eq_true, decide_eq_true_eq]
  rw [listOk_iff, List.nodup_append]
  constructor
  · rintro ⟨⟨h1, h2, h3, h4⟩, ⟨h5, h6⟩, h7⟩
    exact ⟨fun z hz => h1 z (List.mem_append_left _ hz), fun z hz => h1 z (List.mem_append_right _ hz), h2, h3, fun z hz hm => h4 z hz z hm rfl, h5, h6, h7⟩
  · rintro ⟨h1, h2, h3, h4, h5, h6, h7, h8⟩
    refine ⟨⟨fun z hz => ?_, h3, h4, fun a ha b hb e => h5 a ha (by rw [e]; exact hb)⟩, ⟨h6, h7⟩, h8⟩
    rcases List.mem_append.1 hz with hz | hz
    · exact h1 z hz
    · exact h2 z hz
theorem newP_ok : okP newP = true := by
  rw [okP_iff]
  exact ⟨by simp [newP], by simp [newP], by simp [newP], by simp [newP], by simp [newP], by simp [newP], by simp [newP], newS_ok⟩
theorem without_length {l : List ByteArray} {s : ByteArray} (h : l.Nodup) (hs : s ∈ l) : (without l s).length + 1 = l.length := by
  induction l with
  | nil => simp at hs
  | cons a r ih =>
    rw [List.nodup_cons] at h
    by_cases e : a = s
    · subst e
      have hn : without r a = r := without_none h.1
      have : without (a :: r) a = without r a := by simp [without]
      rw [this, hn]
      simp
    · have hr : s ∈ r := by
        rcases List.mem_cons.1 hs with h1 | h1
        · exact absurd h1.symm e
        · exact h1
      have : without (a :: r) s = a :: without r s := by simp [without, e]
      rw [this, List.length_cons, List.length_cons, ih h.2 hr]
theorem without_nodup {l : List ByteArray} {s : ByteArray} (h : l.Nodup) : (without l s).Nodup := h.filter _
theorem keyOk_ne {z : ByteArray} (h : keyOk z = true) : z ≠ noKey := by
  rintro rfl
  simp [keyOk, noKey, ByteArray.size] at h
/-- Who is dropped is not there. -/
theorem dropP_has (P : Pol) (key : ByteArray) : hasP (dropP P key) key = false := by
  unfold hasP dropP
  rw [inL_false.2 (fun h => (without_mem.1 h).2 rfl), inL_false.2 (fun h => (without_mem.1 h).2 rfl)]
  rfl
end Go.Proofs.YtbcjkinalghokafDoor

namespace Go.Proofs.YtbcjkinalghokafDoor
open Go.RowKit

/-- Of the blocks that were there only those of S may be others. -/
def Tch (S : Nat → Prop) (w w' : World) : Prop := Below 0 w w' ∧ ∀ k, k < w.heap.size → ¬ S k → w'.heap[k]? = w.heap[k]?
theorem Tch.size {S : Nat → Prop} {w w' : World} (h : Tch S w w') : w.heap.size ≤ w'.heap.size := h.1.size
theorem Tch.of_below {S : Nat → Prop} {w w' : World} (h : Below w.heap.size w w') : Tch S w w' := ⟨h.mono (Nat.zero_le _), fun k hk _ => h.block k hk⟩
theorem Tch.of_grown {S : Nat → Prop} {w w' : World} {row : Option Nat} (h : w.grownBy w' row) (hS : ∀ k, row = some k → S k) : Tch S w w' :=
  ⟨⟨h.os, h.tape, h.output, h.size, fun _ hk => absurd hk (Nat.not_lt_zero _)⟩, fun k hk hn => h.block k hk (fun e => hn (hS k e.symm))⟩
theorem Tch.trans {S : Nat → Prop} {a b c : World} (h : Tch S a b) (k : Tch S b c) : Tch S a c :=
  ⟨h.1.trans k.1, fun j hj hn => (k.2 j (Nat.lt_of_lt_of_le hj h.size) hn).trans (h.2 j hj hn)⟩
theorem Tch.weak {S S' : Nat → Prop} {w w' : World} (h : Tch S w w') (hS : ∀ k, S k → S' k) : Tch S' w w' := ⟨h.1, fun k hk hn => h.2 k hk (fun e => hn (hS k e))⟩
theorem Tch.below {S : Nat → Prop} {w0 w w' : World} {B : Nat} (hb : Below B w0 w) (h : Tch S w w') (hB : B ≤ w.heap.size) (hS : ∀ k, S k → B ≤ k) : Below B w0 w' :=
  ⟨h.1.os.trans hb.os, h.1.tape.trans hb.tape, h.1.output.trans hb.output, Nat.le_trans hb.size h.size, fun k hk => (h.2 k (by omega) (fun e => by have := hS k e; omega)).trans (hb.block k hk)⟩
theorem Tch.keep {S : Nat → Prop} {w w' : World} (h : Tch S w w') {k : Nat} {o : Obj} (hk : w.heap[k]? = some o) (hn : ¬ S k) : w'.heap[k]? = some o := (h.2 k (Array.getElem?_eq_some_iff.1 hk).1 hn).trans hk
theorem OwnV.tch {S : Nat → Prop} {w w' : World} {base : Nat} {e : TypeId} {v : Value} {xs : List Value} (h : OwnV w base e v xs) (ht : Tch S w w') (hn : ∀ k, v.ownBlock = some k → ¬ S k) : OwnV w' base e v xs := h.kept fun k hk => ht.2 k (h.lt k hk).2 (hn k hk)
end Go.Proofs.YtbcjkinalghokafDoor
