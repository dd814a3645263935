/- Texts that stand in one: SkBase, PolBase. -/
import Derived.WalkKit
namespace Go.Proofs.Ytpgcfgbhkodmeaa
open Go.RowKit

structure Sk where
  rows : List (List Int)
  added : Int

def numOk (z : Int) : Bool := decide (0 ≤ z ∧ z ≤ 15)
def rowOk (r : List Int) : Bool := decide (r.length = 16) && r.all numOk
def headOkK (S : Sk) : Bool := decide (S.rows.length = 3) && decide (0 ≤ S.added ∧ S.added ≤ 63)
def okK (S : Sk) : Bool := headOkK S && S.rows.all rowOk
def newS : Sk := ⟨List.replicate 3 (List.replicate 16 0), 0⟩

theorem rowOk_len {r : List Int} (h : rowOk r = true) : r.length = 16 := by
  unfold rowOk at h
  simp only [Bool.and_eq_true, decide_eq_true_eq] at h
  exact h.1
theorem rowOk_at {r : List Int} (h : rowOk r = true) (p : Nat) (hp : p < 16) : 0 ≤ r.getD p 0 ∧ r.getD p 0 ≤ 15 := by
  have hl := rowOk_len h
  unfold rowOk at h
  simp only [Bool.and_eq_true, List.all_eq_true] at h
  have h2 := h.2 r[p] (List.getElem_mem (by omega))
  simp only [numOk, decide_eq_true_eq] at h2
  rw [List.getD_eq_getElem?_getD, List.getElem?_eq_getElem (by omega)]
  exact h2
theorem list3S {l : List (List Int)} (h : l.length = 3) : ∃ a b c, l = [a, b, c] := by
  match l, h with
  | [a, b, c], _ => exact ⟨a, b, c, rfl⟩
/-- A right sketch has three right rows. -/
theorem okK_parts {S : Sk} (h : okK S = true) : ∃ a b c, S.rows = [a, b, c] ∧ rowOk a = true ∧ rowOk b = true ∧ rowOk c = true ∧ 0 ≤ S.added ∧ S.added ≤ 63 := by
  unfold okK headOkK at h
  simp only [Bool.and_eq_true, decide_eq_true_eq, List.all_eq_true] at h
  obtain ⟨⟨h1, h2⟩, h3⟩ := h
  obtain ⟨a, b, c, e⟩ := list3S h1
  rw [e] at h3
  exact ⟨a, b, c, e, h3 a (by simp), h3 b (by simp), h3 c (by simp), h2.1, h2.2⟩
theorem okK_mk {a b c : List Int} {n : Int} (ha : rowOk a = true) (hb : rowOk b = true) (hc : rowOk c = true) (h0 : 0 ≤ n) (h1 : n ≤ 63) : okK ⟨[a, b, c], n⟩ = true := by
  simp [okK, headOkK, ha, hb, hc, h0, h1]
theorem newS_ok : okK newS = true := by decide
end Go.Proofs.Ytpgcfgbhkodmeaa

namespace Go.Proofs.Ytpgcfgbhkodmeaa
open Go.RowKit

structure Pol where
  win : List ByteArray
  main : List ByteArray
  sk : Sk

def noKey : ByteArray := ⟨#[]⟩
def inL (l : List ByteArray) (s : ByteArray) : Bool := l.any fun z => decide (z = s)
def keyOk (s : ByteArray) : Bool := decide (1 ≤ s.size ∧ s.size ≤ 30)
/-- The first k of them are right: of their size, none twice. -/
def listOkTo (l : List ByteArray) (k : Nat) : Bool := (List.range k).all fun i => keyOk (l.getD i noKey) && !inL (l.take i) (l.getD i noKey)
def listOk (l : List ByteArray) : Bool := listOkTo l l.length
def okP (P : Pol) : Bool := listOk (P.win ++ P.main) && (decide (P.win.length ≤ 2) && decide (P.main.length ≤ 4) && okK P.sk)
def hasP (P : Pol) (key : ByteArray) : Bool := inL P.win key || inL P.main key
def without (l : List ByteArray) (s : ByteArray) : List ByteArray := l.filter fun z => !decide (z = s)
def dropP (P : Pol) (key : ByteArray) : Pol := ⟨without P.win key, without P.main key, P.sk⟩
def newP : Pol := ⟨[], [], newS⟩
theorem inL_iff {l : List ByteArray} {s : ByteArray} : inL l s = true ↔ s ∈ l := by
  unfold inL
  rw [List.any_eq_true]
  constructor
  · rintro ⟨z, hz, e⟩
    simp only [decide_eq_true_eq] at e
    rw [← e]
    exact hz
  · intro h
    exact ⟨s, h, by simp⟩
theorem inL_false {l : List ByteArray} {s : ByteArray} : inL l s = false ↔ s ∉ l := by
  rw [← inL_iff]
  simp
theorem without_mem {l : List ByteArray} {s z : ByteArray} : z ∈ without l s ↔ z ∈ l ∧ z ≠ s := by
  unfold without
  rw [List.mem_filter]
  simp
theorem without_none {l : List ByteArray} {s : ByteArray} (h : s ∉ l) : without l s = l := by
  unfold without
  rw [List.filter_eq_self]
  intro z hz
  simp only [Bool.not_eq_true', decide_eq_false_iff_not]
  intro e
  rw [e] at hz
  exact h hz
theorem nodup_snoc {l : List ByteArray} {z : ByteArray} : (l ++ [z]).Nodup ↔ l.Nodup ∧ z ∉ l := by
  rw [List.nodup_append]
  constructor
  · rintro ⟨h1, _, h3⟩
    exact ⟨h1, fun hz => h3 z hz z (by simp) rfl⟩
  · rintro ⟨h1, h2⟩
    refine ⟨h1, by simp, fun a ha b hb e => ?_⟩
    rw [List.mem_singleton] at hb
    rw [hb] at e
    rw [e] at ha
    exact h2 ha
theorem listOkTo_iff (l : List ByteArray) : ∀ k, k ≤ l.length → (listOkTo l k = true ↔ (∀ z ∈ l.take k, keyOk z = true) ∧ (l.take k).Nodup)
  | 0, _ => by simp [listOkTo]
  | k + 1, hk => by
    have ih := listOkTo_iff l k (by omega)
    have hlt : k < l.length := by omega
    have hg : l.getD k noKey = l[k] := by simp [List.getD_eq_getElem?_getD, hlt]
    have e : listOkTo l (k + 1) = (listOkTo l k && (keyOk l[k] && !inL (l.take k) l[k])) := by
      unfold listOkTo
      rw [List.range_succ, List.all_append]
      simp only [List.all_cons, List.all_nil, Bool.and_true, hg]
    rw [e, Bool.and_eq_true, ih, Bool.and_eq_true, Bool.not_eq_true', inL_false, List.take_succ_eq_append_getElem hlt, nodup_snoc]
    constructor
    · rintro ⟨⟨h1, h2⟩, h3, h4⟩
      refine ⟨fun z hz => ?_, h2, h4⟩
      rcases List.mem_append.1 hz with hz | hz
      · exact h1 z hz
      · rw [List.mem_singleton.1 hz]; exact h3
    · rintro ⟨h1, h2, h3⟩
      exact ⟨⟨fun z hz => h1 z (List.mem_append_left _ hz), h2⟩, h1 _ (List.mem_append_right _ (List.mem_singleton.2 rfl)), h3⟩
theorem listOk_iff {l : List ByteArray} : listOk l = true ↔ (∀ z ∈ l, keyOk z = true) ∧ l.Nodup := by
  have := listOkTo_iff l l.length (Nat.le_refl _)
  rw [List.take_length] at this
  exact this
theorem okP_iff {P : Pol} : okP P = true ↔ (∀ z ∈ P.win, keyOk z = true) ∧ (∀ z ∈ P.main, keyOk z = true) ∧ P.win.Nodup ∧ P.main.Nodup ∧ (∀ z ∈ P.win, z ∉ P.main) ∧ P.win.length ≤ 2 ∧ P.main.length ≤ 4 ∧ okK P.sk = true := by
  unfold okP
  simp only [Bool.and_eq_true, decide_eq_true_eq]
  rw [listOk_iff, List.nodup_append]
  constructor
  · rintro ⟨⟨h1, h2, h3, h4⟩, ⟨h5, h6⟩, h7⟩
    exact ⟨fun z hz => h1 z (List.mem_append_left _ hz), fun z hz => h1 z (List.mem_append_right _ hz), h2, h3, fun z hz hm => h4 z hz z hm rfl, h5, h6, h7⟩
  · rintro ⟨h1, h2, h3, h4, h5, h6, h7, h8⟩
    refine ⟨⟨fun z hz => ?_, h3, h4, fun a ha b hb e => h5 a ha (by rw [e]; exact hb)⟩, ⟨h6, h7⟩, h8⟩
    rcases List.mem_append.1 hz with hz | hz
    · exact h1 z hz
    · exact h2 z hz
theorem newP_ok : okP newP = true := by
  rw [okP_iff]
  exact ⟨by simp [newP], by simp [newP], by simp [newP], by simp [newP], by simp [newP], by simp [newP], by simp [newP], newS_ok⟩
theorem without_length {l : List ByteArray} {s : ByteArray} (h : l.Nodup) (hs : s ∈ l) : (without l s).length + 1 = l.length := by
  induction l with
  | nil => simp at hs
  | cons a r ih =>
    rw [List.nodup_cons] at h
    by_cases e : a = s
    · subst e
      have hn : without r a = r := without_none h.1
      have : without (a :: r) a = without r a := by simp [without]
      rw [this, hn]
      simp
    · have hr : s ∈ r := by
        rcases List.mem_cons.1 hs with h1 | h1
        · exact absurd h1.symm e
        · exact h1
      have : without (a :: r) s = a :: without r s := by simp [without, e]
      rw [this, List.length_cons, List.length_cons, ih h.2 hr]
theorem without_nodup {l : List ByteArray} {s : ByteArray} (h : l.Nodup) : (without l s).Nodup := h.filter _
theorem keyOk_ne {z : ByteArray} (h : keyOk z = true) : z ≠ noKey := by
  rintro rfl
  simp [keyOk, noKey, ByteArray.size] at h
/-- Who is dropped is not there. -/
theorem dropP_has (P : Pol) (key : ByteArray) : hasP (dropP P key) key = false := by
  unfold hasP dropP
  rw [inL_false.2 (fun h => (without_mem.1 h).2 rfl), inL_false.2 (fun h => (without_mem.1 h).2 rfl)]
  rfl
end Go.Proofs.Ytpgcfgbhkodmeaa
