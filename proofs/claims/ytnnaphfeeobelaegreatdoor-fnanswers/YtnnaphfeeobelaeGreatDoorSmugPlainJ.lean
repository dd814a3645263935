/- Texts that stand in one: SmugPlain, AnsPlain, GoodPlain. -/
import Derived.Test.YtnnaphfeeobelaeGreatDoorControlPlainJ
import Derived.Test.YtnnaphfeeobelaeGreatDoorHeadsPlainJ
import Derived.Test.YtnnaphfeeobelaeGreatDoorLinesPlainJ
namespace Go.Proofs.YtnnaphfeeobelaeGreatDoor
open Go.RowKit
def decB (n : Nat) : ByteArray := ⟨(decOf (n : Int)).toArray⟩
theorem decB_num (n : Nat) (h : n ≤ 999999) : numL (decB n).data.toList = some n := numL_dec n h
theorem decB_size (n : Nat) (h : n ≤ 999) : (decB n).size ≤ 3 := by
  have e : (decB n).size = (decOf (n : Int)).length := by show (decOf (n : Int)).toArray.size = _; simp
  rw [e]
  unfold decOf
  by_cases hz : (n : Int) = 0
  · rw [if_pos hz]; simp
  · rw [if_neg hz, if_neg (by omega)]
    have := digF_wide 3 20 (n : Int).natAbs [] (by omega)
    simpa using this
theorem eq_clN : eqT clN clN = true := by unfold eqT; simp
theorem eq_teN : eqT teN teN = true := by unfold eqT; simp
theorem ne_clte : eqT clN teN = false := by unfold eqT; rw [ByteArray.toList_eq, ByteArray.toList_eq]; decide
theorem ne_tecl : eqT teN clN = false := by unfold eqT; rw [ByteArray.toList_eq, ByteArray.toList_eq]; decide
theorem lenF_one (n many k : Nat) (r : List (ByteArray × ByteArray)) (hk : k ≤ 999) (h : many = 0 ∨ k = n) : lenF n many ((clN, decB k) :: r) = lenF k (many + 1) r := by
  show (if eqT clN clN = true then _ else _) = _
  rw [if_pos eq_clN]
  show (match numL (decB k).data.toList with | none => _ | some k => _) = _
  rw [decB_num k (by omega)]
  have := decB_size k hk
  show (if 3 < (decB k).size ∨ (0 < many ∧ k ≠ n) then _ else _) = _
  rw [if_neg (by omega)]
theorem lenF_odd (n many k : Nat) (r : List (ByteArray × ByteArray)) (hk : k ≤ 999) (h : 0 < many ∧ k ≠ n) : lenF n many ((clN, decB k) :: r) = (0, many + 1, false) := by
  show (if eqT clN clN = true then _ else _) = _
  rw [if_pos eq_clN]
  show (match numL (decB k).data.toList with | none => _ | some k => _) = _
  rw [decB_num k (by omega)]
  show (if 3 < (decB k).size ∨ (0 < many ∧ k ≠ n) then _ else _) = _
  rw [if_pos (Or.inr h)]
theorem smug_two (n m : Nat) (hn : n ≤ 90) (hm : m ≤ 90) (t : List UInt8) (ht : 90 ≤ t.length) : (bodyS [(clN, decB n), (clN, decB m)] t).2.2 = if n = m then 0 else 2 := by
  have hf : fieldOfS [(clN, decB n), (clN, decB m)] teN = (⟨#[]⟩, false) := by
    unfold fieldOfS
    simp [List.find?, ne_clte]
  unfold bodyS
  rw [hf, if_neg (by simp), lenF_one 0 0 n _ (by omega) (.inl rfl)]
  by_cases h : n = m
  · subst h
    rw [lenF_one n 1 n _ (by omega) (.inr rfl)]
    rw [if_pos rfl]
    have h1 : lenF n (1 + 1) [] = (n, 2, true) := rfl
    rw [h1]
    simp only []
    rw [if_neg (by omega), if_neg (by simp; omega), if_neg (by omega)]
  · rw [lenF_odd n 1 m _ (by omega) ⟨by omega, fun e => h e.symm⟩, if_neg h]
    rfl
theorem smug_both (n : Nat) (hn : n ≤ 90) (t : List UInt8) : (bodyS [(clN, decB n), (teN, chN)] t).2.2 = 2 := by
  have hf : fieldOfS [(clN, decB n), (teN, chN)] teN = (chN, true) := by
    unfold fieldOfS
    simp [List.find?, ne_clte, eq_teN]
  unfold bodyS
  rw [hf, if_pos rfl, lenF_one 0 0 n _ (by omega) (.inl rfl)]
  have h2 : (lenF n (0 + 1) [(teN, chN)]).2.1 = 1 := by
    show (if eqT teN clN = true then _ else lenF n 1 [] : Nat × Nat × Bool).2.1 = 1
    rw [if_neg (by rw [ne_tecl]; simp)]
    rfl
  rw [h2, if_pos (Or.inl (by omega))]
theorem smug_none (t : List UInt8) : bodyS [] t = ([], 0, 0) := rfl
end Go.Proofs.YtnnaphfeeobelaeGreatDoor

namespace Go.Proofs.YtnnaphfeeobelaeGreatDoor
open Go.RowKit
theorem ans_wide {line : ByteArray} {L : List (ByteArray × ByteArray)} (h : HdSz line L) (n : Nat) (hn : n ≤ 400) : HdSw line (ansF L n) := by
  have hd := decB_size n (by omega)
  have hw := h.wide
  unfold HdSz at h
  have e1 : wgtT (ansF L n) = wgtT L + (14 + (decB n).size) := by
    unfold ansF wgtT
    simp
    rfl
  refine ⟨?_, hw.2.1, ?_⟩
  · rw [e1]
    unfold ansF
    rw [List.length_append, List.length_singleton]
    omega
  · intro f hf
    unfold ansF at hf
    rcases List.mem_append.1 hf with hf | hf
    · exact hw.2.2 f hf
    · simp at hf
      subst hf
      exact ⟨(show clN.size ≤ 1048576 by decide), by show (decB n).size ≤ _; omega⟩
end Go.Proofs.YtnnaphfeeobelaeGreatDoor

namespace Go.Proofs.YtnnaphfeeobelaeGreatDoor
open Go.RowKit Go.Sort
structure Gd (f : ByteArray × ByteArray) : Prop where
  nm : (f.1.data.toList.all fun b => nameB b.toNat && !(b == 58)) = true
  low : lowL f.1.data.toList = f.1.data.toList
  n1 : 1 ≤ f.1.size
  n2 : f.1.size ≤ 17
  vl : (f.2.data.toList.all fun b => wordB b) = true
  tr : Lib.trimB (32 :: f.2.data.toList) 32 = f.2.data.toList
  en : f.2.size = 0 ∨ (¬ (f.2.data.toList.getD 0 0).toNat = 32 ∧ ¬ (f.2.data.toList.getD (f.2.size - 1) 0).toNat = 32)
  v2 : f.2.size ≤ 18
theorem Gd.words {f : ByteArray × ByteArray} (h : Gd f) : (fldL f).all (fun b => wordB b) = true := by
  have h1 := h.nm
  have h2 := h.vl
  rw [List.all_eq_true] at h1
  unfold fldL
  rw [List.all_append, List.all_cons, List.all_cons, h2, List.all_eq_true.2 (fun x hx => nameB_word (by have := h1 x hx; rw [Bool.and_eq_true] at this; exact this.1))]
  rfl
theorem Gd.ok {f : ByteArray × ByteArray} (h : Gd f) : fieldOkS f = true := by
  have l1 := h.n2
  have l2 := h.v2
  unfold fieldOkS nameOkS plainS trimS allB
  have e1 : (f.1.data.toList.all fun b => nameB b.toNat) = true := by
    have := h.nm
    rw [List.all_eq_true] at this ⊢
    intro x hx
    have := this x hx
    rw [Bool.and_eq_true] at this
    exact this.1
  have e2 : (f.2.data.toList.all fun b => plainB b.toNat) = true := h.vl
  rw [e1, e2, decide_eq_true (show 1 ≤ f.1.size ∧ f.1.size ≤ 20 from ⟨h.n1, by omega⟩), decide_eq_true (show (f.2.size : Int) ≤ 60 by omega)]
  rcases h.en with h0 | ⟨ha, hb⟩
  · rw [decide_eq_true h0]; rfl
  · rw [decide_eq_false ha, decide_eq_false hb]; simp
theorem Gd.line {f : ByteArray × ByteArray} (h : Gd f) : LineF (fldL f) f := by
  refine ⟨f.1.data.toList, 32 :: f.2.data.toList, rfl, fun x hx => ?_, ?_, h.ok⟩
  · have := h.nm
    rw [List.all_eq_true] at this
    have := this x hx
    rw [Bool.and_eq_true] at this
    simpa using this.2
  · rw [h.low, mk_same]
    have : trimT ⟨(32 :: f.2.data.toList).toArray⟩ = f.2 := by
      unfold trimT
      rw [show (⟨(32 :: f.2.data.toList).toArray⟩ : ByteArray).data.toList = 32 :: f.2.data.toList from rfl, h.tr, mk_same]
    rw [this]
theorem wgtT_good : ∀ (L : List (ByteArray × ByteArray)), (∀ f ∈ L, Gd f) → wgtT L ≤ 35 * L.length
  | [], _ => by simp [wgtT]
  | f :: L, h => by
    have h1 := wgtT_good L (fun g hg => h g (List.mem_cons_of_mem _ hg))
    have h2 := h f List.mem_cons_self
    have l1 := h2.n2
    have l2 := h2.v2
    unfold wgtT at *
    simp only [List.map_cons, List.sum_cons, List.length_cons]
    omega
theorem good_ok {line : ByteArray} {L : List (ByteArray × ByteArray)} (h1 : line ∈ hlL) (h2 : ∀ f ∈ L, Gd f) (h3 : L.length ≤ 3) : headOkS line L = true ∧ (headT line L).size ≤ 200 := by
  have hl := hl_ok line h1
  have l1 := hlL_len line h1
  have hw := wgtT_good L h2
  have hs := headT_size line L
  have e1 : allB plainB line = true := hl.1
  have e2 : L.all fieldOkS = true := by rw [List.all_eq_true]; exact fun f hf => (h2 f hf).ok
  refine ⟨?_, by omega⟩
  unfold headOkS plainS
  rw [e1, e2, decide_eq_true (show 1 ≤ line.size from hl.2), decide_eq_true (show (line.size : Int) ≤ 80 by omega), decide_eq_true (show L.length ≤ 8 by omega), decide_eq_true (show (headT line L).size ≤ 300 by omega)]
  rfl
/-- Figures as a value. -/
theorem dec_some (n : Nat) (hn : n < 10000) : (decB n).data.toList ≠ [] := by
  have e : (decB n).data.toList = decOf (n : Int) := rfl
  rw [e]
  intro h
  unfold decOf at h
  by_cases hz : (n : Int) = 0
  · rw [if_pos hz] at h; cases h
  · rw [if_neg hz, if_neg (by omega)] at h
    obtain ⟨b, r, hr, _⟩ := digF_head 20 (n : Int).natAbs [] (by omega) (by omega)
    rw [hr] at h
    cases h
theorem trim_digits {l : List UInt8} (h0 : l ≠ []) (hd : ∀ b ∈ l, 48 ≤ b.toNat ∧ b.toNat ≤ 57) : Lib.trimB (32 :: l) 32 = l := by
  have hne : ∀ b ∈ l, (b == 32) = false := by
    intro b hb
    have := hd b hb
    rw [beq_eq_false_iff_ne]
    rintro rfl
    revert this
    decide
  have hr : ∀ (m : List UInt8), m ≠ [] → (∀ b ∈ m, (b == 32) = false) → m.dropWhile (· == 32) = m := by
    intro m hm hb
    cases m with
    | nil => exact absurd rfl hm
    | cons x r => rw [List.dropWhile_cons, if_neg (by rw [hb x List.mem_cons_self]; simp)]
  unfold Lib.trimB Lib.trimRightB Lib.trimLeftB
  have e1 : ((32 :: l).reverse.dropWhile (· == 32)) = l.reverse ++ [32] := by
    rw [List.reverse_cons]
    cases hl : l.reverse with
    | nil => exact absurd (by simpa using hl) h0
    | cons x r =>
      have hm : x ∈ l.reverse := by rw [hl]; exact List.mem_cons_self
      have hx : (x == 32) = false := hne x (by simpa using hm)
      rw [List.cons_append, List.dropWhile_cons, if_neg (by rw [hx]; simp)]
  rw [e1, List.reverse_append, List.reverse_reverse]
  show List.dropWhile (fun x => x == 32) (32 :: l) = l
  rw [List.dropWhile_cons, if_pos (by rfl)]
  exact hr l h0 hne
theorem gd_dec {nm : ByteArray} (n : Nat) (hn : n < 10000) (h1 : (nm.data.toList.all fun b => nameB b.toNat && !(b == 58)) = true) (h2 : lowL nm.data.toList = nm.data.toList) (h3 : 1 ≤ nm.size ∧ nm.size ≤ 17) : Gd (nm, decB n) := by
  obtain ⟨d1, d2⟩ := decOf_small (n : Int) (by omega) (by omega)
  have e : (decB n).data.toList = decOf (n : Int) := rfl
  have hs : (decB n).size = (decOf (n : Int)).length := by rw [Lib.size_eq, e]
  have d0 := dec_some n hn
  rw [e] at d0
  have at_dig : ∀ i, i < (decOf (n : Int)).length → ¬ ((decOf (n : Int)).getD i 0).toNat = 32 := by
    intro i hi
    rw [List.getD_eq_getElem?_getD, List.getElem?_eq_getElem hi]
    have := d2 _ (List.getElem_mem hi)
    show ¬ ((decOf (n : Int))[i]).toNat = 32
    omega
  refine ⟨h1, h2, h3.1, h3.2, ?_, ?_, ?_, by show (decB n).size ≤ 18; omega⟩
  · show ((decB n).data.toList.all fun b => wordB b) = true
    rw [e, List.all_eq_true]
    intro b hb
    have := d2 b hb
    exact decide_eq_true (by omega)
  · show Lib.trimB (32 :: (decB n).data.toList) 32 = (decB n).data.toList
    rw [e]
    exact trim_digits d0 d2
  · right
    show ¬ ((decB n).data.toList.getD 0 0).toNat = 32 ∧ ¬ ((decB n).data.toList.getD ((decB n).size - 1) 0).toNat = 32
    have hp : 0 < (decOf (n : Int)).length := List.length_pos_iff.2 d0
    rw [e, hs]
    exact ⟨at_dig 0 hp, at_dig _ (by omega)⟩
end Go.Proofs.YtnnaphfeeobelaeGreatDoor
