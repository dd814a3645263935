/- Texts that stand in one: OftenPlain, Touch. -/
import Derived.Test.YtbcjkinalghokafDoorSkPlainJ
import Derived.Test.YtbcjkinalghokafDoorGuessPlainJ
import Derived.Test.YtbcjkinalghokafDoorControlPlainJ
namespace Go.Proofs.YtbcjkinalghokafDoor
open Go.RowKit

def ofK : ByteArray := ⟨#[47, 111, 102, 116, 101, 110]⟩
def onK (m : Nat) : ByteArray := (⟨#[47, 111, 110, 99, 101]⟩ : ByteArray) ++ (⟨(decOf (m : Int)).toArray⟩ : ByteArray)
theorem ofK_ok : keyOk ofK = true := by decide
theorem onK_list (m : Nat) : (onK m).data.toList = [47, 111, 110, 99, 101] ++ decOf (m : Int) := by
  unfold onK
  rw [ByteArray.data_append]
  simp
theorem onK_size (m : Nat) : (onK m).size = 5 + (decOf (m : Int)).length := by
  have h : (onK m).size = (onK m).data.toList.length := by rw [Array.length_toList]; rfl
  rw [h, onK_list]
  simp
  omega
theorem onK_ok {m : Nat} (h : m ≤ 999999) : keyOk (onK m) = true := by
  have h1 := (decOf_told m h).1
  unfold keyOk
  rw [onK_size]
  simp only [decide_eq_true_eq]
  omega
theorem onK_of (m : Nat) : onK m ≠ ofK := fun e => by
  have h := congrArg (fun b : ByteArray => b.data.toList) e
  simp only [onK_list] at h
  simp [ofK] at h
theorem onK_inj {a b : Nat} (ha : a ≤ 999999) (hb : b ≤ 999999) (h : onK a = onK b) : a = b := by
  have h1 := congrArg (fun b : ByteArray => b.data.toList) h
  simp only [onK_list] at h1
  have h2 := List.append_cancel_left h1
  have h3 := (decOf_told a ha).2.2
  rw [h2, (decOf_told b hb).2.2] at h3
  exact h3.symm
theorem guessS_le {S : Sk} {key : ByteArray} (h : okK S = true) : guessS S key ≤ 15 := by
  unfold guessS
  rw [if_pos h]
  obtain ⟨a, b, c, e, _⟩ := okK_parts h
  rw [e, guessTo_three]
  omega
theorem touch_enter {P : Pol} {key : ByteArray} (hP : okP P = true) (hk : keyOk key = true) (h1 : key ∉ P.win) (h2 : key ∉ P.main) : touchP P key = if P.win.length + 1 ≤ 2 then (⟨P.win ++ [key], P.main, bumpS P.sk key⟩, noKey) else pushP (P.win ++ [key]).tail P.main (bumpS P.sk key) (P.win.getD 0 noKey) := by
  unfold touchP
  rw [hP, hk, inL_false.2 h1, inL_false.2 h2]
  rfl
theorem touch_there {P : Pol} {key : ByteArray} (hP : okP P = true) (hk : keyOk key = true) (h1 : key ∈ P.win) : touchP P key = (⟨without P.win key ++ [key], P.main, bumpS P.sk key⟩, noKey) := by
  unfold touchP
  rw [hP, hk, inL_iff.2 h1]
  rfl
def ofR : Nat → Pol
  | 0 => newP
  | k + 1 => (touchP (ofR k) ofK).1
theorem ofR_is : ∀ k, okP (ofR k) = true ∧ (ofR k).win = (if k = 0 then [] else [ofK]) ∧ (ofR k).main = [] ∧ (ofR k).sk = runK (List.replicate k ofK)
  | 0 => ⟨newP_ok, rfl, rfl, rfl⟩
  | k + 1 => by
    obtain ⟨h1, h2, h3, h4⟩ := ofR_is k
    have hr := (touchP_right h1 ofK_ok).1
    have hs : runK (List.replicate (k + 1) ofK) = bumpS (runK (List.replicate k ofK)) ofK := by rw [List.replicate_succ', runK_snoc]
    refine ⟨hr, ?_⟩
    show (touchP (ofR k) ofK).1.win = _ ∧ (touchP (ofR k) ofK).1.main = _ ∧ (touchP (ofR k) ofK).1.sk = _
    by_cases hk : k = 0
    · rw [touch_enter h1 ofK_ok (by rw [h2, if_pos hk]; simp) (by rw [h3]; simp), h2, if_pos hk, h3, h4, hs]
      exact ⟨rfl, rfl, rfl⟩
    · rw [touch_there h1 ofK_ok (by rw [h2, if_neg hk]; simp), h2, if_neg hk, h3, h4, hs]
      refine ⟨?_, rfl, rfl⟩
      simp [without]
def stepO (P : Pol) (m : Nat) : Pol := (touchP (touchP P (onK m)).1 ofK).1
def onR (t : Nat) : Nat → Pol
  | 0 => ofR 5
  | i + 1 => stepO (onR t i) (t + i)
/-- What is there behind i rounds. -/
structure OnI (t i : Nat) (P : Pol) : Prop where
  ok : okP P = true
  win : (i = 0 ∧ P.win = [ofK]) ∨ (0 < i ∧ P.win = [onK (t + (i - 1)), ofK])
  len : P.main.length = min (i - 1) 4
  main : ∀ z ∈ P.main, ∃ j, j + 1 < i ∧ z = onK (t + j)
  sk : ∃ l, P.sk = runK l ∧ l.length = 5 + 2 * i ∧ cntK ofK l = 5 + i
theorem onI_start (t : Nat) : OnI t 0 (onR t 0) := by
  obtain ⟨h1, h2, h3, h4⟩ := ofR_is 5
  exact ⟨h1, .inl ⟨rfl, h2⟩, by show (ofR 5).main.length = _; rw [h3]; rfl, fun z hz => by have hz' : z ∈ (ofR 5).main := hz; rw [h3] at hz'; simp at hz', ⟨_, h4, by simp, by decide⟩⟩
theorem pushP_is (w main : List ByteArray) (sk : Sk) (first : ByteArray) (hl : main.length ≤ 4) : (pushP w main sk first).1.win = w ∧ (pushP w main sk first).1.sk = sk ∧ (pushP w main sk first).1.main.length = min (main.length + 1) 4 ∧ ∀ z ∈ (pushP w main sk first).1.main, z ∈ main ∨ z = first := by
  unfold pushP
  by_cases h : main.length < 4
  · rw [if_pos h]
    refine ⟨rfl, rfl, by simp; omega, fun z hz => ?_⟩
    rcases List.mem_append.1 hz with hz | hz
    · exact .inl hz
    · exact .inr (List.mem_singleton.1 hz)
  · rw [if_neg h]
    by_cases hg : guessS sk (main.getD 0 noKey) < guessS sk first
    · rw [if_pos hg]
      refine ⟨rfl, rfl, by simp; omega, fun z hz => ?_⟩
      rcases List.mem_append.1 hz with hz | hz
      · exact .inl (List.mem_of_mem_tail hz)
      · exact .inr (List.mem_singleton.1 hz)
    · rw [if_neg hg]
      exact ⟨rfl, rfl, by simp; omega, fun z hz => .inl hz⟩
theorem onI_step {t i : Nat} {P : Pol} (h : OnI t i P) (hi : i < 12) (ht : t ≤ 10000) : OnI t (i + 1) (stepO P (t + i)) ∧ okP (touchP P (onK (t + i))).1 = true := by
  have hk : keyOk (onK (t + i)) = true := onK_ok (by omega)
  obtain ⟨l, e1, e2, e3⟩ := h.sk
  have hnw : onK (t + i) ∉ P.win := by
    rcases h.win with ⟨_, hw⟩ | ⟨h0, hw⟩
    · rw [hw]
      intro hm
      exact onK_of _ (List.mem_singleton.1 hm)
    · rw [hw]
      intro hm
      simp only [List.mem_cons, List.not_mem_nil, or_false] at hm
      rcases hm with hm | hm
      · have := onK_inj (by omega) (by omega) hm; omega
      · exact onK_of _ hm
  have hnm : onK (t + i) ∉ P.main := fun hm => by
    obtain ⟨j, hj, e⟩ := h.main _ hm
    have := onK_inj (by omega) (by omega) e
    omega
  have hr := (touchP_right h.ok hk).1
  obtain ⟨Q, hQ⟩ : ∃ Q, (touchP P (onK (t + i))).1 = Q := ⟨_, rfl⟩
  have hQs : Q.win = [ofK, onK (t + i)] ∧ Q.main.length = min i 4 ∧ (∀ z ∈ Q.main, ∃ j, j < i ∧ z = onK (t + j)) ∧ Q.sk = runK (l ++ [onK (t + i)]) := by
    rw [← hQ, touch_enter h.ok hk hnw hnm, runK_snoc, ← e1]
    rcases h.win with ⟨h0, hw⟩ | ⟨h0, hw⟩
    · rw [hw, if_pos (by simp)]
      have hm := h.len
      refine ⟨rfl, ?_, fun z hz => ?_, rfl⟩
      · show P.main.length = _
        omega
      · obtain ⟨j, hj, e⟩ := h.main z hz
        exact ⟨j, by omega, e⟩
    · rw [hw, if_neg (by simp)]
      have hm := h.len
      obtain ⟨p1, p2, p3, p4⟩ := pushP_is ([onK (t + (i - 1)), ofK] ++ [onK (t + i)]).tail P.main (bumpS P.sk (onK (t + i))) (([onK (t + (i - 1)), ofK] : List ByteArray).getD 0 noKey) (by omega)
      refine ⟨p1, by rw [p3]; omega, fun z hz => ?_, p2⟩
      rcases p4 z hz with hz' | hz'
      · obtain ⟨j, hj, e⟩ := h.main z hz'
        exact ⟨j, by omega, e⟩
      · exact ⟨i - 1, by omega, hz'⟩
  rw [hQ] at hr
  refine ⟨?_, by rw [hQ]; exact hr⟩
  obtain ⟨q1, q2, q3, q4⟩ := hQs
  unfold stepO
  rw [hQ, touch_there hr ofK_ok (by rw [q1]; simp)]
  have hr2 := (touchP_right hr ofK_ok).1
  rw [touch_there hr ofK_ok (by rw [q1]; simp)] at hr2
  have hwo : without Q.win ofK = [onK (t + i)] := by
    rw [q1]
    have hne := onK_of (t + i)
    simp [without, hne]
  refine ⟨hr2, .inr ⟨by omega, ?_⟩, ?_, fun z hz => ?_, ⟨l ++ [onK (t + i)] ++ [ofK], ?_, ?_, ?_⟩⟩
  · show without Q.win ofK ++ [ofK] = _
    rw [hwo]
    rfl
  · show Q.main.length = _
    rw [q2]
    rfl
  · obtain ⟨j, hj, e⟩ := q3 z hz
    exact ⟨j, by omega, e⟩
  · show bumpS Q.sk ofK = _
    rw [runK_snoc, q4]
  · simp; omega
  · rw [cntK_snoc, cntK_snoc, e3, if_neg (onK_of _), if_pos rfl]
    omega
theorem onI_all {t : Nat} (ht : t ≤ 10000) : ∀ i, i ≤ 12 → OnI t i (onR t i)
  | 0, _ => onI_start t
  | i + 1, hi => (onI_step (onI_all ht i (by omega)) (by omega) ht).1
/-- Who is asked for often stays. -/
theorem onI_end {t : Nat} {P : Pol} (h : OnI t 12 P) : hasP P ofK = true ∧ okP P = true ∧ guessS P.sk ofK = 15 ∧ P.main.length = 4 := by
  obtain ⟨l, e1, e2, e3⟩ := h.sk
  obtain ⟨r1, _, r3⟩ := runK_ok 29 l (by omega) (by omega)
  have hg := atLeast_guess r1 (r3 ofK)
  have hl := guessS_le (key := ofK) r1
  refine ⟨?_, h.ok, ?_, by rw [h.len]; rfl⟩
  · rcases h.win with ⟨h0, _⟩ | ⟨_, hw⟩
    · omega
    · unfold hasP
      rw [inL_iff.2 (by rw [hw]; simp)]
      rfl
  · rw [e1]
    rw [e3] at hg
    omega
end Go.Proofs.YtbcjkinalghokafDoor

namespace Go.Proofs.YtbcjkinalghokafDoor
open Go.RowKit

/-- Of the blocks that were there only those of S may be others. -/
def Tch (S : Nat → Prop) (w w' : World) : Prop := Below 0 w w' ∧ ∀ k, k < w.heap.size → ¬ S k → w'.heap[k]? = w.heap[k]?
theorem Tch.size {S : Nat → Prop} {w w' : World} (h : Tch S w w') : w.heap.size ≤ w'.heap.size := h.1.size
theorem Tch.of_below {S : Nat → Prop} {w w' : World} (h : Below w.heap.size w w') : Tch S w w' := ⟨h.mono (Nat.zero_le _), fun k hk _ => h.block k hk⟩
theorem Tch.of_grown {S : Nat → Prop} {w w' : World} {row : Option Nat} (h : w.grownBy w' row) (hS : ∀ k, row = some k → S k) : Tch S w w' :=
  ⟨⟨h.os, h.tape, h.output, h.size, fun _ hk => absurd hk (Nat.not_lt_zero _)⟩, fun k hk hn => h.block k hk (fun e => hn (hS k e.symm))⟩
theorem Tch.trans {S : Nat → Prop} {a b c : World} (h : Tch S a b) (k : Tch S b c) : Tch S a c :=
  ⟨h.1.trans k.1, fun j hj hn => (k.2 j (Nat.lt_of_lt_of_le hj h.size) hn).trans (h.2 j hj hn)⟩
theorem Tch.weak {S S' : Nat → Prop} {w w' : World} (h : Tch S w w') (hS : ∀ k, S k → S' k) : Tch S' w w' := ⟨h.1, fun k hk hn => h.2 k hk (fun e => hn (hS k e))⟩
theorem Tch.below {S : Nat → Prop} {w0 w w' : World} {B : Nat} (hb : Below B w0 w) (h : Tch S w w') (hB : B ≤ w.heap.size) (hS : ∀ k, S k → B ≤ k) : Below B w0 w' :=
  ⟨h.1.os.trans hb.os, h.1.tape.trans hb.tape, h.1.output.trans hb.output, Nat.le_trans hb.size h.size, fun k hk => (h.2 k (by omega) (fun e => by have := hS k e; omega)).trans (hb.block k hk)⟩
theorem Tch.keep {S : Nat → Prop} {w w' : World} (h : Tch S w w') {k : Nat} {o : Obj} (hk : w.heap[k]? = some o) (hn : ¬ S k) : w'.heap[k]? = some o := (h.2 k (Array.getElem?_eq_some_iff.1 hk).1 hn).trans hk
theorem OwnV.tch {S : Nat → Prop} {w w' : World} {base : Nat} {e : TypeId} {v : Value} {xs : List Value} (h : OwnV w base e v xs) (ht : Tch S w w') (hn : ∀ k, v.ownBlock = some k → ¬ S k) : OwnV w' base e v xs := h.kept fun k hk => ht.2 k (h.lt k hk).2 (hn k hk)
end Go.Proofs.YtbcjkinalghokafDoor
