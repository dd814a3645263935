/- Texts that stand in one: SealPlain, FramePlain, UnframePlain. -/
import Derived.Test.YtepfblabdibggabDoorSumPlain
import Derived.Test.YtepfblabdibggabDoorSumTabJ
import Derived.Test.YtepfblabdibggabDoorReadPlain
namespace Go.Proofs.YtepfblabdibggabDoor
open Go.RowKit

/-- The sum of a text. -/
def sumOf (s : ByteArray) : Nat := sumAll 4294967295 s.data.toList
theorem sumOf_lt (s : ByteArray) : sumOf s < 4294967296 := sumAll_lt (by omega)
def slText (s : ByteArray) : ByteArray := if s.size ≤ 20000 then s ++ ⟨(four (sumOf s)).toArray⟩ else ⟨#[]⟩
def slOk (s : ByteArray) : Bool := decide (s.size ≤ 20000)

/-- A text without its last four bytes. -/
def unHead (s : ByteArray) : ByteArray := s.extract 0 (s.size - 4)
def unTail (s : ByteArray) : List UInt8 := (s.extract (s.size - 4) s.size).data.toList
def unOk (s : ByteArray) : Bool := decide (4 ≤ s.size) && decide (s.size ≤ 20004) && (four (sumOf (unHead s)) == unTail s)
def unText (s : ByteArray) : ByteArray := if unOk s = true then unHead s else ⟨#[]⟩

theorem unHead_size (s : ByteArray) : (unHead s).size = s.size - 4 := by simp [unHead]
end Go.Proofs.YtepfblabdibggabDoor

namespace Go.Proofs.YtepfblabdibggabDoor
open Go.RowKit

/-- A text that has a frame. -/
def frOk (s : ByteArray) : Bool := decide (1 ≤ s.size) && decide (s.size ≤ 9000)
/-- Its frame. -/
def frAll (s : ByteArray) : ByteArray := ⟨(varF 8 s.size).toArray⟩ ++ ⟨(four (sumOf s)).toArray⟩ ++ s
def frText (s : ByteArray) : ByteArray := if frOk s = true then frAll s else ⟨#[]⟩
theorem frOk_in {s : ByteArray} (h1 : 1 ≤ s.size) (h2 : s.size ≤ 9000) : frOk s = true := by simp [frOk, h1, h2]
theorem frOk_out {s : ByteArray} (h : ¬ (1 ≤ s.size ∧ s.size ≤ 9000)) : frOk s = false := by simp [frOk]; omega
theorem frText_in {s : ByteArray} (h1 : 1 ≤ s.size) (h2 : s.size ≤ 9000) : frText s = frAll s := by simp [frText, frOk_in h1 h2]
theorem frText_out {s : ByteArray} (h : ¬ (1 ≤ s.size ∧ s.size ≤ 9000)) : frText s = ⟨#[]⟩ := by simp [frText, frOk_out h]
theorem size_zero {s : ByteArray} (h : s.size = 0) : s = ⟨#[]⟩ := by
  cases s with | mk d => simp [ByteArray.size] at h; simp [h]
theorem ne_empty {s : ByteArray} (h : 1 ≤ s.size) : ¬ s = ⟨#[]⟩ := by
  rintro rfl; simp [ByteArray.size] at h
theorem not_empty {s : ByteArray} (h : 1 ≤ s.size) : s.toList.isEmpty = false := by
  rw [ByteArray.toList_eq]
  cases s with | mk d =>
  cases hd : d.toList with
  | nil => simp [ByteArray.size] at h; have : d = #[] := by simpa using hd
           subst this; simp at h
  | cons => simp
end Go.Proofs.YtepfblabdibggabDoor

namespace Go.Proofs.YtepfblabdibggabDoor
open Go.RowKit

/-- A number that is read stands there as it is written. -/
theorem rvF_canon {t : List UInt8} {a : Nat} : ∀ {f k n e : Nat}, k + f ≤ 5 → (∀ c ∈ (t.drop a).take k, 128 ≤ c.toNat) → rvF t a f k = some (n, e) → a < e ∧ (t.drop a).take (e - a) = varF 8 n
  | 0, k, n, e, _, _, h => by simp [rvF] at h
  | f + 1, k, n, e, hf, hall, h => by
    by_cases hl : a + k < t.length
    · by_cases hb : t[a + k].toNat < 128
      · by_cases hn : 1000000000 < dec ((t.drop a).take (k + 1)) ∨ (t[a + k] = 0 ∧ 0 < k)
        · rw [rvF_no hl hb hn] at h; cases h
        · rw [rvF_yes hl hb hn] at h
          cases h
          refine ⟨by omega, ?_⟩
          rw [show a + k + 1 - a = k + 1 by omega, take_more hl]
          refine ((varF_iff _ _ 8 hall hb (Nat.le_trans (List.length_take_le _ _) (by omega))).2 ?_).symm
          rintro ⟨h0, hne⟩
          refine hn (.inr ⟨h0, ?_⟩)
          rcases Nat.eq_zero_or_pos k with rfl | hk
          · simp at hne
          · exact hk
      · rw [rvF_on hl (by omega)] at h
        refine rvF_canon (by omega) ?_ h
        intro c hc
        rw [take_more hl, List.mem_append] at hc
        rcases hc with hc | hc
        · exact hall c hc
        · simp at hc; subst hc; omega
    · rw [rvF_end (.inl (by omega))] at h; cases h

/-- The sum that stands at the place e is the sum of the n bytes behind it. -/
def sumHolds (s : ByteArray) (n e : Nat) : Bool := four (sumOf (s.extract (e + 4) (e + 4 + n))) == (s.extract e (e + 4)).data.toList

/-- The frame at the place a: its record, and the place behind it. -/
def uf1 (s : ByteArray) (a : Nat) : Option (ByteArray × Nat) :=
  match rv s.data.toList (a : Int) with
  | none => none
  | some (n, e) => if 1 ≤ n ∧ n ≤ 9000 ∧ e + 4 + n ≤ s.size ∧ sumHolds s n e = true then some (s.extract (e + 4) (e + 4 + n), e + 4 + n) else none

theorem uf1_none {s : ByteArray} {a : Nat} (h : rv s.data.toList (a : Int) = none) : uf1 s a = none := by simp [uf1, h]
theorem uf1_no {s : ByteArray} {a n e : Nat} (h : rv s.data.toList (a : Int) = some (n, e)) (hn : ¬ (1 ≤ n ∧ n ≤ 9000 ∧ e + 4 + n ≤ s.size ∧ sumHolds s n e = true)) : uf1 s a = none := by simp only [uf1, h, if_neg hn]
theorem uf1_yes {s : ByteArray} {a n e : Nat} (h : rv s.data.toList (a : Int) = some (n, e)) (hn : 1 ≤ n ∧ n ≤ 9000 ∧ e + 4 + n ≤ s.size ∧ sumHolds s n e = true) : uf1 s a = some (s.extract (e + 4) (e + 4 + n), e + 4 + n) := by simp only [uf1, h, if_pos hn]

theorem rv_canon {s : ByteArray} {a n e : Nat} (ha : a ≤ s.size) (h : rv s.data.toList (a : Int) = some (n, e)) : a < e ∧ e ≤ s.size ∧ n ≤ 1000000000 ∧ (s.data.toList.drop a).take (e - a) = varF 8 n := by
  rw [rv_in ha] at h
  have h1 := rvF_canon (by omega) (by simp) h
  have h2 := rvF_bound h
  exact ⟨h1.1, by simpa using h2.1, h2.2, h1.2⟩

theorem uf1_bound {s : ByteArray} {a b : Nat} {x : ByteArray} (ha : a ≤ s.size) (h : uf1 s a = some (x, b)) : a < b ∧ b ≤ s.size ∧ 1 ≤ x.size ∧ x.size ≤ 9000 := by
  unfold uf1 at h
  cases hr : rv s.data.toList (a : Int) with
  | none => simp [hr] at h
  | some p =>
    obtain ⟨n, e⟩ := p
    simp only [hr] at h
    split at h
    · rename_i hn
      obtain ⟨h1, h2, _⟩ := rv_canon ha hr
      cases h
      simp
      omega
    · cases h

theorem uf1_end (s : ByteArray) : uf1 s s.size = none := uf1_none (by rw [rv_in (Nat.le_refl _)]; exact rvF_end (.inl (by simp)))

/-- All whole frames from the place a on, f at most. -/
def ufF (s : ByteArray) : Nat → Nat → List (ByteArray × Nat)
  | 0, _ => []
  | f + 1, a =>
    match uf1 s a with
    | none => []
    | some p => p :: ufF s f p.2
/-- The frames of a file. -/
def ufAll (s : ByteArray) : List (ByteArray × Nat) := ufF s (s.size + 1) 0
theorem ufF_none {s : ByteArray} {f a : Nat} (h : uf1 s a = none) : ufF s f a = [] := by
  cases f with
  | zero => rfl
  | succ f => simp [ufF, h]
theorem ufF_some {s : ByteArray} {f a : Nat} {p : ByteArray × Nat} (h : uf1 s a = some p) : ufF s (f + 1) a = p :: ufF s f p.2 := by simp [ufF, h]
theorem ufF_len (s : ByteArray) : ∀ (f a : Nat), a ≤ s.size → (ufF s f a).length + a ≤ s.size
  | 0, a, h => by simp [ufF]; exact h
  | f + 1, a, h => by
    cases hu : uf1 s a with
    | none => rw [ufF_none hu]; simpa using h
    | some p =>
      obtain ⟨x, b⟩ := p
      rw [ufF_some hu]
      have h1 := uf1_bound h hu
      have h2 := ufF_len s f b h1.2.1
      simp
      omega

/-- The records of frames, and the place behind the last of them. -/
def recs (l : List (ByteArray × Nat)) : List ByteArray := l.map (·.1)
def endOf (l : List (ByteArray × Nat)) : Nat := (l.getLast?.map (·.2)).getD 0
theorem recs_snoc (l : List (ByteArray × Nat)) (p : ByteArray × Nat) : recs (l ++ [p]) = recs l ++ [p.1] := by simp [recs]
theorem endOf_snoc (l : List (ByteArray × Nat)) (p : ByteArray × Nat) : endOf (l ++ [p]) = p.2 := by simp [endOf]
theorem recs_length (l : List (ByteArray × Nat)) : (recs l).length = l.length := by simp [recs]
theorem recs_le (s : ByteArray) : (recs (ufAll s)).length ≤ s.size := by
  have := ufF_len s (s.size + 1) 0 (by omega)
  rw [recs_length]; unfold ufAll; omega

/-- What Unframe answers. -/
def ufL (s : ByteArray) : List ByteArray := if s.size ≤ 20000 then recs (ufAll s) else []
def ufE (s : ByteArray) : Nat := if s.size ≤ 20000 then endOf (ufAll s) else 0
theorem ufL_le (s : ByteArray) : (ufL s).length ≤ 20000 := by
  unfold ufL
  split
  · exact Nat.le_trans (recs_le s) (by assumption)
  · simp

/-- Where reading stands: l is read, up to the place a. -/
structure Stand (s : ByteArray) (l : List (ByteArray × Nat)) (a : Nat) : Prop where
  le : a ≤ s.size
  at_ : endOf l = a
  len : l.length ≤ a
  all : ∃ f, s.size + 1 ≤ f + a ∧ l ++ ufF s f a = ufAll s
theorem Stand.start (s : ByteArray) : Stand s [] 0 := ⟨by omega, rfl, by simp, s.size + 1, by omega, rfl⟩
theorem Stand.step {s : ByteArray} {l : List (ByteArray × Nat)} {a b : Nat} {x : ByteArray} (h : Stand s l a) (hu : uf1 s a = some (x, b)) : Stand s (l ++ [(x, b)]) b := by
  have h1 := uf1_bound h.le hu
  obtain ⟨f, hf, hall⟩ := h.all
  match f, hf, hall with
  | 0, hf, _ => have := h.le; omega
  | f + 1, hf, hall =>
    rw [ufF_some hu] at hall
    refine ⟨h1.2.1, endOf_snoc _ _, ?_, f, by omega, by simpa using hall⟩
    have := h.len
    simp; omega
theorem Stand.done {s : ByteArray} {l : List (ByteArray × Nat)} {a : Nat} (h : Stand s l a) (hu : uf1 s a = none) : l = ufAll s ∧ endOf (ufAll s) = a := by
  obtain ⟨f, _, hall⟩ := h.all
  rw [ufF_none hu, List.append_nil] at hall
  exact ⟨hall, hall ▸ h.at_⟩

theorem toList_inj {a b : ByteArray} : a = b ↔ a.data.toList = b.data.toList := by
  constructor
  · rintro rfl; rfl
  · intro h; cases a; cases b; simp at h; simp [h]

/-- A text's own frame stands there just where the sum that stands there is its own. -/
theorem frame_iff {s : ByteArray} {a n e : Nat} (ha : a ≤ s.size) (h : rv s.data.toList (a : Int) = some (n, e)) (hn : e + 4 + n ≤ s.size) :
    frAll (s.extract (e + 4) (e + 4 + n)) = s.extract a (e + 4 + n) ↔ sumHolds s n e = true := by
  obtain ⟨h1, h2, h3, h4⟩ := rv_canon ha h
  have hsz : (s.extract (e + 4) (e + 4 + n)).size = n := by simp; omega
  have hx : (s.extract a (e + 4 + n)).data.toList = varF 8 n ++ ((s.extract e (e + 4)).data.toList ++ (s.extract (e + 4) (e + 4 + n)).data.toList) := by
    simp only [ByteArray.data_extract, Array.toList_extract, List.extract_eq_take_drop]
    rw [← h4, show e + 4 + n - a = (e - a) + (4 + n) by omega, List.take_add, List.drop_drop, show a + (e - a) = e by omega, List.take_add, List.drop_drop, show e + 4 - e = 4 by omega, show e + 4 + n - (e + 4) = n by omega]
  unfold frAll sumHolds
  rw [toList_inj, hx, hsz]
  generalize (s.extract (e + 4) (e + 4 + n)) = x
  simp

/-- What the reader of one frame answers. -/
def ufT (r : Option (ByteArray × Nat)) : ByteArray := (r.getD (⟨#[]⟩, 0)).1
def ufB (r : Option (ByteArray × Nat)) : Nat := (r.getD (⟨#[]⟩, 0)).2

/-- A number read, or none; all that the walks ask of it. -/
theorem uf_cases {s : ByteArray} {a : Nat} (ha : a ≤ s.size) : ∃ (n e : Nat) (b : Bool), rvN s.data.toList (a : Int) = n ∧ rvE s.data.toList (a : Int) = e ∧ rvOk s.data.toList (a : Int) = b ∧
    ((b = false ∧ n = 0 ∧ e = 0 ∧ uf1 s a = none) ∨ (b = true ∧ a < e ∧ e ≤ s.size ∧ n ≤ 1000000000 ∧ rv s.data.toList (a : Int) = some (n, e))) := by
  refine ⟨_, _, _, rfl, rfl, rfl, ?_⟩
  unfold rvN rvE rvOk
  cases h : rv s.data.toList (a : Int) with
  | none => exact .inl ⟨rfl, rfl, rfl, uf1_none h⟩
  | some p =>
    obtain ⟨n, e⟩ := p
    obtain ⟨h1, h2, h3, _⟩ := rv_canon ha h
    exact .inr ⟨rfl, h1, h2, h3, rfl⟩
end Go.Proofs.YtepfblabdibggabDoor
