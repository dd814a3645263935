/- Frames come back, and of a file that is cut just the whole ones: the plain reckoning; no program. -/
import Derived.Test.YtlmclblndjeljaaDoorUnframePlain
import Derived.Test.YtlmclblndjeljaaDoorTrip
namespace Go.Proofs.YtlmclblndjeljaaDoor
open Go.RowKit

/-- The bytes of a frame. -/
def frB (x : ByteArray) : List UInt8 := varF 8 x.size ++ (four (sumOf x) ++ x.data.toList)
theorem frAll_list (x : ByteArray) : (frAll x).data.toList = frB x := by simp [frAll, frB]
theorem frB_length (x : ByteArray) : (frB x).length = (varF 8 x.size).length + 4 + x.size := by
  simp [frB, four_length]; omega
theorem frAll_size (x : ByteArray) : (frAll x).size = (frB x).length := by
  rw [← frAll_list]; simp
/-- A text that has a frame. -/
def Framed (x : ByteArray) : Prop := 1 ≤ x.size ∧ x.size ≤ 9000

theorem extract_toList (s : ByteArray) (i j : Nat) : (s.extract i j).data.toList = (s.data.toList.drop i).take (j - i) := by
  simp only [ByteArray.data_extract, Array.toList_extract, List.extract_eq_take_drop]

theorem uf1_whole {s x : ByteArray} {a : Nat} {r : List UInt8} (ha : a ≤ s.size) (hx : Framed x) (h : s.data.toList.drop a = frB x ++ r) : uf1 s a = some (x, a + (frB x).length) := by
  have hl := congrArg List.length h
  simp only [List.length_drop, List.length_append, Array.length_toList] at hl
  have hfl := frB_length x
  have hsz : s.data.size = s.size := rfl
  have hr : rv s.data.toList (a : Int) = some (x.size, a + (varF 8 x.size).length) := by
    rw [rv_in ha]
    refine rvF_varF (by have := hx.2; omega) (r := four (sumOf x) ++ x.data.toList ++ r) ?_
    rw [h, frB]; simp
  have hd1 : s.data.toList.drop (a + (varF 8 x.size).length) = four (sumOf x) ++ (x.data.toList ++ r) := by
    rw [← List.drop_drop, h, frB]; simp
  have hd2 : s.data.toList.drop (a + (varF 8 x.size).length + 4) = x.data.toList ++ r := by
    rw [← List.drop_drop, hd1]; exact List.drop_left' (four_length _)
  have hex : s.extract (a + (varF 8 x.size).length + 4) (a + (varF 8 x.size).length + 4 + x.size) = x := by
    rw [toList_inj, extract_toList, hd2, Nat.add_sub_cancel_left]
    exact List.take_left' (by simp)
  have hsum : sumHolds s x.size (a + (varF 8 x.size).length) = true := by
    unfold sumHolds
    rw [hex, extract_toList, hd1, Nat.add_sub_cancel_left, List.take_left' (four_length _)]
    simp
  rw [uf1_yes hr ⟨hx.1, hx.2, by omega, hsum⟩, hex]
  congr 2
  omega

theorem rvF_high {t : List UInt8} {a : Nat} (h : ∀ c ∈ t.drop a, 128 ≤ c.toNat) : ∀ f k, rvF t a f k = none
  | 0, _ => rfl
  | f + 1, k => by
    by_cases hl : a + k < t.length
    · rw [rvF_on hl (h _ ?_)]
      · exact rvF_high h f (k + 1)
      · rw [List.mem_drop_iff_getElem]
        exact ⟨k, by omega, by simp⟩
    · exact rvF_end (.inl (by omega))

theorem uf1_cut {s x : ByteArray} {a j : Nat} (ha : a ≤ s.size) (hx : Framed x) (hj : j < (frB x).length) (h : s.data.toList.drop a = (frB x).take j) : uf1 s a = none := by
  have hl := congrArg List.length h
  simp only [List.length_drop, List.length_take, Array.length_toList] at hl
  have hfl := frB_length x
  have hsz : s.data.size = s.size := rfl
  by_cases hv : j < (varF 8 x.size).length
  · refine uf1_none ?_
    rw [rv_in ha]
    refine rvF_high ?_ _ _
    obtain ⟨p, b, hp, hall, _⟩ := varF_form 8 x.size (by have := hx.2; omega)
    intro c hc
    rw [h, frB, List.take_append_of_le_length (by omega), hp] at hc
    rw [hp, List.length_append, List.length_singleton] at hv
    rw [List.take_append_of_le_length (by omega)] at hc
    exact hall c (List.mem_of_mem_take hc)
  · have hr : rv s.data.toList (a : Int) = some (x.size, a + (varF 8 x.size).length) := by
      rw [rv_in ha]
      refine rvF_varF (by have := hx.2; omega) (r := (four (sumOf x) ++ x.data.toList).take (j - (varF 8 x.size).length)) ?_
      rw [h, frB, List.take_append, List.take_of_length_le (by omega)]
    exact uf1_no hr (by omega)

/-- The bytes of frames, one behind the other. -/
def cat (xs : List ByteArray) : List UInt8 := (xs.map frB).flatten
/-- The whole frames among the first j bytes, told from the place a on. -/
def wholes : Nat → Nat → List ByteArray → List (ByteArray × Nat)
  | _, _, [] => []
  | a, j, x :: xs => if (frB x).length ≤ j then (x, a + (frB x).length) :: wholes (a + (frB x).length) (j - (frB x).length) xs else []

theorem ufF_cut : ∀ (xs : List ByteArray) (s : ByteArray) (a j f : Nat), (∀ x ∈ xs, Framed x) → a ≤ s.size → s.data.toList.drop a = (cat xs).take j → xs.length < f → ufF s f a = wholes a j xs
  | [], s, a, j, f, _, ha, h, _ => by
    have hl := congrArg List.length h
    simp [cat] at hl
    have : a = s.size := by have : s.data.size = s.size := rfl; omega
    subst this
    rw [ufF_none (uf1_end s)]
    rfl
  | x :: xs, s, a, j, 0, _, _, _, hf => by simp at hf
  | x :: xs, s, a, j, f + 1, hx, ha, h, hf => by
    have hxx := hx x (by simp)
    have hcat : cat (x :: xs) = frB x ++ cat xs := by simp [cat]
    rw [hcat] at h
    by_cases hj : (frB x).length ≤ j
    · rw [List.take_append, List.take_of_length_le hj] at h
      rw [ufF_some (uf1_whole ha hxx h)]
      have hl := congrArg List.length h
      simp only [List.length_drop, List.length_append, Array.length_toList] at hl
      have hsz : s.data.size = s.size := rfl
      simp only [wholes, if_pos hj]
      congr 1
      refine ufF_cut xs s _ _ f (fun y hy => hx y (by simp [hy])) ?_ ?_ (by simp at hf; omega)
      · have := frB_length x
        have := hxx.1
        omega
      · rw [← List.drop_drop, h]
        exact List.drop_left
    · rw [List.take_append_of_le_length (by omega)] at h
      rw [ufF_none (uf1_cut ha hxx (by omega) h)]
      simp [wholes, hj]

/-- Three texts, and the ends of their frames. -/
theorem three_cut {s : ByteArray} {x y z : ByteArray} {j : Nat} (hx : Framed x) (hy : Framed y) (hz : Framed z) (h : s.data.toList = (cat [x, y, z]).take j) : ufAll s = wholes 0 j [x, y, z] := by
  by_cases h3 : 3 < s.size + 1
  · exact ufF_cut [x, y, z] s 0 j (s.size + 1) (by simp [hx, hy, hz]) (by omega) (by simpa using h) (by simpa using h3)
  · have hl := congrArg List.length h
    have hsz : s.data.size = s.size := rfl
    have hfl := frB_length x
    have hx1 := hx.1
    simp [cat] at hl
    have hj : j ≤ 2 := by omega
    have hw : wholes 0 j [x, y, z] = [] := by
      have : ¬ (frB x).length ≤ j := by omega
      simp [wholes, this]
    rw [hw]
    refine ufF_none (uf1_cut (j := j) (by omega) hx (by omega) ?_)
    rw [List.drop_zero, h, cat]
    simp only [List.map_cons, List.flatten_cons]
    exact List.take_append_of_le_length (by omega)

/-- Frames, one behind the other, as a text. -/
def catB (xs : List ByteArray) : ByteArray := ⟨(cat xs).toArray⟩
theorem catB_list (xs : List ByteArray) : (catB xs).data.toList = cat xs := rfl
theorem catB_size (xs : List ByteArray) : (catB xs).size = (cat xs).length := rfl
theorem cat_snoc (xs : List ByteArray) (x : ByteArray) : cat (xs ++ [x]) = cat xs ++ frB x := by simp [cat]
theorem catB_snoc (xs : List ByteArray) (x : ByteArray) : catB xs ++ frAll x = catB (xs ++ [x]) := by
  rw [toList_inj, catB_list, cat_snoc, ← frAll_list, ← catB_list]
  simp
/-- The place behind the first m frames. -/
def en (L : List ByteArray) (m : Nat) : Nat := (cat (L.take m)).length
theorem en_zero (L : List ByteArray) : en L 0 = 0 := by simp [en, cat]

/-- Of three frames that are cut at k just the whole ones come back. -/
theorem cut3 {x y z : ByteArray} {k : Nat} (hx : Framed x) (hy : Framed y) (hz : Framed z) (hk : k ≤ (catB [x, y, z]).size) (hs : (catB [x, y, z]).size ≤ 20000) :
    ∃ m, m ≤ 3 ∧ ufL ((catB [x, y, z]).extract 0 k) = [x, y, z].take m ∧ ufE ((catB [x, y, z]).extract 0 k) = en [x, y, z] m ∧ en [x, y, z] m ≤ k ∧ (m = 3 ∨ k < en [x, y, z] (m + 1)) ∧ (k = (catB [x, y, z]).size → m = 3) := by
  have hl : ((catB [x, y, z]).extract 0 k).data.toList = (cat [x, y, z]).take k := by rw [extract_toList]; rfl
  have hu := three_cut hx hy hz hl
  have hsz : ((catB [x, y, z]).extract 0 k).size ≤ 20000 := by simp; omega
  have h1 : ufL ((catB [x, y, z]).extract 0 k) = recs (wholes 0 k [x, y, z]) := by unfold ufL; rw [if_pos hsz, hu]
  have h2 : ufE ((catB [x, y, z]).extract 0 k) = endOf (wholes 0 k [x, y, z]) := by unfold ufE; rw [if_pos hsz, hu]
  rw [h1, h2]
  have e0 : en [x, y, z] 0 = 0 := by simp [en, cat]
  have e1 : en [x, y, z] 1 = (frB x).length := by simp [en, cat]
  have e2 : en [x, y, z] 2 = (frB x).length + (frB y).length := by simp [en, cat]
  have e3 : en [x, y, z] 3 = (frB x).length + (frB y).length + (frB z).length := by simp [en, cat]; omega
  have e4 : (catB [x, y, z]).size = en [x, y, z] 3 := rfl
  rw [e4] at hk ⊢
  clear hl hu hsz h1 h2 e4
  have lx := frB_length x
  have ly := frB_length y
  have lz := frB_length z
  by_cases c1 : (frB x).length ≤ k
  · by_cases c2 : (frB y).length ≤ k - (frB x).length
    · by_cases c3 : (frB z).length ≤ k - (frB x).length - (frB y).length
      · refine ⟨3, by omega, ?_, ?_, by omega, .inl rfl, fun _ => rfl⟩
        · simp [wholes, c1, c2, c3, recs]
        · rw [e3]; simp [wholes, c1, c2, c3, endOf]
      · refine ⟨2, by omega, ?_, ?_, by omega, .inr (show k < en [x, y, z] 3 by omega), fun h => by omega⟩
        · simp [wholes, c1, c2, c3, recs]
        · rw [e2]; simp [wholes, c1, c2, c3, endOf]
    · refine ⟨1, by omega, ?_, ?_, by omega, .inr (show k < en [x, y, z] 2 by omega), fun h => by omega⟩
      · simp [wholes, c1, c2, recs]
      · rw [e1]; simp [wholes, c1, c2, endOf]
  · refine ⟨0, by omega, ?_, ?_, by omega, .inr (show k < en [x, y, z] 1 by omega), fun h => by omega⟩
    · simp [wholes, c1, recs]
    · rw [e0]; simp [wholes, c1, endOf]
theorem whole3 {x y z : ByteArray} (hx : Framed x) (hy : Framed y) (hz : Framed z) (hs : (catB [x, y, z]).size ≤ 20000) : ufL (catB [x, y, z]) = [x, y, z] ∧ ufE (catB [x, y, z]) = (catB [x, y, z]).size := by
  obtain ⟨m, h1, h2, h3, h4, h5, h6⟩ := cut3 hx hy hz (Nat.le_refl _) hs
  have hm := h6 rfl
  subst hm
  have he : (catB [x, y, z]).extract 0 (catB [x, y, z]).size = catB [x, y, z] := by rw [toList_inj, extract_toList]; exact List.take_of_length_le (by simp)
  rw [he] at h2 h3
  exact ⟨h2, h3⟩
end Go.Proofs.YtlmclblndjeljaaDoor
