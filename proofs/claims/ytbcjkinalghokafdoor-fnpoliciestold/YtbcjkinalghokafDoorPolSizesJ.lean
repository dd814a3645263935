/- Texts that stand in one: PolSizes, SkPlain, PolPlain, PolSizes2, PolPut. -/
import Derived.Test.YtbcjkinalghokafDoorMarkTextJ
import Derived.Test.YtbcjkinalghokafDoorKeysDraw12J
import Derived.Test.YtbcjkinalghokafDoorSumPlainJ
import Derived.Test.YtbcjkinalghokafDoorPolHoldJ
namespace Go.Proofs.YtbcjkinalghokafDoor
open Go.RowKit

theorem wgtL_without (l : List ByteArray) (s : ByteArray) : (without l s).length + wgtL (without l s) ≤ l.length + wgtL l := by
  induction l with
  | nil => simp [without, wgtL]
  | cons a r ih =>
    by_cases e : a = s
    · have h1 : without (a :: r) s = without r s := by simp [without, e]
      rw [h1]
      simp only [List.length_cons, wgtL, List.map_cons, List.sum_cons] at ih ⊢
      omega
    · have h1 : without (a :: r) s = a :: without r s := by simp [without, e]
      rw [h1]
      simp only [List.length_cons, wgtL, List.map_cons, List.sum_cons] at ih ⊢
      omega
theorem dropP_sz {P : Pol} (key : ByteArray) (h : PolSz P) : PolSz (dropP P key) := by
  unfold PolSz wgtP dropP at *
  have h1 := wgtL_without P.win key
  have h2 := wgtL_without P.main key
  dsimp only
  omega
theorem wgtL_keys {l : List ByteArray} (h : ∀ z ∈ l, keyOk z = true) : wgtL l ≤ 30 * l.length := by
  induction l with
  | nil => simp [wgtL]
  | cons a r ih =>
    have h1 := ih (fun z hz => h z (List.mem_cons_of_mem _ hz))
    have h2 := h a (List.mem_cons_self ..)
    simp only [keyOk, decide_eq_true_eq] at h2
    simp only [wgtL, List.map_cons, List.sum_cons, List.length_cons] at h1 ⊢
    omega
/-- A right policy is small. -/
theorem okP_wgt {P : Pol} (h : okP P = true) : wgtP P ≤ 300 := by
  obtain ⟨h1, h2, _, _, _, h6, h7, h8⟩ := okP_iff.1 h
  obtain ⟨a, b, c, e, ra, rb, rc, _, _⟩ := okK_parts h8
  have w1 := wgtL_keys h1
  have w2 := wgtL_keys h2
  have hl : P.sk.rows.length = 3 := by rw [e]; rfl
  have ht : tot P.sk.rows P.sk.rows.length = 48 := by
    rw [hl, e]
    simp [tot, rowOk_len ra, rowOk_len rb, rowOk_len rc]
  unfold wgtP
  omega
theorem okP_sz {P : Pol} (h : okP P = true) : PolSz P := by
  have := okP_wgt h
  unfold PolSz
  omega
end Go.Proofs.YtbcjkinalghokafDoor

namespace Go.Proofs.YtbcjkinalghokafDoor
open Go.RowKit

/-- The place of a key in a row. -/
def rowByte (row : Int) : UInt8 := UInt8.ofNat (row % 256).toNat
def placeS (row : Int) (key : ByteArray) : Nat := sumAll 4294967295 (key.data.toList ++ [rowByte row]) % 16
/-- One row, when the key is asked for. -/
def bumpR (key : ByteArray) (i : Nat) (r : List Int) : List Int := r.set (placeS i key) (min (r.getD (placeS i key) 0 + 1) 15)
def halfR (r : List Int) : List Int := r.map (fun z => z / 2)
/-- The first k rows bumped. -/
def bumpTo (key : ByteArray) (rows : List (List Int)) (k : Nat) : List (List Int) := rows.mapIdx fun i r => if i < k then bumpR key i r else r
def halfTo (rows : List (List Int)) (k : Nat) : List (List Int) := rows.mapIdx fun i r => if i < k then halfR r else r
def bumpS (S : Sk) (key : ByteArray) : Sk := if okK S = true then (if S.added = 63 then ⟨halfTo (bumpTo key S.rows 3) 3, 0⟩ else ⟨bumpTo key S.rows 3, S.added + 1⟩) else S
def lookR (key : ByteArray) (rows : List (List Int)) (i : Nat) : Int := (rows.getD i []).getD (placeS i key) 0
def guessTo (key : ByteArray) (rows : List (List Int)) (k : Nat) : Int := (List.range k).foldl (fun n i => min (lookR key rows i) n) 15
def guessS (S : Sk) (key : ByteArray) : Int := if okK S = true then guessTo key S.rows 3 else 0

theorem placeS_lt (row : Int) (key : ByteArray) : placeS row key < 16 := Nat.mod_lt _ (by omega)
theorem bumpR_ok {key : ByteArray} {i : Nat} {r : List Int} (h : rowOk r = true) : rowOk (bumpR key i r) = true := by
  have hl := rowOk_len h
  have hat := rowOk_at h (placeS i key) (placeS_lt _ _)
  unfold rowOk at h ⊢
  unfold bumpR
  simp only [Bool.and_eq_true, decide_eq_true_eq, List.all_eq_true] at h ⊢
  refine ⟨by rw [List.length_set]; exact hl, fun z hz => ?_⟩
  rcases List.mem_or_eq_of_mem_set hz with hz | rfl
  · exact h.2 z hz
  · simp only [numOk, decide_eq_true_eq]; omega
theorem halfR_ok {r : List Int} (h : rowOk r = true) : rowOk (halfR r) = true ∧ ∀ p, (halfR r).getD p 0 ≤ 7 := by
  have hl := rowOk_len h
  constructor
  · unfold rowOk at h ⊢
    unfold halfR
    simp only [Bool.and_eq_true, decide_eq_true_eq, List.all_eq_true, List.length_map] at h ⊢
    refine ⟨hl, fun z hz => ?_⟩
    obtain ⟨y, hy, rfl⟩ := List.mem_map.1 hz
    have := h.2 y hy
    simp only [numOk, decide_eq_true_eq] at this ⊢
    omega
  · intro p
    by_cases hp : p < 16
    · have := rowOk_at h p hp
      unfold halfR
      rw [List.getD_eq_getElem?_getD, List.getElem?_map]
      rw [List.getD_eq_getElem?_getD] at this
      rw [List.getElem?_eq_getElem (by omega)] at this ⊢
      simp at this ⊢
      omega
    · rw [List.getD_eq_getElem?_getD, List.getElem?_eq_none (by simp [halfR]; omega)]
      simp
theorem bumpTo_three (key : ByteArray) (a b c : List Int) : bumpTo key [a, b, c] 3 = [bumpR key 0 a, bumpR key 1 b, bumpR key 2 c] := by simp [bumpTo, List.mapIdx_cons]
theorem halfTo_three (a b c : List Int) : halfTo [a, b, c] 3 = [halfR a, halfR b, halfR c] := by simp [halfTo, List.mapIdx_cons]
theorem bumpTo_zero (key : ByteArray) (rows : List (List Int)) : bumpTo key rows 0 = rows := by
  unfold bumpTo
  apply List.ext_getElem?
  intro i
  simp
theorem halfTo_zero (rows : List (List Int)) : halfTo rows 0 = rows := by
  unfold halfTo
  apply List.ext_getElem?
  intro i
  simp
/-- The next row. -/
theorem bumpTo_succ (key : ByteArray) (rows : List (List Int)) (k : Nat) (r : List Int) (hr : rows[k]? = some r) : (bumpTo key rows k)[k]? = some r ∧ bumpTo key rows (k + 1) = (bumpTo key rows k).set k (bumpR key k r) := by
  unfold bumpTo
  constructor
  · simp [hr]
  · apply List.ext_getElem?
    intro i
    by_cases hi : i = k
    · subst hi
      obtain ⟨h1, rfl⟩ := List.getElem?_eq_some_iff.1 hr
      simp [h1]
    · rw [List.getElem?_set_ne (fun e => hi e.symm)]
      simp only [List.getElem?_mapIdx]
      congr 1
      funext x
      by_cases h1 : i < k
      · rw [if_pos h1, if_pos (by omega)]
      · rw [if_neg h1, if_neg (by omega)]
theorem halfTo_succ (rows : List (List Int)) (k : Nat) (r : List Int) (hr : rows[k]? = some r) : (halfTo rows k)[k]? = some r ∧ halfTo rows (k + 1) = (halfTo rows k).set k (halfR r) := by
  unfold halfTo
  constructor
  · simp [hr]
  · apply List.ext_getElem?
    intro i
    by_cases hi : i = k
    · subst hi
      obtain ⟨h1, rfl⟩ := List.getElem?_eq_some_iff.1 hr
      simp [h1]
    · rw [List.getElem?_set_ne (fun e => hi e.symm)]
      simp only [List.getElem?_mapIdx]
      congr 1
      funext x
      by_cases h1 : i < k
      · rw [if_pos h1, if_pos (by omega)]
      · rw [if_neg h1, if_neg (by omega)]
theorem bumpTo_length (key : ByteArray) (rows : List (List Int)) (k : Nat) : (bumpTo key rows k).length = rows.length := by simp [bumpTo]
theorem halfTo_length (rows : List (List Int)) (k : Nat) : (halfTo rows k).length = rows.length := by simp [halfTo]
/-- It stays right. -/
theorem bumpS_ok {S : Sk} (key : ByteArray) (h : okK S = true) : okK (bumpS S key) = true := by
  obtain ⟨a, b, c, e, ha, hb, hc, h0, h1⟩ := okK_parts h
  unfold bumpS
  rw [if_pos h, e, bumpTo_three]
  by_cases h63 : S.added = 63
  · rw [if_pos h63, halfTo_three]
    exact okK_mk (halfR_ok (bumpR_ok ha)).1 (halfR_ok (bumpR_ok hb)).1 (halfR_ok (bumpR_ok hc)).1 (by omega) (by omega)
  · rw [if_neg h63]
    exact okK_mk (bumpR_ok ha) (bumpR_ok hb) (bumpR_ok hc) (by omega) (by omega)
theorem guessTo_three (key : ByteArray) (a b c : List Int) : guessTo key [a, b, c] 3 = min (c.getD (placeS 2 key) 0) (min (b.getD (placeS 1 key) 0) (min (a.getD (placeS 0 key) 0) 15)) := rfl
/-- Halved, a guess is half the top at most. -/
theorem guess_half {S : Sk} (key key2 : ByteArray) (h : okK S = true) (h0 : (bumpS S key).added = 0) : guessS (bumpS S key) key2 ≤ 7 := by
  have hok := bumpS_ok key h
  obtain ⟨a, b, c, e, ha, hb, hc, h1, h2⟩ := okK_parts h
  unfold guessS
  rw [if_pos hok]
  unfold bumpS at h0 ⊢
  rw [if_pos h] at h0 ⊢
  by_cases h63 : S.added = 63
  · rw [if_pos h63, e, bumpTo_three, halfTo_three, guessTo_three]
    have := (halfR_ok (bumpR_ok (key := key) (i := 0) ha)).2 (placeS 0 key2)
    omega
  · rw [if_neg h63] at h0
    simp only at h0
    omega
end Go.Proofs.YtbcjkinalghokafDoor

namespace Go.Proofs.YtbcjkinalghokafDoor
open Go.RowKit

/-- When there is no room in the window: w what is left of it, first who was first. -/
def pushP (w main : List ByteArray) (sk : Sk) (first : ByteArray) : Pol × ByteArray :=
  if main.length < 4 then (⟨w, main ++ [first], sk⟩, noKey)
  else if guessS sk (main.getD 0 noKey) < guessS sk first then (⟨w, main.tail ++ [first], sk⟩, main.getD 0 noKey)
  else (⟨w, main, sk⟩, first)
def touchP (P : Pol) (key : ByteArray) : Pol × ByteArray :=
  if (okP P && keyOk key) = true then
    if inL P.win key = true then (⟨without P.win key ++ [key], P.main, bumpS P.sk key⟩, noKey)
    else if inL P.main key = true then (⟨P.win, without P.main key ++ [key], bumpS P.sk key⟩, noKey)
    else if P.win.length + 1 ≤ 2 then (⟨P.win ++ [key], P.main, bumpS P.sk key⟩, noKey)
    else pushP (P.win ++ [key]).tail P.main (bumpS P.sk key) (P.win.getD 0 noKey)
  else (P, noKey)

/-- What a push leaves, when the window was right. -/
theorem touchP_right {P : Pol} {key : ByteArray} (hP : okP P = true) (hk : keyOk key = true) :
    okP (touchP P key).1 = true ∧ hasP (touchP P key).1 key = true ∧ ((touchP P key).2 ≠ noKey → hasP (touchP P key).1 (touchP P key).2 = false ∧ hasP P (touchP P key).2 = true) ∧
      (touchP P key).1.win.length + (touchP P key).1.main.length + (if (touchP P key).2 = noKey then 0 else 1) = P.win.length + P.main.length + (if hasP P key = true then 0 else 1) := by
  obtain ⟨win, main, sk⟩ := P
  obtain ⟨h1, h2, h3, h4, h5, h6, h7, h8⟩ := okP_iff.1 hP
  dsimp only at h1 h2 h3 h4 h5 h6 h7 h8
  have hsk := bumpS_ok key h8
  have e : touchP ⟨win, main, sk⟩ key = if inL win key = true then (⟨without win key ++ [key], main, bumpS sk key⟩, noKey) else if inL main key = true then (⟨win, without main key ++ [key], bumpS sk key⟩, noKey) else if win.length + 1 ≤ 2 then (⟨win ++ [key], main, bumpS sk key⟩, noKey) else pushP (win ++ [key]).tail main (bumpS sk key) (win.getD 0 noKey) := by
    unfold touchP
    rw [hP, hk]
    rfl
  rw [e]
  clear e
  generalize bumpS sk key = sk' at hsk ⊢
  by_cases hw : inL win key = true
  · have hw' := inL_iff.1 hw
    have hl := without_length h3 hw'
    rw [if_pos hw]
    have hs : hasP ⟨win, main, sk⟩ key = true := by simp [hasP, hw]
    refine ⟨okP_iff.2 ⟨?_, h2, nodup_snoc.2 ⟨without_nodup h3, fun h => (without_mem.1 h).2 rfl⟩, h4, ?_, by simp; omega, h7, hsk⟩, by simp [hasP, inL], fun h => absurd rfl h, ?_⟩
    · intro z hz
      rcases List.mem_append.1 hz with hz | hz
      · exact h1 z (without_mem.1 hz).1
      · rw [List.mem_singleton.1 hz]; exact hk
    · intro z hz
      rcases List.mem_append.1 hz with hz | hz
      · exact h5 z (without_mem.1 hz).1
      · rw [List.mem_singleton.1 hz]; exact h5 key hw'
    · rw [hs]; simp; omega
  rw [if_neg hw]
  have hwf := inL_false.1 (by simpa using hw)
  by_cases hm : inL main key = true
  · have hm' := inL_iff.1 hm
    have hl := without_length h4 hm'
    rw [if_pos hm]
    have hs : hasP ⟨win, main, sk⟩ key = true := by simp [hasP, hm]
    refine ⟨okP_iff.2 ⟨h1, ?_, h3, nodup_snoc.2 ⟨without_nodup h4, fun h => (without_mem.1 h).2 rfl⟩, ?_, h6, by simp; omega, hsk⟩, by simp [hasP, inL], fun h => absurd rfl h, ?_⟩
    · intro z hz
      rcases List.mem_append.1 hz with hz | hz
      · exact h2 z (without_mem.1 hz).1
      · rw [List.mem_singleton.1 hz]; exact hk
    · intro z hz hmz
      rcases List.mem_append.1 hmz with hmz | hmz
      · exact h5 z hz (without_mem.1 hmz).1
      · rw [List.mem_singleton.1 hmz] at hz; exact hwf hz
    · rw [hs]; simp; omega
  rw [if_neg hm]
  have hmf := inL_false.1 (by simpa using hm)
  have hs : hasP ⟨win, main, sk⟩ key = false := by simp only [hasP, inL_false.2 hwf, inL_false.2 hmf, Bool.or_false]
  by_cases hl : win.length + 1 ≤ 2
  · rw [if_pos hl]
    refine ⟨okP_iff.2 ⟨?_, h2, nodup_snoc.2 ⟨h3, hwf⟩, h4, ?_, by simp; omega, h7, hsk⟩, by simp [hasP, inL], fun h => absurd rfl h, ?_⟩
    · intro z hz
      rcases List.mem_append.1 hz with hz | hz
      · exact h1 z hz
      · rw [List.mem_singleton.1 hz]; exact hk
    · intro z hz
      rcases List.mem_append.1 hz with hz | hz
      · exact h5 z hz
      · rw [List.mem_singleton.1 hz]; exact hmf
    · rw [hs]; simp; omega
  rw [if_neg hl]
  obtain ⟨f, s, rfl⟩ : ∃ f s, win = [f, s] := by
    match win, h6, hl with
    | [f, s], _, _ => exact ⟨f, s, rfl⟩
    | [], _, h => simp at h
    | [_], _, h => simp at h
    | _ :: _ :: _ :: _, h, _ => simp at h
  have hf := h1 f (by simp)
  have hfs : f ≠ s := by intro e; subst e; simp at h3
  have hfk : f ≠ key := by intro e; subst e; simp at hwf
  have hsk2 : s ≠ key := by intro e; subst e; simp at hwf
  have hfm := h5 f (by simp)
  have hsm := h5 s (by simp)
  have e2 : ([f, s] ++ [key]).tail = [s, key] := rfl
  have e3 : ([f, s] : List ByteArray).getD 0 noKey = f := rfl
  rw [e2, e3]
  have w1 : ∀ z ∈ [s, key], keyOk z = true := by
    intro z hz
    simp only [List.mem_cons, List.not_mem_nil, or_false] at hz
    rcases hz with rfl | rfl
    · exact h1 _ (by simp)
    · exact hk
  have w2 : ([s, key] : List ByteArray).Nodup := by simp [hsk2]
  have w3 : ∀ z ∈ [s, key], z ∉ main ∧ z ≠ f := by
    intro z hz
    simp only [List.mem_cons, List.not_mem_nil, or_false] at hz
    rcases hz with rfl | rfl
    · exact ⟨hsm, fun e => hfs e.symm⟩
    · exact ⟨hmf, fun e => hfk e.symm⟩
  unfold pushP
  by_cases h4l : main.length < 4
  · rw [if_pos h4l]
    refine ⟨okP_iff.2 ⟨w1, ?_, w2, nodup_snoc.2 ⟨h4, hfm⟩, ?_, by simp, by simp; omega, hsk⟩, by simp [hasP, inL], fun h => absurd rfl h, ?_⟩
    · intro z hz
      rcases List.mem_append.1 hz with hz | hz
      · exact h2 z hz
      · rw [List.mem_singleton.1 hz]; exact hf
    · intro z hz hmz
      rcases List.mem_append.1 hmz with hmz | hmz
      · exact (w3 z hz).1 hmz
      · exact (w3 z hz).2 (List.mem_singleton.1 hmz)
    · rw [hs]; simp; omega
  rw [if_neg h4l]
  by_cases hg : guessS sk' (main.getD 0 noKey) < guessS sk' f
  · rw [if_pos hg]
    obtain ⟨m0, mr, rfl⟩ : ∃ m0 mr, main = m0 :: mr := by
      cases main with
      | nil => simp at h4l
      | cons a r => exact ⟨a, r, rfl⟩
    have e4 : (m0 :: mr : List ByteArray).getD 0 noKey = m0 := rfl
    rw [e4]
    have hm0 := h2 m0 (by simp)
    rw [List.nodup_cons] at h4
    have hm0f : m0 ≠ f := by intro e; subst e; exact hfm (by simp)
    refine ⟨okP_iff.2 ⟨w1, ?_, w2, nodup_snoc.2 ⟨h4.2, fun h => hfm (List.mem_cons_of_mem _ h)⟩, ?_, by simp, by simp at h7 ⊢; omega, hsk⟩, by simp [hasP, inL], fun _ => ⟨?_, ?_⟩, ?_⟩
    · intro z hz
      rcases List.mem_append.1 hz with hz | hz
      · exact h2 z (by simp at hz; simp [hz])
      · rw [List.mem_singleton.1 hz]; exact hf
    · intro z hz hmz
      rcases List.mem_append.1 hmz with hmz | hmz
      · exact (w3 z hz).1 (by simp at hmz; simp [hmz])
      · exact (w3 z hz).2 (List.mem_singleton.1 hmz)
    · have a1 : inL [s, key] m0 = false := by
        rw [inL_false]
        intro h
        exact (w3 m0 h).1 (by simp)
      have a2 : inL ((m0 :: mr).tail ++ [f]) m0 = false := by
        rw [inL_false]
        intro h
        rcases List.mem_append.1 h with h | h
        · exact h4.1 h
        · exact hm0f (List.mem_singleton.1 h)
      simp only [hasP, a1, a2, Bool.or_false]
    · have : inL (m0 :: mr) m0 = true := inL_iff.2 (by simp)
      simp only [hasP, this, Bool.or_true]
    · rw [hs, if_neg (keyOk_ne hm0)]; simp
  · rw [if_neg hg]
    refine ⟨okP_iff.2 ⟨w1, h2, w2, h4, fun z hz => (w3 z hz).1, by simp, h7, hsk⟩, by simp [hasP, inL], fun _ => ⟨?_, ?_⟩, ?_⟩
    · have a1 : inL [s, key] f = false := by
        rw [inL_false]
        intro h
        exact (w3 f h).2 rfl
      simp only [hasP, a1, inL_false.2 hfm, Bool.or_false]
    · have : inL [f, s] f = true := inL_iff.2 (by simp)
      simp only [hasP, this, Bool.true_or]
    · rw [hs, if_neg (keyOk_ne hf)]; simp
end Go.Proofs.YtbcjkinalghokafDoor

namespace Go.Proofs.YtbcjkinalghokafDoor
open Go.RowKit
theorem touchP_sz {P : Pol} (key : ByteArray) (h : PolSz P) : PolSz (touchP P key).1 := by
  by_cases h1 : okP P = true
  · by_cases h2 : keyOk key = true
    · exact okP_sz (touchP_right h1 h2).1
    · unfold touchP
      rw [if_neg (by simp [h2])]
      exact h
  · unfold touchP
    rw [if_neg (by simp [h1])]
    exact h
end Go.Proofs.YtbcjkinalghokafDoor

namespace Go.Proofs.YtbcjkinalghokafDoor
open Go.RowKit

/-- A policy of one's own in a law's variable. -/
structure PolV (w : World) (lo T : Nat) (a1 a2 a3 : Option Addr) (c1 c2 c3 : Nat) (P : Pol) : Prop where
  hold : PHold w T 29 [] lo (.slice a1 P.win.length c1) (.slice a2 P.main.length c2) (.slice a3 P.sk.rows.length c3) P
  lo : lo ≤ T
theorem PolV.on {w w' : World} {lo T : Nat} {a1 a2 a3 : Option Addr} {c1 c2 c3 : Nat} {P : Pol} (h : PolV w lo T a1 a2 a3 c1 c2 c3 P) (hb : Below w.heap.size w w') : PolV w' lo T a1 a2 a3 c1 c2 c3 P := ⟨h.hold.on hb, h.lo⟩
theorem PolV.at {w : World} {lo T : Nat} {a1 a2 a3 : Option Addr} {c1 c2 c3 : Nat} {P : Pol} (h : PolV w lo T a1 a2 a3 c1 c2 c3 P) : PolAt w a1 a2 a3 P w.heap.size := by
  obtain ⟨_, h1, h2, _, h3⟩ := h.hold
  obtain ⟨x1, y1, e1, A1⟩ := h1.strsAt
  obtain ⟨x2, y2, e2, A2⟩ := h2.strsAt
  obtain ⟨x3, y3, e3, A3⟩ := h3.at
  simp only [Value.slice.injEq, true_and] at e1 e2 e3
  rw [e1.1, e2.1, e3.1]
  exact ⟨A1, A2, A3⟩
theorem PolV.cells {w : World} {lo T : Nat} {a1 a2 a3 : Option Addr} {c1 c2 c3 : Nat} {P : Pol} (h : PolV w lo T a1 a2 a3 c1 c2 c3 P) : w.cell? ⟨T, 0, none⟩ = some (.slice a1 P.win.length c1) ∧ w.cell? ⟨T, 1, none⟩ = some (.slice a2 P.main.length c2) ∧ w.cell? ⟨T, 2, none⟩ = some (.slice a3 P.sk.rows.length c3) ∧ w.cell? ⟨T, 3, none⟩ = some (.int .i64 P.sk.added) := ⟨h.hold.cells.1, h.hold.cells.2.1, h.hold.cells.2.2.1, h.hold.cells.2.2.2.1⟩
theorem PolV.new {w : World} {lo : Nat} {a1 a2 a3 : Option Addr} {c1 c2 c3 : Nat} {P : Pol} (h : POwn w lo w.heap.size (.agg #[.slice a1 P.win.length c1, .slice a2 P.main.length c2, .slice a3 P.sk.rows.length c3, .int .i64 P.sk.added]) P) (hlo : lo ≤ w.heap.size) :
    PolV (w.alloc (.cells #[.slice a1 P.win.length c1, .slice a2 P.main.length c2, .slice a3 P.sk.rows.length c3, .int .i64 P.sk.added] 29)) lo w.heap.size a1 a2 a3 c1 c2 c3 P := ⟨h.hold 29 [], hlo⟩
/-- Another policy is stored into the variable. -/
theorem PolV.put {w w2 : World} {lo T : Nat} {a1 a2 a3 b1 b2 b3 : Option Addr} {c1 c2 c3 d1 d2 d3 : Nat} {P Q : Pol} (h : PolV w lo T a1 a2 a3 c1 c2 c3 P) (hb : Below w.heap.size w w2) (ho : POwn w2 w.heap.size w2.heap.size (.agg #[.slice b1 Q.win.length d1, .slice b2 Q.main.length d2, .slice b3 Q.sk.rows.length d3, .int .i64 Q.sk.added]) Q) :
    PBox w2 T (.slice a1 P.win.length c1) (.slice a2 P.main.length c2) (.slice a3 P.sk.rows.length c3) (.int .i64 P.sk.added) ∧ PolV ((((w2.setCell ⟨T, 0, none⟩ (.slice b1 Q.win.length d1)).setCell ⟨T, 1, none⟩ (.slice b2 Q.main.length d2)).setCell ⟨T, 2, none⟩ (.slice b3 Q.sk.rows.length d3)).setCell ⟨T, 3, none⟩ (.int .i64 Q.sk.added)) lo T b1 b2 b3 d1 d2 d3 Q := by
  have hB : PBox w2 T (.slice a1 P.win.length c1) (.slice a2 P.main.length c2) (.slice a3 P.sk.rows.length c3) (.int .i64 P.sk.added) := (h.hold.on hb).1
  have hlo : lo ≤ w.heap.size := by have := h.lo; have := h.hold.lt; omega
  have hs : ((((w2.setCell ⟨T, 0, none⟩ (.slice b1 Q.win.length d1)).setCell ⟨T, 1, none⟩ (.slice b2 Q.main.length d2)).setCell ⟨T, 2, none⟩ (.slice b3 Q.sk.rows.length d3)).setCell ⟨T, 3, none⟩ (.int .i64 Q.sk.added)).heap.size = w2.heap.size := by simp [World.setCell]
  refine ⟨hB, ⟨?_, h.lo⟩⟩
  obtain ⟨u1, u2, u3, e, p1, p2, p3, p4, p5⟩ := ((ho.put4 hB (.slice b1 Q.win.length d1) (.slice b2 Q.main.length d2) (.slice b3 Q.sk.rows.length d3) (.int .i64 Q.sk.added)).mono hlo (Nat.le_refl _))
  simp only [Value.agg.injEq, Array.mk.injEq, List.cons.injEq, and_true] at e
  obtain ⟨rfl, rfl, rfl⟩ := e
  exact ⟨hB.put _ _ _ _, p1, p2, fun k hk => (p3 k hk).2, by rw [hs]; exact p5⟩
theorem PolV.low {w : World} {lo T : Nat} {a1 a2 a3 : Option Addr} {c1 c2 c3 : Nat} {P : Pol} (h : PolV w lo T a1 a2 a3 c1 c2 c3 P) : lo ≤ w.heap.size := by
  have := h.lo
  have := h.hold.lt
  omega
end Go.Proofs.YtbcjkinalghokafDoor
