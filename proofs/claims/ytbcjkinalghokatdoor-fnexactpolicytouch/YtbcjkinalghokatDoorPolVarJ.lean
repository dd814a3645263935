/- Texts that stand in one: PolVar, PolSizes, SkPlain. -/
import Derived.Test.YtbcjkinalghokatDoorPolMark2
import Derived.Test.YtbcjkinalghokatDoorPolLaw
import Derived.Test.YtbcjkinalghokatDoorSumTabJ
import Derived.Test.YtbcjkinalghokatDoorSumPlainJ
namespace Go.Proofs.YtbcjkinalghokatDoor
open Go.RowKit Go.Sort

/-- A policy in a variable T of a law: its lists and rows from lo on, below T. -/
structure PV (w : World) (lo T : Nat) (aw am ak : Option Addr) (cw cm ck : Nat) (P : Pol) : Prop where
  le : lo ≤ T
  box : PBox w T (.slice aw P.win.length cw) (.slice am P.main.length cm) (.slice ak P.sk.rows.length ck) (.int .i64 P.sk.added)
  own : POwn w lo T (.agg #[.slice aw P.win.length cw, .slice am P.main.length cm, .slice ak P.sk.rows.length ck, .int .i64 P.sk.added]) P
theorem PV.new {w : World} {lo : Nat} {aw am ak : Option Addr} {cw cm ck : Nat} {P : Pol} (h : POwn w lo w.heap.size (.agg #[.slice aw P.win.length cw, .slice am P.main.length cm, .slice ak P.sk.rows.length ck, .int .i64 P.sk.added]) P) (hlo : lo ≤ w.heap.size) :
    PV (w.alloc (.cells #[.slice aw P.win.length cw, .slice am P.main.length cm, .slice ak P.sk.rows.length ck, .int .i64 P.sk.added] 31)) lo w.heap.size aw am ak cw cm ck P :=
  ⟨hlo, PBox.new _ _ _ _ _, h.below ((Below.refl _ _).alloc (Nat.le_refl _) _) (Nat.le_refl _)⟩
theorem PV.on {w w' : World} {lo T : Nat} {aw am ak : Option Addr} {cw cm ck : Nat} {P : Pol} (h : PV w lo T aw am ak cw cm ck P) (hb : Below w.heap.size w w') : PV w' lo T aw am ak cw cm ck P := ⟨h.le, h.box.on hb, h.own.below hb (Nat.le_refl _)⟩
theorem POwn.lies {w : World} {lo hi : Nat} {aw am ak : Option Addr} {cw cm ck : Nat} {P : Pol} (h : POwn w lo hi (.agg #[.slice aw P.win.length cw, .slice am P.main.length cm, .slice ak P.sk.rows.length ck, .int .i64 P.sk.added]) P) : PolAt w aw am ak P w.heap.size := by
  obtain ⟨a1, c1, a2, c2, a3, c3, e, hA⟩ := h.at
  simp only [Value.agg.injEq, Array.mk.injEq, List.cons.injEq, and_true, Value.slice.injEq, true_and] at e
  obtain ⟨⟨rfl, rfl⟩, ⟨rfl, rfl⟩, rfl, rfl⟩ := e
  exact hA
theorem PV.at {w : World} {lo T : Nat} {aw am ak : Option Addr} {cw cm ck : Nat} {P : Pol} (h : PV w lo T aw am ak cw cm ck P) : PolAt w aw am ak P w.heap.size := h.own.lies
/-- Another variable's lists and rows are others. -/
theorem PV.tch {S : Nat → Prop} {w w' : World} {lo T : Nat} {aw am ak : Option Addr} {cw cm ck : Nat} {P : Pol} (h : PV w lo T aw am ak cw cm ck P) (ht : Tch S w w') (hn : ∀ k, S k → k < lo ∨ T < k) : PV w' lo T aw am ak cw cm ck P := by
  have hlo := h.le
  exact ⟨h.le, h.box.kept (ht.2 T h.box.lt (fun e => by have := hn T e; omega)), h.own.tch ht fun k hk => by have := hn k hk; omega⟩
/-- A policy in a variable that is marked from 1 on. -/
structure PM (w : World) (lo T : Nat) (aw am ak : Option Addr) (cw cm ck : Nat) (P : Pol) : Prop where
  le : lo ≤ T
  box : PBox w T (.slice aw P.win.length cw) (.slice am P.main.length cm) (.slice ak P.sk.rows.length ck) (.int .i64 P.sk.added)
  own : PMk w lo T (.slice aw P.win.length cw) (.slice am P.main.length cm) (.slice ak P.sk.rows.length ck) P 1
theorem PM.on {w w' : World} {lo T : Nat} {aw am ak : Option Addr} {cw cm ck : Nat} {P : Pol} (h : PM w lo T aw am ak cw cm ck P) (hb : Below w.heap.size w w') : PM w' lo T aw am ak cw cm ck P := ⟨h.le, h.box.on hb, h.own.below hb (Nat.le_refl _)⟩
end Go.Proofs.YtbcjkinalghokatDoor

namespace Go.Proofs.YtbcjkinalghokatDoor
open Go.RowKit

theorem wgtL_without (l : List ByteArray) (s : ByteArray) : (without l s).length + wgtL (without l s) ≤ l.length + wgtL l := by
  induction l with
  | nil => simp [without, wgtL]
  | cons a r ih =>
    by_cases e : a = s
    · have h1 : without (a :: r) s = without r s := by simp [without, e]
      rw [h1]
      simp only [List.length_cons, wgtL, List.map_cons, List.sum_cons] at ih ⊢
      omega
    · have h1 : without (a :: r) s = a :: without r s := by simp [without, e]
      rw [h1]
      simp only [List.length_cons, wgtL, List.map_cons, List.sum_cons] at ih ⊢
      omega
theorem dropP_sz {P : Pol} (key : ByteArray) (h : PolSz P) : PolSz (dropP P key) := by
  unfold PolSz wgtP dropP at *
  have h1 := wgtL_without P.win key
  have h2 := wgtL_without P.main key
  dsimp only
  omega
theorem wgtL_keys {l : List ByteArray} (h : ∀ z ∈ l, keyOk z = true) : wgtL l ≤ 30 * l.length := by
  induction l with
  | nil => simp [wgtL]
  | cons a r ih =>
    have h1 := ih (fun z hz => h z (List.mem_cons_of_mem _ hz))
    have h2 := h a (List.mem_cons_self ..)
    simp only [keyOk, decide_eq_true_eq] at h2
    simp only [wgtL, List.map_cons, List.sum_cons, List.length_cons] at h1 ⊢
    omega
/-- A right policy is small. -/
theorem okP_wgt {P : Pol} (h : okP P = true) : wgtP P ≤ 300 := by
  obtain ⟨h1, h2, _, _, _, h6, h7, h8⟩ := okP_iff.1 h
  obtain ⟨a, b, c, e, ra, rb, rc, _, _⟩ := okK_parts h8
  have w1 := wgtL_keys h1
  have w2 := wgtL_keys h2
  have hl : P.sk.rows.length = 3 := by rw [e]; rfl
  have ht : tot P.sk.rows P.sk.rows.length = 48 := by
    rw [hl, e]
    simp [tot, rowOk_len ra, rowOk_len rb, rowOk_len rc]
  unfold wgtP
  omega
theorem okP_sz {P : Pol} (h : okP P = true) : PolSz P := by
  have := okP_wgt h
  unfold PolSz
  omega
end Go.Proofs.YtbcjkinalghokatDoor

namespace Go.Proofs.YtbcjkinalghokatDoor
open Go.RowKit

/-- The place of a key in a row. -/
def rowByte (row : Int) : UInt8 := UInt8.ofNat (row % 256).toNat
def placeS (row : Int) (key : ByteArray) : Nat := sumAll 4294967295 (key.data.toList ++ [rowByte row]) % 16
/-- One row, when the key is asked for. -/
def bumpR (key : ByteArray) (i : Nat) (r : List Int) : List Int := r.set (placeS i key) (min (r.getD (placeS i key) 0 + 1) 15)
def halfR (r : List Int) : List Int := r.map (fun z => z / 2)
/-- The first k rows bumped. -/
def bumpTo (key : ByteArray) (rows : List (List Int)) (k : Nat) : List (List Int) := rows.mapIdx fun i r => if i < k then bumpR key i r else r
def halfTo (rows : List (List Int)) (k : Nat) : List (List Int) := rows.mapIdx fun i r => if i < k then halfR r else r
def bumpS (S : Sk) (key : ByteArray) : Sk := if okK S = true then (if S.added = 63 then ⟨halfTo (bumpTo key S.rows 3) 3, 0⟩ else ⟨bumpTo key S.rows 3, S.added + 1⟩) else S
def lookR (key : ByteArray) (rows : List (List Int)) (i : Nat) : Int := (rows.getD i []).getD (placeS i key) 0
def guessTo (key : ByteArray) (rows : List (List Int)) (k : Nat) : Int := (List.range k).foldl (fun n i => min (lookR key rows i) n) 15
def guessS (S : Sk) (key : ByteArray) : Int := if okK S = true then guessTo key S.rows 3 else 0

theorem placeS_lt (row : Int) (key : ByteArray) : placeS row key < 16 := Nat.mod_lt _ (by omega)
theorem bumpR_ok {key : ByteArray} {i : Nat} {r : List Int} (h : rowOk r = true) : rowOk (bumpR key i r) = true := by
  have hl := rowOk_len h
  have hat := rowOk_at h (placeS i key) (placeS_lt _ _)
  unfold rowOk at h ⊢
  unfold bumpR
  simp only [Bool.and_eq_true, decide_eq_true_eq, List.all_eq_true] at h ⊢
  refine ⟨by rw [List.length_set]; exact hl, fun z hz => ?_⟩
  rcases List.mem_or_eq_of_mem_set hz with hz | rfl
  · exact h.2 z hz
  · simp only [numOk, decide_eq_true_eq]; omega
theorem halfR_ok {r : List Int} (h : rowOk r = true) : rowOk (halfR r) = true ∧ ∀ p, (halfR r).getD p 0 ≤ 7 := by
  have hl := rowOk_len h
  constructor
  · unfold rowOk at h ⊢
    unfold halfR
    simp only [Bool.and_eq_true, decide_eq_true_eq, List.all_eq_true, List.length_map] at h ⊢
    refine ⟨hl, fun z hz => ?_⟩
    obtain ⟨y, hy, rfl⟩ := List.mem_map.1 hz
    have := h.2 y hy
    simp only [numOk, decide_eq_true_eq] at this ⊢
    omega
  · intro p
    by_cases hp : p < 16
    · have := rowOk_at h p hp
      unfold halfR
      rw [List.getD_eq_getElem?_getD, List.getElem?_map]
      rw [List.getD_eq_getElem?_getD] at this
      rw [List.getElem?_eq_getElem (by omega)] at this ⊢
      simp at this ⊢
      omega
    · rw [List.getD_eq_getElem?_getD, List.getElem?_eq_none (by simp [halfR]; omega)]
      simp
theorem bumpTo_three (key : ByteArray) (a b c : List Int) : bumpTo key [a, b, c] 3 = [bumpR key 0 a, bumpR key 1 b, bumpR key 2 c] := by simp [bumpTo, List.mapIdx_cons]
theorem halfTo_three (a b c : List Int) : halfTo [a, b, c] 3 = [halfR a, halfR b, halfR c] := by simp [halfTo, List.mapIdx_cons]
theorem bumpTo_zero (key : ByteArray) (rows : List (List Int)) : bumpTo key rows 0 = rows := by
  unfold bumpTo
  apply List.ext_getElem?
  intro i
  simp
theorem halfTo_zero (rows : List (List Int)) : halfTo rows 0 = rows := by
  unfold halfTo
  apply List.ext_getElem?
  intro i
  simp
/-- The next row. -/
theorem bumpTo_succ (key : ByteArray) (rows : List (List Int)) (k : Nat) (r : List Int) (hr : rows[k]? = some r) : (bumpTo key rows k)[k]? = some r ∧ bumpTo key rows (k + 1) = (bumpTo key rows k).set k (bumpR key k r) := by
  unfold bumpTo
  constructor
  · simp [hr]
  · apply List.ext_getElem?
    intro i
    by_cases hi : i = k
    · subst hi
      obtain ⟨h1, rfl⟩ := List.getElem?_eq_some_iff.1 hr
      simp [h1]
    · rw [List.getElem?_set_ne (fun e => hi e.symm)]
      simp only [List.getElem?_mapIdx]
      congr 1
      funext x
      by_cases h1 : i < k
      · rw [if_pos h1, if_pos (by omega)]
      · rw [if_neg h1, if_neg (by omega)]
theorem halfTo_succ (rows : List (List Int)) (k : Nat) (r : List Int) (hr : rows[k]? = some r) : (halfTo rows k)[k]? = some r ∧ halfTo rows (k + 1) = (halfTo rows k).set k (halfR r) := by
  unfold halfTo
  constructor
  · simp [hr]
  · apply List.ext_getElem?
    intro i
    by_cases hi : i = k
    · subst hi
      obtain ⟨h1, rfl⟩ := List.getElem?_eq_some_iff.1 hr
      simp [h1]
    · rw [List.getElem?_set_ne (fun e => hi e.symm)]
      simp only [List.getElem?_mapIdx]
      congr 1
      funext x
      by_cases h1 : i < k
      · rw [if_pos h1, if_pos (by omega)]
      · rw [if_neg h1, if_neg (by omega)]
theorem bumpTo_length (key : ByteArray) (rows : List (List Int)) (k : Nat) : (bumpTo key rows k).length = rows.length := by simp [bumpTo]
theorem halfTo_length (rows : List (List Int)) (k : Nat) : (halfTo rows k).length = rows.length := by simp [halfTo]
/-- It stays right. -/
theorem bumpS_ok {S : Sk} (key : ByteArray) (h : okK S = true) : okK (bumpS S key) = true := by
  obtain ⟨a, b, c, e, ha, hb, hc, h0, h1⟩ := okK_parts h
  unfold bumpS
  rw [if_pos h, e, bumpTo_three]
  by_cases h63 : S.added = 63
  · rw [if_pos h63, halfTo_three]
    exact okK_mk (halfR_ok (bumpR_ok ha)).1 (halfR_ok (bumpR_ok hb)).1 (halfR_ok (bumpR_ok hc)).1 (by omega) (by omega)
  · rw [if_neg h63]
    exact okK_mk (bumpR_ok ha) (bumpR_ok hb) (bumpR_ok hc) (by omega) (by omega)
theorem guessTo_three (key : ByteArray) (a b c : List Int) : guessTo key [a, b, c] 3 = min (c.getD (placeS 2 key) 0) (min (b.getD (placeS 1 key) 0) (min (a.getD (placeS 0 key) 0) 15)) := rfl
/-- Halved, a guess is half the top at most. -/
theorem guess_half {S : Sk} (key key2 : ByteArray) (h : okK S = true) (h0 : (bumpS S key).added = 0) : guessS (bumpS S key) key2 ≤ 7 := by
  have hok := bumpS_ok key h
  obtain ⟨a, b, c, e, ha, hb, hc, h1, h2⟩ := okK_parts h
  unfold guessS
  rw [if_pos hok]
  unfold bumpS at h0 ⊢
  rw [if_pos h] at h0 ⊢
  by_cases h63 : S.added = 63
  · rw [if_pos h63, e, bumpTo_three, halfTo_three, guessTo_three]
    have := (halfR_ok (bumpR_ok (key := key) (i := 0) ha)).2 (placeS 0 key2)
    omega
  · rw [if_neg h63] at h0
    simp only at h0
    omega
end Go.Proofs.YtbcjkinalghokatDoor
