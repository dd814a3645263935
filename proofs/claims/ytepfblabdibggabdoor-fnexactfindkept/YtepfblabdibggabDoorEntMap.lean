/- The places of a call: a map of keys to where their entries lie. -/
import Derived.Test.YtepfblabdibggabDoorFindPlain
import Derived.Test.YtepfblabdibggabDoorBaseJ
import Derived.StringKeys
import Derived.Maps.OwnSet
namespace Go.Proofs.YtepfblabdibggabDoor
open Go.RowKit
theorem keyedE : Maps.Keyed Tryd.prog 9 := Maps.string_keyed Tryd.underlying9
theorem keyE {s : ByteArray} (h : s.size ≤ maxLen) : keyOf Tryd.prog 9 (.string s) = some (.string s.data.toList) := WideMaps.keyOf_string_mk Tryd.underlying9 h
theorem posE_snoc (L : List En) (e : En) (k : ByteArray) : posE (L ++ [e]) k = match posE L k with | some j => some j | none => if e.key = k then some L.length else none := by
  unfold posE
  rw [List.findIdx?_append]
  cases List.findIdx? (fun x => decide (x.key = k)) L with
  | some j => rfl
  | none =>
    by_cases h : e.key = k
    · simp [List.findIdx?_cons, h]
    · simp [List.findIdx?_cons, h]
theorem posE_set {L : List En} {e : En} {j : Nat} (hj : j < L.length) (hk : L[j].key = e.key) (k : ByteArray) : posE (L.set j e) k = posE L k := by
  unfold posE
  have : (L.set j e).map (fun x => decide (x.key = k)) = L.map (fun x => decide (x.key = k)) := by
    apply List.ext_getElem (by simp)
    intro i h1 h2
    simp only [List.getElem_map, List.getElem_set]
    split
    · rename_i h; subst h; rw [hk]
    · rfl
  have hf : ∀ M : List En, M.findIdx? (fun x => decide (x.key = k)) = (M.map fun x => decide (x.key = k)).findIdx? id := by
    intro M
    rw [List.findIdx?_map]
    rfl
  rw [hf, hf, this]
/-- The map in block b tells where the entries L lie. -/
def PlE (w : World) (b : Nat) (L : List En) : Prop :=
  ∃ (D : DataW Unit), w.ownsMap Tryd.prog 9 (plainElem Tryd.prog 3) b L.length D ∧ ∀ k : ByteArray, Maps.has D (.string k.data.toList) = (posE L k).isSome ∧ ∀ j, posE L k = some j → ∀ zd, D.atKey (.string k.data.toList) zd = .lit (.int .i64 (j : Int))
theorem PlE.made (w : World) : PlE (w.alloc (.map #[] 0)) w.heap.size [] := by
  refine ⟨.map [], World.ownsMap_made w _ _ _, fun k => ⟨rfl, fun j h => by simp [posE] at h⟩⟩
theorem PlE.lt {w : World} {b : Nat} {L : List En} (h : PlE w b L) : b < w.heap.size := by obtain ⟨D, h1, _⟩ := h; exact h1.lt
theorem PlE.kept {w w' : World} {row : Option Nat} {b : Nat} {L : List En} (h : PlE w b L) (hg : w.grownBy w' row) (hne : some b ≠ row) : PlE w' b L := by
  obtain ⟨D, h1, h2⟩ := h
  exact ⟨D, h1.kept hg hne, h2⟩
theorem PlE.on {w w' : World} {b : Nat} {L : List En} (h : PlE w b L) (hb : Below w.heap.size w w') : PlE w' b L :=
  h.kept (row := none) ⟨hb.os, hb.tape, hb.output, hb.size, fun k hk _ => hb.block k hk⟩ (by simp)
theorem PlE.set {w : World} {b : Nat} {L : List En} (h : PlE w b L) {e : En} {j : Nat} (hj : j < L.length) (hk : L[j].key = e.key) : PlE w b (L.set j e) := by
  obtain ⟨D, h1, h2⟩ := h
  refine ⟨D, by rw [List.length_set]; exact h1, fun k => ?_⟩
  rw [posE_set hj hk]
  exact h2 k
theorem PlE.look {w : World} {b : Nat} {L : List En} (h : PlE w b L) (k : ByteArray) (hn : k.size ≤ maxLen) :
    (∃ j, posE L k = some j ∧ (Instr.lookup 102 (.map (some b)) (.string k) true).run Tryd.prog w = .ok (.tuple #[.int .i64 (j : Int), .bool true]) w) ∨
    (posE L k = none ∧ (Instr.lookup 102 (.map (some b)) (.string k) true).run Tryd.prog w = .ok (.tuple #[.int .i64 0, .bool false]) w) := by
  obtain ⟨D, h1, h2⟩ := h
  obtain ⟨v, ps, hrun, hv⟩ := h1.look_ok keyedE (t := 102) (e := 3) Tryd.underlying102 (z := .int .i64 0) (by kernel_rfl) (zd := .lit (.int .i64 0)) (zp := []) (plainElem_int Tryd.underlying3 (by decide)) (keyE hn)
  obtain ⟨g1, g2⟩ := h2 k
  obtain ⟨a, rfl, ha, _⟩ := plainElem_int_inv Tryd.underlying3 hv
  cases hp : posE L k with
  | some j =>
    rw [g2 j hp] at ha
    rw [g1, hp] at hrun
    have : a = (j : Int) := by have hb := ha.symm; simp at hb; exact hb.1
    rw [this] at hrun
    exact .inl ⟨j, rfl, hrun⟩
  | none =>
    have hz : Maps.has D (.string k.data.toList) = false := by rw [g1, hp]; rfl
    rw [Maps.atKey_of_not_has hz] at ha
    rw [hz] at hrun
    have : a = 0 := by have hb := ha.symm; simp at hb; exact hb.1
    rw [this] at hrun
    exact .inr ⟨rfl, hrun⟩
theorem PlE.snoc {w : World} {b : Nat} {L : List En} (h : PlE w b L) {e : En} (hn : e.key.size ≤ maxLen) (hl : L.length < 1048577) (hp : posE L e.key = none) :
    ∃ w', (Instr.mapUpdate 102 (.map (some b)) (.string e.key) (.int .i64 (L.length : Int))).run Tryd.prog w = .ok () w' ∧ PlE w' b (L ++ [e]) ∧ w.grownBy w' (some b) := by
  obtain ⟨D, h1, h2⟩ := h
  have hwf : (Lit.int .i64 (L.length : Int)).wf = true := by simp [Lit.wf, IntKind.min, IntKind.max, IntKind.bits, IntKind.signed]; omega
  obtain ⟨w', hrun, hown, hgr⟩ := h1.update keyedE (t := 102) (e := 3) Tryd.underlying102 (by unfold maxLen; omega) (keyE hn) (plainElem_int Tryd.underlying3 hwf)
  refine ⟨w', hrun, ⟨_, by rw [List.length_append]; exact hown, fun k => ?_⟩, hgr⟩
  obtain ⟨g1, g2⟩ := h2 k
  rw [posE_snoc]
  by_cases hk : e.key = k
  · subst hk
    rw [hp, if_pos rfl]
    refine ⟨Maps.has_put_same h1.isMap (show WideAt.IsKeyLit (.string e.key.data.toList) from trivial) _, fun j hj zd => ?_⟩
    simp only [Option.some.injEq] at hj
    rw [← hj]
    exact Maps.atKey_put_same h1.isMap (show WideAt.IsKeyLit (.string e.key.data.toList) from trivial) _ _
  · have hne : (Lit.string k.data.toList) ≠ .string e.key.data.toList := fun h => hk (by
      simp only [Lit.string.injEq] at h
      exact (toList_injE.2 h).symm)
    rw [Maps.has_put_other hne, g1, if_neg hk]
    cases hq : posE L k with
    | none => exact ⟨rfl, fun j hj => by cases hj⟩
    | some j =>
      refine ⟨rfl, fun i hi zd => ?_⟩
      rw [Maps.atKey_put_other hne]
      exact g2 i (by rw [hq]; exact hi) zd
end Go.Proofs.YtepfblabdibggabDoor
