/- Epochs: what is owned, part by part. Plain, no program. -/
import Derived.Test.YtockgojdmaladacEpochPlain
namespace Go.Proofs.Ytockgojdmaladac
open Go.RowKit

theorem ownVP_ne {w : World} {b1 b2 : Nat} {v u : Value} {xs : List Value} {L : List (Int × Int)} (h1 : OwnV w b1 3 v xs) (h2 : OwnP w b2 101 u L) : ∀ k, v.ownBlock = some k → u.ownBlock ≠ some k := by
  intro k hk hu
  rcases h1.2 with ⟨rfl, _⟩ | ⟨g, cap, cur, rfl, _, hg, _⟩
  · simp [Value.ownBlock] at hk
  · rcases h2.2 with ⟨rfl, _⟩ | ⟨g', cap', cur', rfl, _, hg', _⟩
    · simp [Value.ownBlock] at hu
    · simp [Value.ownBlock] at hk hu
      subst hk
      subst hu
      have := hg.symm.trans hg'
      simp at this
theorem EOwn.mk {w : World} {base : Nat} {v1 v2 : Value} {now : Int} {pins : List Int} {gone : List (Int × Int)} (h1 : OwnV w base 3 v1 (ints pins)) (h2 : OwnP w base 101 v2 gone) : EOwn w base (.agg #[.int .i64 now, v1, v2]) ⟨now, pins, gone⟩ := ⟨v1, v2, rfl, h1, h2, ownVP_ne h1 h2⟩
theorem EOwn.parts {w : World} {base : Nat} {a v1 v2 : Value} {now : Int} {pins : List Int} {gone : List (Int × Int)} (h : EOwn w base (.agg #[a, v1, v2]) ⟨now, pins, gone⟩) : OwnV w base 3 v1 (ints pins) ∧ OwnP w base 101 v2 gone := by
  obtain ⟨u1, u2, hv, h1, h2, _⟩ := h
  simp only [Value.agg.injEq, Array.mk.injEq, List.cons.injEq, and_true] at hv
  obtain ⟨_, rfl, rfl⟩ := hv
  exact ⟨h1, h2⟩
theorem EBox.set1 {w : World} {T : Nat} {a b c : Value} (h : EBox w T a b c) (u : Value) : EBox (w.setCell ⟨T, 1, none⟩ u) T a u c := by
  unfold EBox at *
  simp only [World.setCell, Array.getElem?_modify, h]
  simp
theorem EBox.set2 {w : World} {T : Nat} {a b c : Value} (h : EBox w T a b c) (u : Value) : EBox (w.setCell ⟨T, 2, none⟩ u) T a b u := by
  unfold EBox at *
  simp only [World.setCell, Array.getElem?_modify, h]
  simp
theorem EBox.set0 {w : World} {T : Nat} {a b c : Value} (h : EBox w T a b c) (u : Value) : EBox (w.setCell ⟨T, 0, none⟩ u) T u b c := by
  unfold EBox at *
  simp only [World.setCell, Array.getElem?_modify, h]
  simp
theorem EBox.far {w : World} {T U : Nat} {a b c : Value} (h : EBox w T a b c) (i : Nat) (u : Value) (hne : T ≠ U) : EBox (w.setCell ⟨U, i, none⟩ u) T a b c := h.kept (Below.heap_setCell _ _ _ _ hne)
theorem OwnV.far {w : World} {T base : Nat} {a b c v : Value} {xs : List Value} (h : OwnV w base 3 v xs) (hB : EBox w T a b c) (i : Nat) (u : Value) : OwnV (w.setCell ⟨T, i, none⟩ u) base 3 v xs := h.kept fun k hk => Below.heap_setCell _ _ _ _ (hB.neV h k hk)
theorem OwnP.far {w : World} {T base : Nat} {a b c v : Value} {L : List (Int × Int)} (h : OwnP w base 101 v L) (hB : EBox w T a b c) (i : Nat) (u : Value) : OwnP (w.setCell ⟨T, i, none⟩ u) base 101 v L := h.kept fun k hk => Below.heap_setCell _ _ _ _ (hB.neP h k hk)
/-- Epochs in a variable, an append onto what is gone: the variable stays. -/
theorem EBox.grownP {w w' : World} {T base : Nat} {a b c v : Value} {L : List (Int × Int)} (h : EBox w T a b c) (ho : OwnP w base 101 v L) (hg : w.grownBy w' v.ownBlock) : EBox w' T a b c := h.kept (hg.block T h.lt (fun e => h.neP ho T e.symm rfl))
theorem EBox.grownV {w w' : World} {T base : Nat} {a b c v : Value} {xs : List Value} (h : EBox w T a b c) (ho : OwnV w base 3 v xs) (hg : w.grownBy w' v.ownBlock) : EBox w' T a b c := h.kept (hg.block T h.lt (fun e => h.neV ho T e.symm rfl))
theorem cell_on2 {w w' : World} {p : Addr} {v : Value} (h : w.cell? p = some v) (hb : Below w.heap.size w w') : w'.cell? p = some v := (hb.cell (World.block_lt_of_cell? w p h)).trans h
theorem hasG_no {L : List (Int × Int)} {node : Int} (h : ∀ q (hq : q < L.length), L[q].1 ≠ node) : hasG L node = false := by
  unfold hasG
  rw [Bool.eq_false_iff]
  intro e
  rw [List.any_eq_true] at e
  obtain ⟨x, hx, he⟩ := e
  obtain ⟨j, hj, rfl⟩ := List.getElem_of_mem hx
  exact h j hj (by simpa using he)
theorem hasG_yes {L : List (Int × Int)} {node : Int} {k : Nat} (hk : k < L.length) (h : L[k].1 = node) : hasG L node = true := by
  unfold hasG
  rw [List.any_eq_true]
  exact ⟨L[k], List.getElem_mem hk, by simp [h]⟩
end Go.Proofs.Ytockgojdmaladac
