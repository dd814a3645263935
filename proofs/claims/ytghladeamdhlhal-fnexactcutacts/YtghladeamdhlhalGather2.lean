/- Files that a call gathers, once more: all that lies ahead of the variable stays; an append in a statement of one order. Plain lemmas, no program. -/
import Derived.Test.YtghladeamdhlhalGather
namespace Go.Proofs.Ytghladeamdhlhal
open Go.RowKit

theorem gatheredAll {w wx W w2 : World} {B V : Nat} {T e : TypeId} {v v2 : Value} {L M : List Fil} (hW : Below wx.heap.size wx W) (hV : wx.heap[V]? = some (.cells #[v] T (0, 0))) (hBV : B ≤ V)
    (hown : OwnF wx (V + 1) e v L) (hbw : Below B w wx) (hgr : W.grownBy w2 v.ownBlock) (hown2 : OwnF w2 (V + 1) e v2 M) :
    w2.heap[V]? = some (.cells #[v] T (0, 0)) ∧ (∀ j, j < V → (w2.setCell ⟨V, 0, none⟩ v2).heap[j]? = wx.heap[j]?) ∧ (w2.setCell ⟨V, 0, none⟩ v2).heap[V]? = some (.cells #[v2] T (0, 0)) ∧
      OwnF (w2.setCell ⟨V, 0, none⟩ v2) (V + 1) e v2 M ∧ Below B w (w2.setCell ⟨V, 0, none⟩ v2) := by
  have hVs : V < wx.heap.size := (Array.getElem?_eq_some_iff.1 hV).1
  have hWs := hW.size
  have k : ∀ j, j ≤ V → w2.heap[j]? = wx.heap[j]? := fun j hj => (keepV hgr hown j hj (by omega)).trans (hW.block j (by omega))
  have k2 := (k V (Nat.le_refl _)).trans hV
  refine ⟨k2, fun j hj => ?_, ?_, ?_, ?_⟩
  · rw [heap_setCell_other _ _ _ _ (by simp; omega), k j (by omega)]
  · rw [setCell_eq_setRow w2 V 0 _ T _ v2 k2]
    have := setRow_heap w2 V _ (#[v].setIfInBounds 0 v2) T _ k2
    simpa using this
  · refine hown2.kept fun j hj => ?_
    have := (hown2.lt j hj).1
    rw [heap_setCell_other _ _ _ _ (by simp; omega)]
  · have hB2 : Below B w w2 := ⟨hgr.os.trans (hW.os.trans hbw.os), hgr.tape.trans (hW.tape.trans hbw.tape), hgr.output.trans (hW.output.trans hbw.output), Nat.le_trans hbw.size (Nat.le_trans hW.size hgr.size), fun j hj => (k j (by omega)).trans (hbw.block j hj)⟩
    exact hB2.setCell (by simp; omega) _

/-- 'append(v, f)' of one file onto files that are owned, in a statement of one order. -/
theorem wpList_snocF {P : Program} {ops : Array Oper} {rest : List Oper} {o : Oper} {a : Act} {Q : Exit → Act → World → Prop} {wr : World} (hgd : o.guard = none) (s x : Operand) (t : TypeId)
    (ho : o.op = .call { callee := .builtin .append, args := #[s, x], argTypes := #[t, t] }) (base : Nat) (e : TypeId) (ht : P.underlying t = some (.slice e))
    (hinfo : (P.info? e).map (fun i => (i.zero, i.size, i.bytes)) = some (some (.agg #[.string ⟨#[]⟩, .string ⟨#[]⟩, .int .i64 0]), 3, 40)) (v : Value) (L : List Fil) (hs : a.eval s = v) (hown : OwnF wr base e v L)
    (f : Fil) (hx : a.eval x = .slice (some ⟨wr.heap.size, 0, none⟩) 1 1) (hlen : L.length < 10000000) (hbase : base ≤ wr.heap.size)
    (h : ∀ g cap w', OwnF w' base e (.slice (some ⟨g, 0, none⟩) (L.length + 1) cap) (L ++ [f]) → (wr.alloc (.cells #[.string f.nm, .string f.tx, .int .i64 f.kp] e)).grownBy w' v.ownBlock → wpList P ops Q rest (a.put o.dst (.slice (some ⟨g, 0, none⟩) (L.length + 1) cap)) w') :
    wpList P ops Q (o :: rest) a (wr.alloc (.cells #[.string f.nm, .string f.tx, .int .i64 f.kp] e)) := by
  obtain ⟨i0, hi, hz0, hz1, hz2⟩ := info_parts hinfo
  refine wpList_append_own _ hgd s x t ho base e i0 _ 3 40 ht hi hz0 hz1 hz2 rfl (by decide) v L.length (fls L) hs (World.ownsRow.alloc hown _) ⟨wr.heap.size, 0, none⟩ 1 1 (fls [f]) hx rfl (fun j u hu => World.news_of_block (heap_alloc_new wr _) j u (by simpa [fls, Fil.cells] using hu)) ?_ (by unfold maxLen; omega) (by omega) (by simp; omega) ?_
  · intro u hu
    simp [fls, Fil.cells] at hu
    rcases hu with rfl | rfl | rfl <;> rfl
  · intro v' w' h1 h2 _
    have ho' : OwnF w' base e v' (L ++ [f]) := by
      unfold OwnF
      rw [fls_append, List.length_append, List.length_singleton]
      exact h1
    obtain ⟨a', cap', rfl, _⟩ := ho'.shape
    obtain ⟨g, rfl, _⟩ := ho'.addr (by simp)
    rw [List.length_append, List.length_singleton] at ho' ⊢
    exact h g cap' w' ho' h2
end Go.Proofs.Ytghladeamdhlhal
