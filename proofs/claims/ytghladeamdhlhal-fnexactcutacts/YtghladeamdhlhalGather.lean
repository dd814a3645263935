/- Files that a call gathers in a variable of its own: plain lemmas, no program. -/
import Derived.Test.YtghladeamdhlhalFiles
namespace Go.Proofs.Ytghladeamdhlhal
open Go.RowKit

/-- 'append(v, f)' of one file onto files that are owned, at a step of a statement that leaves its order open; f lies in the block B. -/
theorem step_snocF {P : Program} {ops : Array Oper} {o : Oper} {a : Act} {K : Act → World → Prop} {Q : Exit → Act → World → Prop} {E : Prop} {w : World} (hgd : o.guard = none) (s x : Operand) (t : TypeId)
    (ho : o.op = .call { callee := .builtin .append, args := #[s, x], argTypes := #[t, t] }) (base : Nat) (e : TypeId) (ht : P.underlying t = some (.slice e))
    (hinfo : (P.info? e).map (fun i => (i.zero, i.size, i.bytes)) = some (some (.agg #[.string ⟨#[]⟩, .string ⟨#[]⟩, .int .i64 0]), 3, 40)) (v : Value) (L : List Fil) (hs : a.eval s = v) (hown : OwnF w base e v L)
    (B : Nat) (f : Fil) (fr : Nat × Nat) (hx : a.eval x = .slice (some ⟨B, 0, none⟩) 1 1) (hB : w.heap[B]? = some (.cells #[.string f.nm, .string f.tx, .int .i64 f.kp] e fr)) (hlen : L.length < 10000000) (hbase : base ≤ w.heap.size)
    (h : ∀ g cap w', OwnF w' base e (.slice (some ⟨g, 0, none⟩) (L.length + 1) cap) (L ++ [f]) → w.grownBy w' v.ownBlock → K (a.put o.dst (.slice (some ⟨g, 0, none⟩) (L.length + 1) cap)) w') :
    if Region.wanted o (yielded ops a.tmps) = true then Oper.wp P o a w K Q else E := by
  obtain ⟨i0, hi, hz0, hz1, hz2⟩ := info_parts hinfo
  refine step_append_lies w hgd s x t ho base e i0 _ 3 40 ht hi hz0 hz1 hz2 rfl (by decide) v L.length (fls L) hs hown ⟨B, 0, none⟩ 1 1 (fls [f]) hx rfl (fun j u hu => World.news_of_block hB j u (by simpa [fls, Fil.cells] using hu)) ?_ (by decide) (by unfold maxLen; omega) (by omega) hbase w.heap.size rfl ?_
  · intro u hu
    simp [fls, Fil.cells] at hu
    rcases hu with rfl | rfl | rfl <;> rfl
  · intro g cap w' h1 h2 _ _
    refine h g cap w' ?_ h2
    unfold OwnF
    rw [fls_append, List.length_append, List.length_singleton]
    exact h1

/-- What lies ahead of a row of the call's own stays as it was when the row grows. -/
theorem keepV {w w' w0 : World} {V : Nat} {e : TypeId} {v : Value} {L : List Fil} (hgr : w.grownBy w' v.ownBlock) (hown : OwnF w0 (V + 1) e v L) (j : Nat) (hj : j ≤ V) (hs : j < w.heap.size) : w'.heap[j]? = w.heap[j]? :=
  hgr.block j hs fun h => by have := (hown.lt j h.symm).1; omega

theorem bdrew (w : World) : Below w.heap.size w w.drew := ⟨rfl, rfl, rfl, Nat.le_refl _, fun _ _ => rfl⟩

/-- A variable V of a call holds files that it gathers: one file more is appended and stored back. -/
theorem gathered {w wx W w2 : World} {B V : Nat} {T e : TypeId} {v v2 : Value} {L M : List Fil} {o0 o1 : Obj} (hW : Below wx.heap.size wx W) (h0 : wx.heap[B]? = some o0) (h1 : wx.heap[B + 1]? = some o1) (hV : wx.heap[V]? = some (.cells #[v] T (0, 0))) (hBV : B + 1 < V)
    (hown : OwnF wx (V + 1) e v L) (hbw : Below B w wx) (hgr : W.grownBy w2 v.ownBlock) (hown2 : OwnF w2 (V + 1) e v2 M) :
    w2.heap[V]? = some (.cells #[v] T (0, 0)) ∧ (w2.setCell ⟨V, 0, none⟩ v2).heap[B]? = some o0 ∧ (w2.setCell ⟨V, 0, none⟩ v2).heap[B + 1]? = some o1 ∧ (w2.setCell ⟨V, 0, none⟩ v2).heap[V]? = some (.cells #[v2] T (0, 0)) ∧
      OwnF (w2.setCell ⟨V, 0, none⟩ v2) (V + 1) e v2 M ∧ Below B w (w2.setCell ⟨V, 0, none⟩ v2) := by
  have hVs : V < wx.heap.size := (Array.getElem?_eq_some_iff.1 hV).1
  have hWs := hW.size
  have k : ∀ j, j ≤ V → w2.heap[j]? = wx.heap[j]? := fun j hj => (keepV hgr hown j hj (by omega)).trans (hW.block j (by omega))
  have k2 := (k V (Nat.le_refl _)).trans hV
  refine ⟨k2, ?_, ?_, ?_, ?_, ?_⟩
  · rw [heap_setCell_other _ _ _ _ (by simp; omega), k B (by omega)]; exact h0
  · rw [heap_setCell_other _ _ _ _ (by simp; omega), k (B + 1) (by omega)]; exact h1
  · rw [setCell_eq_setRow w2 V 0 _ T _ v2 k2]
    have := setRow_heap w2 V _ (#[v].setIfInBounds 0 v2) T _ k2
    simpa using this
  · refine hown2.kept fun j hj => ?_
    have := (hown2.lt j hj).1
    rw [heap_setCell_other _ _ _ _ (by simp; omega)]
  · have hB2 : Below B w w2 := ⟨hgr.os.trans (hW.os.trans hbw.os), hgr.tape.trans (hW.tape.trans hbw.tape), hgr.output.trans (hW.output.trans hbw.output), Nat.le_trans hbw.size (Nat.le_trans hW.size hgr.size), fun j hj => (k j (by omega)).trans (hbw.block j hj)⟩
    exact hB2.setCell (by simp; omega) _

/-- Two cells of a block X that is none of the row's stay when the row grows, and when a variable V is stored. -/
theorem kept_x {W w2 : World} {X i j : Nat} {v a b : Value} (hX : ∀ k, v.ownBlock = some k → k < X) (hgr : W.grownBy w2 v.ownBlock) (h0 : W.cell? ⟨X, i, none⟩ = some a) (h1 : W.cell? ⟨X, j, none⟩ = some b) : w2.cell? ⟨X, i, none⟩ = some a ∧ w2.cell? ⟨X, j, none⟩ = some b :=
  ⟨hgr.cell h0 fun h => by have := hX X h.symm; omega, hgr.cell h1 fun h => by have := hX X h.symm; omega⟩
theorem kept_x_store {w2 : World} {X V i j : Nat} {a b : Value} (hne : V ≠ X) (h : w2.cell? ⟨X, i, none⟩ = some a ∧ w2.cell? ⟨X, j, none⟩ = some b) (u : Value) : (w2.setCell ⟨V, 0, none⟩ u).cell? ⟨X, i, none⟩ = some a ∧ (w2.setCell ⟨V, 0, none⟩ u).cell? ⟨X, j, none⟩ = some b := by
  rw [World.cell?_setCell_other _ _ _ _ (by simp), World.cell?_setCell_other _ _ _ _ (by simp)]
  exact h
theorem kept_x_new {w : World} {X i : Nat} {a : Value} (h : w.cell? ⟨X, i, none⟩ = some a) (o : Obj) : (w.alloc o).cell? ⟨X, i, none⟩ = some a :=
  (World.cell?_of_block (Below.heap_alloc w o X (World.block_lt_of_cell? w _ h))).trans h
end Go.Proofs.Ytghladeamdhlhal
