/- 'append(v, f)' of one field, at a step of a statement that leaves its order open. -/
import Derived.Test.YtnnaphfeeobelasDoorFieldLaw
import Derived.Deep.RegionLaw
import Derived.Deep.AppendLies
namespace Go.Proofs.YtnnaphfeeobelasDoor
open Go.RowKit Go.Sort
/-- 'append(v, f)' of one field onto fields that are owned, at a step of a statement that leaves its order open; f lies in the block B. -/
theorem step_snocE {P : Program} {ops : Array Oper} {o : Oper} {a : Act} {K : Act → World → Prop} {Q : Exit → Act → World → Prop} {E : Prop} {w : World} (hgd : o.guard = none) (s x : Operand) (t : TypeId)
    (ho : o.op = .call { callee := .builtin .append, args := #[s, x], argTypes := #[t, t] }) (base : Nat) (e : TypeId) (ht : P.underlying t = some (.slice e))
    (hinfo : (P.info? e).map (fun i => (i.zero, i.size, i.bytes)) = some (some (.agg #[.string ⟨#[]⟩, .string ⟨#[]⟩]), 2, 32)) (v : Value) (L : List (ByteArray × ByteArray)) (hs : a.eval s = v) (hown : OwnD w base e v L)
    (B : Nat) (f : ByteArray × ByteArray) (fr : Nat × Nat) (hx : a.eval x = .slice (some ⟨B, 0, none⟩) 1 1) (hB : w.heap[B]? = some (.cells #[.string f.1, .string f.2] e fr)) (hlen : L.length < 10000000) (hbase : base ≤ w.heap.size)
    (h : ∀ g cap w', OwnD w' base e (.slice (some ⟨g, 0, none⟩) (L.length + 1) cap) (L ++ [f]) → w.grownBy w' v.ownBlock → K (a.put o.dst (.slice (some ⟨g, 0, none⟩) (L.length + 1) cap)) w') :
    if Region.wanted o (yielded ops a.tmps) = true then Oper.wp P o a w K Q else E := by
  obtain ⟨i0, hi, hz0, hz1, hz2⟩ := info_parts hinfo
  refine step_append_lies w hgd s x t ho base e i0 _ 2 32 ht hi hz0 hz1 hz2 rfl (by decide) v L.length (fdl L) hs hown ⟨B, 0, none⟩ 1 1 (fdl [f]) hx rfl (fun j u hu => World.news_of_block hB j u (by simpa [fdl, fdCells] using hu)) ?_ (by decide) (by unfold maxLen; omega) (by omega) hbase w.heap.size rfl ?_
  · intro u hu
    simp [fdl, fdCells] at hu
    rcases hu with rfl | rfl <;> rfl
  · intro g cap w' h1 h2 _ _
    refine h g cap w' ?_ h2
    unfold OwnD
    rw [show fdl (L ++ [f]) = fdl L ++ fdl [f] by simp [fdl], List.length_append, List.length_singleton]
    exact h1

end Go.Proofs.YtnnaphfeeobelasDoor
