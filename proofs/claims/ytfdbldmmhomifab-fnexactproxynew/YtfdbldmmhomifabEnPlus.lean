/- 'append(entries, more...)' of entries onto entries that are owned. -/
import Derived.Test.YtfdbldmmhomifabEnRows
import Derived.Deep.MidRow
namespace Go.Proofs.Ytfdbldmmhomifab
open Go.RowKit
theorem ownN_new (w : World) (e : TypeId) (L : List En) (cs : Array Value) (hc : cs = (enl L).toArray) (hl : L.length ≤ maxLen) : OwnN (w.alloc (.cells cs e)) w.heap.size e (.slice (some ⟨w.heap.size, 0, none⟩) L.length L.length) L := by
  subst hc
  refine ⟨by rw [enl_length], .inr ⟨w.heap.size, L.length, _, rfl, Nat.le_refl _, heap_alloc_new w _, Nat.le_refl _, hl, by simp [enl_length], ?_⟩⟩
  exact List.take_of_length_le (by simp [enl_length])
theorem ownN_nil (w : World) (base : Nat) (e : TypeId) : OwnN w base e (.slice none 0 0) [] := World.ownsRow_nil _ _ _ _
theorem NAt.src {w : World} {ad : Addr} {l : List En} {B : Nat} (hI : NAt w (some ad) l B) : ∀ j u, (enl l)[j]? = some u → w.cell? (ad.add j) = some u := by
  intro j u hu
  obtain ⟨hj, _⟩ := List.getElem?_eq_some_iff.1 hu
  rw [enl_length] at hj
  obtain ⟨g, off, ha, _, h0, h1, h2, h3⟩ := hI (j / 4) (by omega)
  simp only [Option.some.injEq] at ha
  subst ha
  have hat := enl_at l (j / 4) (by omega)
  rw [Addr.add_mid]
  rcases (by omega : j % 4 = 0 ∨ j % 4 = 1 ∨ j % 4 = 2 ∨ j % 4 = 3) with h | h | h | h
  · have e : j = 4 * (j / 4) := by omega
    rw [e, hat.1] at hu
    rw [show off + j = off + j / 4 * 4 by omega, h0]
    exact hu
  · have e : j = 4 * (j / 4) + 1 := by omega
    rw [e, hat.2.1] at hu
    rw [show off + j = off + j / 4 * 4 + 1 by omega, h1]
    exact hu
  · have e : j = 4 * (j / 4) + 2 := by omega
    rw [e, hat.2.2.1] at hu
    rw [show off + j = off + j / 4 * 4 + 2 by omega, h2]
    exact hu
  · have e : j = 4 * (j / 4) + 3 := by omega
    rw [e, hat.2.2.2] at hu
    rw [show off + j = off + j / 4 * 4 + 3 by omega, h3]
    exact hu
theorem enl_one (l : List En) : ∀ v ∈ enl l, v.oneCell' = true := by
  intro v hv
  simp only [enl, List.mem_flatMap, En.cells] at hv
  obtain ⟨a, _, h⟩ := hv
  simp at h
  rcases h with rfl | rfl | rfl | rfl <;> rfl
/-- The row is a block that has just been laid. -/
theorem wpList_plusN {P : Program} {ops : Array Oper} {rest : List Oper} {o : Oper} {a : Act} {Q : Exit → Act → World → Prop} {w : World} (hgd : o.guard = none) (s x : Operand) (t : TypeId)
    (ho : o.op = .call { callee := .builtin .append, args := #[s, x], argTypes := #[t, t] }) (base : Nat) (e : TypeId) (ht : P.underlying t = some (.slice e))
    (hinfo : (P.info? e).map (fun i => (i.zero, i.size, i.bytes)) = some (some (.agg #[.string ⟨#[]⟩, .int .i64 0, .int .i64 0, .string ⟨#[]⟩]), 4, 48)) (v : Value) (A : List En) (hs : a.eval s = v) (hown : OwnN w base e v A)
    (l : List En) (cs : Array Value) (hc : cs = (enl l).toArray) (hx : a.eval x = .slice (some ⟨w.heap.size, 0, none⟩) l.length l.length) (hlen : A.length + l.length ≤ 2000000) (hbase : base ≤ w.heap.size)
    (h : ∀ v' w', OwnN w' base e v' (A ++ l) → w.grownBy w' v.ownBlock → wpList P ops Q rest (a.put o.dst v') w') :
    wpList P ops Q (o :: rest) a (w.alloc (.cells cs e)) := by
  obtain ⟨i0, hi, hz0, hz1, hz2⟩ := info_parts hinfo
  have hA : NAt (w.alloc (.cells cs e)) (some ⟨w.heap.size, 0, none⟩) l (w.alloc (.cells cs e)).heap.size := by
    obtain ⟨a', c', hv, hA⟩ := (ownN_new w e l cs hc (by unfold maxLen; omega)).at
    simp only [Value.slice.injEq, true_and] at hv
    rw [hv.1]
    exact hA
  refine wpList_append_own _ hgd s x t ho base e i0 _ 4 48 ht hi hz0 hz1 hz2 rfl (by decide) v A.length (enl A) hs (World.ownsRow.alloc hown _) ⟨w.heap.size, 0, none⟩ l.length l.length (enl l) hx (enl_length l) hA.src (enl_one l) (by unfold maxLen; omega) (by omega) (by simp; omega) ?_
  intro v' w' h1 h2 _
  refine h v' w' ?_ (grownBy_trans (grownBy_below ((Below.refl _ _).alloc (Nat.le_refl _) _)) h2)
  unfold OwnN
  rw [show enl (A ++ l) = enl A ++ enl l by simp [enl], List.length_append]
  exact h1
theorem OwnN.allocN {w : World} {base : Nat} {e : TypeId} {v : Value} {L : List En} (h : OwnN w base e v L) (o : Obj) : OwnN (w.alloc o) base e v L := World.ownsRow.alloc h o
end Go.Proofs.Ytfdbldmmhomifab
