/- 'append(v, all...)' of fields onto fields that are owned. -/
import Derived.Test.YtnnaphfeeobeladDoorFieldRows
namespace Go.Proofs.YtnnaphfeeobeladDoor
open Go.RowKit
theorem DAt.src {w : World} {ad : Addr} {l : List (ByteArray × ByteArray)} {B : Nat} (hI : DAt w (some ad) l B) : ∀ j u, (fdl l)[j]? = some u → w.cell? (ad.add j) = some u := by
  intro j u hu
  obtain ⟨hj, _⟩ := List.getElem?_eq_some_iff.1 hu
  rw [fdl_length] at hj
  obtain ⟨g, off, ha, _, hc0, hc1⟩ := hI (j / 2) (by omega)
  simp only [Option.some.injEq] at ha
  subst ha
  have hat := fdl_at l (j / 2) (by omega)
  rw [Addr.add_mid]
  rcases (by omega : j % 2 = 0 ∨ j % 2 = 1) with h | h
  · have e : j = 2 * (j / 2) := by omega
    rw [e, hat.1] at hu
    rw [show off + j = off + j / 2 * 2 by omega, hc0]
    exact hu
  · have e : j = 2 * (j / 2) + 1 := by omega
    rw [e, hat.2] at hu
    rw [show off + j = off + j / 2 * 2 + 1 by omega, hc1]
    exact hu
theorem DAt.none_nil {w : World} {l : List (ByteArray × ByteArray)} {B : Nat} (h : DAt w none l B) : l = [] := by
  cases l with
  | nil => rfl
  | cons x r =>
    obtain ⟨g, off, ha, _⟩ := h 0 (by simp)
    cases ha
theorem wpList_plusD {P : Program} {ops : Array Oper} {rest : List Oper} {o : Oper} {a : Act} {Q : Exit → Act → World → Prop} {w : World} (hgd : o.guard = none) (s x : Operand) (t : TypeId)
    (ho : o.op = .call { callee := .builtin .append, args := #[s, x], argTypes := #[t, t] }) (base : Nat) (e : TypeId) (ht : P.underlying t = some (.slice e))
    (hinfo : (P.info? e).map (fun i => (i.zero, i.size, i.bytes)) = some (some (.agg #[.string ⟨#[]⟩, .string ⟨#[]⟩]), 2, 32)) (v : Value) (A : List (ByteArray × ByteArray)) (hs : a.eval s = v) (hown : OwnD w base e v A)
    (a0 : Option Addr) (cap : Nat) (l : List (ByteArray × ByteArray)) (B : Nat) (hx : a.eval x = .slice a0 l.length cap) (hI : DAt w a0 l B) (hlen : A.length + l.length ≤ 2000000) (hbase : base ≤ w.heap.size)
    (h : ∀ v' w', OwnD w' base e v' (A ++ l) → w.grownBy w' v.ownBlock → wpList P ops Q rest (a.put o.dst v') w') :
    wpList P ops Q (o :: rest) a w := by
  obtain ⟨i0, hi, hz0, hz1, hz2⟩ := info_parts hinfo
  cases a0 with
  | some ad =>
    refine wpList_append_own _ hgd s x t ho base e i0 _ 2 32 ht hi hz0 hz1 hz2 rfl (by decide) v A.length (fdl A) hs hown ad l.length cap (fdl l) hx (fdl_length l) hI.src (fdl_one' l) (by unfold maxLen; omega) (by omega) hbase ?_
    intro v' w' h1 h2 _
    refine h v' w' ?_ h2
    unfold OwnD
    rw [show fdl (A ++ l) = fdl A ++ fdl l by simp [fdl], List.length_append]
    exact h1
  | none =>
    have := hI.none_nil
    subst this
    refine wpList_plain hgd fun K hK => ?_
    have hrun : (Builtin.append_ #[t, t] o.type #[v, .slice none 0 cap]).run P w = .ok v w := by
      rcases hown.2 with ⟨rfl, _⟩ | ⟨g, cp, cur, rfl, _, _, hnc, _⟩
      · simp [Builtin.append_, run_underlying ht, sizeOf, typeInfo, hi, Builtin.lenOf, Builtin.firstCells]
      · simp [Builtin.append_, run_underlying ht, sizeOf, typeInfo, hi, Builtin.lenOf, Builtin.firstCells, storeCells, hnc]
    unfold Oper.wp
    simp at hx
    simp [execOp, ho, resolve, invoke, builtin, hs, hx, hrun, Result.andThen]
    exact hK _ _ (h v w (by simpa using hown) ⟨rfl, rfl, rfl, Nat.le_refl _, fun _ _ _ => rfl⟩)
end Go.Proofs.YtnnaphfeeobeladDoor
