/-
  Bytes that a call gathers in a slice of its own, and the text that is made of them: plain lemmas, no program.
-/
import Derived.WalkKit
import Derived.Laws.IdiomStrings
namespace Go.Proofs.Ytednbcdomkhhmaj
open Go.RowKit

/-- A relation of a loop behind one door, so that no tactic takes it apart. -/
structure Box (p : Prop) : Prop where
  out : p

/-- The cells of a list of bytes. -/
def bts (l : List UInt8) : List Value := l.map fun b => .int .u8 (b.toNat : Int)

theorem bts_length (l : List UInt8) : (bts l).length = l.length := by simp [bts]
theorem bts_append (l m : List UInt8) : bts (l ++ m) = bts l ++ bts m := by simp [bts]
theorem bts_one (b : UInt8) : bts [b] = [.int .u8 (b.toNat : Int)] := rfl

/-- The slice value v owns the bytes l. -/
def OwnB (w : World) (base : Nat) (e : TypeId) (v : Value) (l : List UInt8) : Prop := w.ownsRow base e 1 v l.length (bts l)

theorem OwnB.alloc {w : World} {base : Nat} {e : TypeId} {v : Value} {l : List UInt8} (h : OwnB w base e v l) (o : Obj) : OwnB (w.alloc o) base e v l := World.ownsRow.alloc h o

theorem OwnB.snoc {w : World} {base : Nat} {e : TypeId} {v : Value} {l : List UInt8} {x : Int} (h : w.ownsRow base e 1 v (l.length + 1) (bts l ++ [.int .u8 x])) (b : UInt8) (hb : x = (b.toNat : Int)) : OwnB w base e v (l ++ [b]) := by
  unfold OwnB
  rw [bts_append, bts_one, List.length_append, List.length_singleton, ← hb]
  exact h

/-- 'string(v)' of bytes that are owned. -/
theorem OwnB.text {P : Program} {w : World} {base : Nat} {e : TypeId} {v : Value} {l : List UInt8} (h : OwnB w base e v l) (src dst : TypeId) (hs : P.underlying src = some (.slice e)) (he : P.underlying e = some (.int .u8)) (hd : P.underlying dst = some .string) (hne : v ≠ .slice none 0 0) :
    (convert src dst v).run P w = .ok (.string ⟨l.toArray⟩) w := by
  rcases h.2 with ⟨rfl, _⟩ | ⟨g, cap, cur, rfl, hb, hg, rest⟩
  · exact absurd rfl hne
  · refine run_convert_bytes_back w src dst e _ cap l hs he hd fun j hj => ?_
    refine World.ownsRow.cells h (g := g) rfl j _ ?_
    simp [bts, hj]

/-- 'append(v, b)' of one byte onto bytes that are owned. -/
theorem wpList_snoc {P : Program} {ops : Array Oper} {rest : List Oper} {o : Oper} {a : Act} {Q : Exit → Act → World → Prop} {wr : World} (hgd : o.guard = none) (s x : Operand) (t : TypeId)
    (ho : o.op = .call { callee := .builtin .append, args := #[s, x], argTypes := #[t, t] }) (base : Nat) (e : TypeId) (ht : P.underlying t = some (.slice e))
    (hinfo : (P.info? e).map (fun i => (i.zero, i.size, i.bytes)) = some (some (.int .u8 0), 1, 1)) (v : Value) (l : List UInt8) (hs : a.eval s = v) (hown : OwnB wr base e v l)
    (y : Int) (b : UInt8) (hx : a.eval x = .slice (some ⟨wr.heap.size, 0, none⟩) 1 1) (hy : y = (b.toNat : Int)) (hlen : l.length < 140737488355328) (hbase : base ≤ wr.heap.size)
    (h : ∀ v' w', OwnB w' base e v' (l ++ [b]) → v' ≠ .slice none 0 0 → (∀ w0, Below base w0 wr → Below base w0 w') → wr.heap.size ≤ w'.heap.size → wpList P ops Q rest (a.put o.dst v') w') :
    wpList P ops Q (o :: rest) a (wr.alloc (.cells #[.int .u8 y] e)) := by
  obtain ⟨i0, hi, hz0, hz1, hz2⟩ := info_parts hinfo
  refine wpList_append_own _ hgd s x t ho base e i0 (.int .u8 0) 1 1 ht hi hz0 hz1 hz2 rfl (by decide) v l.length (bts l) hs (World.ownsRow.alloc hown _) ⟨wr.heap.size, 0, none⟩ 1 1 [.int .u8 y] hx rfl ?_ ?_ ?_ ?_ ?_ ?_
  · intro j u hj
    match j, hj with
    | 0, hj => simp at hj; subst hj; simp [Addr.add]
  · intro u hu; simp at hu; subst hu; rfl
  · unfold maxLen; omega
  · omega
  · simp; omega
  · intro v' w' h1 h2 h3
    refine h v' w' (OwnB.snoc h1 b hy) (fun hn => by have := h3.1 hn; omega) (fun w0 hb => ?_) ?_
    · exact Below.grown (hb.alloc hbase _) h2 (by simp; omega) (fun k hk => (World.ownsRow.lt hown k hk).1)
    · have := h2.size; simp at this; omega

end Go.Proofs.Ytednbcdomkhhmaj
