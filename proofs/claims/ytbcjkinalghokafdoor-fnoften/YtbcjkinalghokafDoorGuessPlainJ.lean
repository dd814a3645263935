/- Texts that stand in one: GuessPlain, Rowed. -/
import Derived.Test.YtbcjkinalghokafDoorSkPlainJ
import Derived.Test.YtbcjkinalghokafDoorSumPlainJ
import Derived.Laws.OwnMore
namespace Go.Proofs.YtbcjkinalghokafDoor
open Go.RowKit

theorem bumpR_look {key : ByteArray} {i : Nat} {r : List Int} (h : rowOk r = true) (p : Nat) (hp : p < 16) : r.getD p 0 ≤ (bumpR key i r).getD p 0 ∧ (placeS i key = p → (bumpR key i r).getD p 0 = min (r.getD p 0 + 1) 15) := by
  have hl := rowOk_len h
  have hat := rowOk_at h p hp
  unfold bumpR
  by_cases e : placeS i key = p
  · subst e
    have e2 : (r.set (placeS i key) (min (r.getD (placeS i key) 0 + 1) 15)).getD (placeS i key) 0 = min (r.getD (placeS i key) 0 + 1) 15 := by
      rw [List.getD_eq_getElem?_getD, List.getElem?_set_self (by omega)]
      rfl
    rw [e2]
    exact ⟨by omega, fun _ => rfl⟩
  · have e2 : (r.set (placeS i key) (min (r.getD (placeS i key) 0 + 1) 15)).getD p 0 = r.getD p 0 := by
      rw [List.getD_eq_getElem?_getD, List.getElem?_set_ne e, ← List.getD_eq_getElem?_getD]
    rw [e2]
    exact ⟨Int.le_refl _, fun h => absurd h e⟩
/-- In each row the key stands with m at least, up to the top. -/
def AtLeast (S : Sk) (key : ByteArray) (m : Int) : Prop := ∀ i, i < 3 → min m 15 ≤ lookR key S.rows i
theorem atLeast_guess {S : Sk} {key : ByteArray} {m : Int} (hok : okK S = true) (h : AtLeast S key m) : min m 15 ≤ guessS S key := by
  obtain ⟨a, b, c, e, _⟩ := okK_parts hok
  unfold guessS
  rw [if_pos hok]
  have h0 := h 0 (by omega)
  have h1 := h 1 (by omega)
  have h2 := h 2 (by omega)
  rw [e] at h0 h1 h2 ⊢
  rw [guessTo_three]
  simp only [lookR, List.getD_cons_zero, List.getD_cons_succ] at h0 h1 h2
  have e0 : placeS ((0 : Nat) : Int) key = placeS 0 key := rfl
  have e1 : placeS ((1 : Nat) : Int) key = placeS 1 key := rfl
  have e2 : placeS ((2 : Nat) : Int) key = placeS 2 key := rfl
  rw [e0] at h0
  rw [e1] at h1
  rw [e2] at h2
  omega
theorem atLeast_bump {S : Sk} {key z : ByteArray} {m : Int} (hok : okK S = true) (h63 : S.added ≠ 63) (h : AtLeast S key m) : AtLeast (bumpS S z) key (if z = key then m + 1 else m) := by
  obtain ⟨a, b, c, e, ha, hb, hc, _, _⟩ := okK_parts hok
  intro i hi
  have hm := h i hi
  unfold bumpS
  rw [if_pos hok, if_neg h63]
  rw [e] at hm ⊢
  rw [bumpTo_three]
  have step : ∀ (r : List Int) (j : Nat), rowOk r = true → min m 15 ≤ r.getD (placeS j key) 0 → min (if z = key then m + 1 else m) 15 ≤ (bumpR z j r).getD (placeS j key) 0 := by
    intro r j hr hle
    obtain ⟨h1, h2⟩ := bumpR_look (key := z) (i := j) hr (placeS j key) (placeS_lt _ _)
    by_cases ez : z = key
    · subst ez
      rw [if_pos rfl, h2 rfl]
      omega
    · rw [if_neg ez]
      omega
  rcases (by omega : i = 0 ∨ i = 1 ∨ i = 2) with rfl | rfl | rfl
  · exact step a 0 ha hm
  · exact step b 1 hb hm
  · exact step c 2 hc hm
/-- The sketch behind the keys of l. -/
def runK (l : List ByteArray) : Sk := l.foldl bumpS newS
theorem runK_snoc (l : List ByteArray) (z : ByteArray) : runK (l ++ [z]) = bumpS (runK l) z := by simp [runK]
def cntK (key : ByteArray) (l : List ByteArray) : Nat := l.countP (fun z => decide (z = key))
theorem cntK_snoc (key z : ByteArray) (l : List ByteArray) : cntK key (l ++ [z]) = cntK key l + if z = key then 1 else 0 := by
  unfold cntK
  rw [List.countP_append]
  simp [List.countP_cons]
theorem zero_get (p : Nat) : (List.replicate 16 (0 : Int)).getD p 0 = 0 := by
  rw [List.getD_eq_getElem?_getD, List.getElem?_replicate]
  split <;> rfl
theorem runK_ok : ∀ (n : Nat) (l : List ByteArray), l.length = n → n ≤ 63 → okK (runK l) = true ∧ (runK l).added = (n : Int) ∧ ∀ key, AtLeast (runK l) key (cntK key l)
  | 0, l, hl, _ => by
    have : l = [] := List.length_eq_zero_iff.1 hl
    subst this
    refine ⟨newS_ok, rfl, fun key i hi => ?_⟩
    have e : ∀ q, lookR key (runK []).rows q = 0 := by
      intro q
      unfold lookR
      have e2 : (runK []).rows.getD q [] = if q < 3 then List.replicate 16 0 else [] := by
        rw [show (runK []).rows = List.replicate 3 (List.replicate 16 0) from rfl, List.getD_eq_getElem?_getD, List.getElem?_replicate]
        split <;> rfl
      rw [e2]
      split
      · exact zero_get _
      · rfl
    rw [e, show cntK key [] = 0 from rfl]
    decide
  | n + 1, l, hl, hn => by
    obtain ⟨l0, z, rfl⟩ : ∃ l0 z, l = l0 ++ [z] := ⟨l.dropLast, l.getLast (by intro e; subst e; simp at hl), (List.dropLast_concat_getLast _).symm⟩
    have hl0 : l0.length = n := by simpa using hl
    obtain ⟨h1, h2, h3⟩ := runK_ok n l0 hl0 (by omega)
    rw [runK_snoc]
    have h63 : (runK l0).added ≠ 63 := by rw [h2]; omega
    refine ⟨bumpS_ok z h1, ?_, fun key => ?_⟩
    · unfold bumpS
      rw [if_pos h1, if_neg h63]
      simp only [h2]
      omega
    · have := atLeast_bump (z := z) h1 h63 (h3 key)
      rw [cntK_snoc]
      by_cases ez : z = key
      · rw [if_pos ez] at this ⊢
        simpa using this
      · rw [if_neg ez] at this ⊢
        simpa using this
end Go.Proofs.YtbcjkinalghokafDoor

namespace Go.Proofs.YtbcjkinalghokafDoor
open Go.RowKit

/-- The slice value v owns the cells xs. -/
def OwnV (w : World) (base : Nat) (e : TypeId) (v : Value) (xs : List Value) : Prop := w.ownsRow base e 1 v xs.length xs

theorem OwnV.alloc {w : World} {base : Nat} {e : TypeId} {v : Value} {xs : List Value} (h : OwnV w base e v xs) (o : Obj) : OwnV (w.alloc o) base e v xs := World.ownsRow.alloc h o
theorem OwnV.lt {w : World} {base : Nat} {e : TypeId} {v : Value} {xs : List Value} (h : OwnV w base e v xs) (k : Nat) (hk : v.ownBlock = some k) : base ≤ k ∧ k < w.heap.size := World.ownsRow.lt h k hk
theorem OwnV.mono {w : World} {base base' : Nat} {e : TypeId} {v : Value} {xs : List Value} (h : OwnV w base e v xs) (hb : base' ≤ base) : OwnV w base' e v xs := by
  refine ⟨h.1, ?_⟩
  rcases h.2 with h | ⟨g, cap, cur, hv, hg, rest⟩
  · exact .inl h
  · exact .inr ⟨g, cap, cur, hv, Nat.le_trans hb hg, rest⟩

/-- It stays owned where its block is as it was. -/
theorem OwnV.kept {w w' : World} {base : Nat} {e : TypeId} {v : Value} {xs : List Value} (h : OwnV w base e v xs) (hk : ∀ k, v.ownBlock = some k → w'.heap[k]? = w.heap[k]?) : OwnV w' base e v xs := by
  refine ⟨h.1, ?_⟩
  rcases h.2 with hn | ⟨g, cap, cur, rfl, hb, hg, rest⟩
  · exact .inl hn
  · exact .inr ⟨g, cap, cur, rfl, hb, by rw [hk g rfl]; exact hg, rest⟩
theorem OwnV.below {w w' : World} {B base : Nat} {e : TypeId} {v : Value} {xs : List Value} (h : OwnV w base e v xs) (hb : Below B w w') (hB : w.heap.size ≤ B) : OwnV w' base e v xs :=
  h.kept fun k hk => hb.block k (Nat.lt_of_lt_of_le (h.lt k hk).2 hB)
theorem OwnV.grown {w w' : World} {row : Option Nat} {base : Nat} {e : TypeId} {v : Value} {xs : List Value} (h : OwnV w base e v xs) (hb : w.grownBy w' row) (hne : ∀ k, v.ownBlock = some k → row ≠ some k) : OwnV w' base e v xs :=
  h.kept fun k hk => hb.block k (h.lt k hk).2 (fun e => hne k hk e.symm)

/-- What it looks like, cell by cell. -/
theorem OwnV.shape {w : World} {base : Nat} {e : TypeId} {v : Value} {xs : List Value} (h : OwnV w base e v xs) :
    ∃ a cap, v = .slice a xs.length cap ∧ ∀ j (hj : j < xs.length), ∃ g, a = some ⟨g, 0, none⟩ ∧ w.cell? ⟨g, j, none⟩ = some xs[j] ∧ w.frozen? ⟨g, j, none⟩ = false ∧ base ≤ g ∧ g < w.heap.size := by
  have h0 := h
  rcases h.2 with ⟨rfl, hn⟩ | ⟨g, cap, cur, rfl, hb, hg, rest⟩
  · have hx : xs = [] := List.length_eq_zero_iff.1 hn
    subst hx
    exact ⟨none, 0, rfl, fun j hj => by simp at hj⟩
  · refine ⟨_, _, rfl, fun j hj => ⟨g, rfl, ?_, World.ownsRow.frozenAt h0 j, hb, (Array.getElem?_eq_some_iff.1 hg).1⟩⟩
    rw [World.ownsRow.cellAt h0 j (by omega), List.getElem?_eq_getElem hj]

theorem OwnV.nil (w : World) (base : Nat) (e : TypeId) : OwnV w base e (.slice none 0 0) [] := World.ownsRow_nil w base e 1
theorem OwnV.none_len {w : World} {base : Nat} {e : TypeId} {xs : List Value} (h : OwnV w base e (.slice none 0 0) xs) : xs = [] := by
  rcases h.2 with ⟨_, hn⟩ | ⟨g, cap, cur, hv, _⟩
  · exact List.length_eq_zero_iff.1 hn
  · simp at hv

/-- A store into it. -/
theorem OwnV.stored {w : World} {base : Nat} {e : TypeId} {g n cap : Nat} {xs : List Value} (h : OwnV w base e (.slice (some ⟨g, 0, none⟩) n cap) xs) (hn : n = xs.length) (j : Nat) (u : Value) :
    OwnV (w.setCell ⟨g, j, none⟩ u) base e (.slice (some ⟨g, 0, none⟩) n cap) (xs.set j u) ∧ w.grownBy (w.setCell ⟨g, j, none⟩ u) (some g) := by
  subst hn
  have := World.ownsRow.stored h j u
  refine ⟨?_, this.2⟩
  unfold OwnV
  rw [List.length_set]
  exact this.1

theorem grownBy_refl (w : World) (row : Option Nat) : w.grownBy w row := ⟨rfl, rfl, rfl, Nat.le_refl _, fun _ _ _ => rfl⟩
theorem grownBy_trans {a b c : World} {row : Option Nat} (h : a.grownBy b row) (k : b.grownBy c row) : a.grownBy c row :=
  ⟨k.os.trans h.os, k.tape.trans h.tape, k.output.trans h.output, Nat.le_trans h.size k.size, fun j hj hr => (k.block j (Nat.lt_of_lt_of_le hj h.size) hr).trans (h.block j hj hr)⟩
theorem grownBy_below {a b : World} {row : Option Nat} (h : Below a.heap.size a b) : a.grownBy b row := ⟨h.os, h.tape, h.output, h.size, fun j hj _ => h.block j hj⟩

/-- 'append(v, x)' of one value onto a row that is owned. -/
theorem wpList_snocV {P : Program} {ops : Array Oper} {rest : List Oper} {o : Oper} {a : Act} {Q : Exit → Act → World → Prop} {wr : World} (hgd : o.guard = none) (s x : Operand) (t : TypeId)
    (ho : o.op = .call { callee := .builtin .append, args := #[s, x], argTypes := #[t, t] }) (base : Nat) (e : TypeId) (ht : P.underlying t = some (.slice e)) (z : Value) (bytes : Nat)
    (hinfo : (P.info? e).map (fun i => (i.zero, i.size, i.bytes)) = some (some z, 1, bytes)) (hz : z.cells.size = 1) (v : Value) (xs : List Value) (hs : a.eval s = v) (hown : OwnV wr base e v xs)
    (y : Value) (hx : a.eval x = .slice (some ⟨wr.heap.size, 0, none⟩) 1 1) (hy : y.oneCell' = true) (hlen : (xs.length + 1) * bytes ≤ 140737488355328) (hlen2 : xs.length < 140737488355328) (hbase : base ≤ wr.heap.size)
    (h : ∀ v' w', OwnV w' base e v' (xs ++ [y]) → v' ≠ .slice none 0 0 → (∀ w0, Below base w0 wr → Below base w0 w') → wr.heap.size ≤ w'.heap.size → wpList P ops Q rest (a.put o.dst v') w') :
    wpList P ops Q (o :: rest) a (wr.alloc (.cells #[y] e)) := by
  obtain ⟨i0, hi, hz0, hz1, hz2⟩ := info_parts hinfo
  refine wpList_append_own _ hgd s x t ho base e i0 z 1 bytes ht hi hz0 hz1 hz2 hz (by decide) v xs.length xs hs (World.ownsRow.alloc hown _) ⟨wr.heap.size, 0, none⟩ 1 1 [y] hx rfl ?_ ?_ ?_ ?_ ?_ ?_
  · intro j u hj
    match j, hj with
    | 0, hj => simp at hj; subst hj; simp [Addr.add]
  · intro u hu; simp at hu; subst hu; exact hy
  · unfold maxLen; omega
  · exact hlen
  · simp; omega
  · intro v' w' h1 h2 h3
    refine h v' w' ?_ (fun hn => by have := h3.1 hn; omega) (fun w0 hb => ?_) ?_
    · unfold OwnV; simpa using h1
    · exact Below.grown (hb.alloc hbase _) h2 (by simp; omega) (fun k hk => (World.ownsRow.lt hown k hk).1)
    · have := h2.size; simp at this; omega

/-- Texts as cells. -/
def strs (l : List ByteArray) : List Value := l.map Value.string
theorem strs_length (l : List ByteArray) : (strs l).length = l.length := by simp [strs]
theorem strs_append (l m : List ByteArray) : strs (l ++ m) = strs l ++ strs m := by simp [strs]
theorem strs_at {l : List ByteArray} {j : Nat} (h : j < l.length) : (strs l)[j]'(by rw [strs_length]; exact h) = .string l[j] := by simp [strs]
/-- Integers as cells. -/
def ints (l : List Int) : List Value := l.map (Value.int .i64)
theorem ints_length (l : List Int) : (ints l).length = l.length := by simp [ints]
theorem ints_at {l : List Int} {j : Nat} (h : j < l.length) : (ints l)[j]'(by rw [ints_length]; exact h) = .int .i64 l[j] := by simp [ints]
end Go.Proofs.YtbcjkinalghokafDoor
