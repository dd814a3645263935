/- Texts that stand in one: SkBase, PolBase, Bytes. -/
import Derived.WalkKit
import Derived.Laws.IdiomStrings
import Derived.Deep.AppendLies
namespace Go.Proofs.Ytpgcfgbhkodmeaa
open Go.RowKit

structure Sk where
  rows : List (List Int)
  added : Int

def numOk (z : Int) : Bool := decide (0 ≤ z ∧ z ≤ 15)
def rowOk (r : List Int) : Bool := decide (r.length = 16) && r.all numOk
def headOkK (S : Sk) : Bool := decide (S.rows.length = 3) && decide (0 ≤ S.added ∧ S.added ≤ 63)
def okK (S : Sk) : Bool := headOkK S && S.rows.all rowOk
def newS : Sk := ⟨List.replicate 3 (List.replicate 16 0), 0⟩

theorem rowOk_len {r : List Int} (h : rowOk r = true) : r.length = 16 := by
  unfold rowOk at h
  simp only [Bool.and_eq_true, decide_eq_true_eq] at h
  exact h.1
theorem rowOk_at {r : List Int} (h : rowOk r = true) (p : Nat) (hp : p < 16) : 0 ≤ r.getD p 0 ∧ r.getD p 0 ≤ 15 := by
  have hl := rowOk_len h
  unfold rowOk at h
  simp only [Bool.and_eq_true, List.all_eq_true] at h
  have h2 := h.2 r[p] (List.getElem_mem (by omega))
  simp only [numOk, decide_eq_true_eq] at h2
  rw [List.getD_eq_getElem?_getD, List.getElem?_eq_getElem (by omega)]
  exact h2
theorem list3S {l : List (List Int)} (h : l.length = 3) : ∃ a b c, l = [a, b, c] := by
  match l, h with
  | [a, b, c], _ => exact ⟨a, b, c, rfl⟩
/-- A right sketch has three right rows. -/
theorem okK_parts {S : Sk} (h : okK S = true) : ∃ a b c, S.rows = [a, b, c] ∧ rowOk a = true ∧ rowOk b = true ∧ rowOk c = true ∧ 0 ≤ S.added ∧ S.added ≤ 63 := by
  unfold okK headOkK at h
  simp only [Bool.and_eq_true, decide_eq_true_eq, List.all_eq_true] at h
  obtain ⟨⟨h1, h2⟩, h3⟩ := h
  obtain ⟨a, b, c, e⟩ := list3S h1
  rw [e] at h3
  exact ⟨a, b, c, e, h3 a (by simp), h3 b (by simp), h3 c (by simp), h2.1, h2.2⟩
theorem okK_mk {a b c : List Int} {n : Int} (ha : rowOk a = true) (hb : rowOk b = true) (hc : rowOk c = true) (h0 : 0 ≤ n) (h1 : n ≤ 63) : okK ⟨[a, b, c], n⟩ = true := by
  simp [okK, headOkK, ha, hb, hc, h0, h1]
theorem newS_ok : okK newS = true := by decide
end Go.Proofs.Ytpgcfgbhkodmeaa

namespace Go.Proofs.Ytpgcfgbhkodmeaa
open Go.RowKit

structure Pol where
  win : List ByteArray
  main : List ByteArray
  sk : Sk

def noKey : ByteArray := ⟨#[]⟩
def inL (l : List ByteArray) (s : ByteArray) : Bool := l.any fun z => decide (z = s)
def keyOk (s : ByteArray) : Bool := decide (1 ≤ s.size ∧ s.size ≤ 30)
/-- The first k of them are right: of their size, none twice. -/
def listOkTo (l : List ByteArray) (k : Nat) : Bool := (List.range k).all fun i => keyOk (l.getD i noKey) && !inL (l.take i) (l.getD i noKey)
def listOk (l : List ByteArray) : Bool := listOkTo l l.length
def okP (P : Pol) : Bool := listOk (P.win ++ P.main) && (decide (P.win.length ≤ 2) && decide (P.main.length ≤ 4) && okK P.sk)
def hasP (P : Pol) (key : ByteArray) : Bool := inL P.win key || inL P.main key
def without (l : List ByteArray) (s : ByteArray) : List ByteArray := l.filter fun z => !decide (z = s)
def dropP (P : Pol) (key : ByteArray) : Pol := ⟨without P.win key, without P.main key, P.sk⟩
def newP : Pol := ⟨[], [], newS⟩
theorem inL_iff {l : List ByteArray} {s : ByteArray} : inL l s = true ↔ s ∈ l := by
  unfold inL
  rw [List.any_eq_true]
  constructor
  · rintro ⟨z, hz, e⟩
    simp only [decide_eq_true_eq] at e
    rw [← e]
    exact hz
  · intro h
    exact ⟨s, h, by simp⟩
theorem inL_false {l : List ByteArray} {s : ByteArray} : inL l s = false ↔ s ∉ l := by
  rw [← inL_iff]
  simp
theorem without_mem {l : List ByteArray} {s z : ByteArray} : z ∈ without l s ↔ z ∈ l ∧ z ≠ s := by
  unfold without
  rw [List.mem_filter]
  simp
theorem without_none {l : List ByteArray} {s : ByteArray} (h : s ∉ l) : without l s = l := by
  unfold without
  rw [List.filter_eq_self]
  intro z hz
  simp only [Bool.not_eq_true', decide_eq_false_iff_not]
  intro e
  rw [e] at hz
  exact h hz
theorem nodup_snoc {l : List ByteArray} {z : ByteArray} : (l ++ [z]).Nodup ↔ l.Nodup ∧ z ∉ l := by
  rw [List.nodup_append]
  constructor
  · rintro ⟨h1, _, h3⟩
    exact ⟨h1, fun hz => h3 z hz z (by simp) rfl⟩
  · rintro ⟨h1, h2⟩
    refine ⟨h1, by simp, fun a ha b hb e => ?_⟩
    rw [List.mem_singleton] at hb
    rw [hb] at e
    rw [e] at ha
    exact h2 ha
theorem listOkTo_iff (l : List ByteArray) : ∀ k, k ≤ l.length → (listOkTo l k = true ↔ (∀ z ∈ l.take k, keyOk z = true) ∧ (l.take k).Nodup)
  | 0, _ => by simp [listOkTo]
  | k + 1, hk => by
    have ih := listOkTo_iff l k (by omega)
    have hlt : k < l.length := by omega
    have hg : l.getD k noKey = l[k] := by simp [List.getD_eq_getElem?_getD, hlt]
    have e : listOkTo l (k + 1) = (listOkTo l k && (keyOk l[k] && !inL (l.take k) l[k])) := by
      unfold listOkTo
      rw [List.range_succ, List.all_append]
      simp only [List.all_cons, List.all_nil, Bool.and_true, hg]
    rw [e, Bool.and_eq_true, ih, Bool.and_eq_true, Bool.not_eq_true', inL_false, List.take_succ_eq_append_getElem hlt, nodup_snoc]
    constructor
    · rintro ⟨⟨h1, h2⟩, h3, h4⟩
      refine ⟨fun z hz => ?_, h2, h4⟩
      rcases List.mem_append.1 hz with hz | hz
      · exact h1 z hz
      · rw [List.mem_singleton.1 hz]; exact h3
    · rintro ⟨h1, h2, h3⟩
      exact ⟨⟨fun z hz => h1 z (List.mem_append_left _ hz), h2⟩, h1 _ (List.mem_append_right _ (List.mem_singleton.2 rfl)), h3⟩
theorem listOk_iff {l : List ByteArray} : listOk l = true ↔ (∀ z ∈ l, keyOk z = true) ∧ l.Nodup := by
  have := listOkTo_iff l l.length (Nat.le_refl _)
  rw [List.take_length] at this
  exact this
theorem okP_iff {P : Pol} : okP P = true ↔ (∀ z ∈ P.win, keyOk z = true) ∧ (∀ z ∈ P.main, keyOk z = true) ∧ P.win.Nodup ∧ P.main.Nodup ∧ (∀ z ∈ P.win, z ∉ P.main) ∧ P.win.length ≤ 2 ∧ P.main.length ≤ 4 ∧ okK P.sk = true := by
  unfold okP
  simp only [Bool.and_eq_true, decide_eq_true_eq]
  rw [listOk_iff, List.nodup_append]
  constructor
  · rintro ⟨⟨h1, h2, h3, h4⟩, ⟨h5, h6⟩, h7⟩
    exact ⟨fun z hz => h1 z (List.mem_append_left _ hz), fun z hz => h1 z (List.mem_append_right _ hz), h2, h3, fun z hz hm => h4 z hz z hm rfl, h5, h6, h7⟩
  · rintro ⟨h1, h2, h3, h4, h5, h6, h7, h8⟩
    refine ⟨⟨fun z hz => ?_, h3, h4, fun a ha b hb e => h5 a ha (by rw [e]; exact hb)⟩, ⟨h6, h7⟩, h8⟩
    rcases List.mem_append.1 hz with hz | hz
    · exact h1 z hz
    · exact h2 z hz
theorem newP_ok : okP newP = true := by
  rw [okP_iff]
  exact ⟨by simp [newP], by simp [newP], by simp [newP], by simp [newP], by simp [newP], by simp [newP], by simp [newP], newS_ok⟩
theorem without_length {l : List ByteArray} {s : ByteArray} (h : l.Nodup) (hs : s ∈ l) : (without l s).length + 1 = l.length := by
  induction l with
  | nil => simp at hs
  | cons a r ih =>
    rw [List.nodup_cons] at h
    by_cases e : a = s
    · subst e
      have hn : without r a = r := without_none h.1
      have : without (a :: r) a = without r a := by simp [without]
      rw [this, hn]
      simp
    · have hr : s ∈ r := by
        rcases List.mem_cons.1 hs with h1 | h1
        · exact absurd h1.symm e
        · exact h1
      have : without (a :: r) s = a :: without r s := by simp [without, e]
      rw [this, List.length_cons, List.length_cons, ih h.2 hr]
theorem without_nodup {l : List ByteArray} {s : ByteArray} (h : l.Nodup) : (without l s).Nodup := h.filter _
theorem keyOk_ne {z : ByteArray} (h : keyOk z = true) : z ≠ noKey := by
  rintro rfl
  simp [keyOk, noKey, ByteArray.size] at h
/-- Who is dropped is not there. -/
theorem dropP_has (P : Pol) (key : ByteArray) : hasP (dropP P key) key = false := by
  unfold hasP dropP
  rw [inL_false.2 (fun h => (without_mem.1 h).2 rfl), inL_false.2 (fun h => (without_mem.1 h).2 rfl)]
  rfl
end Go.Proofs.Ytpgcfgbhkodmeaa

namespace Go.Proofs.Ytpgcfgbhkodmeaa
open Go.RowKit

/-- A relation of a loop behind one door, so that no tactic takes it apart. -/
structure Box (p : Prop) : Prop where
  out : p

/-- The cells of a list of bytes. -/
def bts (l : List UInt8) : List Value := l.map fun b => .int .u8 (b.toNat : Int)

theorem bts_length (l : List UInt8) : (bts l).length = l.length := by simp [bts]
theorem bts_append (l m : List UInt8) : bts (l ++ m) = bts l ++ bts m := by simp [bts]
theorem bts_one (b : UInt8) : bts [b] = [.int .u8 (b.toNat : Int)] := rfl

/-- The slice value v owns the bytes l. -/
def OwnB (w : World) (base : Nat) (e : TypeId) (v : Value) (l : List UInt8) : Prop := w.ownsRow base e 1 v l.length (bts l)

theorem OwnB.alloc {w : World} {base : Nat} {e : TypeId} {v : Value} {l : List UInt8} (h : OwnB w base e v l) (o : Obj) : OwnB (w.alloc o) base e v l := World.ownsRow.alloc h o

theorem OwnB.snoc {w : World} {base : Nat} {e : TypeId} {v : Value} {l : List UInt8} {x : Int} (h : w.ownsRow base e 1 v (l.length + 1) (bts l ++ [.int .u8 x])) (b : UInt8) (hb : x = (b.toNat : Int)) : OwnB w base e v (l ++ [b]) := by
  unfold OwnB
  rw [bts_append, bts_one, List.length_append, List.length_singleton, ← hb]
  exact h

/-- 'string(v)' of bytes that are owned. -/
theorem OwnB.text {P : Program} {w : World} {base : Nat} {e : TypeId} {v : Value} {l : List UInt8} (h : OwnB w base e v l) (src dst : TypeId) (hs : P.underlying src = some (.slice e)) (he : P.underlying e = some (.int .u8)) (hd : P.underlying dst = some .string) (hne : v ≠ .slice none 0 0) :
    (convert src dst v).run P w = .ok (.string ⟨l.toArray⟩) w := by
  rcases h.2 with ⟨rfl, _⟩ | ⟨g, cap, cur, rfl, hb, hg, rest⟩
  · exact absurd rfl hne
  · refine run_convert_bytes_back w src dst e _ cap l hs he hd fun j hj => ?_
    refine World.ownsRow.cells h (g := g) rfl j _ ?_
    simp [bts, hj]

/-- 'append(v, b)' of one byte onto bytes that are owned. -/
theorem wpList_snoc {P : Program} {ops : Array Oper} {rest : List Oper} {o : Oper} {a : Act} {Q : Exit → Act → World → Prop} {wr : World} (hgd : o.guard = none) (s x : Operand) (t : TypeId)
    (ho : o.op = .call { callee := .builtin .append, args := #[s, x], argTypes := #[t, t] }) (base : Nat) (e : TypeId) (ht : P.underlying t = some (.slice e))
    (hinfo : (P.info? e).map (fun i => (i.zero, i.size, i.bytes)) = some (some (.int .u8 0), 1, 1)) (v : Value) (l : List UInt8) (hs : a.eval s = v) (hown : OwnB wr base e v l)
    (y : Int) (b : UInt8) (hx : a.eval x = .slice (some ⟨wr.heap.size, 0, none⟩) 1 1) (hy : y = (b.toNat : Int)) (hlen : l.length < 140737488355328) (hbase : base ≤ wr.heap.size)
    (h : ∀ v' w', OwnB w' base e v' (l ++ [b]) → v' ≠ .slice none 0 0 → (∀ w0, Below base w0 wr → Below base w0 w') → wr.heap.size ≤ w'.heap.size → wpList P ops Q rest (a.put o.dst v') w') :
    wpList P ops Q (o :: rest) a (wr.alloc (.cells #[.int .u8 y] e)) := by
  obtain ⟨i0, hi, hz0, hz1, hz2⟩ := info_parts hinfo
  refine wpList_append_own _ hgd s x t ho base e i0 (.int .u8 0) 1 1 ht hi hz0 hz1 hz2 rfl (by decide) v l.length (bts l) hs (World.ownsRow.alloc hown _) ⟨wr.heap.size, 0, none⟩ 1 1 [.int .u8 y] hx rfl ?_ ?_ ?_ ?_ ?_ ?_
  · intro j u hj
    match j, hj with
    | 0, hj => simp at hj; subst hj; simp [Addr.add]
  · intro u hu; simp at hu; subst hu; rfl
  · unfold maxLen; omega
  · omega
  · simp; omega
  · intro v' w' h1 h2 h3
    refine h v' w' (OwnB.snoc h1 b hy) (fun hn => by have := h3.1 hn; omega) (fun w0 hb => ?_) ?_
    · exact Below.grown (hb.alloc hbase _) h2 (by simp; omega) (fun k hk => (World.ownsRow.lt hown k hk).1)
    · have := h2.size; simp at this; omega

/-- 'append(v, x, y)' of two bytes onto bytes that are owned, at a step of a statement that leaves its order open; the two lie in the block B. -/
theorem step_pair {P : Program} {ops : Array Oper} {o : Oper} {a : Act} {K : Act → World → Prop} {Q : Exit → Act → World → Prop} {E : Prop} {w : World} (hgd : o.guard = none) (s x : Operand) (t : TypeId)
    (ho : o.op = .call { callee := .builtin .append, args := #[s, x], argTypes := #[t, t] }) (base : Nat) (e : TypeId) (ht : P.underlying t = some (.slice e))
    (hinfo : (P.info? e).map (fun i => (i.zero, i.size, i.bytes)) = some (some (.int .u8 0), 1, 1)) (v : Value) (l : List UInt8) (hs : a.eval s = v) (hown : OwnB w base e v l)
    (B : Nat) (b c : UInt8) (fr : Nat × Nat) (hx : a.eval x = .slice (some ⟨B, 0, none⟩) 2 2) (hB : w.heap[B]? = some (.cells #[.int .u8 (b.toNat : Int), .int .u8 (c.toNat : Int)] e fr)) (hlen : l.length < 140737488355326) (hbase : base ≤ w.heap.size)
    (h : ∀ g cap w', OwnB w' base e (.slice (some ⟨g, 0, none⟩) (l.length + 2) cap) (l ++ [b, c]) → (∀ w0, Below base w0 w → Below base w0 w') → w.heap.size ≤ w'.heap.size → K (a.put o.dst (.slice (some ⟨g, 0, none⟩) (l.length + 2) cap)) w') :
    if Region.wanted o (yielded ops a.tmps) = true then Oper.wp P o a w K Q else E := by
  obtain ⟨i0, hi, hz0, hz1, hz2⟩ := info_parts hinfo
  refine step_append_lies w hgd s x t ho base e i0 (.int .u8 0) 1 1 ht hi hz0 hz1 hz2 rfl (by decide) v l.length (bts l) hs hown ⟨B, 0, none⟩ 2 2 (bts [b, c]) hx rfl (fun j u hu => World.news_of_block hB j u hu) ?_ (by decide) (by unfold maxLen; omega) (by omega) hbase _ rfl ?_
  · intro u hu
    simp [bts] at hu
    rcases hu with rfl | rfl <;> rfl
  · intro g cap w' h1 h2 h3 h4
    refine h g cap w' ?_ (fun w0 hb => ?_) h2.size
    · unfold OwnB
      rw [bts_append]
      simpa using h1
    · exact Below.grown hb h2 hbase (fun k hk => (World.ownsRow.lt hown k hk).1)

theorem OwnB.form {w : World} {base : Nat} {e : TypeId} {v : Value} {l : List UInt8} (h : OwnB w base e v l) (hne : v ≠ .slice none 0 0) : ∃ ad cap, v = .slice (some ad) l.length cap := by
  rcases h.2 with ⟨rfl, _⟩ | ⟨g, cap, cur, rfl, _⟩
  · exact absurd rfl hne
  · exact ⟨_, _, rfl⟩

theorem OwnB.drew {w : World} {base : Nat} {e : TypeId} {v : Value} {l : List UInt8} (h : OwnB w base e v l) : OwnB w.drew base e v l := h

/-- 'make([]byte, 0, n)'. -/
theorem wpList_make0 {P : Program} {w : World} {ops : Array Oper} {rest : List Oper} {o : Oper} {a : Act} {Q : Exit → Act → World → Prop}
    (hg : o.guard = none) (l c : Operand) (t : TypeId) (hop : o.op = Op.makeSlice t l c) (base : Nat) (e : TypeId) (ht : P.underlying t = some (.slice e))
    (hinfo : (P.info? e).map (fun i => (i.zero, i.size, i.bytes)) = some (some (.int .u8 0), 1, 1)) (C : Int) (n : Nat) (hl : a.eval l = .int .i64 0) (hc : a.eval c = .int .i64 C) (hC : C = (n : Int)) (hn : n ≤ 281474976710656) (hbase : base ≤ w.heap.size)
    (h : ∀ w', OwnB w' base e (.slice (some ⟨w.heap.size, 0, none⟩) 0 n) [] → (∀ w0, Below base w0 w → Below base w0 w') → w.heap.size ≤ w'.heap.size → wpList P ops Q rest (a.put o.dst (.slice (some ⟨w.heap.size, 0, none⟩) 0 n)) w') :
    wpList P ops Q (o :: rest) a w := by
  obtain ⟨i0, hi, hz0, hz1, hz2⟩ := info_parts hinfo
  refine wpList_make_own w hg l c t hop base e i0 (.int .u8 0) 1 ht hi hz0 hz1 .i64 .i64 C n hl hc hC (by rw [hz2]; omega) (by unfold maxLen; omega) hbase ?_
  intro w' h1 h2
  exact h w' h1 (fun w0 hb => Below.grown hb h2 hbase (fun k hk => by cases hk)) h2.size

/-- 'string([]byte{c})'. -/
theorem one_text {P : Program} (w : World) (src dst e : TypeId) (c : UInt8) (hs : P.underlying src = some (.slice e)) (he : P.underlying e = some (.int .u8)) (hd : P.underlying dst = some .string) :
    (convert src dst (.slice (some ⟨w.heap.size, 0, none⟩) 1 1)).run P (w.alloc (.cells #[.int .u8 (c.toNat : Int)] e)) = .ok (.string ⟨[c].toArray⟩) (w.alloc (.cells #[.int .u8 (c.toNat : Int)] e)) := by
  refine run_convert_bytes_back _ src dst e ⟨w.heap.size, 0, none⟩ 1 [c] hs he hd fun j hj => ?_
  match j, hj with
  | 0, _ => simp [Addr.add]

theorem one_text_of {P : Program} (w : World) (src dst e : TypeId) (c : UInt8) (x : Int) (hx : x = (c.toNat : Int)) (hs : P.underlying src = some (.slice e)) (he : P.underlying e = some (.int .u8)) (hd : P.underlying dst = some .string) :
    (convert src dst (.slice (some ⟨w.heap.size, 0, none⟩) 1 1)).run P (w.alloc (.cells #[.int .u8 x] e)) = .ok (.string ⟨[c].toArray⟩) (w.alloc (.cells #[.int .u8 x] e)) := by
  subst hx; exact one_text w src dst e c hs he hd

theorem ret_str {a b : List UInt8} (h : a = b) : Ending.returned (.string ⟨a.toArray⟩) = .returned (.string ⟨b.toArray⟩) := by rw [h]
theorem ret_str_bool {a b : List UInt8} {c : Bool} (h : a = b) : Ending.returned (.tuple #[.string ⟨a.toArray⟩, .bool c]) = .returned (.tuple #[.string ⟨b.toArray⟩, .bool c]) := by rw [h]
theorem ret_int {k : IntKind} {a b : Int} (h : a = b) : Ending.returned (.int k a) = .returned (.int k b) := by rw [h]

end Go.Proofs.Ytpgcfgbhkodmeaa
