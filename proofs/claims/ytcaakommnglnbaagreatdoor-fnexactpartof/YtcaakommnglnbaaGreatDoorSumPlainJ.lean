/- Texts that stand in one: SumPlain, Bytes. -/
import Derived.WalkKit
import Derived.Laws.BitsAllLaws
import Derived.Laws.IdiomStrings
import Derived.Deep.AppendLies
namespace Go.Proofs.YtcaakommnglnbaaGreatDoor
open Go.RowKit

/-- What one step makes of a sum. -/
def sumBit (n : Nat) : Nat := if n % 2 = 1 then n / 2 ^^^ 3558460437 else n / 2
def sumTab : List Nat := [0, 1166650509, 2333301018, 3466261911, 3189058079, 4221339282, 889615109, 1888477064, 3558460437, 2442158232, 1594529039, 444807554, 1779230218, 797264519, 3776954128, 2761298845]
/-- Four steps, by the table. -/
def sumLook (n : Nat) : Nat := n / 16 ^^^ sumTab.getD (n % 16) 0
/-- What a byte makes of a sum. -/
def sumByte (s b : Nat) : Nat := sumLook (sumLook (s ^^^ b))
def sumAll (s : Nat) (l : List UInt8) : Nat := l.foldl (fun s b => sumByte s b.toNat) s

theorem xor_two (a b : Nat) : (a ^^^ b) % 2 = (a + b) % 2 := by
  have h := Nat.xor_mod_two_pow (a := a) (b := b) (n := 1)
  rw [Nat.pow_one] at h
  rw [h]
  rcases Nat.mod_two_eq_zero_or_one a with ha | ha <;> rcases Nat.mod_two_eq_zero_or_one b with hb | hb <;> rw [ha, hb] <;> simp <;> omega
theorem xor_inj_right {s a b : Nat} (h : a ^^^ s = b ^^^ s) : a = b := by
  have := congrArg (· ^^^ s) h
  simpa [Nat.xor_assoc, Nat.xor_self] using this
theorem xor_inj_left {s a b : Nat} (h : s ^^^ a = s ^^^ b) : a = b := by
  rw [Nat.xor_comm s a, Nat.xor_comm s b] at h
  exact xor_inj_right h

theorem sumBit_xor (a b : Nat) : sumBit (a ^^^ b) = sumBit a ^^^ sumBit b := by
  have h := xor_two a b
  unfold sumBit
  rw [h, Nat.xor_div_two]
  rcases Nat.mod_two_eq_zero_or_one a with ha | ha <;> rcases Nat.mod_two_eq_zero_or_one b with hb | hb
  · rw [if_neg (by omega), if_neg (by omega), if_neg (by omega)]
  · rw [if_pos (by omega), if_neg (by omega), if_pos (by omega), Nat.xor_assoc]
  · rw [if_pos (by omega), if_pos (by omega), if_neg (by omega), Nat.xor_assoc, Nat.xor_assoc, Nat.xor_comm (b / 2)]
  · rw [if_neg (by omega), if_pos (by omega), if_pos (by omega)]
    rw [Nat.xor_assoc, Nat.xor_comm 3558460437 (b / 2 ^^^ 3558460437), Nat.xor_assoc (b / 2), Nat.xor_self, Nat.xor_zero]

theorem sumBit_twice (m : Nat) : sumBit (2 * m) = m := by
  unfold sumBit
  rw [if_neg (by omega)]
  omega

theorem split16 (n : Nat) : n = 2 * (2 * (2 * (2 * (n / 16)))) ^^^ n % 16 := by
  have h : n = 2 ^ 4 * (n / 16) + n % 16 := by omega
  have hlt : n % 16 < 2 ^ 4 := by omega
  have e : 2 * (2 * (2 * (2 * (n / 16)))) = 2 ^ 4 * (n / 16) := by omega
  rw [e]
  refine Nat.eq_of_testBit_eq fun j => ?_
  rw [Nat.testBit_xor]
  conv => lhs; rw [h]
  rw [Nat.testBit_two_pow_mul_add _ hlt, Nat.testBit_two_pow_mul]
  by_cases hj : j < 4
  · rw [if_pos hj]
    simp [show ¬ 4 ≤ j by omega]
  · rw [if_neg hj]
    have : (n % 16).testBit j = false := Nat.testBit_lt_two_pow (Nat.lt_of_lt_of_le hlt (Nat.pow_le_pow_right (by omega) (by omega)))
    simp [this, show 4 ≤ j by omega]

theorem sumBit_small (k : Nat) (h : k < 16) : sumBit (sumBit (sumBit (sumBit k))) = sumTab.getD k 0 := by
  have : ∀ k : Fin 16, sumBit (sumBit (sumBit (sumBit k.val))) = sumTab.getD k.val 0 := by decide +kernel
  exact this ⟨k, h⟩

/-- Four steps are one look. -/
theorem sumBit_four (n : Nat) : sumBit (sumBit (sumBit (sumBit n))) = sumLook n := by
  conv => lhs; rw [split16 n]
  rw [sumBit_xor, sumBit_xor, sumBit_xor, sumBit_xor, sumBit_twice, sumBit_twice, sumBit_twice, sumBit_twice, sumBit_small _ (by omega)]
  rfl

def sumBits : Nat → Nat → Nat
  | 0, n => n
  | k + 1, n => sumBits k (sumBit n)
theorem sumBits_eight (n : Nat) : sumBits 8 n = sumLook (sumLook n) := by
  rw [← sumBit_four n, ← sumBit_four]
  rfl

theorem tab_lt (k : Nat) : sumTab.getD k 0 < 4294967296 := by
  by_cases h : k < 16
  · have : ∀ k : Fin 16, sumTab.getD k.val 0 < 4294967296 := by decide +kernel
    exact this ⟨k, h⟩
  · rw [List.getD_eq_getElem?_getD, List.getElem?_eq_none (by simp [sumTab]; omega)]
    decide

theorem sumBit_lt {n : Nat} (h : n < 4294967296) : sumBit n < 4294967296 := by
  unfold sumBit
  split
  · exact Nat.xor_lt_two_pow (n := 32) (by omega) (by omega)
  · omega
theorem sumLook_lt {n : Nat} (h : n < 4294967296) : sumLook n < 4294967296 :=
  Nat.xor_lt_two_pow (n := 32) (by omega) (tab_lt _)
theorem xor_lt32 {a b : Nat} (ha : a < 4294967296) (hb : b < 4294967296) : a ^^^ b < 4294967296 := Nat.xor_lt_two_pow (n := 32) ha hb
theorem sumByte_lt {s b : Nat} (hs : s < 4294967296) (hb : b < 256) : sumByte s b < 4294967296 :=
  sumLook_lt (sumLook_lt (xor_lt32 hs (by omega)))
theorem sumAll_lt {s : Nat} {l : List UInt8} (hs : s < 4294967296) : sumAll s l < 4294967296 := by
  induction l generalizing s with
  | nil => exact hs
  | cons b l ih => exact ih (sumByte_lt hs b.toNat_lt)

theorem sumAll_append (s : Nat) (l m : List UInt8) : sumAll s (l ++ m) = sumAll (sumAll s l) m := by simp [sumAll]
theorem sumAll_snoc (s : Nat) (l : List UInt8) (b : UInt8) : sumAll s (l ++ [b]) = sumByte (sumAll s l) b.toNat := by simp [sumAll]

/-! A look loses nothing. -/
theorem tab_top (j k : Nat) (hj : j < 16) (hk : k < 16) (h : sumTab.getD j 0 / 2 ^ 28 = sumTab.getD k 0 / 2 ^ 28) : j = k := by
  have : ∀ j k : Fin 16, sumTab.getD j.val 0 / 2 ^ 28 = sumTab.getD k.val 0 / 2 ^ 28 → j.val = k.val := by decide +kernel
  exact this ⟨j, hj⟩ ⟨k, hk⟩ h

theorem xor_top {a b : Nat} (ha : a < 2 ^ 28) : (a ^^^ b) / 2 ^ 28 = b / 2 ^ 28 := by
  rw [← Nat.shiftRight_eq_div_pow, Nat.shiftRight_xor_distrib, Nat.shiftRight_eq_div_pow, Nat.shiftRight_eq_div_pow, Nat.div_eq_of_lt ha, Nat.zero_xor]

theorem sumLook_inj {a b : Nat} (ha : a < 4294967296) (hb : b < 4294967296) (h : sumLook a = sumLook b) : a = b := by
  have h0 := congrArg (· / 2 ^ 28) h
  simp only [sumLook] at h0
  rw [xor_top (by omega), xor_top (by omega)] at h0
  have hm := tab_top _ _ (by omega) (by omega) h0
  simp only [sumLook] at h
  rw [hm] at h
  have := xor_inj_right h
  omega


theorem sumByte_inj_byte {s a b : Nat} (hs : s < 4294967296) (ha : a < 256) (hb : b < 256) (h : sumByte s a = sumByte s b) : a = b := by
  have h1 : s ^^^ a < 4294967296 := xor_lt32 hs (by omega)
  have h2 : s ^^^ b < 4294967296 := xor_lt32 hs (by omega)
  exact xor_inj_left (sumLook_inj h1 h2 (sumLook_inj (sumLook_lt h1) (sumLook_lt h2) h))
theorem sumByte_inj_sum {s t b : Nat} (hs : s < 4294967296) (ht : t < 4294967296) (hb : b < 256) (h : sumByte s b = sumByte t b) : s = t := by
  have h1 : s ^^^ b < 4294967296 := xor_lt32 hs (by omega)
  have h2 : t ^^^ b < 4294967296 := xor_lt32 ht (by omega)
  exact xor_inj_right (sumLook_inj h1 h2 (sumLook_inj (sumLook_lt h1) (sumLook_lt h2) h))
theorem sumAll_inj {s t : Nat} (l : List UInt8) (hs : s < 4294967296) (ht : t < 4294967296) (h : sumAll s l = sumAll t l) : s = t := by
  induction l generalizing s t with
  | nil => exact h
  | cons b l ih => exact sumByte_inj_sum hs ht b.toNat_lt (ih (sumByte_lt hs b.toNat_lt) (sumByte_lt ht b.toNat_lt) h)

/-- A text with one byte turned has another sum. -/
theorem sumAll_turned {s : Nat} (l m : List UInt8) (b c : UInt8) (hs : s < 4294967296) (h : sumAll s (l ++ b :: m) = sumAll s (l ++ c :: m)) : b = c := by
  rw [sumAll_append, sumAll_append] at h
  have h0 := sumAll_lt (l := l) hs
  have h1 := sumAll_inj m (sumByte_lt h0 b.toNat_lt) (sumByte_lt h0 c.toNat_lt) h
  exact UInt8.toNat_inj.1 (sumByte_inj_byte h0 b.toNat_lt c.toNat_lt h1)

/-! A sum as four bytes. -/
def four (n : Nat) : List UInt8 := [UInt8.ofNat (n / 16777216), UInt8.ofNat (n / 65536), UInt8.ofNat (n / 256), UInt8.ofNat n]
theorem four_length (n : Nat) : (four n).length = 4 := rfl
theorem four_inj {a b : Nat} (ha : a < 4294967296) (hb : b < 4294967296) (h : four a = four b) : a = b := by
  simp only [four, List.cons.injEq, and_true] at h
  obtain ⟨h1, h2, h3, h4⟩ := h
  have e1 := congrArg UInt8.toNat h1
  have e2 := congrArg UInt8.toNat h2
  have e3 := congrArg UInt8.toNat h3
  have e4 := congrArg UInt8.toNat h4
  simp only [UInt8.toNat_ofNat'] at e1 e2 e3 e4
  omega

end Go.Proofs.YtcaakommnglnbaaGreatDoor

namespace Go.Proofs.YtcaakommnglnbaaGreatDoor
open Go.RowKit

/-- A relation of a loop behind one door, so that no tactic takes it apart. -/
structure Box (p : Prop) : Prop where
  out : p

/-- The cells of a list of bytes. -/
def bts (l : List UInt8) : List Value := l.map fun b => .int .u8 (b.toNat : Int)

theorem bts_length (l : List UInt8) : (bts l).length = l.length := by simp [bts]
theorem bts_append (l m : List UInt8) : bts (l ++ m) = bts l ++ bts m := by simp [bts]
theorem bts_one (b : UInt8) : bts [b] = [.int .u8 (b.toNat : Int)] := rfl

/-- The slice value v owns the bytes l. -/
def OwnB (w : World) (base : Nat) (e : TypeId) (v : Value) (l : List UInt8) : Prop := w.ownsRow base e 1 v l.length (bts l)

theorem OwnB.alloc {w : World} {base : Nat} {e : TypeId} {v : Value} {l : List UInt8} (h : OwnB w base e v l) (o : Obj) : OwnB (w.alloc o) base e v l := World.ownsRow.alloc h o

theorem OwnB.snoc {w : World} {base : Nat} {e : TypeId} {v : Value} {l : List UInt8} {x : Int} (h : w.ownsRow base e 1 v (l.length + 1) (bts l ++ [.int .u8 x])) (b : UInt8) (hb : x = (b.toNat : Int)) : OwnB w base e v (l ++ [b]) := by
  unfold OwnB
  rw [bts_append, bts_one, List.length_append, List.length_singleton, ← hb]
  exact h

/-- 'string(v)' of bytes that are owned. -/
theorem OwnB.text {P : Program} {w : World} {base : Nat} {e : TypeId} {v : Value} {l : List UInt8} (h : OwnB w base e v l) (src dst : TypeId) (hs : P.underlying src = some (.slice e)) (he : P.underlying e = some (.int .u8)) (hd : P.underlying dst = some .string) (hne : v ≠ .slice none 0 0) :
    (convert src dst v).run P w = .ok (.string ⟨l.toArray⟩) w := by
  rcases h.2 with ⟨rfl, _⟩ | ⟨g, cap, cur, rfl, hb, hg, rest⟩
  · exact absurd rfl hne
  · refine run_convert_bytes_back w src dst e _ cap l hs he hd fun j hj => ?_
    refine World.ownsRow.cells h (g := g) rfl j _ ?_
    simp [bts, hj]

/-- 'append(v, b)' of one byte onto bytes that are owned. -/
theorem wpList_snoc {P : Program} {ops : Array Oper} {rest : List Oper} {o : Oper} {a : Act} {Q : Exit → Act → World → Prop} {wr : World} (hgd : o.guard = none) (s x : Operand) (t : TypeId)
    (ho : o.op = .call { callee := .builtin .append, args := #[s, x], argTypes := #[t, t] }) (base : Nat) (e : TypeId) (ht : P.underlying t = some (.slice e))
    (hinfo : (P.info? e).map (fun i => (i.zero, i.size, i.bytes)) = some (some (.int .u8 0), 1, 1)) (v : Value) (l : List UInt8) (hs : a.eval s = v) (hown : OwnB wr base e v l)
    (y : Int) (b : UInt8) (hx : a.eval x = .slice (some ⟨wr.heap.size, 0, none⟩) 1 1) (hy : y = (b.toNat : Int)) (hlen : l.length < 140737488355328) (hbase : base ≤ wr.heap.size)
    (h : ∀ v' w', OwnB w' base e v' (l ++ [b]) → v' ≠ .slice none 0 0 → (∀ w0, Below base w0 wr → Below base w0 w') → wr.heap.size ≤ w'.heap.size → wpList P ops Q rest (a.put o.dst v') w') :
    wpList P ops Q (o :: rest) a (wr.alloc (.cells #[.int .u8 y] e)) := by
  obtain ⟨i0, hi, hz0, hz1, hz2⟩ := info_parts hinfo
  refine wpList_append_own _ hgd s x t ho base e i0 (.int .u8 0) 1 1 ht hi hz0 hz1 hz2 rfl (by decide) v l.length (bts l) hs (World.ownsRow.alloc hown _) ⟨wr.heap.size, 0, none⟩ 1 1 [.int .u8 y] hx rfl ?_ ?_ ?_ ?_ ?_ ?_
  · intro j u hj
    match j, hj with
    | 0, hj => simp at hj; subst hj; simp [Addr.add]
  · intro u hu; simp at hu; subst hu; rfl
  · unfold maxLen; omega
  · omega
  · simp; omega
  · intro v' w' h1 h2 h3
    refine h v' w' (OwnB.snoc h1 b hy) (fun hn => by have := h3.1 hn; omega) (fun w0 hb => ?_) ?_
    · exact Below.grown (hb.alloc hbase _) h2 (by simp; omega) (fun k hk => (World.ownsRow.lt hown k hk).1)
    · have := h2.size; simp at this; omega

/-- 'append(v, x, y)' of two bytes onto bytes that are owned, at a step of a statement that leaves its order open; the two lie in the block B. -/
theorem step_pair {P : Program} {ops : Array Oper} {o : Oper} {a : Act} {K : Act → World → Prop} {Q : Exit → Act → World → Prop} {E : Prop} {w : World} (hgd : o.guard = none) (s x : Operand) (t : TypeId)
    (ho : o.op = .call { callee := .builtin .append, args := #[s, x], argTypes := #[t, t] }) (base : Nat) (e : TypeId) (ht : P.underlying t = some (.slice e))
    (hinfo : (P.info? e).map (fun i => (i.zero, i.size, i.bytes)) = some (some (.int .u8 0), 1, 1)) (v : Value) (l : List UInt8) (hs : a.eval s = v) (hown : OwnB w base e v l)
    (B : Nat) (b c : UInt8) (fr : Nat × Nat) (hx : a.eval x = .slice (some ⟨B, 0, none⟩) 2 2) (hB : w.heap[B]? = some (.cells #[.int .u8 (b.toNat : Int), .int .u8 (c.toNat : Int)] e fr)) (hlen : l.length < 140737488355326) (hbase : base ≤ w.heap.size)
    (h : ∀ g cap w', OwnB w' base e (.slice (some ⟨g, 0, none⟩) (l.length + 2) cap) (l ++ [b, c]) → (∀ w0, Below base w0 w → Below base w0 w') → w.heap.size ≤ w'.heap.size → K (a.put o.dst (.slice (some ⟨g, 0, none⟩) (l.length + 2) cap)) w') :
    if Region.wanted o (yielded ops a.tmps) = true then Oper.wp P o a w K Q else E := by
  obtain ⟨i0, hi, hz0, hz1, hz2⟩ := info_parts hinfo
  refine step_append_lies w hgd s x t ho base e i0 (.int .u8 0) 1 1 ht hi hz0 hz1 hz2 rfl (by decide) v l.length (bts l) hs hown ⟨B, 0, none⟩ 2 2 (bts [b, c]) hx rfl (fun j u hu => World.news_of_block hB j u hu) ?_ (by decide) (by unfold maxLen; omega) (by omega) hbase _ rfl ?_
  · intro u hu
    simp [bts] at hu
    rcases hu with rfl | rfl <;> rfl
  · intro g cap w' h1 h2 h3 h4
    refine h g cap w' ?_ (fun w0 hb => ?_) h2.size
    · unfold OwnB
      rw [bts_append]
      simpa using h1
    · exact Below.grown hb h2 hbase (fun k hk => (World.ownsRow.lt hown k hk).1)

theorem OwnB.form {w : World} {base : Nat} {e : TypeId} {v : Value} {l : List UInt8} (h : OwnB w base e v l) (hne : v ≠ .slice none 0 0) : ∃ ad cap, v = .slice (some ad) l.length cap := by
  rcases h.2 with ⟨rfl, _⟩ | ⟨g, cap, cur, rfl, _⟩
  · exact absurd rfl hne
  · exact ⟨_, _, rfl⟩

theorem OwnB.drew {w : World} {base : Nat} {e : TypeId} {v : Value} {l : List UInt8} (h : OwnB w base e v l) : OwnB w.drew base e v l := h

/-- 'make([]byte, 0, n)'. -/
theorem wpList_make0 {P : Program} {w : World} {ops : Array Oper} {rest : List Oper} {o : Oper} {a : Act} {Q : Exit → Act → World → Prop}
    (hg : o.guard = none) (l c : Operand) (t : TypeId) (hop : o.op = Op.makeSlice t l c) (base : Nat) (e : TypeId) (ht : P.underlying t = some (.slice e))
    (hinfo : (P.info? e).map (fun i => (i.zero, i.size, i.bytes)) = some (some (.int .u8 0), 1, 1)) (C : Int) (n : Nat) (hl : a.eval l = .int .i64 0) (hc : a.eval c = .int .i64 C) (hC : C = (n : Int)) (hn : n ≤ 281474976710656) (hbase : base ≤ w.heap.size)
    (h : ∀ w', OwnB w' base e (.slice (some ⟨w.heap.size, 0, none⟩) 0 n) [] → (∀ w0, Below base w0 w → Below base w0 w') → w.heap.size ≤ w'.heap.size → wpList P ops Q rest (a.put o.dst (.slice (some ⟨w.heap.size, 0, none⟩) 0 n)) w') :
    wpList P ops Q (o :: rest) a w := by
  obtain ⟨i0, hi, hz0, hz1, hz2⟩ := info_parts hinfo
  refine wpList_make_own w hg l c t hop base e i0 (.int .u8 0) 1 ht hi hz0 hz1 .i64 .i64 C n hl hc hC (by rw [hz2]; omega) (by unfold maxLen; omega) hbase ?_
  intro w' h1 h2
  exact h w' h1 (fun w0 hb => Below.grown hb h2 hbase (fun k hk => by cases hk)) h2.size

/-- 'string([]byte{c})'. -/
theorem one_text {P : Program} (w : World) (src dst e : TypeId) (c : UInt8) (hs : P.underlying src = some (.slice e)) (he : P.underlying e = some (.int .u8)) (hd : P.underlying dst = some .string) :
    (convert src dst (.slice (some ⟨w.heap.size, 0, none⟩) 1 1)).run P (w.alloc (.cells #[.int .u8 (c.toNat : Int)] e)) = .ok (.string ⟨[c].toArray⟩) (w.alloc (.cells #[.int .u8 (c.toNat : Int)] e)) := by
  refine run_convert_bytes_back _ src dst e ⟨w.heap.size, 0, none⟩ 1 [c] hs he hd fun j hj => ?_
  match j, hj with
  | 0, _ => simp [Addr.add]

theorem one_text_of {P : Program} (w : World) (src dst e : TypeId) (c : UInt8) (x : Int) (hx : x = (c.toNat : Int)) (hs : P.underlying src = some (.slice e)) (he : P.underlying e = some (.int .u8)) (hd : P.underlying dst = some .string) :
    (convert src dst (.slice (some ⟨w.heap.size, 0, none⟩) 1 1)).run P (w.alloc (.cells #[.int .u8 x] e)) = .ok (.string ⟨[c].toArray⟩) (w.alloc (.cells #[.int .u8 x] e)) := by
  subst hx; exact one_text w src dst e c hs he hd

theorem ret_str {a b : List UInt8} (h : a = b) : Ending.returned (.string ⟨a.toArray⟩) = .returned (.string ⟨b.toArray⟩) := by rw [h]
theorem ret_str_bool {a b : List UInt8} {c : Bool} (h : a = b) : Ending.returned (.tuple #[.string ⟨a.toArray⟩, .bool c]) = .returned (.tuple #[.string ⟨b.toArray⟩, .bool c]) := by rw [h]
theorem ret_int {k : IntKind} {a b : Int} (h : a = b) : Ending.returned (.int k a) = .returned (.int k b) := by rw [h]

end Go.Proofs.YtcaakommnglnbaaGreatDoor
