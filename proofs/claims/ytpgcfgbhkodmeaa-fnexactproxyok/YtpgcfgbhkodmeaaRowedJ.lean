/- Texts that stand in one: Rowed, Base, Ints, Touch. -/
import Derived.Test.YtpgcfgbhkodmeaaSkBaseJ
import Derived.Laws.OwnMore
import Derived.Test.YtpgcfgbhkodmeaaChecked
import Derived.Lib.QuietBelow
import Derived.BigQuiet
namespace Go.Proofs.Ytpgcfgbhkodmeaa
open Go.RowKit

/-- The slice value v owns the cells xs. -/
def OwnV (w : World) (base : Nat) (e : TypeId) (v : Value) (xs : List Value) : Prop := w.ownsRow base e 1 v xs.length xs

theorem OwnV.alloc {w : World} {base : Nat} {e : TypeId} {v : Value} {xs : List Value} (h : OwnV w base e v xs) (o : Obj) : OwnV (w.alloc o) base e v xs := World.ownsRow.alloc h o
theorem OwnV.lt {w : World} {base : Nat} {e : TypeId} {v : Value} {xs : List Value} (h : OwnV w base e v xs) (k : Nat) (hk : v.ownBlock = some k) : base ≤ k ∧ k < w.heap.size := World.ownsRow.lt h k hk
theorem OwnV.mono {w : World} {base base' : Nat} {e : TypeId} {v : Value} {xs : List Value} (h : OwnV w base e v xs) (hb : base' ≤ base) : OwnV w base' e v xs := by
  refine ⟨h.1, ?_⟩
  rcases h.2 with h | ⟨g, cap, cur, hv, hg, rest⟩
  · exact .inl h
  · exact .inr ⟨g, cap, cur, hv, Nat.le_trans hb hg, rest⟩

/-- It stays owned where its block is as it was. -/
theorem OwnV.kept {w w' : World} {base : Nat} {e : TypeId} {v : Value} {xs : List Value} (h : OwnV w base e v xs) (hk : ∀ k, v.ownBlock = some k → w'.heap[k]? = w.heap[k]?) : OwnV w' base e v xs := by
  refine ⟨h.1, ?_⟩
  rcases h.2 with hn | ⟨g, cap, cur, rfl, hb, hg, rest⟩
  · exact .inl hn
  · exact .inr ⟨g, cap, cur, rfl, hb, by rw [hk g rfl]; exact hg, rest⟩
theorem OwnV.below {w w' : World} {B base : Nat} {e : TypeId} {v : Value} {xs : List Value} (h : OwnV w base e v xs) (hb : Below B w w') (hB : w.heap.size ≤ B) : OwnV w' base e v xs :=
  h.kept fun k hk => hb.block k (Nat.lt_of_lt_of_le (h.lt k hk).2 hB)
theorem OwnV.grown {w w' : World} {row : Option Nat} {base : Nat} {e : TypeId} {v : Value} {xs : List Value} (h : OwnV w base e v xs) (hb : w.grownBy w' row) (hne : ∀ k, v.ownBlock = some k → row ≠ some k) : OwnV w' base e v xs :=
  h.kept fun k hk => hb.block k (h.lt k hk).2 (fun e => hne k hk e.symm)

/-- What it looks like, cell by cell. -/
theorem OwnV.shape {w : World} {base : Nat} {e : TypeId} {v : Value} {xs : List Value} (h : OwnV w base e v xs) :
    ∃ a cap, v = .slice a xs.length cap ∧ ∀ j (hj : j < xs.length), ∃ g, a = some ⟨g, 0, none⟩ ∧ w.cell? ⟨g, j, none⟩ = some xs[j] ∧ w.frozen? ⟨g, j, none⟩ = false ∧ base ≤ g ∧ g < w.heap.size := by
  have h0 := h
  rcases h.2 with ⟨rfl, hn⟩ | ⟨g, cap, cur, rfl, hb, hg, rest⟩
  · have hx : xs = [] := List.length_eq_zero_iff.1 hn
    subst hx
    exact ⟨none, 0, rfl, fun j hj => by simp at hj⟩
  · refine ⟨_, _, rfl, fun j hj => ⟨g, rfl, ?_, World.ownsRow.frozenAt h0 j, hb, (Array.getElem?_eq_some_iff.1 hg).1⟩⟩
    rw [World.ownsRow.cellAt h0 j (by omega), List.getElem?_eq_getElem hj]

theorem OwnV.nil (w : World) (base : Nat) (e : TypeId) : OwnV w base e (.slice none 0 0) [] := World.ownsRow_nil w base e 1
theorem OwnV.none_len {w : World} {base : Nat} {e : TypeId} {xs : List Value} (h : OwnV w base e (.slice none 0 0) xs) : xs = [] := by
  rcases h.2 with ⟨_, hn⟩ | ⟨g, cap, cur, hv, _⟩
  · exact List.length_eq_zero_iff.1 hn
  · simp at hv

/-- A store into it. -/
theorem OwnV.stored {w : World} {base : Nat} {e : TypeId} {g n cap : Nat} {xs : List Value} (h : OwnV w base e (.slice (some ⟨g, 0, none⟩) n cap) xs) (hn : n = xs.length) (j : Nat) (u : Value) :
    OwnV (w.setCell ⟨g, j, none⟩ u) base e (.slice (some ⟨g, 0, none⟩) n cap) (xs.set j u) ∧ w.grownBy (w.setCell ⟨g, j, none⟩ u) (some g) := by
  subst hn
  have := World.ownsRow.stored h j u
  refine ⟨?_, this.2⟩
  unfold OwnV
  rw [List.length_set]
  exact this.1

theorem grownBy_refl (w : World) (row : Option Nat) : w.grownBy w row := ⟨rfl, rfl, rfl, Nat.le_refl _, fun _ _ _ => rfl⟩
theorem grownBy_trans {a b c : World} {row : Option Nat} (h : a.grownBy b row) (k : b.grownBy c row) : a.grownBy c row :=
  ⟨k.os.trans h.os, k.tape.trans h.tape, k.output.trans h.output, Nat.le_trans h.size k.size, fun j hj hr => (k.block j (Nat.lt_of_lt_of_le hj h.size) hr).trans (h.block j hj hr)⟩
theorem grownBy_below {a b : World} {row : Option Nat} (h : Below a.heap.size a b) : a.grownBy b row := ⟨h.os, h.tape, h.output, h.size, fun j hj _ => h.block j hj⟩

/-- 'append(v, x)' of one value onto a row that is owned. -/
theorem wpList_snocV {P : Program} {ops : Array Oper} {rest : List Oper} {o : Oper} {a : Act} {Q : Exit → Act → World → Prop} {wr : World} (hgd : o.guard = none) (s x : Operand) (t : TypeId)
    (ho : o.op = .call { callee := .builtin .append, args := #[s, x], argTypes := #[t, t] }) (base : Nat) (e : TypeId) (ht : P.underlying t = some (.slice e)) (z : Value) (bytes : Nat)
    (hinfo : (P.info? e).map (fun i => (i.zero, i.size, i.bytes)) = some (some z, 1, bytes)) (hz : z.cells.size = 1) (v : Value) (xs : List Value) (hs : a.eval s = v) (hown : OwnV wr base e v xs)
    (y : Value) (hx : a.eval x = .slice (some ⟨wr.heap.size, 0, none⟩) 1 1) (hy : y.oneCell' = true) (hlen : (xs.length + 1) * bytes ≤ 140737488355328) (hlen2 : xs.length < 140737488355328) (hbase : base ≤ wr.heap.size)
    (h : ∀ v' w', OwnV w' base e v' (xs ++ [y]) → v' ≠ .slice none 0 0 → (∀ w0, Below base w0 wr → Below base w0 w') → wr.heap.size ≤ w'.heap.size → wpList P ops Q rest (a.put o.dst v') w') :
    wpList P ops Q (o :: rest) a (wr.alloc (.cells #[y] e)) := by
  obtain ⟨i0, hi, hz0, hz1, hz2⟩ := info_parts hinfo
  refine wpList_append_own _ hgd s x t ho base e i0 z 1 bytes ht hi hz0 hz1 hz2 hz (by decide) v xs.length xs hs (World.ownsRow.alloc hown _) ⟨wr.heap.size, 0, none⟩ 1 1 [y] hx rfl ?_ ?_ ?_ ?_ ?_ ?_
  · intro j u hj
    match j, hj with
    | 0, hj => simp at hj; subst hj; simp [Addr.add]
  · intro u hu; simp at hu; subst hu; exact hy
  · unfold maxLen; omega
  · exact hlen
  · simp; omega
  · intro v' w' h1 h2 h3
    refine h v' w' ?_ (fun hn => by have := h3.1 hn; omega) (fun w0 hb => ?_) ?_
    · unfold OwnV; simpa using h1
    · exact Below.grown (hb.alloc hbase _) h2 (by simp; omega) (fun k hk => (World.ownsRow.lt hown k hk).1)
    · have := h2.size; simp at this; omega

/-- Texts as cells. -/
def strs (l : List ByteArray) : List Value := l.map Value.string
theorem strs_length (l : List ByteArray) : (strs l).length = l.length := by simp [strs]
theorem strs_append (l m : List ByteArray) : strs (l ++ m) = strs l ++ strs m := by simp [strs]
theorem strs_at {l : List ByteArray} {j : Nat} (h : j < l.length) : (strs l)[j]'(by rw [strs_length]; exact h) = .string l[j] := by simp [strs]
/-- Integers as cells. -/
def ints (l : List Int) : List Value := l.map (Value.int .i64)
theorem ints_length (l : List Int) : (ints l).length = l.length := by simp [ints]
theorem ints_at {l : List Int} {j : Nat} (h : j < l.length) : (ints l)[j]'(by rw [ints_length]; exact h) = .int .i64 l[j] := by simp [ints]
end Go.Proofs.Ytpgcfgbhkodmeaa

namespace Go.Proofs.Ytpgcfgbhkodmeaa
open Go.RowKit

theorem Try.info5 : (Try.prog.info? 5).map (fun i => (i.zero, i.size, i.bytes)) = some (some (.int .u8 0), 1, 1) := by kernel_rfl

/-- x lies between a and b. -/
def inN (x a b : Int) : Bool := decide (a ≤ x ∧ x ≤ b)

theorem in_any (x a b : Int) (w : World) :
    Calls Try.prog 44 #[.int .i64 x, .int .i64 a, .int .i64 b] w fun e w' => e = .returned (.bool (inN x a b)) ∧ w' = w := by
  unfold inN
  by_cases h1 : a ≤ x
  · by_cases h2 : x ≤ b
    · rw [decide_eq_true (show a ≤ x ∧ x ≤ b from ⟨h1, h2⟩)]
      go_enter Try.func44, Try.ntmps44
      go_wp2
      go_ret
      exact ⟨rfl, rfl⟩
    · rw [decide_eq_false (show ¬ (a ≤ x ∧ x ≤ b) by omega)]
      have h3 : decide (x ≤ b) = false := by simpa using h2
      go_enter Try.func44, Try.ntmps44
      go_wp2
      go_ret
      exact ⟨rfl, rfl⟩
  · rw [decide_eq_false (show ¬ (a ≤ x ∧ x ≤ b) by omega)]
    have h3 : decide (a ≤ x) = false := by simpa using h1
    go_enter Try.func44, Try.ntmps44
    go_wp2
    go_ret
    exact ⟨rfl, rfl⟩
end Go.Proofs.Ytpgcfgbhkodmeaa

namespace Go.Proofs.Ytpgcfgbhkodmeaa
open Go.RowKit Go.Sort

theorem Try.infoInt : (Try.prog.info? 3).map (fun i => (i.zero, i.size, i.bytes)) = some (some (.int .i64 0), 1, 8) := by kernel_rfl


/-- The numbers l lie at the address a, below the block B. -/
def IAt (w : World) (a : Option Addr) (l : List Int) (B : Nat) : Prop :=
  ∀ j (hj : j < l.length), ∃ g off, a = some ⟨g, off, none⟩ ∧ g < B ∧ w.cell? ⟨g, off + j, none⟩ = some (.int .i64 l[j])
theorem IAt.below {w w' : World} {a : Option Addr} {l : List Int} {B B' : Nat} (h : IAt w a l B) (hb : Below B' w w') (hB : B ≤ B') : IAt w' a l B := by
  intro j hj
  obtain ⟨g, off, ha, hg, h1⟩ := h j hj
  exact ⟨g, off, ha, hg, (hb.cell (Nat.lt_of_lt_of_le hg hB)).trans h1⟩
theorem IAt.mono {w : World} {a : Option Addr} {l : List Int} {B B' : Nat} (h : IAt w a l B) (hB : B ≤ B') : IAt w a l B' := by
  intro j hj
  obtain ⟨g, off, ha, hg, r⟩ := h j hj
  exact ⟨g, off, ha, Nat.lt_of_lt_of_le hg hB, r⟩
theorem IAt.on {w w' : World} {a : Option Addr} {l : List Int} (h : IAt w a l w.heap.size) (hb : Below w.heap.size w w') : IAt w' a l w'.heap.size := (h.below hb (Nat.le_refl _)).mono hb.size
theorem OwnV.ints {w : World} {base : Nat} {e : TypeId} {v : Value} {l : List Int} (h : OwnV w base e v (ints l)) : ∃ a cap, v = .slice a l.length cap ∧ IAt w a l w.heap.size := by
  obtain ⟨a, cap, hv, hc⟩ := h.shape
  rw [ints_length] at hv
  refine ⟨a, cap, hv, fun j hj => ?_⟩
  obtain ⟨g, ha, hcell, _, _, hg⟩ := hc j (by rw [ints_length]; exact hj)
  rw [ints_at hj] at hcell
  exact ⟨g, 0, ha, hg, by simpa using hcell⟩

set_option maxHeartbeats 1000000 in
theorem toIntS_any (w : World) (a : Option Addr) (cap : Nat) (l : List Int) (hL : IAt w a l w.heap.size) (hm : l.length ≤ 1048576) :
    Calls Try.prog 38 #[.slice a l.length cap] w fun e w' => ∃ v, e = .returned v ∧ OwnV w' w.heap.size 3 v (ints l) ∧ Below w.heap.size w w' := by
  obtain ⟨i0, hi, hz0, hz1, hz2⟩ := info_parts Try.infoInt
  obtain ⟨w0, hmk, hown0, hgr0⟩ := run_make_full (P := Try.prog) w w.heap.size 49 3 i0 (.int .i64 0) 1 Try.underlying49 hi hz0 hz1 .i64 .i64 l.length (by rw [hz2]; omega) (by unfold maxLen; omega) (Nat.le_refl _)
  have hb0 : Below w.heap.size w w0 := ⟨hgr0.os, hgr0.tape, hgr0.output, hgr0.size, fun j hj => hgr0.block j hj (by simp)⟩
  obtain ⟨G, hG⟩ : ∃ G, w.heap.size = G := ⟨_, rfl⟩
  have hown : OwnV w0 G 3 (.slice (some ⟨G, 0, none⟩) l.length l.length) (ints [] ++ List.replicate l.length (.int .i64 0)) := by
    rw [← hG]
    have := hown0
    simp only [Value.cells, Nat.mul_one, toList_madeCells_one] at this
    unfold OwnV
    simpa [Go.Proofs.Ytpgcfgbhkodmeaa.ints] using this
  rw [hG] at hmk
  clear hown0 hgr0 hi hz0 hz1 hz2
  go_enter Try.func38, Try.ntmps38
  go_wp2
  go_loopw [4] (fun i wr => Box (∃ (k : Nat), k ≤ l.length ∧ i = .int .i64 k ∧ OwnV wr G 3 (.slice (some ⟨G, 0, none⟩) l.length l.length) (ints (l.take k) ++ List.replicate (l.length - k) (.int .i64 0)) ∧ Below w.heap.size w wr))
    (fun i _ => l.length - (intOf i).toNat)
  case atStart => exact ⟨⟨0, by omega, rfl, by simpa using hown, hb0⟩⟩
  case round =>
    obtain ⟨k, hk, rfl, hown1, hbel⟩ := hrel.out
    by_cases hlt : k < l.length
    · obtain ⟨g, off, rfl, hg, hc0⟩ := (hL.below hbel (Nat.le_refl _)) k hlt
      have hlen : l.length = (ints (l.take k) ++ List.replicate (l.length - k) (Value.int .i64 0)).length := by simp [ints_length]; omega
      have hst := hown1.stored hlen k (.int .i64 l[k])
      have hset : (ints (l.take k) ++ List.replicate (l.length - k) (Value.int .i64 0)).set k (.int .i64 l[k]) = ints (l.take (k + 1)) ++ List.replicate (l.length - (k + 1)) (.int .i64 0) := by
        rw [List.set_append_right _ _ (by simp [ints_length]; omega), ints_length, List.length_take, show k - min k l.length = 0 by omega, show l.length - k = (l.length - (k + 1)) + 1 by omega, List.replicate_succ, List.set_cons_zero, List.take_succ_eq_append_getElem hlt]
        simp only [Go.Proofs.Ytpgcfgbhkodmeaa.ints, List.map_append, List.map_cons, List.map_nil, List.append_assoc]
        rfl
      rw [hset] at hst
      obtain ⟨a', cap', hv, hc⟩ := hown1.shape
      obtain ⟨g', hg', hcell, hfr, _, hgs⟩ := hc k (by omega)
      rw [hg'] at hv
      simp only [Value.slice.injEq, Option.some.injEq, Addr.mk.injEq, and_true] at hv
      obtain ⟨rfl, e1, e2⟩ := hv
      clear e1 e2
      obtain ⟨x, hx⟩ : ∃ x, l[k] = x := ⟨_, rfl⟩
      obtain ⟨u, hu⟩ : ∃ u, (ints (l.take k) ++ List.replicate (l.length - k) (Value.int .i64 0))[k]'(by omega) = u := ⟨_, rfl⟩
      rw [hx] at hc0 hst
      rw [hu] at hcell
      have HST : Hid (OwnV (wr.setCell ⟨G, k, none⟩ (.int .i64 x)) G 3 (.slice (some ⟨G, 0, none⟩) l.length l.length) (ints (l.take (k + 1)) ++ List.replicate (l.length - (k + 1)) (.int .i64 0)) ∧ Below w.heap.size w (wr.setCell ⟨G, k, none⟩ (.int .i64 x))) := ⟨hst.1, hbel.setCell (by simp; omega) _⟩
      have hi1 : (0 : Int) ≤ (k : Int) := by omega
      have hi2 : (k : Int) < (l.length : Int) := by omega
      clear hrel hL hst hset hlen hc hu hx hg' hown1 hmk hown hb0
      go_wp2
      go_roundw
      case rel =>
        try ((repeat apply Exists.intro); refine ⟨?_, rfl⟩)
        exact ⟨⟨k + 1, by omega, by go_num, HST.out.1, HST.out.2⟩⟩
      case measure => simp [intOf]; omega
    · go_wp2
      go_ret
      have hke : k = l.length := by omega
      subst hke
      simp only [List.take_length, Nat.sub_self, List.replicate_zero, List.append_nil] at hown1
      exact ⟨_, rfl, by rw [hG]; exact hown1, hbel⟩

set_option maxHeartbeats 1000000 in
theorem eqIntS_same (w : World) (a b : Option Addr) (c1 c2 : Nat) (l : List Int) (hA : IAt w a l w.heap.size) (hB : IAt w b l w.heap.size) (hl : l.length ≤ 1048576) :
    Calls Try.prog 41 #[.slice a l.length c1, .slice b l.length c2] w fun e w' => e = .returned (.bool true) ∧ Below w.heap.size w w' := by
  go_enter Try.func41, Try.ntmps41
  go_wp2
  go_loopw [5] (fun i wr => Box (∃ (k nq : Nat), k ≤ l.length ∧ i = .int .i64 k ∧ wr = w.drewN nq))
    (fun i _ => l.length - (intOf i).toNat)
  case atStart => exact ⟨⟨0, 0, by omega, rfl, rfl⟩⟩
  case round =>
    obtain ⟨k, nq, hk, rfl, rfl⟩ := hrel.out
    by_cases hlt : k < l.length
    · obtain ⟨g, off, rfl, _, hc1⟩ := hA k hlt
      obtain ⟨g2, off2, rfl, _, hc2⟩ := hB k hlt
      obtain ⟨x, hx⟩ : ∃ x, l[k] = x := ⟨_, rfl⟩
      rw [hx] at hc1 hc2
      clear hA hB hx hrel
      have hi1 : (0 : Int) ≤ (k : Int) := by omega
      have hi2 : (k : Int) < (l.length : Int) := by omega
      go_wp2
      go_quiet (fail)
      go_wp2
      go_roundw
      case rel =>
        try ((repeat apply Exists.intro); refine ⟨?_, rfl⟩)
        exact ⟨⟨k + 1, _, by omega, by go_num, rfl⟩⟩
      case measure => simp [intOf]; omega
    · go_wp2
      go_ret
      exact ⟨rfl, ⟨rfl, rfl, rfl, Nat.le_refl _, fun _ _ => rfl⟩⟩

end Go.Proofs.Ytpgcfgbhkodmeaa

namespace Go.Proofs.Ytpgcfgbhkodmeaa
open Go.RowKit

/-- Of the blocks that were there only those of S may be others. -/
def Tch (S : Nat → Prop) (w w' : World) : Prop := Below 0 w w' ∧ ∀ k, k < w.heap.size → ¬ S k → w'.heap[k]? = w.heap[k]?
theorem Tch.size {S : Nat → Prop} {w w' : World} (h : Tch S w w') : w.heap.size ≤ w'.heap.size := h.1.size
theorem Tch.of_below {S : Nat → Prop} {w w' : World} (h : Below w.heap.size w w') : Tch S w w' := ⟨h.mono (Nat.zero_le _), fun k hk _ => h.block k hk⟩
theorem Tch.of_grown {S : Nat → Prop} {w w' : World} {row : Option Nat} (h : w.grownBy w' row) (hS : ∀ k, row = some k → S k) : Tch S w w' :=
  ⟨⟨h.os, h.tape, h.output, h.size, fun _ hk => absurd hk (Nat.not_lt_zero _)⟩, fun k hk hn => h.block k hk (fun e => hn (hS k e.symm))⟩
theorem Tch.trans {S : Nat → Prop} {a b c : World} (h : Tch S a b) (k : Tch S b c) : Tch S a c :=
  ⟨h.1.trans k.1, fun j hj hn => (k.2 j (Nat.lt_of_lt_of_le hj h.size) hn).trans (h.2 j hj hn)⟩
theorem Tch.weak {S S' : Nat → Prop} {w w' : World} (h : Tch S w w') (hS : ∀ k, S k → S' k) : Tch S' w w' := ⟨h.1, fun k hk hn => h.2 k hk (fun e => hn (hS k e))⟩
theorem Tch.below {S : Nat → Prop} {w0 w w' : World} {B : Nat} (hb : Below B w0 w) (h : Tch S w w') (hB : B ≤ w.heap.size) (hS : ∀ k, S k → B ≤ k) : Below B w0 w' :=
  ⟨h.1.os.trans hb.os, h.1.tape.trans hb.tape, h.1.output.trans hb.output, Nat.le_trans hb.size h.size, fun k hk => (h.2 k (by omega) (fun e => by have := hS k e; omega)).trans (hb.block k hk)⟩
theorem Tch.keep {S : Nat → Prop} {w w' : World} (h : Tch S w w') {k : Nat} {o : Obj} (hk : w.heap[k]? = some o) (hn : ¬ S k) : w'.heap[k]? = some o := (h.2 k (Array.getElem?_eq_some_iff.1 hk).1 hn).trans hk
theorem OwnV.tch {S : Nat → Prop} {w w' : World} {base : Nat} {e : TypeId} {v : Value} {xs : List Value} (h : OwnV w base e v xs) (ht : Tch S w w') (hn : ∀ k, v.ownBlock = some k → ¬ S k) : OwnV w' base e v xs := h.kept fun k hk => ht.2 k (h.lt k hk).2 (hn k hk)
end Go.Proofs.Ytpgcfgbhkodmeaa
