/- Rows of files: a name, a text and how much of it is kept: three cells an element. Plain lemmas, no program. -/
import Derived.Test.YtpgcfgbhkodmeaaRowedJ
namespace Go.Proofs.Ytpgcfgbhkodmeaa
open Go.RowKit

structure Fil where
  nm : ByteArray
  tx : ByteArray
  kp : Int

def Fil.cells (f : Fil) : List Value := [.string f.nm, .string f.tx, .int .i64 f.kp]
def fls (L : List Fil) : List Value := L.flatMap Fil.cells

theorem fls_length (L : List Fil) : (fls L).length = L.length * 3 := by
  induction L with
  | nil => rfl
  | cons f L ih => simp [fls, Fil.cells] at *; omega
theorem fls_append (L M : List Fil) : fls (L ++ M) = fls L ++ fls M := by simp [fls]
theorem fls_one (f : Fil) : fls [f] = f.cells := by simp [fls]
theorem fls_cons (f : Fil) (L : List Fil) : fls (f :: L) = f.cells ++ fls L := by simp [fls]
theorem fls_at : ∀ (L : List Fil) (j : Nat) (h : j < L.length), (fls L)[3 * j]? = some (.string L[j].nm) ∧ (fls L)[3 * j + 1]? = some (.string L[j].tx) ∧ (fls L)[3 * j + 2]? = some (.int .i64 L[j].kp)
  | [], j, h => by simp at h
  | f :: L, 0, h => by simp [fls_cons, Fil.cells]
  | f :: L, j + 1, h => by
    have ih := fls_at L j (by simpa using h)
    have e : ∀ k, 3 * (j + 1) + k = (3 * j + k) + 3 := fun k => by omega
    rw [fls_cons]
    refine ⟨?_, ?_, ?_⟩
    · rw [show 3 * (j + 1) = 3 * j + 3 by omega]; simpa [Fil.cells] using ih.1
    · rw [e 1]; simpa [Fil.cells] using ih.2.1
    · rw [e 2]; simpa [Fil.cells] using ih.2.2

/-- The files L lie at the address a, below the block B. -/
def FAt (w : World) (a : Option Addr) (L : List Fil) (B : Nat) : Prop :=
  ∀ j (hj : j < L.length), ∃ g off, a = some ⟨g, off, none⟩ ∧ g < B ∧ w.cell? ⟨g, off + j * 3, none⟩ = some (.string L[j].nm) ∧ w.cell? ⟨g, off + j * 3 + 1, none⟩ = some (.string L[j].tx) ∧ w.cell? ⟨g, off + j * 3 + 2, none⟩ = some (.int .i64 L[j].kp)

theorem FAt.below {w w' : World} {a : Option Addr} {L : List Fil} {B B' : Nat} (h : FAt w a L B) (hb : Below B' w w') (hB : B ≤ B') : FAt w' a L B := by
  intro j hj
  obtain ⟨g, off, ha, hg, h1, h2, h3⟩ := h j hj
  exact ⟨g, off, ha, hg, (hb.cell (Nat.lt_of_lt_of_le hg hB)).trans h1, (hb.cell (Nat.lt_of_lt_of_le hg hB)).trans h2, (hb.cell (Nat.lt_of_lt_of_le hg hB)).trans h3⟩
theorem FAt.mono {w : World} {a : Option Addr} {L : List Fil} {B B' : Nat} (h : FAt w a L B) (hB : B ≤ B') : FAt w a L B' := by
  intro j hj
  obtain ⟨g, off, ha, hg, r⟩ := h j hj
  exact ⟨g, off, ha, Nat.lt_of_lt_of_le hg hB, r⟩

/-- The slice value v owns the files L. -/
def OwnF (w : World) (base : Nat) (e : TypeId) (v : Value) (L : List Fil) : Prop := w.ownsRow base e 3 v L.length (fls L)

theorem OwnF.alloc {w : World} {base : Nat} {e : TypeId} {v : Value} {L : List Fil} (h : OwnF w base e v L) (o : Obj) : OwnF (w.alloc o) base e v L := World.ownsRow.alloc h o
theorem OwnF.lt {w : World} {base : Nat} {e : TypeId} {v : Value} {L : List Fil} (h : OwnF w base e v L) (k : Nat) (hk : v.ownBlock = some k) : base ≤ k ∧ k < w.heap.size := World.ownsRow.lt h k hk
theorem OwnF.mono {w : World} {base base' : Nat} {e : TypeId} {v : Value} {L : List Fil} (h : OwnF w base e v L) (hb : base' ≤ base) : OwnF w base' e v L := by
  refine ⟨h.1, ?_⟩
  rcases h.2 with h | ⟨g, cap, cur, hv, hg, rest⟩
  · exact .inl h
  · exact .inr ⟨g, cap, cur, hv, Nat.le_trans hb hg, rest⟩
theorem OwnF.kept {w w' : World} {base : Nat} {e : TypeId} {v : Value} {L : List Fil} (h : OwnF w base e v L) (hk : ∀ k, v.ownBlock = some k → w'.heap[k]? = w.heap[k]?) : OwnF w' base e v L := by
  refine ⟨h.1, ?_⟩
  rcases h.2 with hn | ⟨g, cap, cur, rfl, hb, hg, rest⟩
  · exact .inl hn
  · exact .inr ⟨g, cap, cur, rfl, hb, by rw [hk g rfl]; exact hg, rest⟩
theorem OwnF.below {w w' : World} {B base : Nat} {e : TypeId} {v : Value} {L : List Fil} (h : OwnF w base e v L) (hb : Below B w w') (hB : w.heap.size ≤ B) : OwnF w' base e v L :=
  h.kept fun k hk => hb.block k (Nat.lt_of_lt_of_le (h.lt k hk).2 hB)
theorem OwnF.grown {w w' : World} {row : Option Nat} {base : Nat} {e : TypeId} {v : Value} {L : List Fil} (h : OwnF w base e v L) (hb : w.grownBy w' row) (hne : ∀ k, v.ownBlock = some k → row ≠ some k) : OwnF w' base e v L :=
  h.kept fun k hk => hb.block k (h.lt k hk).2 (fun e => hne k hk e.symm)

/-- What it looks like. -/
theorem OwnF.shape {w : World} {base : Nat} {e : TypeId} {v : Value} {L : List Fil} (h : OwnF w base e v L) :
    ∃ a cap, v = .slice a L.length cap ∧ (a = none → cap = 0) ∧ L.length ≤ maxLen ∧ FAt w a L w.heap.size ∧ ∀ g, v.ownBlock = some g → a = some ⟨g, 0, none⟩ ∧ base ≤ g ∧ g < w.heap.size ∧ ∀ j, w.frozen? ⟨g, j, none⟩ = false := by
  have h0 := h
  rcases h.2 with ⟨rfl, hn⟩ | ⟨g, cap, cur, rfl, hb, hg, h1, h2, h3, h4⟩
  · have hx : L = [] := List.length_eq_zero_iff.1 hn
    subst hx
    exact ⟨none, 0, rfl, fun _ => rfl, by simp [maxLen], fun j hj => by simp at hj, fun g hg => by simp [Value.ownBlock] at hg⟩
  · have hgs := (Array.getElem?_eq_some_iff.1 hg).1
    refine ⟨_, _, rfl, fun h => by simp at h, Nat.le_trans h1 h2, fun j hj => ⟨g, 0, rfl, hgs, ?_⟩, fun g' hg' => ?_⟩
    · have := fls_at L j hj
      rw [World.ownsRow.cellAt h0 (0 + j * 3) (by omega), World.ownsRow.cellAt h0 (0 + j * 3 + 1) (by omega), World.ownsRow.cellAt h0 (0 + j * 3 + 2) (by omega)]
      rw [show 0 + j * 3 = 3 * j by omega]
      exact this
    · simp [Value.ownBlock] at hg'
      subst hg'
      exact ⟨rfl, hb, hgs, fun j => World.ownsRow.frozenAt h0 j⟩

theorem OwnF.nil (w : World) (base : Nat) (e : TypeId) : OwnF w base e (.slice none 0 0) [] := World.ownsRow_nil w base e 3
theorem OwnF.drew {w : World} {base : Nat} {e : TypeId} {v : Value} {L : List Fil} (h : OwnF w base e v L) : OwnF w.drew base e v L := h

/-- How much the files weigh. -/
def wgt : List Fil → Nat
  | [] => 0
  | f :: L => f.nm.size + f.tx.size + wgt L
theorem wgt_append : ∀ (L M : List Fil), wgt (L ++ M) = wgt L + wgt M
  | [], M => by simp [wgt]
  | f :: L, M => by simp [wgt, wgt_append L M]; omega
theorem wgt_take_succ (L : List Fil) (k : Nat) (h : k < L.length) : wgt (L.take (k + 1)) = wgt (L.take k) + (L[k].nm.size + L[k].tx.size) := by
  rw [List.take_succ_eq_append_getElem h, wgt_append]; simp [wgt]
theorem wgt_take_le (L : List Fil) (k : Nat) : wgt (L.take k) ≤ wgt L := by
  have := wgt_append (L.take k) (L.drop k)
  rw [List.take_append_drop] at this; omega
theorem wgt_mem {L : List Fil} {j : Nat} (h : j < L.length) : L[j].nm.size + L[j].tx.size ≤ wgt L := by
  have h1 := wgt_take_succ L j h
  have h2 := wgt_take_le L (j + 1)
  omega
theorem fls_nm : ∀ (L : List Fil) (j : Nat) (x : ByteArray), (fls L).set (j * 3) (.string x) = fls (L.modify j fun f => { f with nm := x })
  | [], j, x => by simp [fls]
  | f :: L, 0, x => by simp [fls_cons, Fil.cells]
  | f :: L, j + 1, x => by
    have ih := fls_nm L j x
    rw [show (j + 1) * 3 = j * 3 + 1 + 1 + 1 by omega, fls_cons, List.modify_succ_cons, fls_cons, ← ih]
    simp [Fil.cells]
theorem fls_tx : ∀ (L : List Fil) (j : Nat) (x : ByteArray), (fls L).set (j * 3 + 1) (.string x) = fls (L.modify j fun f => { f with tx := x })
  | [], j, x => by simp [fls]
  | f :: L, 0, x => by simp [fls_cons, Fil.cells]
  | f :: L, j + 1, x => by
    have ih := fls_tx L j x
    rw [show (j + 1) * 3 + 1 = (j * 3 + 1) + 1 + 1 + 1 by omega, fls_cons, List.modify_succ_cons, fls_cons, ← ih]
    simp [Fil.cells]
theorem fls_kp : ∀ (L : List Fil) (j : Nat) (x : Int), (fls L).set (j * 3 + 2) (.int .i64 x) = fls (L.modify j fun f => { f with kp := x })
  | [], j, x => by simp [fls]
  | f :: L, 0, x => by simp [fls_cons, Fil.cells]
  | f :: L, j + 1, x => by
    have ih := fls_kp L j x
    rw [show (j + 1) * 3 + 2 = (j * 3 + 2) + 1 + 1 + 1 by omega, fls_cons, List.modify_succ_cons, fls_cons, ← ih]
    simp [Fil.cells]

/-- A store into one field. -/
theorem OwnF.storedNm {w : World} {base : Nat} {e : TypeId} {g n cap : Nat} {L : List Fil} (h : OwnF w base e (.slice (some ⟨g, 0, none⟩) n cap) L) (hn : n = L.length) (j : Nat) (x : ByteArray) :
    OwnF (w.setCell ⟨g, j * 3, none⟩ (.string x)) base e (.slice (some ⟨g, 0, none⟩) n cap) (L.modify j fun f => { f with nm := x }) ∧ w.grownBy (w.setCell ⟨g, j * 3, none⟩ (.string x)) (some g) := by
  subst hn
  have := World.ownsRow.stored h (j * 3) (.string x)
  refine ⟨?_, this.2⟩
  unfold OwnF
  rw [List.length_modify, ← fls_nm]
  exact this.1
theorem OwnF.storedTx {w : World} {base : Nat} {e : TypeId} {g n cap : Nat} {L : List Fil} (h : OwnF w base e (.slice (some ⟨g, 0, none⟩) n cap) L) (hn : n = L.length) (j : Nat) (x : ByteArray) :
    OwnF (w.setCell ⟨g, j * 3 + 1, none⟩ (.string x)) base e (.slice (some ⟨g, 0, none⟩) n cap) (L.modify j fun f => { f with tx := x }) ∧ w.grownBy (w.setCell ⟨g, j * 3 + 1, none⟩ (.string x)) (some g) := by
  subst hn
  have := World.ownsRow.stored h (j * 3 + 1) (.string x)
  refine ⟨?_, this.2⟩
  unfold OwnF
  rw [List.length_modify, ← fls_tx]
  exact this.1
theorem OwnF.storedKp {w : World} {base : Nat} {e : TypeId} {g n cap : Nat} {L : List Fil} (h : OwnF w base e (.slice (some ⟨g, 0, none⟩) n cap) L) (hn : n = L.length) (j : Nat) (x : Int) :
    OwnF (w.setCell ⟨g, j * 3 + 2, none⟩ (.int .i64 x)) base e (.slice (some ⟨g, 0, none⟩) n cap) (L.modify j fun f => { f with kp := x }) ∧ w.grownBy (w.setCell ⟨g, j * 3 + 2, none⟩ (.int .i64 x)) (some g) := by
  subst hn
  have := World.ownsRow.stored h (j * 3 + 2) (.int .i64 x)
  refine ⟨?_, this.2⟩
  unfold OwnF
  rw [List.length_modify, ← fls_kp]
  exact this.1

theorem modify_const (L : List Fil) (j : Nat) (f : Fil) : L.modify j (fun _ => f) = L.set j f := by
  induction L generalizing j with
  | nil => simp
  | cons x L ih => cases j with
    | zero => simp
    | succ j => simp [ih]
theorem modify_three (L : List Fil) (j : Nat) (f : Fil) : ((L.modify j fun g => { g with nm := f.nm }).modify j fun g => { g with tx := f.tx }).modify j (fun g => { g with kp := f.kp }) = L.set j f := by
  induction L generalizing j with
  | nil => simp
  | cons x L ih => cases j with
    | zero => simp
    | succ j => simp [ih]

/-- A store of a whole file. -/
theorem OwnF.stored {w : World} {base : Nat} {e : TypeId} {g n cap : Nat} {L : List Fil} (h : OwnF w base e (.slice (some ⟨g, 0, none⟩) n cap) L) (hn : n = L.length) (j : Nat) (f : Fil) :
    OwnF (((w.setCell ⟨g, j * 3, none⟩ (.string f.nm)).setCell ⟨g, j * 3 + 1, none⟩ (.string f.tx)).setCell ⟨g, j * 3 + 2, none⟩ (.int .i64 f.kp)) base e (.slice (some ⟨g, 0, none⟩) n cap) (L.set j f) ∧
      w.grownBy (((w.setCell ⟨g, j * 3, none⟩ (.string f.nm)).setCell ⟨g, j * 3 + 1, none⟩ (.string f.tx)).setCell ⟨g, j * 3 + 2, none⟩ (.int .i64 f.kp)) (some g) := by
  have h1 := h.storedNm hn j f.nm
  have h2 := h1.1.storedTx (by simpa using hn) j f.tx
  have h3 := h2.1.storedKp (by simpa using hn) j f.kp
  rw [modify_three] at h3
  exact ⟨h3.1, grownBy_trans h1.2 (grownBy_trans h2.2 h3.2)⟩

def zfil : Fil := ⟨⟨#[]⟩, ⟨#[]⟩, 0⟩
theorem fls_zero (n : Nat) : (madeCells #[.string ⟨#[]⟩, .string ⟨#[]⟩, .int .i64 0] (n * 3)).toList = fls (List.replicate n zfil) := by
  apply List.ext_getElem?
  intro j
  by_cases hj : j < n * 3
  · have hl : (fls (List.replicate n zfil)).length = n * 3 := by rw [fls_length]; simp
    have hat := fls_at (List.replicate n zfil) (j / 3) (by simp; omega)
    simp only [List.getElem_replicate] at hat
    rcases (by omega : j % 3 = 0 ∨ j % 3 = 1 ∨ j % 3 = 2) with h | h | h
    · rw [show j = 3 * (j / 3) by omega, hat.1]
      simp [madeCells, show 3 * (j / 3) < n * 3 by omega, zfil]
    · rw [show j = 3 * (j / 3) + 1 by omega, hat.2.1]
      simp [madeCells, show 3 * (j / 3) + 1 < n * 3 by omega, show (3 * (j / 3) + 1) % 3 = 1 by omega, zfil]
    · rw [show j = 3 * (j / 3) + 2 by omega, hat.2.2]
      simp [madeCells, show 3 * (j / 3) + 2 < n * 3 by omega, show (3 * (j / 3) + 2) % 3 = 2 by omega, zfil]
  · rw [List.getElem?_eq_none (by simp [size_madeCells]; omega), List.getElem?_eq_none (by rw [fls_length]; simp; omega)]

/-- Its cells are there, and may be written. -/
theorem OwnF.there {w : World} {base : Nat} {e : TypeId} {g n cap : Nat} {L : List Fil} (h : OwnF w base e (.slice (some ⟨g, 0, none⟩) n cap) L) (j : Nat) (hj : j < L.length) :
    ∃ u0 u1 u2, w.cell? ⟨g, j * 3, none⟩ = some u0 ∧ w.cell? ⟨g, j * 3 + 1, none⟩ = some u1 ∧ w.cell? ⟨g, j * 3 + 2, none⟩ = some u2 ∧ w.frozen? ⟨g, j * 3, none⟩ = false ∧ w.frozen? ⟨g, j * 3 + 1, none⟩ = false ∧ w.frozen? ⟨g, j * 3 + 2, none⟩ = false := by
  obtain ⟨a, cap', hv, _, _, hA, hz⟩ := h.shape
  obtain ⟨ha, _, _, hfz⟩ := hz g rfl
  obtain ⟨g', off, ha', _, h0, h1, h2⟩ := hA j hj
  rw [ha] at ha'
  simp only [Option.some.injEq, Addr.mk.injEq, and_true] at ha'
  obtain ⟨rfl, rfl⟩ := ha'
  simp only [Nat.zero_add] at h0 h1 h2
  exact ⟨_, _, _, h0, h1, h2, hfz _, hfz _, hfz _⟩

/-- Where it lies, if it holds anything. -/
theorem OwnF.addr {w : World} {base : Nat} {e : TypeId} {a : Option Addr} {n cap : Nat} {L : List Fil} (h : OwnF w base e (.slice a n cap) L) (hne : 0 < L.length) : ∃ g, a = some ⟨g, 0, none⟩ ∧ g < w.heap.size := by
  rcases h.2 with ⟨_, hn⟩ | ⟨g, cap', cur, hv, _, hg, _⟩
  · omega
  · simp only [Value.slice.injEq] at hv
    exact ⟨g, hv.1, (Array.getElem?_eq_some_iff.1 hg).1⟩

/-- 'make([]File, n)'. -/
theorem make_files {P : Program} (w : World) (t e : TypeId) (ht : P.underlying t = some (.slice e)) (hinfo : (P.info? e).map (fun i => (i.zero, i.size, i.bytes)) = some (some (.agg #[.string ⟨#[]⟩, .string ⟨#[]⟩, .int .i64 0]), 3, 40)) (n : Nat) (hn : n ≤ 1048576) :
    ∃ w', (Instr.makeSlice t (.int .i64 (n : Int)) (.int .i64 (n : Int))).run P w = .ok (.slice (some ⟨w.heap.size, 0, none⟩) n n) w' ∧ OwnF w' w.heap.size e (.slice (some ⟨w.heap.size, 0, none⟩) n n) (List.replicate n zfil) ∧ Below w.heap.size w w' := by
  obtain ⟨i0, hi, hz0, hz1, hz2⟩ := info_parts hinfo
  obtain ⟨w', h1, h2, h3⟩ := run_make_full w w.heap.size t e i0 _ 3 ht hi hz0 hz1 .i64 .i64 n (by rw [hz2]; omega) (by unfold maxLen; omega) (Nat.le_refl _)
  refine ⟨w', h1, ?_, ⟨h3.os, h3.tape, h3.output, h3.size, fun j hj => h3.block j hj (by simp)⟩⟩
  unfold OwnF
  rw [List.length_replicate, ← fls_zero]
  exact h2
end Go.Proofs.Ytpgcfgbhkodmeaa
