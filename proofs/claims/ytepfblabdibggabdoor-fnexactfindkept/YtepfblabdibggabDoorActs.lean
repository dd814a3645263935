/- Rows of acts: a kind and three texts: four cells an element. Plain lemmas, no program. -/
import Derived.Test.YtepfblabdibggabDoorLawKitJ
import Derived.Test.YtepfblabdibggabDoorFiles
namespace Go.Proofs.YtepfblabdibggabDoor
open Go.RowKit

def Ac.cells (f : Ac) : List Value := [.int .i64 f.kd, .string f.nm, .string f.tx, .string f.to]
def acl (L : List Ac) : List Value := L.flatMap Ac.cells
theorem acl_length (L : List Ac) : (acl L).length = L.length * 4 := by
  induction L with
  | nil => rfl
  | cons f L ih => simp [acl, Ac.cells] at *; omega
theorem acl_cons (f : Ac) (L : List Ac) : acl (f :: L) = f.cells ++ acl L := by simp [acl]
theorem acl_at : ∀ (L : List Ac) (j : Nat) (h : j < L.length), (acl L)[4 * j]? = some (.int .i64 L[j].kd) ∧ (acl L)[4 * j + 1]? = some (.string L[j].nm) ∧ (acl L)[4 * j + 2]? = some (.string L[j].tx) ∧ (acl L)[4 * j + 3]? = some (.string L[j].to)
  | [], j, h => by simp at h
  | f :: L, 0, h => by simp [acl_cons, Ac.cells]
  | f :: L, j + 1, h => by
    have ih := acl_at L j (by simpa using h)
    have e : ∀ k, 4 * (j + 1) + k = (4 * j + k) + 4 := fun k => by omega
    rw [acl_cons]
    refine ⟨?_, ?_, ?_, ?_⟩
    · rw [show 4 * (j + 1) = 4 * j + 4 by omega]; simpa [Ac.cells] using ih.1
    · rw [e 1]; simpa [Ac.cells] using ih.2.1
    · rw [e 2]; simpa [Ac.cells] using ih.2.2.1
    · rw [e 3]; simpa [Ac.cells] using ih.2.2.2
theorem acl_set : ∀ (L : List Ac) (j : Nat) (f : Ac), ((((acl L).set (j * 4) (.int .i64 f.kd)).set (j * 4 + 1) (.string f.nm)).set (j * 4 + 2) (.string f.tx)).set (j * 4 + 3) (.string f.to) = acl (L.set j f)
  | [], j, f => by simp [acl]
  | g :: L, 0, f => by simp [acl_cons, Ac.cells]
  | g :: L, j + 1, f => by
    have ih := acl_set L j f
    rw [show (j + 1) * 4 = j * 4 + 1 + 1 + 1 + 1 by omega, acl_cons, List.set_cons_succ, acl_cons, ← ih]
    simp [Ac.cells]

/-- The acts L lie at the address a, below the block B. -/
def AAt (w : World) (a : Option Addr) (L : List Ac) (B : Nat) : Prop :=
  ∀ j (hj : j < L.length), ∃ g off, a = some ⟨g, off, none⟩ ∧ g < B ∧ w.cell? ⟨g, off + j * 4, none⟩ = some (.int .i64 L[j].kd) ∧ w.cell? ⟨g, off + j * 4 + 1, none⟩ = some (.string L[j].nm) ∧ w.cell? ⟨g, off + j * 4 + 2, none⟩ = some (.string L[j].tx) ∧ w.cell? ⟨g, off + j * 4 + 3, none⟩ = some (.string L[j].to)
theorem AAt.below {w w' : World} {a : Option Addr} {L : List Ac} {B B' : Nat} (h : AAt w a L B) (hb : Below B' w w') (hB : B ≤ B') : AAt w' a L B := by
  intro j hj
  obtain ⟨g, off, ha, hg, h0, h1, h2, h3⟩ := h j hj
  have hl := Nat.lt_of_lt_of_le hg hB
  exact ⟨g, off, ha, hg, (hb.cell hl).trans h0, (hb.cell hl).trans h1, (hb.cell hl).trans h2, (hb.cell hl).trans h3⟩
theorem AAt.on {w w' : World} {a : Option Addr} {L : List Ac} (h : AAt w a L w.heap.size) (hb : Below w.heap.size w w') : AAt w' a L w'.heap.size := by
  intro j hj
  obtain ⟨g, off, ha, hg, r⟩ := (h.below hb (Nat.le_refl _)) j hj
  exact ⟨g, off, ha, Nat.lt_of_lt_of_le hg hb.size, r⟩

/-- The slice value v owns the acts L. -/
def OwnA (w : World) (base : Nat) (e : TypeId) (v : Value) (L : List Ac) : Prop := w.ownsRow base e 4 v L.length (acl L)
theorem OwnA.lt {w : World} {base : Nat} {e : TypeId} {v : Value} {L : List Ac} (h : OwnA w base e v L) (k : Nat) (hk : v.ownBlock = some k) : base ≤ k ∧ k < w.heap.size := World.ownsRow.lt h k hk
theorem OwnA.mono {w : World} {base base' : Nat} {e : TypeId} {v : Value} {L : List Ac} (h : OwnA w base e v L) (hb : base' ≤ base) : OwnA w base' e v L := by
  refine ⟨h.1, ?_⟩
  rcases h.2 with h | ⟨g, cap, cur, hv, hg, rest⟩
  · exact .inl h
  · exact .inr ⟨g, cap, cur, hv, Nat.le_trans hb hg, rest⟩
theorem OwnA.kept {w w' : World} {base : Nat} {e : TypeId} {v : Value} {L : List Ac} (h : OwnA w base e v L) (hk : ∀ k, v.ownBlock = some k → w'.heap[k]? = w.heap[k]?) : OwnA w' base e v L := by
  refine ⟨h.1, ?_⟩
  rcases h.2 with hn | ⟨g, cap, cur, rfl, hb, hg, rest⟩
  · exact .inl hn
  · exact .inr ⟨g, cap, cur, rfl, hb, by rw [hk g rfl]; exact hg, rest⟩
theorem OwnA.below {w w' : World} {B base : Nat} {e : TypeId} {v : Value} {L : List Ac} (h : OwnA w base e v L) (hb : Below B w w') (hB : w.heap.size ≤ B) : OwnA w' base e v L :=
  h.kept fun k hk => hb.block k (Nat.lt_of_lt_of_le (h.lt k hk).2 hB)
theorem OwnA.grown {w w' : World} {row : Option Nat} {base : Nat} {e : TypeId} {v : Value} {L : List Ac} (h : OwnA w base e v L) (hb : w.grownBy w' row) (hne : ∀ k, v.ownBlock = some k → row ≠ some k) : OwnA w' base e v L :=
  h.kept fun k hk => hb.block k (h.lt k hk).2 (fun e => hne k hk e.symm)
theorem OwnA.at {w : World} {base : Nat} {e : TypeId} {v : Value} {L : List Ac} (h : OwnA w base e v L) : ∃ a cap, v = .slice a L.length cap ∧ AAt w a L w.heap.size := by
  have h0 := h
  rcases h.2 with ⟨rfl, hn⟩ | ⟨g, cap, cur, rfl, hb, hg, h1, h2, h3, h4⟩
  · have hx : L = [] := List.length_eq_zero_iff.1 hn
    subst hx
    exact ⟨none, 0, rfl, fun j hj => by simp at hj⟩
  · have hgs := (Array.getElem?_eq_some_iff.1 hg).1
    refine ⟨_, _, rfl, fun j hj => ⟨g, 0, rfl, hgs, ?_⟩⟩
    have := acl_at L j hj
    rw [World.ownsRow.cellAt h0 (0 + j * 4) (by omega), World.ownsRow.cellAt h0 (0 + j * 4 + 1) (by omega), World.ownsRow.cellAt h0 (0 + j * 4 + 2) (by omega), World.ownsRow.cellAt h0 (0 + j * 4 + 3) (by omega)]
    rw [show 0 + j * 4 = 4 * j by omega]
    exact this

/-- A row of four cells an element, whatever it holds: its cells are there, and may be written. -/
theorem row4_there {w : World} {base : Nat} {e : TypeId} {g n cap : Nat} {xs : List Value} (h : w.ownsRow base e 4 (.slice (some ⟨g, 0, none⟩) n cap) n xs) (i : Nat) (hi : i < n * 4) : ∃ u, w.cell? ⟨g, i, none⟩ = some u ∧ w.frozen? ⟨g, i, none⟩ = false := by
  refine ⟨xs[i]'(by rw [h.1]; exact hi), ?_, World.ownsRow.frozenAt h i⟩
  rw [World.ownsRow.cellAt h i hi, List.getElem?_eq_getElem (by rw [h.1]; exact hi)]
theorem row4_addr {w : World} {base : Nat} {e : TypeId} {a : Option Addr} {n cap : Nat} {xs : List Value} (h : w.ownsRow base e 4 (.slice a n cap) n xs) (hne : 0 < n) : ∃ g, a = some ⟨g, 0, none⟩ ∧ g < w.heap.size ∧ base ≤ g := by
  rcases h.2 with ⟨_, hn⟩ | ⟨g, cap', cur, hv, hb, hg, _⟩
  · omega
  · simp only [Value.slice.injEq] at hv
    exact ⟨g, hv.1, (Array.getElem?_eq_some_iff.1 hg).1, hb⟩
theorem row4_below {w w' : World} {B base : Nat} {e : TypeId} {v : Value} {n : Nat} {xs : List Value} (h : w.ownsRow base e 4 v n xs) (hb : Below B w w') (hB : w.heap.size ≤ B) : w'.ownsRow base e 4 v n xs := by
  have hl := fun k hk => (World.ownsRow.lt h k hk).2
  refine ⟨h.1, ?_⟩
  rcases h.2 with hn | ⟨g, cap, cur, rfl, hb', hg, rest⟩
  · exact .inl hn
  · exact .inr ⟨g, cap, cur, rfl, hb', by rw [hb.block g (Nat.lt_of_lt_of_le (hl g rfl) hB)]; exact hg, rest⟩

/-- A store of a whole act. -/
theorem OwnA.stored {w : World} {base : Nat} {e : TypeId} {g n cap : Nat} {L : List Ac} (h : OwnA w base e (.slice (some ⟨g, 0, none⟩) n cap) L) (hn : n = L.length) (j : Nat) (f : Ac) :
    OwnA ((((w.setCell ⟨g, j * 4, none⟩ (.int .i64 f.kd)).setCell ⟨g, j * 4 + 1, none⟩ (.string f.nm)).setCell ⟨g, j * 4 + 2, none⟩ (.string f.tx)).setCell ⟨g, j * 4 + 3, none⟩ (.string f.to)) base e (.slice (some ⟨g, 0, none⟩) n cap) (L.set j f) ∧
      w.grownBy ((((w.setCell ⟨g, j * 4, none⟩ (.int .i64 f.kd)).setCell ⟨g, j * 4 + 1, none⟩ (.string f.nm)).setCell ⟨g, j * 4 + 2, none⟩ (.string f.tx)).setCell ⟨g, j * 4 + 3, none⟩ (.string f.to)) (some g) := by
  subst hn
  have h1 := World.ownsRow.stored h (j * 4) (.int .i64 f.kd)
  have h2 := World.ownsRow.stored h1.1 (j * 4 + 1) (.string f.nm)
  have h3 := World.ownsRow.stored h2.1 (j * 4 + 2) (.string f.tx)
  have h4 := World.ownsRow.stored h3.1 (j * 4 + 3) (.string f.to)
  rw [acl_set] at h4
  refine ⟨?_, grownBy_trans h1.2 (grownBy_trans h2.2 (grownBy_trans h3.2 h4.2))⟩
  unfold OwnA
  rw [List.length_set]
  exact h4.1

def zac : Ac := ⟨0, ⟨#[]⟩, ⟨#[]⟩, ⟨#[]⟩⟩
theorem acl_zero (n : Nat) : (madeCells #[.int .i64 0, .string ⟨#[]⟩, .string ⟨#[]⟩, .string ⟨#[]⟩] (n * 4)).toList = acl (List.replicate n zac) := by
  apply List.ext_getElem?
  intro j
  by_cases hj : j < n * 4
  · have hat := acl_at (List.replicate n zac) (j / 4) (by simp; omega)
    simp only [List.getElem_replicate] at hat
    rcases (by omega : j % 4 = 0 ∨ j % 4 = 1 ∨ j % 4 = 2 ∨ j % 4 = 3) with h | h | h | h
    · rw [show j = 4 * (j / 4) by omega, hat.1]
      simp [madeCells, show 4 * (j / 4) < n * 4 by omega, zac]
    · rw [show j = 4 * (j / 4) + 1 by omega, hat.2.1]
      simp [madeCells, show 4 * (j / 4) + 1 < n * 4 by omega, show (4 * (j / 4) + 1) % 4 = 1 by omega, zac]
    · rw [show j = 4 * (j / 4) + 2 by omega, hat.2.2.1]
      simp [madeCells, show 4 * (j / 4) + 2 < n * 4 by omega, show (4 * (j / 4) + 2) % 4 = 2 by omega, zac]
    · rw [show j = 4 * (j / 4) + 3 by omega, hat.2.2.2]
      simp [madeCells, show 4 * (j / 4) + 3 < n * 4 by omega, show (4 * (j / 4) + 3) % 4 = 3 by omega, zac]
  · rw [List.getElem?_eq_none (by simp [size_madeCells]; omega), List.getElem?_eq_none (by rw [acl_length]; simp; omega)]

/-- 'make([]Act, n)'. -/
theorem make_acts {P : Program} (w : World) (t e : TypeId) (ht : P.underlying t = some (.slice e)) (hinfo : (P.info? e).map (fun i => (i.zero, i.size, i.bytes)) = some (some (.agg #[.int .i64 0, .string ⟨#[]⟩, .string ⟨#[]⟩, .string ⟨#[]⟩]), 4, 56)) (n : Nat) (hn : n ≤ 1048576) :
    ∃ w', (Instr.makeSlice t (.int .i64 (n : Int)) (.int .i64 (n : Int))).run P w = .ok (.slice (some ⟨w.heap.size, 0, none⟩) n n) w' ∧ OwnA w' w.heap.size e (.slice (some ⟨w.heap.size, 0, none⟩) n n) (List.replicate n zac) ∧ Below w.heap.size w w' := by
  obtain ⟨i0, hi, hz0, hz1, hz2⟩ := info_parts hinfo
  obtain ⟨w', h1, h2, h3⟩ := run_make_full w w.heap.size t e i0 _ 4 ht hi hz0 hz1 .i64 .i64 n (by rw [hz2]; omega) (by unfold maxLen; omega) (Nat.le_refl _)
  refine ⟨w', h1, ?_, ⟨h3.os, h3.tape, h3.output, h3.size, fun j hj => h3.block j hj (by simp)⟩⟩
  unfold OwnA
  rw [List.length_replicate, ← acl_zero]
  exact h2

/-- How much acts weigh. -/
def awg : List Ac → Nat
  | [] => 0
  | f :: L => f.wg + awg L
theorem awg_append : ∀ (L M : List Ac), awg (L ++ M) = awg L + awg M
  | [], M => by simp [awg]
  | f :: L, M => by simp [awg, awg_append L M]; omega
theorem awg_take_succ (L : List Ac) (k : Nat) (h : k < L.length) : awg (L.take (k + 1)) = awg (L.take k) + L[k].wg := by
  rw [List.take_succ_eq_append_getElem h, awg_append]; simp [awg]
theorem awg_mem {L : List Ac} {j : Nat} (h : j < L.length) : L[j].wg ≤ awg L := by
  have h1 := awg_take_succ L j h
  have h2 := awg_append (L.take (j + 1)) (L.drop (j + 1))
  rw [List.take_append_drop] at h2
  omega
def SizedA (L : List Ac) : Prop := ∀ j (hj : j < L.length), L[j].Sized
theorem take_set_zac (L : List Ac) (k : Nat) (h : k < L.length) (f : Ac) (hf : L[k] = f) : (L.take k ++ List.replicate (L.length - k) zac).set k f = L.take (k + 1) ++ List.replicate (L.length - (k + 1)) zac := by
  subst hf
  rw [List.set_append_right _ _ (by simp; omega), List.length_take, show k - min k L.length = 0 by omega, show L.length - k = (L.length - (k + 1)) + 1 by omega, List.replicate_succ, List.set_cons_zero, List.take_succ_eq_append_getElem h]
  rw [List.append_assoc]
  rfl
end Go.Proofs.YtepfblabdibggabDoor
