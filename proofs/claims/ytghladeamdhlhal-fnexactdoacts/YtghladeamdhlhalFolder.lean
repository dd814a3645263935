/- The folder of a call: a map of names to blocks, each of which holds a file. -/
import Derived.Test.YtghladeamdhlhalFolderPlain
import Derived.Test.YtghladeamdhlhalBase
import Derived.StringKeys
namespace Go.Proofs.Ytghladeamdhlhal
open Go.RowKit

/-- How the map's elements read: by the number of the block. -/
def ptrE : Value → Option (DataW Unit × List MemPlace)
  | .pointer none => some (.nil, [])
  | .pointer (some ⟨g, 0, none⟩) => some (.lit (.int .i64 (g : Int)), [])
  | _ => none
theorem ptrE_mk (g : Nat) : ptrE (.pointer (some ⟨g, 0, none⟩)) = some (.lit (.int .i64 (g : Int)), []) := rfl
theorem ptrE_some {v : Value} {ps : List MemPlace} {g : Nat} (h : ptrE v = some (.lit (.int .i64 (g : Int)), ps)) : v = .pointer (some ⟨g, 0, none⟩) := by
  unfold ptrE at h
  split at h
  · simp at h
  · rename_i g'
    simp only [Option.some.injEq, Prod.mk.injEq, DataW.lit.injEq, Lit.int.injEq, true_and] at h
    have : g' = g := by omega
    rw [this]
  · cases h
theorem ptrE_nil {v : Value} {ps : List MemPlace} (h : ptrE v = some (.nil, ps)) : v = .pointer none := by
  unfold ptrE at h
  split at h
  · rfl
  · simp at h
  · cases h

/-- Block g holds the file f. -/
def FBlk (w : World) (g : Nat) (f : Fil) : Prop := w.heap[g]? = some (.cells #[.string f.nm, .string f.tx, .int .i64 f.kp] 63 (0, 0))
theorem FBlk.cells {w : World} {g : Nat} {f : Fil} (h : FBlk w g f) : w.cell? ⟨g, 0, none⟩ = some (.string f.nm) ∧ w.cell? ⟨g, 1, none⟩ = some (.string f.tx) ∧ w.cell? ⟨g, 2, none⟩ = some (.int .i64 f.kp) := by
  unfold FBlk at h
  simp [World.cell?, h]
theorem FBlk.thaw {w : World} {g : Nat} {f : Fil} (h : FBlk w g f) (j : Nat) : w.frozen? ⟨g, j, none⟩ = false := by
  unfold FBlk at h
  simp [World.frozen?, h]
theorem FBlk.lt {w : World} {g : Nat} {f : Fil} (h : FBlk w g f) : g < w.heap.size := (Array.getElem?_eq_some_iff.1 h).1
theorem FBlk.set {w : World} {g : Nat} {f f' : Fil} (h : FBlk w g f) (i : Nat) (v : Value) (hi : (#[.string f.nm, .string f.tx, .int .i64 f.kp] : Array Value).setIfInBounds i v = #[.string f'.nm, .string f'.tx, .int .i64 f'.kp]) : FBlk (w.setCell ⟨g, i, none⟩ v) g f' := by
  unfold FBlk at *
  simp only [World.setCell, Array.getElem?_modify, h]
  simp [hi]
theorem grownBy_set (w : World) (g i : Nat) (v : Value) : w.grownBy (w.setCell ⟨g, i, none⟩ v) (some g) :=
  ⟨rfl, rfl, rfl, by simp [World.setCell], fun k _ hk => Below.heap_setCell _ _ _ k (fun e => hk (by rw [e]))⟩

/-- The map in block b leads to the files M, from block base on. -/
structure Fo (w : World) (b base : Nat) (M : List (Fil × Nat)) : Prop where
  own : w.ownsMap Try.prog 9 ptrE b M.length (mOf M)
  blk : ∀ p ∈ M, base ≤ p.2 ∧ FBlk w p.2 p.1
  dis : ∀ p ∈ M, ∀ q ∈ M, p.2 = q.2 → p = q
  le : base ≤ b

theorem keyedS : Maps.Keyed Try.prog 9 := Maps.string_keyed Try.underlying9
theorem keyS {s : ByteArray} (h : s.size ≤ maxLen) : keyOf Try.prog 9 (.string s) = some (.string s.data.toList) := WideMaps.keyOf_string_mk Try.underlying9 h
theorem Fo.rise {w : World} {b base : Nat} {M : List (Fil × Nat)} (h : Fo w b base M) : RiseM M := riseM_of_canon (h.own.canon keyedS)
theorem tight {w : World} {b n : Nat} {D : DataW Unit} (h : w.ownsMap Try.prog 9 ptrE b n D) : w.ownsMap Try.prog 9 ptrE b (Maps.size D) D := by
  obtain ⟨es, clock, hb, F, _, rfl⟩ := h
  exact ⟨es, clock, hb, F, by simp [Maps.size, length_sorted], rfl⟩
theorem Fo.kept {w w' : World} {b base : Nat} {M : List (Fil × Nat)} (h : Fo w b base M) (hb : w'.heap[b]? = w.heap[b]?) (hg : ∀ p ∈ M, w'.heap[p.2]? = w.heap[p.2]?) : Fo w' b base M := by
  refine ⟨?_, fun p hp => ⟨(h.blk p hp).1, (hg p hp).trans (h.blk p hp).2⟩, h.dis, h.le⟩
  obtain ⟨es, clock, h1, r⟩ := h.own
  exact ⟨es, clock, hb.trans h1, r⟩
theorem Fo.below {w w' : World} {b base : Nat} {M : List (Fil × Nat)} (h : Fo w b base M) (hb : Below w.heap.size w w') : Fo w' b base M :=
  h.kept (hb.block b h.own.lt) (fun p hp => hb.block p.2 (h.blk p hp).2.lt)
theorem Fo.ne {w : World} {b base : Nat} {M : List (Fil × Nat)} (h : Fo w b base M) {g : Nat} {f : Fil} (hg : FBlk w g f) : g ≠ b := by
  rintro rfl
  obtain ⟨es, clock, h1, _⟩ := h.own
  have := h1.symm.trans hg
  simp at this

theorem mem_putM {M : List (Fil × Nat)} {p q : Fil × Nat} : q ∈ putM M p ↔ q = p ∨ (q ∈ M ∧ eqS q.1.nm p.1.nm = false) := by
  unfold putM
  simp only [List.mem_append, List.mem_filter, List.mem_singleton]
  constructor
  · rintro ((⟨h1, h2⟩ | h) | ⟨h1, h2⟩)
    · exact .inr ⟨h1, ltS_ne h2⟩
    · exact .inl h
    · exact .inr ⟨h1, by simp at h2; exact h2.2⟩
  · rintro (h | ⟨h1, h2⟩)
    · exact .inl (.inr h)
    · cases hl : ltS q.1.nm p.1.nm with
      | true => exact .inl (.inl ⟨h1, rfl⟩)
      | false => exact .inr ⟨h1, by simp [h2]⟩

/-- A look for a name. -/
theorem Fo.look {w : World} {b base : Nat} {M : List (Fil × Nat)} (h : Fo w b base M) (nm : ByteArray) (hn : nm.size ≤ maxLen) :
    (∃ f g, (f, g) ∈ M ∧ f.nm = nm ∧ (M.map (·.1)).find? (fun q => eqS q.nm nm) = some f ∧ (Instr.lookup 68 (.map (some b)) (.string nm) false).run Try.prog w = .ok (.pointer (some ⟨g, 0, none⟩)) w) ∨
    ((M.map (·.1)).find? (fun q => eqS q.nm nm) = none ∧ (Instr.lookup 68 (.map (some b)) (.string nm) false).run Try.prog w = .ok (.pointer none) w) := by
  obtain ⟨v, ps, hrun, hv⟩ := h.own.lookup keyedS (t := 68) (e := 83) Try.underlying68 (z := .pointer none) (by kernel_rfl) (zd := .nil) (zp := []) rfl (keyS hn)
  rw [mOf_at] at hv
  cases hf : M.find? (fun q => eqS q.1.nm nm) with
  | none =>
    rw [hf] at hv
    rw [ptrE_nil hv] at hrun
    exact .inr ⟨by rw [List.find?_map]; simpa [Function.comp_def] using hf, hrun⟩
  | some p =>
    obtain ⟨f, g⟩ := p
    rw [hf] at hv
    rw [ptrE_some hv] at hrun
    have h1 := List.mem_of_find?_eq_some hf
    have h2 := List.find?_some hf
    exact .inl ⟨f, g, h1, eqS_iff.1 h2, by rw [List.find?_map]; rw [show ((fun q : Fil => eqS q.nm nm) ∘ fun x : Fil × Nat => x.1) = fun q : Fil × Nat => eqS q.1.nm nm from rfl, hf]; rfl, hrun⟩

/-- A store of a file that is not yet there. -/
theorem Fo.put {w : World} {b base : Nat} {M : List (Fil × Nat)} (h : Fo w b base M) {f : Fil} {g : Nat} (hf : FBlk w g f) (hg : base ≤ g) (hnew : ∀ p ∈ M, p.2 ≠ g) (hn : f.nm.size ≤ maxLen) (hl : M.length < maxLen) :
    ∃ w', (Instr.mapUpdate 68 (.map (some b)) (.string f.nm) (.pointer (some ⟨g, 0, none⟩))).run Try.prog w = .ok () w' ∧ Fo w' b base (putM M (f, g)) ∧ w.grownBy w' (some b) := by
  obtain ⟨w', hrun, hown, hgr⟩ := h.own.update keyedS (t := 68) (e := 83) Try.underlying68 hl (keyS hn) (ptrE_mk g)
  refine ⟨w', hrun, ⟨?_, ?_, ?_, h.le⟩, hgr⟩
  · rw [mOf_put h.rise] at hown
    have := tight hown
    rwa [mOf_size] at this
  · intro p hp
    rcases mem_putM.1 hp with rfl | ⟨hp, _⟩
    · exact ⟨hg, (hgr.block _ hf.lt (fun e => h.ne hf (by simpa using e))).trans hf⟩
    · have hb := h.blk p hp
      exact ⟨hb.1, (hgr.block _ hb.2.lt (fun e => h.ne hb.2 (by simpa using e))).trans hb.2⟩
  · intro p hp q hq e
    rcases mem_putM.1 hp with rfl | ⟨hp, _⟩
    · rcases mem_putM.1 hq with rfl | ⟨hq, _⟩
      · rfl
      · exact absurd e.symm (hnew q hq)
    · rcases mem_putM.1 hq with rfl | ⟨hq, _⟩
      · exact absurd e (hnew p hp)
      · exact h.dis p hp q hq e

/-- A file taken away. -/
theorem Fo.drop {w : World} {b base : Nat} {M : List (Fil × Nat)} (h : Fo w b base M) (nm : ByteArray) (hn : nm.size ≤ maxLen) (ty : TypeId) :
    ∃ w', (Builtin.delete_ #[68, 9] ty #[.map (some b), .string nm]).run Try.prog w = .ok (.tuple #[]) w' ∧ Fo w' b base (woM M nm) ∧ w.grownBy w' (some b) := by
  obtain ⟨w', hrun, hown, htn⟩ := h.own.drop keyedS (t := 68) (e := 83) Try.underlying68 (keyS hn) ty
  have hgr := htn.grown
  refine ⟨w', hrun, ⟨?_, ?_, ?_, h.le⟩, hgr⟩
  · rw [mOf_del] at hown
    have := tight hown
    rwa [mOf_size] at this
  · intro p hp
    have hb := h.blk p (List.mem_filter.1 hp).1
    exact ⟨hb.1, (hgr.block _ hb.2.lt (fun e => h.ne hb.2 (by simpa using e))).trans hb.2⟩
  · intro p hp q hq e
    exact h.dis p (List.mem_filter.1 hp).1 q (List.mem_filter.1 hq).1 e

/-- A file changed where it lies. -/
theorem Fo.edit {w w' : World} {b base : Nat} {M : List (Fil × Nat)} (h : Fo w b base M) {f f' : Fil} {g : Nat} (hm : (f, g) ∈ M) (hgr : w.grownBy w' (some g)) (hf' : FBlk w' g f') (hnm : f'.nm = f.nm) : Fo w' b base (edM M f') := by
  have hgb := h.ne (h.blk _ hm).2
  refine ⟨?_, ?_, ?_, h.le⟩
  · rw [mOf_edit]
    unfold edM
    rw [List.length_map]
    exact h.own.kept hgr (by simpa using Ne.symm hgb)
  · intro p hp
    obtain ⟨q, hq, rfl⟩ := List.mem_map.1 hp
    have hb := h.blk q hq
    by_cases e : q.2 = g
    · have := h.dis q hq _ hm e
      subst this
      simp only [hnm, eqS_refl, if_true]
      exact ⟨hb.1, hf'⟩
    · have hne : eqS q.1.nm f'.nm = false := by
        rw [eqS_ne, hnm]
        intro hh
        have hr := h.rise
        unfold RiseM at hr
        have h1 : ∀ p ∈ M, ∀ r ∈ M, p.1.nm = r.1.nm → p = r := by
          intro p hp r hr' hh
          obtain ⟨i, hi, rfl⟩ := List.getElem_of_mem hp
          obtain ⟨j, hj, rfl⟩ := List.getElem_of_mem hr'
          rw [List.pairwise_iff_getElem] at hr
          rcases Nat.lt_trichotomy i j with hij | rfl | hij
          · have := hr i j hi hj hij; rw [hh, ltS_irr] at this; cases this
          · rfl
          · have := hr j i hj hi hij; rw [hh, ltS_irr] at this; cases this
        have := h1 q hq _ hm hh
        rw [this] at e
        exact e rfl
      simp only [hne, Bool.false_eq_true, if_false]
      exact ⟨hb.1, (hgr.block _ hb.2.lt (fun e' => e (by simpa using e'))).trans hb.2⟩
  · intro p hp q hq e
    obtain ⟨p0, hp0, rfl⟩ := List.mem_map.1 hp
    obtain ⟨q0, hq0, rfl⟩ := List.mem_map.1 hq
    have e2 : ∀ r : Fil × Nat, (if eqS r.1.nm f'.nm then (f', r.2) else r).2 = r.2 := by intro r; split <;> rfl
    rw [e2, e2] at e
    rw [h.dis p0 hp0 q0 hq0 e]
/-- A new folder. -/
theorem Fo.made (w : World) : Fo (w.alloc (.map #[] 0)) w.heap.size w.heap.size [] :=
  ⟨by simpa [mOf] using World.ownsMap_made w Try.prog 9 ptrE, fun p hp => by simp at hp, fun p hp => by simp at hp, Nat.le_refl _⟩
end Go.Proofs.Ytghladeamdhlhal
