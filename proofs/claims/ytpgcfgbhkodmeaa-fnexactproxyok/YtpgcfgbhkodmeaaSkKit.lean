/- Rows of rows of numbers, and sketches in memory. Plain, no program. -/
import Derived.Test.YtpgcfgbhkodmeaaSkBaseJ
import Derived.Test.YtpgcfgbhkodmeaaRowedJ
namespace Go.Proofs.Ytpgcfgbhkodmeaa
open Go.RowKit

/-- The rows LL lie at the address a, below the block B. -/
def SSAt (w : World) (a : Option Addr) (LL : List (List Int)) (B : Nat) : Prop :=
  ∀ j (hj : j < LL.length), ∃ g off ai ci, a = some ⟨g, off, none⟩ ∧ g < B ∧ w.cell? ⟨g, off + j, none⟩ = some (.slice ai LL[j].length ci) ∧ IAt w ai LL[j] B
theorem SSAt.below {w w' : World} {a : Option Addr} {LL : List (List Int)} {B B' : Nat} (h : SSAt w a LL B) (hb : Below B' w w') (hB : B ≤ B') : SSAt w' a LL B := by
  intro j hj
  obtain ⟨g, off, ai, ci, ha, hg, h1, h2⟩ := h j hj
  exact ⟨g, off, ai, ci, ha, hg, (hb.cell (Nat.lt_of_lt_of_le hg hB)).trans h1, h2.below hb hB⟩
theorem SSAt.mono {w : World} {a : Option Addr} {LL : List (List Int)} {B B' : Nat} (h : SSAt w a LL B) (hB : B ≤ B') : SSAt w a LL B' := by
  intro j hj
  obtain ⟨g, off, ai, ci, ha, hg, h1, h2⟩ := h j hj
  exact ⟨g, off, ai, ci, ha, Nat.lt_of_lt_of_le hg hB, h1, h2.mono hB⟩
theorem SSAt.on {w w' : World} {a : Option Addr} {LL : List (List Int)} (h : SSAt w a LL w.heap.size) (hb : Below w.heap.size w w') : SSAt w' a LL w'.heap.size := (h.below hb (Nat.le_refl _)).mono hb.size

/-- The value v owns the rows LL, each in a block of its own from lo on, below hi. -/
def OwnSS (w : World) (lo hi : Nat) (v : Value) (LL : List (List Int)) : Prop :=
  ∃ vs : List Value, OwnV w lo 49 v vs ∧ (∀ k, v.ownBlock = some k → k < hi) ∧ vs.length = LL.length ∧
    (∀ (i : Nat) (u : Value) (l : List Int), vs[i]? = some u → LL[i]? = some l → OwnV w lo 3 u (ints l) ∧ ∀ k, u.ownBlock = some k → k < hi) ∧
    (∀ (i j : Nat) (u u' : Value) (k : Nat), vs[i]? = some u → vs[j]? = some u' → u.ownBlock = some k → u'.ownBlock = some k → i = j)
theorem OwnSS.mono {w : World} {lo hi lo' hi' : Nat} {v : Value} {LL : List (List Int)} (h : OwnSS w lo hi v LL) (h1 : lo' ≤ lo) (h2 : hi ≤ hi') : OwnSS w lo' hi' v LL := by
  obtain ⟨vs, hv, hb, hl, hr, hd⟩ := h
  exact ⟨vs, hv.mono h1, fun k hk => Nat.lt_of_lt_of_le (hb k hk) h2, hl, fun i u l hu hll => ⟨(hr i u l hu hll).1.mono h1, fun k hk => Nat.lt_of_lt_of_le ((hr i u l hu hll).2 k hk) h2⟩, hd⟩
theorem OwnSS.up {w : World} {lo hi : Nat} {v : Value} {LL : List (List Int)} (h : OwnSS w lo hi v LL) : OwnSS w lo w.heap.size v LL := by
  obtain ⟨vs, hv, hb, hl, hr, hd⟩ := h
  exact ⟨vs, hv, fun k hk => (hv.lt k hk).2, hl, fun i u l hu hll => ⟨(hr i u l hu hll).1, fun k hk => ((hr i u l hu hll).1.lt k hk).2⟩, hd⟩
/-- It stays where its blocks are as they were. -/
theorem OwnSS.kept {w w' : World} {lo hi : Nat} {v : Value} {LL : List (List Int)} (h : OwnSS w lo hi v LL) (hk : ∀ k, lo ≤ k → k < hi → k < w.heap.size → (∀ c, w.heap[k]? = some c → (∃ cs, c = .cells cs 49 (0, 0)) ∨ (∃ cs, c = .cells cs 3 (0, 0))) → w'.heap[k]? = w.heap[k]?) : OwnSS w' lo hi v LL := by
  obtain ⟨vs, hv, hb, hl, hr, hd⟩ := h
  have ty : ∀ (e : TypeId) (u : Value) (xs : List Value), OwnV w lo e u xs → ∀ k, u.ownBlock = some k → ∃ cs, w.heap[k]? = some (.cells cs e (0, 0)) := by
    intro e u xs ho k hk
    rcases ho.2 with ⟨rfl, _⟩ | ⟨g, cap, cur, rfl, _, hg, _⟩
    · simp [Value.ownBlock] at hk
    · simp [Value.ownBlock] at hk
      subst hk
      exact ⟨_, hg⟩
  refine ⟨vs, hv.kept fun k hk' => hk k (hv.lt k hk').1 (hb k hk') (hv.lt k hk').2 (fun c hc => ?_), hb, hl, fun i u l hu hll => ?_, hd⟩
  · obtain ⟨cs, e⟩ := ty _ _ _ hv k hk'
    rw [e] at hc
    exact .inl ⟨cs, (Option.some.inj hc).symm⟩
  · obtain ⟨ho, hh⟩ := hr i u l hu hll
    refine ⟨ho.kept fun k hk' => hk k (ho.lt k hk').1 (hh k hk') (ho.lt k hk').2 (fun c hc => ?_), hh⟩
    obtain ⟨cs, e⟩ := ty _ _ _ ho k hk'
    rw [e] at hc
    exact .inr ⟨cs, (Option.some.inj hc).symm⟩
theorem OwnSS.below {w w' : World} {B lo hi : Nat} {v : Value} {LL : List (List Int)} (h : OwnSS w lo hi v LL) (hb : Below B w w') (hB : w.heap.size ≤ B) : OwnSS w' lo hi v LL := h.kept fun k _ _ hk _ => hb.block k (Nat.lt_of_lt_of_le hk hB)
theorem OwnSS.tch {S : Nat → Prop} {w w' : World} {lo hi : Nat} {v : Value} {LL : List (List Int)} (h : OwnSS w lo hi v LL) (ht : Tch S w w') (hn : ∀ k, S k → k < lo ∨ hi ≤ k) : OwnSS w' lo hi v LL :=
  h.kept fun k h1 h2 hk _ => ht.2 k hk (fun e => by have := hn k e; omega)
theorem OwnSS.at {w : World} {lo hi : Nat} {v : Value} {LL : List (List Int)} (h : OwnSS w lo hi v LL) : ∃ a cap, v = .slice a LL.length cap ∧ SSAt w a LL w.heap.size := by
  obtain ⟨vs, hv, _, hl, hr, _⟩ := h
  obtain ⟨a, cap, e, hc⟩ := hv.shape
  rw [hl] at e
  refine ⟨a, cap, e, fun j hj => ?_⟩
  obtain ⟨g, ha, hcell, _, _, hg⟩ := hc j (by omega)
  have ho := (hr j vs[j] LL[j] (List.getElem?_eq_getElem _) (List.getElem?_eq_getElem _)).1
  obtain ⟨ai, ci, e2, hI⟩ := ho.ints
  rw [e2] at hcell
  exact ⟨g, 0, ai, ci, ha, hg, by simpa using hcell, hI⟩
theorem OwnSS.nil (w : World) (lo hi : Nat) : OwnSS w lo hi (.slice none 0 0) [] := ⟨[], OwnV.nil _ _ _, fun k hk => by simp [Value.ownBlock] at hk, rfl, fun i u l hu => by simp at hu, fun i j u u' k hu => by simp at hu⟩
/-- One row of them: it may be turned. -/
theorem OwnSS.row {w : World} {lo hi : Nat} {v : Value} {LL : List (List Int)} (h : OwnSS w lo hi v LL) (i : Nat) (hi' : i < LL.length) :
    ∃ g cap u, v = .slice (some ⟨g, 0, none⟩) LL.length cap ∧ lo ≤ g ∧ g < w.heap.size ∧ w.cell? ⟨g, i, none⟩ = some u ∧ OwnV w lo 3 u (ints LL[i]) ∧ (∀ k, u.ownBlock = some k → lo ≤ k ∧ k < hi) ∧
      ∀ w' m, w.grownBy w' u.ownBlock → OwnV w' lo 3 u (ints m) → OwnSS w' lo hi v (LL.set i m) := by
  obtain ⟨vs, hv, hb, hl, hr, hd⟩ := h
  obtain ⟨a, cap, e, hc⟩ := hv.shape
  obtain ⟨g, ha, hcell, _, hlo, hg⟩ := hc i (by omega)
  rw [hl, ha] at e
  have hu : vs[i]? = some vs[i] := List.getElem?_eq_getElem (by omega)
  obtain ⟨ho, hh⟩ := hr i vs[i] LL[i] hu (List.getElem?_eq_getElem _)
  refine ⟨g, cap, vs[i], e, hlo, hg, hcell, ho, fun k hk => ⟨(ho.lt k hk).1, hh k hk⟩, fun w' m hgr hm => ⟨vs, ?_, hb, by rw [List.length_set]; exact hl, fun j u l hj hll => ?_, hd⟩⟩
  · refine hv.grown hgr fun k hk e2 => ?_
    rcases ho.2 with ⟨e3, _⟩ | ⟨g3, cap3, cur3, e3, _, hg3, _⟩
    · rw [e3] at e2; simp [Value.ownBlock] at e2
    · rcases hv.2 with ⟨e4, _⟩ | ⟨g4, cap4, cur4, e4, _, hg4, _⟩
      · rw [e4] at hk; simp [Value.ownBlock] at hk
      · rw [e3] at e2
        rw [e4] at hk
        simp [Value.ownBlock] at e2 hk
        subst e2
        subst hk
        have := hg3.symm.trans hg4
        simp at this
  · by_cases hij : i = j
    · subst hij
      rw [hu] at hj
      cases hj
      rw [List.getElem?_set_self hi'] at hll
      cases hll
      exact ⟨hm, hh⟩
    · rw [List.getElem?_set_ne hij] at hll
      obtain ⟨h1, h2⟩ := hr j u l hj hll
      exact ⟨h1.grown hgr fun k hk e2 => hij (hd i j vs[i] u k hu hj e2 hk), h2⟩
/-- A number in one of the rows is stored. -/
theorem OwnSS.seti {w : World} {lo hi : Nat} {v : Value} {LL : List (List Int)} (h : OwnSS w lo hi v LL) (i : Nat) (hi' : i < LL.length) (p : Nat) (hp : p < LL[i].length) (z : Int) :
    ∃ g cap g2 cap2, v = .slice (some ⟨g, 0, none⟩) LL.length cap ∧ w.cell? ⟨g, i, none⟩ = some (.slice (some ⟨g2, 0, none⟩) LL[i].length cap2) ∧ w.cell? ⟨g2, p, none⟩ = some (.int .i64 LL[i][p]) ∧ w.frozen? ⟨g2, p, none⟩ = false ∧ lo ≤ g2 ∧ g2 < hi ∧
      OwnSS (w.setCell ⟨g2, p, none⟩ (.int .i64 z)) lo hi v (LL.set i (LL[i].set p z)) := by
  obtain ⟨g, cap, u, rfl, _, _, hcell, ho, hlt, hput⟩ := h.row i hi'
  obtain ⟨a, cap2, e, hc⟩ := ho.shape
  rw [ints_length] at e
  obtain ⟨g2, ha, hcell2, hfr, hlo, _⟩ := hc p (by rw [ints_length]; exact hp)
  rw [ints_at hp] at hcell2
  subst ha
  subst e
  have hs := ho.stored (by rw [ints_length]) p (.int .i64 z)
  have e2 : (ints LL[i]).set p (.int .i64 z) = ints (LL[i].set p z) := by simp [ints, List.map_set]
  rw [e2] at hs
  exact ⟨g, cap, g2, cap2, rfl, hcell, hcell2, hfr, hlo, (hlt g2 rfl).2, hput _ _ hs.2 hs.1⟩
/-- A row of one's own that is new is put into its place. -/
theorem OwnSS.put {w : World} {lo hi : Nat} {v u : Value} {LL : List (List Int)} {l : List Int} (h : OwnSS w lo hi v LL) (hu : OwnV w hi 3 u (ints l)) (hlh : lo ≤ hi) (k : Nat) (hk : k < LL.length) :
    ∃ g cap x, v = .slice (some ⟨g, 0, none⟩) LL.length cap ∧ w.cell? ⟨g, k, none⟩ = some x ∧ w.frozen? ⟨g, k, none⟩ = false ∧ lo ≤ g ∧ g < hi ∧ OwnSS (w.setCell ⟨g, k, none⟩ u) lo w.heap.size v (LL.set k l) := by
  obtain ⟨vs, hv, hb, hl, hr, hd⟩ := h
  obtain ⟨a, cap, e, hc⟩ := hv.shape
  obtain ⟨g, ha, hcell, hfr, hlo, hg⟩ := hc k (by omega)
  rw [ha] at e
  have hgh : g < hi := hb g (by rw [e]; rfl)
  rw [e] at hv
  have hst := hv.stored rfl k u
  have e' := e
  rw [hl] at e'
  have kp : ∀ (x : Value) (xs : List Value) (b : Nat) , OwnV w b 3 x xs → OwnV (w.setCell ⟨g, k, none⟩ u) b 3 x xs := by
    intro x xs b ho
    refine ho.grown hst.2 fun j hj e2 => ?_
    simp at e2
    subst e2
    rcases ho.2 with ⟨e3, _⟩ | ⟨g3, cap3, cur3, e3, _, hg3, _⟩
    · rw [e3] at hj; simp [Value.ownBlock] at hj
    · rcases hv.2 with ⟨e4, _⟩ | ⟨g4, cap4, cur4, e4, _, hg4, _⟩
      · simp at e4
      · rw [e3] at hj
        simp at e4
        simp [Value.ownBlock] at hj
        obtain ⟨rfl, _⟩ := e4
        subst hj
        have := hg3.symm.trans hg4
        simp at this
  refine ⟨g, cap, vs[k]'(by omega), e', hcell, hfr, hlo, hgh, vs.set k u, ?_, fun j hj => ?_, by simp [hl], fun i x m hx hm => ?_, fun i j x y q hx hy h1 h2 => ?_⟩
  · rw [e]; exact hst.1
  · have := hst.1.lt j (by rw [e] at hj; exact hj)
    simpa using this.2
  · by_cases hik : k = i
    · subst hik
      rw [List.getElem?_set_self (by omega)] at hx hm
      cases hx
      cases hm
      have := kp u (ints l) hi hu
      exact ⟨this.mono hlh, fun j hj => by simpa using (this.lt j hj).2⟩
    · rw [List.getElem?_set_ne hik] at hx hm
      have := kp x (ints m) lo (hr i x m hx hm).1
      exact ⟨this, fun j hj => by simpa using (this.lt j hj).2⟩
  · by_cases hik : k = i
    · by_cases hjk : k = j
      · omega
      · exfalso
        subst hik
        rw [List.getElem?_set_self (by omega)] at hx
        rw [List.getElem?_set_ne hjk] at hy
        cases hx
        have a1 := (hu.lt q h1).1
        have hjl : j < LL.length := by have := (List.getElem?_eq_some_iff.1 hy).1; omega
        have a2 := (hr j y LL[j] hy (List.getElem?_eq_getElem hjl)).2 q h2
        omega
    · by_cases hjk : k = j
      · exfalso
        subst hjk
        rw [List.getElem?_set_self (by omega)] at hy
        rw [List.getElem?_set_ne hik] at hx
        cases hy
        have a1 := (hu.lt q h2).1
        have hil : i < LL.length := by have := (List.getElem?_eq_some_iff.1 hx).1; omega
        have a2 := (hr i x LL[i] hx (List.getElem?_eq_getElem hil)).2 q h1
        omega
      · rw [List.getElem?_set_ne hik] at hx
        rw [List.getElem?_set_ne hjk] at hy
        exact hd i j x y q hx hy h1 h2
/-- A row of one's own that is new is put behind them. -/
theorem OwnSS.snoc {w' : World} {lo hi : Nat} {v' u : Value} {LL : List (List Int)} {l : List Int} {vs : List Value} (hl : vs.length = LL.length)
    (hr : ∀ (i : Nat) (u : Value) (l : List Int), vs[i]? = some u → LL[i]? = some l → OwnV w' lo 3 u (ints l) ∧ ∀ k, u.ownBlock = some k → k < hi)
    (hd : ∀ (i j : Nat) (u u' : Value) (k : Nat), vs[i]? = some u → vs[j]? = some u' → u.ownBlock = some k → u'.ownBlock = some k → i = j)
    (hv : OwnV w' lo 49 v' (vs ++ [u])) (hu : OwnV w' hi 3 u (ints l)) (hlh : lo ≤ hi) : OwnSS w' lo w'.heap.size v' (LL ++ [l]) := by
  refine ⟨vs ++ [u], hv, fun k hk => (hv.lt k hk).2, by simp [hl], fun i x m hx hm => ?_, fun i j x y q hx hy h1 h2 => ?_⟩
  · by_cases hi' : i < vs.length
    · rw [List.getElem?_append_left hi'] at hx
      rw [List.getElem?_append_left (by omega)] at hm
      have := (hr i x m hx hm).1
      exact ⟨this, fun k hk => (this.lt k hk).2⟩
    · rw [List.getElem?_append_right (by omega)] at hx hm
      obtain ⟨e1, rfl⟩ := List.getElem?_eq_some_iff.1 hx
      obtain ⟨e2, rfl⟩ := List.getElem?_eq_some_iff.1 hm
      simp only [List.length_singleton] at e1
      simp only [List.getElem_singleton]
      exact ⟨hu.mono hlh, fun k hk => (hu.lt k hk).2⟩
  · by_cases hi' : i < vs.length
    · by_cases hj' : j < vs.length
      · rw [List.getElem?_append_left hi'] at hx
        rw [List.getElem?_append_left hj'] at hy
        exact hd i j x y q hx hy h1 h2
      · exfalso
        rw [List.getElem?_append_left hi'] at hx
        rw [List.getElem?_append_right (by omega)] at hy
        obtain ⟨e1, rfl⟩ := List.getElem?_eq_some_iff.1 hy
        simp only [List.getElem_singleton] at h2
        have a1 := (hu.lt q h2).1
        have a2 := (hr i x LL[i] hx (List.getElem?_eq_getElem (by omega))).2 q h1
        omega
    · by_cases hj' : j < vs.length
      · exfalso
        rw [List.getElem?_append_left hj'] at hy
        rw [List.getElem?_append_right (by omega)] at hx
        obtain ⟨e1, rfl⟩ := List.getElem?_eq_some_iff.1 hx
        simp only [List.getElem_singleton] at h1
        have a1 := (hu.lt q h1).1
        have a2 := (hr j y LL[j] hy (List.getElem?_eq_getElem (by omega))).2 q h2
        omega
      · have := (List.getElem?_eq_some_iff.1 hx).1
        have := (List.getElem?_eq_some_iff.1 hy).1
        simp at *
        omega

/-- A sketch in a variable. -/
def SkBox (w : World) (T : Nat) (v1 v2 : Value) : Prop := w.heap[T]? = some (.cells #[v1, v2] 36 (0, 0))
theorem SkBox.lt {w : World} {T : Nat} {a b : Value} (h : SkBox w T a b) : T < w.heap.size := (Array.getElem?_eq_some_iff.1 h).1
theorem SkBox.new (w : World) (a b : Value) : SkBox (w.alloc (.cells #[a, b] 36)) w.heap.size a b := heap_alloc_new w _
theorem SkBox.kept {w w' : World} {T : Nat} {a b : Value} (h : SkBox w T a b) (hk : w'.heap[T]? = w.heap[T]?) : SkBox w' T a b := hk.trans h
theorem SkBox.on {w w' : World} {T : Nat} {a b : Value} (h : SkBox w T a b) (hb : Below w.heap.size w w') : SkBox w' T a b := h.kept (hb.block T h.lt)
theorem SkBox.thaw {w : World} {T : Nat} {a b : Value} (h : SkBox w T a b) (i : Nat) : w.frozen? ⟨T, i, none⟩ = false := by
  unfold SkBox at h
  simp [World.frozen?, h]
theorem SkBox.cells {w : World} {T : Nat} {a b : Value} (h : SkBox w T a b) : w.cell? ⟨T, 0, none⟩ = some a ∧ w.cell? ⟨T, 1, none⟩ = some b := by
  unfold SkBox at h
  refine ⟨?_, ?_⟩
  · rw [cell_of_row w T 0 _ _ (0, 0) h]; rfl
  · rw [cell_of_row w T 1 _ _ (0, 0) h]; rfl
theorem SkBox.set0 {w : World} {T : Nat} {a b : Value} (h : SkBox w T a b) (x : Value) : SkBox (w.setCell ⟨T, 0, none⟩ x) T x b := by
  unfold SkBox at *
  simp only [World.setCell, Array.getElem?_modify, h]
  simp
theorem SkBox.set1 {w : World} {T : Nat} {a b : Value} (h : SkBox w T a b) (x : Value) : SkBox (w.setCell ⟨T, 1, none⟩ x) T a x := by
  unfold SkBox at *
  simp only [World.setCell, Array.getElem?_modify, h]
  simp
theorem SkBox.put {w : World} {T : Nat} {a b : Value} (h : SkBox w T a b) (x y : Value) : SkBox ((w.setCell ⟨T, 0, none⟩ x).setCell ⟨T, 1, none⟩ y) T x y := (h.set0 x).set1 y
theorem put2_other (w : World) (T : Nat) (x y : Value) (k : Nat) (hk : k ≠ T) : ((w.setCell ⟨T, 0, none⟩ x).setCell ⟨T, 1, none⟩ y).heap[k]? = w.heap[k]? := by
  rw [Below.heap_setCell _ _ _ _ (by exact hk), Below.heap_setCell _ _ _ _ (by exact hk)]
theorem Below.put2 {B : Nat} {a w : World} (h : Below B a w) {T : Nat} (hT : B ≤ T) (x y : Value) : Below B a ((w.setCell ⟨T, 0, none⟩ x).setCell ⟨T, 1, none⟩ y) := (h.setCell hT x).setCell hT y
theorem SkBox.far {w : World} {T T' : Nat} {a b : Value} (h : SkBox w T a b) (i : Nat) (x : Value) (hn : T ≠ T') : SkBox (w.setCell ⟨T', i, none⟩ x) T a b := h.kept (Below.heap_setCell _ _ _ _ (by exact hn))
/-- A variable's block is none of a row's. -/
theorem OwnSS.box {w w' : World} {lo hi T : Nat} {a b v : Value} {LL : List (List Int)} (h : OwnSS w lo hi v LL) (hB : SkBox w T a b) (hk : ∀ k, k ≠ T → w'.heap[k]? = w.heap[k]?) : OwnSS w' lo hi v LL :=
  h.kept fun k _ _ _ hty => hk k (fun e => by
    subst e
    rcases hty _ hB with ⟨cs, e⟩ | ⟨cs, e⟩
    · simp at e
    · simp at e)
theorem OwnSS.far {w : World} {lo hi T : Nat} {a b v : Value} {LL : List (List Int)} (h : OwnSS w lo hi v LL) (hB : SkBox w T a b) (i : Nat) (x : Value) : OwnSS (w.setCell ⟨T, i, none⟩ x) lo hi v LL := h.box hB fun k hk => Below.heap_setCell _ _ _ _ (by exact hk)
theorem OwnSS.put2 {w : World} {lo hi T : Nat} {a b v : Value} {LL : List (List Int)} (h : OwnSS w lo hi v LL) (hB : SkBox w T a b) (x y : Value) : OwnSS ((w.setCell ⟨T, 0, none⟩ x).setCell ⟨T, 1, none⟩ y) lo hi v LL := h.box hB fun k hk => put2_other w T x y k hk
/-- The value v owns the sketch S. -/
def SkOwn (w : World) (lo hi : Nat) (v : Value) (S : Sk) : Prop := ∃ v1, v = .agg #[v1, .int .i64 S.added] ∧ OwnSS w lo hi v1 S.rows
theorem SkOwn.at {w : World} {lo hi : Nat} {v : Value} {S : Sk} (h : SkOwn w lo hi v S) : ∃ a c, v = .agg #[.slice a S.rows.length c, .int .i64 S.added] ∧ SSAt w a S.rows w.heap.size := by
  obtain ⟨v1, rfl, h1⟩ := h
  obtain ⟨a, c, rfl, hA⟩ := h1.at
  exact ⟨a, c, rfl, hA⟩
theorem SkOwn.mono {w : World} {lo hi lo' hi' : Nat} {v : Value} {S : Sk} (h : SkOwn w lo hi v S) (h1 : lo' ≤ lo) (h2 : hi ≤ hi') : SkOwn w lo' hi' v S := by
  obtain ⟨v1, rfl, h3⟩ := h
  exact ⟨v1, rfl, h3.mono h1 h2⟩
theorem SkOwn.below {w w' : World} {B lo hi : Nat} {v : Value} {S : Sk} (h : SkOwn w lo hi v S) (hb : Below B w w') (hB : w.heap.size ≤ B) : SkOwn w' lo hi v S := by
  obtain ⟨v1, rfl, h3⟩ := h
  exact ⟨v1, rfl, h3.below hb hB⟩
theorem SkOwn.put2 {w : World} {lo hi T : Nat} {a b v : Value} {S : Sk} (h : SkOwn w lo hi v S) (hB : SkBox w T a b) (x y : Value) : SkOwn ((w.setCell ⟨T, 0, none⟩ x).setCell ⟨T, 1, none⟩ y) lo hi v S := by
  obtain ⟨v1, rfl, h3⟩ := h
  exact ⟨v1, rfl, h3.put2 hB x y⟩
theorem put2_size (w : World) (T : Nat) (x y : Value) : ((w.setCell ⟨T, 0, none⟩ x).setCell ⟨T, 1, none⟩ y).heap.size = w.heap.size := by simp
end Go.Proofs.Ytpgcfgbhkodmeaa
