/- Texts that stand in one: PolHold, MarkInts. -/
import Derived.Test.YtbcjkinalghokafDoorPolKitJ
import Derived.Test.YtbcjkinalghokafDoorStrsJ
namespace Go.Proofs.YtbcjkinalghokafDoor
open Go.RowKit

def tyOk (t : TypeId) : Prop := t ≠ 9 ∧ t ≠ 3 ∧ t ≠ 40
/-- The variable's block V (of type ty, with ext behind the policy's four cells) holds the policy P, whose lists and rows are owned. -/
def PHold (w : World) (V : Nat) (ty : TypeId) (ext : List Value) (lo : Nat) (v1 v2 v3 : Value) (P : Pol) : Prop :=
  w.heap[V]? = some (.cells (v1 :: v2 :: v3 :: .int .i64 P.sk.added :: ext).toArray ty (0, 0)) ∧ OwnV w lo 9 v1 (strs P.win) ∧ OwnV w lo 9 v2 (strs P.main) ∧ (∀ k, v1.ownBlock = some k → v2.ownBlock ≠ some k) ∧ OwnSS w lo w.heap.size v3 P.sk.rows
theorem PHold.lt {w : World} {V lo : Nat} {ty : TypeId} {ext : List Value} {v1 v2 v3 : Value} {P : Pol} (h : PHold w V ty ext lo v1 v2 v3 P) : V < w.heap.size := (Array.getElem?_eq_some_iff.1 h.1).1
theorem PHold.cells {w : World} {V lo : Nat} {ty : TypeId} {ext : List Value} {v1 v2 v3 : Value} {P : Pol} (h : PHold w V ty ext lo v1 v2 v3 P) : w.cell? ⟨V, 0, none⟩ = some v1 ∧ w.cell? ⟨V, 1, none⟩ = some v2 ∧ w.cell? ⟨V, 2, none⟩ = some v3 ∧ w.cell? ⟨V, 3, none⟩ = some (.int .i64 P.sk.added) ∧ w.cell? ⟨V, 4, none⟩ = ext[0]? := by
  refine ⟨?_, ?_, ?_, ?_, ?_⟩
  · rw [cell_of_row w V 0 _ _ (0, 0) h.1]; rfl
  · rw [cell_of_row w V 1 _ _ (0, 0) h.1]; rfl
  · rw [cell_of_row w V 2 _ _ (0, 0) h.1]; rfl
  · rw [cell_of_row w V 3 _ _ (0, 0) h.1]; rfl
  · rw [cell_of_row w V 4 _ _ (0, 0) h.1]; simp
theorem PHold.thaw {w : World} {V lo : Nat} {ty : TypeId} {ext : List Value} {v1 v2 v3 : Value} {P : Pol} (h : PHold w V ty ext lo v1 v2 v3 P) (i : Nat) : w.frozen? ⟨V, i, none⟩ = false := by
  have := h.1
  simp [World.frozen?, this]
theorem PHold.on {w w' : World} {V lo : Nat} {ty : TypeId} {ext : List Value} {v1 v2 v3 : Value} {P : Pol} (h : PHold w V ty ext lo v1 v2 v3 P) (hb : Below w.heap.size w w') : PHold w' V ty ext lo v1 v2 v3 P :=
  ⟨(hb.block V h.lt).trans h.1, h.2.1.below hb (Nat.le_refl _), h.2.2.1.below hb (Nat.le_refl _), h.2.2.2.1, (h.2.2.2.2.below hb (Nat.le_refl _)).mono (Nat.le_refl _) hb.size⟩
theorem PHold.own {w : World} {V lo : Nat} {ty : TypeId} {ext : List Value} {v1 v2 v3 : Value} {P : Pol} (h : PHold w V ty ext lo v1 v2 v3 P) : POwn w lo w.heap.size (.agg #[v1, v2, v3, .int .i64 P.sk.added]) P :=
  POwn.mk3 h.2.1 h.2.2.1 h.2.2.2.2 (Nat.le_refl _) (Nat.le_refl _) (Nat.le_refl _) h.2.2.2.1
/-- What a variable holds behind a store into one of its cells. -/
theorem heap_put {w : World} {V : Nat} {cs : Array Value} {ty : TypeId} (h : w.heap[V]? = some (.cells cs ty (0, 0))) (i : Nat) (x : Value) : (w.setCell ⟨V, i, none⟩ x).heap[V]? = some (.cells (cs.setIfInBounds i x) ty (0, 0)) := by
  simp only [World.setCell, Array.getElem?_modify, h]
  simp
theorem ty_ne {w : World} {k V : Nat} {cs cs' : Array Value} {t ty : TypeId} (h1 : w.heap[k]? = some (.cells cs t (0, 0))) (h2 : w.heap[V]? = some (.cells cs' ty (0, 0))) (hn : ty ≠ t) : k ≠ V := by
  rintro rfl
  rw [h1] at h2
  simp only [Option.some.injEq, Obj.cells.injEq] at h2
  exact hn h2.2.1.symm
/-- The rows stay where a list of keys, and variables, change. -/
theorem OwnSS.apart {w w' : World} {lo hi : Nat} {v : Value} {LL : List (List Int)} (h : OwnSS w lo hi v LL) (hk : ∀ (k : Nat) (cs : Array Value) (t : TypeId), w.heap[k]? = some (Obj.cells cs t (0, 0)) → (t = 3 ∨ t = 40) → w'.heap[k]? = w.heap[k]?) : OwnSS w' lo hi v LL :=
  h.kept fun k _ _ h3 h4 => by
    obtain ⟨c, hc⟩ : ∃ c, w.heap[k]? = some c := ⟨_, Array.getElem?_eq_getElem h3⟩
    rcases h4 c hc with ⟨cs, rfl⟩ | ⟨cs, rfl⟩
    · exact hk k _ _ hc (.inr rfl)
    · exact hk k _ _ hc (.inl rfl)
theorem PHold.setWin {w w' : World} {V lo : Nat} {ty : TypeId} {ext : List Value} {v1 v2 v3 v1' : Value} {P : Pol} {W' : List ByteArray} (h : PHold w V ty ext lo v1 v2 v3 P) (ht : tyOk ty) (hg : w.grownBy w' v1.ownBlock) (ho : OwnV w' lo 9 v1' (strs W')) (hn : ∀ k, v1'.ownBlock = some k → v1.ownBlock = some k ∨ w.heap.size ≤ k) :
    PHold (w'.setCell ⟨V, 0, none⟩ v1') V ty ext lo v1' v2 v3 ⟨W', P.main, P.sk⟩ := by
  obtain ⟨hV, h1, h2, h3, h4⟩ := h
  have hVn : v1.ownBlock ≠ some V := fun e => by
    obtain ⟨cs, hc⟩ := ownV_type h1 V e
    exact ty_ne hc hV ht.1 rfl
  have hV' : w'.heap[V]? = some (.cells (v1 :: v2 :: v3 :: .int .i64 P.sk.added :: ext).toArray ty (0, 0)) := (hg.block V (Array.getElem?_eq_some_iff.1 hV).1 (fun e => hVn e.symm)).trans hV
  have hs : (w'.setCell ⟨V, 0, none⟩ v1').heap.size = w'.heap.size := by simp [World.setCell]
  have far : ∀ k, k ≠ V → (w'.setCell ⟨V, 0, none⟩ v1').heap[k]? = w'.heap[k]? := fun k hk => Below.heap_setCell _ _ _ _ (by exact hk)
  refine ⟨?_, ho.kept fun k hk => ?_, (h2.grown hg (fun k hk e => h3 k e hk)).kept fun k hk => ?_, fun k hk e => ?_, ?_⟩
  · rw [heap_put hV']; simp
  · obtain ⟨cs, hc⟩ := ownV_type ho k hk
    exact far k (ty_ne hc hV' ht.1)
  · obtain ⟨cs, hc⟩ := ownV_type (h2.grown hg (fun k hk e => h3 k e hk)) k hk
    exact far k (ty_ne hc hV' ht.1)
  · rcases hn k hk with hk' | hk'
    · exact h3 k hk' e
    · have := (h2.lt k e).2; omega
  · rw [hs]
    refine OwnSS.apart (h4.mono (Nat.le_refl _) hg.size) fun k cs t hc htt => ?_
    have hkV : k ≠ V := ty_ne hc hV (by rcases htt with rfl | rfl; exact ht.2.1; exact ht.2.2)
    rw [far k hkV]
    refine hg.block k (Array.getElem?_eq_some_iff.1 hc).1 fun e => ?_
    obtain ⟨cs', hc'⟩ := ownV_type h1 k e.symm
    rw [hc] at hc'
    simp only [Option.some.injEq, Obj.cells.injEq] at hc'
    rcases htt with rfl | rfl
    · exact absurd hc'.2.1 (by decide)
    · exact absurd hc'.2.1 (by decide)
theorem PHold.setMain {w w' : World} {V lo : Nat} {ty : TypeId} {ext : List Value} {v1 v2 v3 v2' : Value} {P : Pol} {W' : List ByteArray} (h : PHold w V ty ext lo v1 v2 v3 P) (ht : tyOk ty) (hg : w.grownBy w' v2.ownBlock) (ho : OwnV w' lo 9 v2' (strs W')) (hn : ∀ k, v2'.ownBlock = some k → v2.ownBlock = some k ∨ w.heap.size ≤ k) :
    PHold (w'.setCell ⟨V, 1, none⟩ v2') V ty ext lo v1 v2' v3 ⟨P.win, W', P.sk⟩ := by
  obtain ⟨hV, h1, h2, h3, h4⟩ := h
  have hVn : v2.ownBlock ≠ some V := fun e => by
    obtain ⟨cs, hc⟩ := ownV_type h2 V e
    exact ty_ne hc hV ht.1 rfl
  have hV' : w'.heap[V]? = some (.cells (v1 :: v2 :: v3 :: .int .i64 P.sk.added :: ext).toArray ty (0, 0)) := (hg.block V (Array.getElem?_eq_some_iff.1 hV).1 (fun e => hVn e.symm)).trans hV
  have hs : (w'.setCell ⟨V, 1, none⟩ v2').heap.size = w'.heap.size := by simp [World.setCell]
  have far : ∀ k, k ≠ V → (w'.setCell ⟨V, 1, none⟩ v2').heap[k]? = w'.heap[k]? := fun k hk => Below.heap_setCell _ _ _ _ (by exact hk)
  refine ⟨?_, (h1.grown hg (fun k hk e => h3 k hk e)).kept fun k hk => ?_, ho.kept fun k hk => ?_, fun k hk e => ?_, ?_⟩
  · rw [heap_put hV']; simp
  · obtain ⟨cs, hc⟩ := ownV_type (h1.grown hg (fun k hk e => h3 k hk e)) k hk
    exact far k (ty_ne hc hV' ht.1)
  · obtain ⟨cs, hc⟩ := ownV_type ho k hk
    exact far k (ty_ne hc hV' ht.1)
  · rcases hn k e with hk' | hk'
    · exact h3 k hk hk'
    · have := (h1.lt k hk).2; omega
  · rw [hs]
    refine OwnSS.apart (h4.mono (Nat.le_refl _) hg.size) fun k cs t hc htt => ?_
    have hkV : k ≠ V := ty_ne hc hV (by rcases htt with rfl | rfl; exact ht.2.1; exact ht.2.2)
    rw [far k hkV]
    refine hg.block k (Array.getElem?_eq_some_iff.1 hc).1 fun e => ?_
    obtain ⟨cs', hc'⟩ := ownV_type h2 k e.symm
    rw [hc] at hc'
    simp only [Option.some.injEq, Obj.cells.injEq] at hc'
    rcases htt with rfl | rfl
    · exact absurd hc'.2.1 (by decide)
    · exact absurd hc'.2.1 (by decide)
theorem PHold.setSk {w w' : World} {V lo : Nat} {ty : TypeId} {ext : List Value} {v1 v2 v3 v3' : Value} {P : Pol} {S : Sk} (h : PHold w V ty ext lo v1 v2 v3 P) (ht : tyOk ty) (hb : Below w.heap.size w w') (hlo : lo ≤ w.heap.size) (ho : OwnSS w' w.heap.size w'.heap.size v3' S.rows) :
    PHold ((w'.setCell ⟨V, 2, none⟩ v3').setCell ⟨V, 3, none⟩ (.int .i64 S.added)) V ty ext lo v1 v2 v3' ⟨P.win, P.main, S⟩ := by
  have h' := h.on hb
  obtain ⟨hV, h1, h2, h3, h4⟩ := h'
  have far : ∀ k, k ≠ V → ((w'.setCell ⟨V, 2, none⟩ v3').setCell ⟨V, 3, none⟩ (.int .i64 S.added)).heap[k]? = w'.heap[k]? := fun k hk => by
    rw [Below.heap_setCell _ _ _ _ (by exact hk), Below.heap_setCell _ _ _ _ (by exact hk)]
  have hs : ((w'.setCell ⟨V, 2, none⟩ v3').setCell ⟨V, 3, none⟩ (.int .i64 S.added)).heap.size = w'.heap.size := by simp [World.setCell]
  refine ⟨?_, h1.kept fun k hk => ?_, h2.kept fun k hk => ?_, h3, ?_⟩
  · rw [heap_put (heap_put hV 2 v3')]; simp
  · obtain ⟨cs, hc⟩ := ownV_type h1 k hk
    exact far k (ty_ne hc hV ht.1)
  · obtain ⟨cs, hc⟩ := ownV_type h2 k hk
    exact far k (ty_ne hc hV ht.1)
  · rw [hs]
    refine OwnSS.apart (ho.mono hlo (Nat.le_refl _)) fun k cs t hc htt => ?_
    exact far k (ty_ne hc hV (by rcases htt with rfl | rfl; exact ht.2.1; exact ht.2.2))
/-- Another variable changes. -/
theorem PHold.far {w w' : World} {V T lo : Nat} {ty t' : TypeId} {ext : List Value} {cs' : Array Value} {v1 v2 v3 : Value} {P : Pol} (h : PHold w V ty ext lo v1 v2 v3 P) (hT : w.heap[T]? = some (.cells cs' t' (0, 0))) (ht' : tyOk t' ∨ T < lo) (hVT : V ≠ T) (hk : ∀ k, k ≠ T → w'.heap[k]? = w.heap[k]?) (hs : w'.heap.size = w.heap.size) : PHold w' V ty ext lo v1 v2 v3 P := by
  obtain ⟨hV, h1, h2, h3, h4⟩ := h
  refine ⟨(hk V hVT).trans hV, h1.kept fun k hk' => ?_, h2.kept fun k hk' => ?_, h3, ?_⟩
  · obtain ⟨cs, hc⟩ := ownV_type h1 k hk'
    rcases ht' with ht' | ht'
    · exact hk k (ty_ne hc hT ht'.1)
    · exact hk k (by have := (h1.lt k hk').1; omega)
  · obtain ⟨cs, hc⟩ := ownV_type h2 k hk'
    rcases ht' with ht' | ht'
    · exact hk k (ty_ne hc hT ht'.1)
    · exact hk k (by have := (h2.lt k hk').1; omega)
  · rw [hs]
    refine h4.kept fun k k1 _ k3 k4 => ?_
    obtain ⟨c, hc⟩ : ∃ c, w.heap[k]? = some c := ⟨_, Array.getElem?_eq_getElem k3⟩
    rcases ht' with ht' | ht'
    · rcases k4 c hc with ⟨cs, rfl⟩ | ⟨cs, rfl⟩
      · exact hk k (ty_ne hc hT ht'.2.2)
      · exact hk k (ty_ne hc hT ht'.2.1)
    · exact hk k (by omega)
/-- A policy's value is laid into a new variable. -/
theorem POwn.hold {w : World} {lo : Nat} {v1 v2 v3 : Value} {P : Pol} (h : POwn w lo w.heap.size (.agg #[v1, v2, v3, .int .i64 P.sk.added]) P) (ty : TypeId) (ext : List Value) :
    PHold (w.alloc (.cells (v1 :: v2 :: v3 :: .int .i64 P.sk.added :: ext).toArray ty)) w.heap.size ty ext lo v1 v2 v3 P := by
  obtain ⟨u1, u2, u3, e, a1, a2, a3, a4, a5⟩ := h
  simp only [Value.agg.injEq, Array.mk.injEq, List.cons.injEq, and_true] at e
  obtain ⟨rfl, rfl, rfl⟩ := e
  have hb : Below w.heap.size w (w.alloc (.cells (v1 :: v2 :: v3 :: .int .i64 P.sk.added :: ext).toArray ty)) := (Below.refl _ _).alloc (Nat.le_refl _) _
  exact ⟨heap_alloc_new _ _, a1.below hb (Nat.le_refl _), a2.below hb (Nat.le_refl _), fun k hk => (a3 k hk).2, (a5.below hb (Nat.le_refl _)).mono (Nat.le_refl _) hb.size⟩
/-- The variable itself, where one of its lists has changed. -/
theorem PHold.var1 {w w' : World} {V lo : Nat} {ty : TypeId} {ext : List Value} {v1 v2 v3 : Value} {P : Pol} (h : PHold w V ty ext lo v1 v2 v3 P) (ht : tyOk ty) (hg : w.grownBy w' v1.ownBlock) : w'.cell? ⟨V, 0, none⟩ = some v1 ∧ ∀ i, w'.frozen? ⟨V, i, none⟩ = false := by
  have hVn : v1.ownBlock ≠ some V := fun e => by
    obtain ⟨cs, hc⟩ := ownV_type h.2.1 V e
    exact ty_ne hc h.1 ht.1 rfl
  have hV' := (hg.block V h.lt (fun e => hVn e.symm)).trans h.1
  exact ⟨by rw [cell_of_row w' V 0 _ _ (0, 0) hV']; rfl, fun i => by simp [World.frozen?, hV']⟩
theorem PHold.var2 {w w' : World} {V lo : Nat} {ty : TypeId} {ext : List Value} {v1 v2 v3 : Value} {P : Pol} (h : PHold w V ty ext lo v1 v2 v3 P) (ht : tyOk ty) (hg : w.grownBy w' v2.ownBlock) : w'.cell? ⟨V, 1, none⟩ = some v2 ∧ ∀ i, w'.frozen? ⟨V, i, none⟩ = false := by
  have hVn : v2.ownBlock ≠ some V := fun e => by
    obtain ⟨cs, hc⟩ := ownV_type h.2.2.1 V e
    exact ty_ne hc h.1 ht.1 rfl
  have hV' := (hg.block V h.lt (fun e => hVn e.symm)).trans h.1
  exact ⟨by rw [cell_of_row w' V 1 _ _ (0, 0) hV']; rfl, fun i => by simp [World.frozen?, hV']⟩
end Go.Proofs.YtbcjkinalghokafDoor

namespace Go.Proofs.YtbcjkinalghokafDoor
open Go.RowKit Go.Sort
end Go.Proofs.YtbcjkinalghokafDoor
