/- Texts that stand in one: PolHold, SnocS, SeatKit. -/
import Derived.Test.YthfjfccdelbkhaaGreatDoorPolSpecJ
import Derived.Test.YthfjfccdelbkhaaGreatDoorDelEntJ
import Derived.Test.YthfjfccdelbkhaaGreatDoorShelf
import Derived.Test.YthfjfccdelbkhaaGreatDoorRowStepJ
import Derived.Test.YthfjfccdelbkhaaGreatDoorPxPlainJ
import Derived.Shelf.Abstract
namespace Go.Proofs.YthfjfccdelbkhaaGreatDoor
open Go.RowKit
def tyOk (t : TypeId) : Prop := t ≠ 9 ∧ t ≠ 3 ∧ t ≠ 107
def PHold (w : World) (V : Nat) (ty : TypeId) (ext : List Value) (lo : Nat) (v1 v2 v3 : Value) (P : Pol) : Prop :=
 w.heap[V]? = some (.cells (v1 :: v2 :: v3 :: .int .i64 P.sk.added :: ext).toArray ty (0, 0)) ∧ OwnV w lo 9 v1 (strs P.win) ∧ OwnV w lo 9 v2 (strs P.main) ∧ (∀ k,v1.ownBlock = some k → v2.ownBlock ≠ some k) ∧ OwnSS w lo w.heap.size v3 P.sk.rows
theorem PHold.lt {w : World} {V lo : Nat} {ty : TypeId} {ext : List Value} {v1 v2 v3 : Value} {P : Pol} (h : PHold w V ty ext lo v1 v2 v3 P) : V < w.heap.size := (Array.getElem?_eq_some_iff.1 h.1).1
theorem PHold.cells {w : World} {V lo : Nat} {ty : TypeId} {ext : List Value} {v1 v2 v3 : Value} {P : Pol} (h : PHold w V ty ext lo v1 v2 v3 P) : w.cell? ⟨V, 0,none⟩ = some v1 ∧ w.cell? ⟨V, 1,none⟩ = some v2 ∧ w.cell? ⟨V, 2,none⟩ = some v3 ∧ w.cell? ⟨V, 3,none⟩ = some (.int .i64 P.sk.added) ∧ w.cell? ⟨V, 4,none⟩ = ext[0]? := by
 refine ⟨?_, ?_, ?_, ?_, ?_⟩
 ·rw [cell_of_row w V 0 _ _ (0, 0) h.1]; rfl
 ·rw [cell_of_row w V 1 _ _ (0, 0) h.1]; rfl
 ·rw [cell_of_row w V 2 _ _ (0, 0) h.1]; rfl
 ·rw [cell_of_row w V 3 _ _ (0, 0) h.1]; rfl
 ·rw [cell_of_row w V 4 _ _ (0, 0) h.1]; simp
theorem PHold.thaw {w : World} {V lo : Nat} {ty : TypeId} {ext : List Value} {v1 v2 v3 : Value} {P : Pol} (h : PHold w V ty ext lo v1 v2 v3 P) (i : Nat) : w.frozen? ⟨V,i,none⟩ = false := by
 have := h.1
 simp [World.frozen?,this]
theorem PHold.on {w w' : World} {V lo : Nat} {ty : TypeId} {ext : List Value} {v1 v2 v3 : Value} {P : Pol} (h : PHold w V ty ext lo v1 v2 v3 P) (hb : Below w.heap.size w w') : PHold w' V ty ext lo v1 v2 v3 P :=
 ⟨(hb.block V h.lt).trans h.1,h.2.1.below hb (Nat.le_refl _),h.2.2.1.below hb (Nat.le_refl _),h.2.2.2.1,(h.2.2.2.2.below hb (Nat.le_refl _)).mono (Nat.le_refl _) hb.size⟩
theorem PHold.own {w : World} {V lo : Nat} {ty : TypeId} {ext : List Value} {v1 v2 v3 : Value} {P : Pol} (h : PHold w V ty ext lo v1 v2 v3 P) : POwn w lo w.heap.size (.agg #[v1,v2,v3,.int .i64 P.sk.added]) P :=
 POwn.mk3 h.2.1 h.2.2.1 h.2.2.2.2 (Nat.le_refl _) (Nat.le_refl _) (Nat.le_refl _) h.2.2.2.1
theorem heap_put {w : World} {V : Nat} {cs : Array Value} {ty : TypeId} (h : w.heap[V]? = some (.cells cs ty (0, 0))) (i : Nat) (x : Value) : (w.setCell ⟨V,i,none⟩ x).heap[V]? = some (.cells (cs.setIfInBounds i x) ty (0, 0)) := by
 simp only [World.setCell,Array.getElem?_modify,h]
 simp
theorem ty_ne {w : World} {k V : Nat} {cs cs' : Array Value} {t ty : TypeId} (h1 : w.heap[k]? = some (.cells cs t (0, 0))) (h2 : w.heap[V]? = some (.cells cs' ty (0, 0))) (hn : ty ≠ t) : k ≠ V := by
 rintro rfl
 rw [h1] at h2
 simp only [Option.some.injEq,Obj.cells.injEq] at h2
 exact hn h2.2.1.symm
theorem OwnSS.apart {w w' : World} {lo hi : Nat} {v : Value} {LL : List (List Int)} (h : OwnSS w lo hi v LL) (hk : ∀ (k : Nat) (cs : Array Value) (t : TypeId),w.heap[k]? = some (Obj.cells cs t (0, 0)) → (t = 3 ∨ t = 107) → w'.heap[k]? = w.heap[k]?) : OwnSS w' lo hi v LL :=
 h.kept fun k _ _ h3 h4 => by
  obtain ⟨c,hc⟩ : ∃ c,w.heap[k]? = some c := ⟨_,Array.getElem?_eq_getElem h3⟩
  rcases h4 c hc with ⟨cs,rfl⟩ | ⟨cs,rfl⟩
  ·exact hk k _ _ hc (.inr rfl)
  ·exact hk k _ _ hc (.inl rfl)
theorem PHold.setWin {w w' : World} {V lo : Nat} {ty : TypeId} {ext : List Value} {v1 v2 v3 v1' : Value} {P : Pol} {W' : List ByteArray} (h : PHold w V ty ext lo v1 v2 v3 P) (ht : tyOk ty) (hg : w.grownBy w' v1.ownBlock) (ho : OwnV w' lo 9 v1' (strs W')) (hn : ∀ k,v1'.ownBlock = some k → v1.ownBlock = some k ∨ w.heap.size ≤ k) :
  PHold (w'.setCell ⟨V, 0,none⟩ v1') V ty ext lo v1' v2 v3 ⟨W',P.main,P.sk⟩ := by
 obtain ⟨hV,h1,h2,h3,h4⟩ := h
 have hVn : v1.ownBlock ≠ some V := fun e => by
  obtain ⟨cs,hc⟩ := ownV_type h1 V e
  exact ty_ne hc hV ht.1 rfl
 have hV' : w'.heap[V]? = some (.cells (v1 :: v2 :: v3 :: .int .i64 P.sk.added :: ext).toArray ty (0, 0)) := (hg.block V (Array.getElem?_eq_some_iff.1 hV).1 (fun e => hVn e.symm)).trans hV
 have hs : (w'.setCell ⟨V, 0,none⟩ v1').heap.size = w'.heap.size := by simp [World.setCell]
 have far : ∀ k,k ≠ V → (w'.setCell ⟨V, 0,none⟩ v1').heap[k]? = w'.heap[k]? := fun k hk => Below.heap_setCell _ _ _ _ (by exact hk)
 refine ⟨?_,ho.kept fun k hk => ?_,(h2.grown hg (fun k hk e => h3 k e hk)).kept fun k hk => ?_,fun k hk e => ?_, ?_⟩
 ·rw [heap_put hV']; simp
 ·obtain ⟨cs,hc⟩ := ownV_type ho k hk
  exact far k (ty_ne hc hV' ht.1)
 ·obtain ⟨cs,hc⟩ := ownV_type (h2.grown hg (fun k hk e => h3 k e hk)) k hk
  exact far k (ty_ne hc hV' ht.1)
 ·rcases hn k hk with hk' | hk'
  ·exact h3 k hk' e
  ·have := (h2.lt k e).2; omega
 ·rw [hs]
  refine OwnSS.apart (h4.mono (Nat.le_refl _) hg.size) fun k cs t hc htt => ?_
  have hkV : k ≠ V := ty_ne hc hV (by rcases htt with rfl | rfl; exact ht.2.1; exact ht.2.2)
  rw [far k hkV]
  refine hg.block k (Array.getElem?_eq_some_iff.1 hc).1 fun e => ?_
  obtain ⟨cs',hc'⟩ := ownV_type h1 k e.symm
  rw [hc] at hc'
  simp only [Option.some.injEq,Obj.cells.injEq] at hc'
  rcases htt with rfl | rfl
  ·exact absurd hc'.2.1 (by decide)
  ·exact absurd hc'.2.1 (by decide)
theorem PHold.setMain {w w' : World} {V lo : Nat} {ty : TypeId} {ext : List Value} {v1 v2 v3 v2' : Value} {P : Pol} {W' : List ByteArray} (h : PHold w V ty ext lo v1 v2 v3 P) (ht : tyOk ty) (hg : w.grownBy w' v2.ownBlock) (ho : OwnV w' lo 9 v2' (strs W')) (hn : ∀ k,v2'.ownBlock = some k → v2.ownBlock = some k ∨ w.heap.size ≤ k) :
  PHold (w'.setCell ⟨V, 1,none⟩ v2') V ty ext lo v1 v2' v3 ⟨P.win,W',P.sk⟩ := by
 obtain ⟨hV,h1,h2,h3,h4⟩ := h
 have hVn : v2.ownBlock ≠ some V := fun e => by
  obtain ⟨cs,hc⟩ := ownV_type h2 V e
  exact ty_ne hc hV ht.1 rfl
 have hV' : w'.heap[V]? = some (.cells (v1 :: v2 :: v3 :: .int .i64 P.sk.added :: ext).toArray ty (0, 0)) := (hg.block V (Array.getElem?_eq_some_iff.1 hV).1 (fun e => hVn e.symm)).trans hV
 have hs : (w'.setCell ⟨V, 1,none⟩ v2').heap.size = w'.heap.size := by simp [World.setCell]
 have far : ∀ k,k ≠ V → (w'.setCell ⟨V, 1,none⟩ v2').heap[k]? = w'.heap[k]? := fun k hk => Below.heap_setCell _ _ _ _ (by exact hk)
 refine ⟨?_,(h1.grown hg (fun k hk e => h3 k hk e)).kept fun k hk => ?_,ho.kept fun k hk => ?_,fun k hk e => ?_, ?_⟩
 ·rw [heap_put hV']; simp
 ·obtain ⟨cs,hc⟩ := ownV_type (h1.grown hg (fun k hk e => h3 k hk e)) k hk
  exact far k (ty_ne hc hV' ht.1)
 ·obtain ⟨cs,hc⟩ := ownV_type ho k hk
  exact far k (ty_ne hc hV' ht.1)
 ·rcases hn k e with hk' | hk'
  ·exact h3 k hk hk'
  ·have := (h1.lt k hk).2; omega
 ·rw [hs]
  refine OwnSS.apart (h4.mono (Nat.le_refl _) hg.size) fun k cs t hc htt => ?_
  have hkV : k ≠ V := ty_ne hc hV (by rcases htt with rfl | rfl; exact ht.2.1; exact ht.2.2)
  rw [far k hkV]
  refine hg.block k (Array.getElem?_eq_some_iff.1 hc).1 fun e => ?_
  obtain ⟨cs',hc'⟩ := ownV_type h2 k e.symm
  rw [hc] at hc'
  simp only [Option.some.injEq,Obj.cells.injEq] at hc'
  rcases htt with rfl | rfl
  ·exact absurd hc'.2.1 (by decide)
  ·exact absurd hc'.2.1 (by decide)
theorem PHold.setSk {w w' : World} {V lo : Nat} {ty : TypeId} {ext : List Value} {v1 v2 v3 v3' : Value} {P : Pol} {S : Sk} (h : PHold w V ty ext lo v1 v2 v3 P) (ht : tyOk ty) (hb : Below w.heap.size w w') (hlo : lo ≤ w.heap.size) (ho : OwnSS w' w.heap.size w'.heap.size v3' S.rows) :
  PHold ((w'.setCell ⟨V, 2,none⟩ v3').setCell ⟨V, 3,none⟩ (.int .i64 S.added)) V ty ext lo v1 v2 v3' ⟨P.win,P.main,S⟩ := by
 have h' := h.on hb
 obtain ⟨hV,h1,h2,h3,h4⟩ := h'
 have far : ∀ k,k ≠ V → ((w'.setCell ⟨V, 2,none⟩ v3').setCell ⟨V, 3,none⟩ (.int .i64 S.added)).heap[k]? = w'.heap[k]? := fun k hk => by
  rw [Below.heap_setCell _ _ _ _ (by exact hk),Below.heap_setCell _ _ _ _ (by exact hk)]
 have hs : ((w'.setCell ⟨V, 2,none⟩ v3').setCell ⟨V, 3,none⟩ (.int .i64 S.added)).heap.size = w'.heap.size := by simp [World.setCell]
 refine ⟨?_,h1.kept fun k hk => ?_,h2.kept fun k hk => ?_,h3, ?_⟩
 ·rw [heap_put (heap_put hV 2 v3')]; simp
 ·obtain ⟨cs,hc⟩ := ownV_type h1 k hk
  exact far k (ty_ne hc hV ht.1)
 ·obtain ⟨cs,hc⟩ := ownV_type h2 k hk
  exact far k (ty_ne hc hV ht.1)
 ·rw [hs]
  refine OwnSS.apart (ho.mono hlo (Nat.le_refl _)) fun k cs t hc htt => ?_
  exact far k (ty_ne hc hV (by rcases htt with rfl | rfl; exact ht.2.1; exact ht.2.2))
theorem PHold.far {w w' : World} {V T lo : Nat} {ty t' : TypeId} {ext : List Value} {cs' : Array Value} {v1 v2 v3 : Value} {P : Pol} (h : PHold w V ty ext lo v1 v2 v3 P) (hT : w.heap[T]? = some (.cells cs' t' (0, 0))) (ht' : tyOk t' ∨ T < lo) (hVT : V ≠ T) (hk : ∀ k,k ≠ T → w'.heap[k]? = w.heap[k]?) (hs : w'.heap.size = w.heap.size) : PHold w' V ty ext lo v1 v2 v3 P := by
 obtain ⟨hV,h1,h2,h3,h4⟩ := h
 refine ⟨(hk V hVT).trans hV,h1.kept fun k hk' => ?_,h2.kept fun k hk' => ?_,h3, ?_⟩
 ·obtain ⟨cs,hc⟩ := ownV_type h1 k hk'
  rcases ht' with ht' | ht'
  ·exact hk k (ty_ne hc hT ht'.1)
  ·exact hk k (by have := (h1.lt k hk').1; omega)
 ·obtain ⟨cs,hc⟩ := ownV_type h2 k hk'
  rcases ht' with ht' | ht'
  ·exact hk k (ty_ne hc hT ht'.1)
  ·exact hk k (by have := (h2.lt k hk').1; omega)
 ·rw [hs]
  refine h4.kept fun k k1 _ k3 k4 => ?_
  obtain ⟨c,hc⟩ : ∃ c,w.heap[k]? = some c := ⟨_,Array.getElem?_eq_getElem k3⟩
  rcases ht' with ht' | ht'
  ·rcases k4 c hc with ⟨cs,rfl⟩ | ⟨cs,rfl⟩
   ·exact hk k (ty_ne hc hT ht'.2.2)
   ·exact hk k (ty_ne hc hT ht'.2.1)
  ·exact hk k (by omega)
theorem POwn.hold {w : World} {lo : Nat} {v1 v2 v3 : Value} {P : Pol} (h : POwn w lo w.heap.size (.agg #[v1,v2,v3,.int .i64 P.sk.added]) P) (ty : TypeId) (ext : List Value) :
  PHold (w.alloc (.cells (v1 :: v2 :: v3 :: .int .i64 P.sk.added :: ext).toArray ty)) w.heap.size ty ext lo v1 v2 v3 P := by
 obtain ⟨u1,u2,u3,e,a1,a2,a3,a4,a5⟩ := h
 simp only [Value.agg.injEq,Array.mk.injEq,List.cons.injEq,and_true] at e
 obtain ⟨rfl,rfl,rfl⟩ := e
 have hb : Below w.heap.size w (w.alloc (.cells (v1 :: v2 :: v3 :: .int .i64 P.sk.added :: ext).toArray ty)) := (Below.refl _ _).alloc (Nat.le_refl _) _
 exact ⟨heap_alloc_new _ _,a1.below hb (Nat.le_refl _),a2.below hb (Nat.le_refl _),fun k hk => (a3 k hk).2,(a5.below hb (Nat.le_refl _)).mono (Nat.le_refl _) hb.size⟩
theorem PHold.var1 {w w' : World} {V lo : Nat} {ty : TypeId} {ext : List Value} {v1 v2 v3 : Value} {P : Pol} (h : PHold w V ty ext lo v1 v2 v3 P) (ht : tyOk ty) (hg : w.grownBy w' v1.ownBlock) : w'.cell? ⟨V, 0,none⟩ = some v1 ∧ ∀ i,w'.frozen? ⟨V,i,none⟩ = false := by
 have hVn : v1.ownBlock ≠ some V := fun e => by
  obtain ⟨cs,hc⟩ := ownV_type h.2.1 V e
  exact ty_ne hc h.1 ht.1 rfl
 have hV' := (hg.block V h.lt (fun e => hVn e.symm)).trans h.1
 exact ⟨by rw [cell_of_row w' V 0 _ _ (0, 0) hV']; rfl,fun i => by simp [World.frozen?,hV']⟩
theorem PHold.var2 {w w' : World} {V lo : Nat} {ty : TypeId} {ext : List Value} {v1 v2 v3 : Value} {P : Pol} (h : PHold w V ty ext lo v1 v2 v3 P) (ht : tyOk ty) (hg : w.grownBy w' v2.ownBlock) : w'.cell? ⟨V, 1,none⟩ = some v2 ∧ ∀ i,w'.frozen? ⟨V,i,none⟩ = false := by
 have hVn : v2.ownBlock ≠ some V := fun e => by
  obtain ⟨cs,hc⟩ := ownV_type h.2.2.1 V e
  exact ty_ne hc h.1 ht.1 rfl
 have hV' := (hg.block V h.lt (fun e => hVn e.symm)).trans h.1
 exact ⟨by rw [cell_of_row w' V 1 _ _ (0, 0) hV']; rfl,fun i => by simp [World.frozen?,hV']⟩
end Go.Proofs.YthfjfccdelbkhaaGreatDoor
namespace Go.Proofs.YthfjfccdelbkhaaGreatDoor
open Go.RowKit Go.Sort
theorem grown_alloc {w w' : World} {o : Obj} {row : Option Nat} (h : (w.alloc o).grownBy w' row) : w.grownBy w' row := by
 have h0 : w.grownBy (w.alloc o) row := grownBy_below ((Below.refl _ _).alloc (Nat.le_refl _) _)
 exact grownBy_trans h0 h
theorem wpList_snocS {P : Program} {ops : Array Oper} {rest : List Oper} {o : Oper} {a : Act} {Q : Exit → Act → World → Prop} {wr : World} (hgd : o.guard = none) (s x : Operand) (t : TypeId)
  (ho : o.op = .call { callee := .builtin .append,args := #[s,x],argTypes := #[t,t] }) (base : Nat) (ht : P.underlying t = some (.slice 9))
  (hinfo : (P.info? 9).map (fun i => (i.zero,i.size,i.bytes)) = some (some (.string ⟨#[]⟩), 1, 16)) (v : Value) (L : List ByteArray) (hs : a.eval s = v) (hown : OwnV wr base 9 v (strs L))
  (y : ByteArray) (hx : a.eval x = .slice (some ⟨wr.heap.size, 0,none⟩) 1 1) (hlen : L.length ≤ 2000000) (hbase : base ≤ wr.heap.size)
  (h : ∀ g cap w',OwnV w' base 9 (.slice (some ⟨g, 0,none⟩) (L.length + 1) cap) (strs (L ++ [y])) → wr.grownBy w' v.ownBlock → (v.ownBlock = some g ∨ wr.heap.size ≤ g) → wpList P ops Q rest (a.put o.dst (.slice (some ⟨g, 0,none⟩) (L.length + 1) cap)) w') :
  wpList P ops Q (o :: rest) a (wr.alloc (.cells #[.string y] 9)) := by
 obtain ⟨i0,hi,hz0,hz1,hz2⟩ := info_parts hinfo
 have hO : (wr.alloc (.cells #[.string y] 9)).ownsRow base 9 1 v L.length (strs L) := by
  have h1 := OwnV.alloc hown (.cells #[.string y] 9)
  unfold OwnV at h1
  rw [strs_length] at h1
  exact h1
 refine wpList_append_lies _ hgd s x t ho base 9 i0 _ 1 16 ht hi hz0 hz1 hz2 rfl (by decide) v L.length (strs L) hs hO ⟨wr.heap.size, 0,none⟩ 1 1 [.string y] hx rfl (fun j u hj => ?_) (fun u hu => ?_) (by decide) (by unfold maxLen; omega) (by omega) (by simp; omega) (wr.heap.size + 1) (by simp) ?_
 ·match j,hj with
  | 0,hj => simp at hj; subst hj; simp [Addr.add]
 ·simp at hu; subst hu; rfl
 ·intro g cap w' h1 h2 h3 _
  refine h g cap w' ?_ (grown_alloc h2) ?_
  ·unfold OwnV
   rw [strs_append,List.length_append,strs_length]
   exact h1
  ·rcases h3 with h3 | h3
   ·exact .inl h3
   ·exact .inr (by omega)
theorem strsOf_strs (L : List ByteArray) : (Lib.strsOf (fun i => L.getD i noKey) L.length).map encStr = strs L := by
 apply List.ext_getElem
 ·simp [Lib.strsOf,strs]
 ·intro i h1 h2
  have hi : i < L.length := by simpa [strs] using h2
  simp [Lib.strsOf,strs,encStr,List.getD_eq_getElem?_getD,hi]
theorem deleteFirst_any (w : World) (base : Nat) (v : Value) (L : List ByteArray) (ho : OwnV w base 9 v (strs L)) (hl : 0 < L.length) :
  Calls Tryz.prog 111 #[v,.int .i64 0,.int .i64 1] w fun e w' => ∃ v',e = .returned v' ∧ OwnV w' base 9 v' (strs L.tail) ∧ v'.ownBlock = v.ownBlock ∧ w.grownBy w' v.ownBlock := by
 rcases ho.2 with ⟨rfl,h0⟩ | ⟨g,c,cur,rfl,h1,h2,h3,h4,h5,h6⟩
 ·rw [strs_length] at h0; omega
 ·rw [strs_length] at h3 h6 ho ⊢
  have hc := Tryz.slices_Delete_string_cells g 0 L.length c 0 1 (fun i => L.getD i noKey) w h3 (by unfold maxLen at h4; omega) (by omega) (by omega)
   (fun i hi => by
    rw [Nat.zero_add,(ho.cell (j := i) (by rw [strs_length]; exact hi)).1,strs_at hi]
    simp [List.getD_eq_getElem?_getD,hi])
   (fun i hi => by rw [Nat.zero_add]; exact (ho.cell (j := i) (by rw [strs_length]; exact hi)).2.1)
  refine hc.mono ?_
  rintro e w' ⟨rfl,q,rfl⟩
  have hv : (((Lib.strsOf (fun i => L.getD i noKey) L.length).take 0 ++ (Lib.strsOf (fun i => L.getD i noKey) L.length).drop 1 ++ List.replicate (1 - 0) []).map encStr) = strs (L.drop 1) ++ [Value.string ⟨#[]⟩] := by
   rw [List.take_zero,List.nil_append,List.map_append,List.map_drop,strsOf_strs]
   simp [strs,encStr]
  rw [hv]
  have ho' : OwnV (w.drewN q) base 9 (.slice (some ⟨g, 0,none⟩) L.length c) (strs L) := ho
  obtain ⟨ys,e1,_,e3,_,e5,e6⟩ := OwnV.storedAll (strs (L.drop 1) ++ [Value.string ⟨#[]⟩]) 0 (w.drewN q) (strs L) ho' (by rw [strs_length])
  have hcut := e5.cut (by rw [e1,strs_length]) (L.length - 1) (by omega)
  have hgw : w.grownBy (w.drewN q) (some g) := ⟨rfl,rfl,rfl,Nat.le_refl _,fun _ _ _ => rfl⟩
  refine ⟨_,rfl, ?_,rfl,grownBy_trans hgw e6⟩
  rw [show L.length - (1 - 0) = L.length - 1 by omega]
  have ht : ys.take (L.length - 1) = strs L.tail := by
   apply List.ext_getElem?
   intro i
   by_cases hi : i < L.length - 1
   ·rw [List.getElem?_take_of_lt hi]
    have := e3 i (by simp [strs]; omega) (by rw [strs_length]; omega)
    rw [Nat.zero_add] at this
    rw [this,List.getElem?_append_left (by simp [strs]; omega)]
    simp [strs]
   ·rw [List.getElem?_eq_none (by rw [List.length_take]; omega),List.getElem?_eq_none (by simp [strs]; omega)]
  rw [ht] at hcut
  exact hcut
def outF (G : Nat) : Value := .func (.func 69) #[] #[.pointer (some ⟨G, 0,none⟩)]
theorem out_eg : ∀ args w,(callFunc 69 args).run Tryz.prog w = .ok (.enter 69 args) w := enters_of Tryz.func69 (by kernel_rfl) rfl
theorem one_cell {w : World} {G : Nat} {x : Value} {t : TypeId} (h : w.heap[G]? = some (.cells #[x] t (0, 0))) : w.cell? ⟨G, 0,none⟩ = some x ∧ w.frozen? ⟨G, 0,none⟩ = false := by
 exact ⟨by rw [cell_of_row w G 0 _ _ (0, 0) h]; rfl,by simp [World.frozen?,h]⟩
theorem out_any (W : World) (G : Nat) (x y : ByteArray) (h : W.heap[G]? = some (.cells #[.string y] 9 (0, 0))) :
  Calls Tryz.prog 69 #[.string x,.pointer (some ⟨G, 0,none⟩)] W fun e w' => e = .returned (.tuple #[]) ∧ w' = W.setCell ⟨G, 0,none⟩ (.string x) := by
 obtain ⟨c0,f0⟩ := one_cell h
 go_enter Tryz.func69,Tryz.ntmps69
 go_wp2
 go_end0
 exact ⟨rfl,rfl⟩
def Seats (w : World) (V G lo : Nat) (v1 v2 v3 : Value) (P : Pol) (out : ByteArray) : Prop :=
 PHold w V 99 [outF G] lo v1 v2 v3 P ∧ w.heap[G]? = some (.cells #[.string out] 9 (0, 0)) ∧ G < lo ∧ lo ≤ V
theorem seats_ty : tyOk 99 := by unfold tyOk; decide
theorem Seats.out {w : World} {V G lo : Nat} {v1 v2 v3 : Value} {P : Pol} {o : ByteArray} (h : Seats w V G lo v1 v2 v3 P o) (x : ByteArray) : Seats (w.setCell ⟨G, 0,none⟩ (.string x)) V G lo v1 v2 v3 P x := by
 obtain ⟨h1,h2,h3,h4⟩ := h
 refine ⟨h1.far h2 (.inr h3) (by omega) (fun k hk => Below.heap_setCell _ _ _ _ (by exact hk)) (by simp [World.setCell]), ?_,h3,h4⟩
 rw [heap_put h2]; simp
theorem Seats.on {w w' : World} {V G lo : Nat} {v1 v2 v3 : Value} {P : Pol} {o : ByteArray} (h : Seats w V G lo v1 v2 v3 P o) (hb : Below w.heap.size w w') : Seats w' V G lo v1 v2 v3 P o :=
 ⟨h.1.on hb,(hb.block G (Array.getElem?_eq_some_iff.1 h.2.1).1).trans h.2.1,h.2.2⟩
theorem Seats.lo {w : World} {V G lo : Nat} {v1 v2 v3 : Value} {P : Pol} {o : ByteArray} (h : Seats w V G lo v1 v2 v3 P o) : lo ≤ w.heap.size := by
 have := h.1.lt
 have := h.2.2.2
 omega
theorem Seats.gone1 {w w' : World} {V G lo : Nat} {v1 v2 v3 : Value} {P : Pol} {o : ByteArray} (h : Seats w V G lo v1 v2 v3 P o) (hg : w.grownBy w' v1.ownBlock) (i : Nat) (x : Value) : (w'.setCell ⟨V,i,none⟩ x).heap[G]? = some (.cells #[.string o] 9 (0, 0)) := by
 have h3 := h.2.2.1
 have h4 := h.2.2.2
 rw [Below.heap_setCell _ _ _ _ (by show G ≠ V; omega),hg.block G (Array.getElem?_eq_some_iff.1 h.2.1).1 (fun e => by have := (h.1.2.1.lt G e.symm).1; omega)]
 exact h.2.1
theorem Seats.gone2 {w w' : World} {V G lo : Nat} {v1 v2 v3 : Value} {P : Pol} {o : ByteArray} (h : Seats w V G lo v1 v2 v3 P o) (hg : w.grownBy w' v2.ownBlock) (i : Nat) (x : Value) : (w'.setCell ⟨V,i,none⟩ x).heap[G]? = some (.cells #[.string o] 9 (0, 0)) := by
 have h3 := h.2.2.1
 have h4 := h.2.2.2
 rw [Below.heap_setCell _ _ _ _ (by show G ≠ V; omega),hg.block G (Array.getElem?_eq_some_iff.1 h.2.1).1 (fun e => by have := (h.1.2.2.1.lt G e.symm).1; omega)]
 exact h.2.1
theorem Seats.win {w w' : World} {V G lo : Nat} {v1 v2 v3 v1' : Value} {P : Pol} {o : ByteArray} {W' : List ByteArray} (h : Seats w V G lo v1 v2 v3 P o) (hg : w.grownBy w' v1.ownBlock) (ho : OwnV w' lo 9 v1' (strs W')) (hn : ∀ k,v1'.ownBlock = some k → v1.ownBlock = some k ∨ w.heap.size ≤ k) :
  Seats (w'.setCell ⟨V, 0,none⟩ v1') V G lo v1' v2 v3 ⟨W',P.main,P.sk⟩ o ∧ Below G w (w'.setCell ⟨V, 0,none⟩ v1') := by
 have h3 := h.2.2.1
 have h4 := h.2.2.2
 have h5 := h.lo
 refine ⟨⟨h.1.setWin seats_ty hg ho hn,h.gone1 hg 0 _,h.2.2⟩, ?_⟩
 exact ((Below.refl G w).grown hg (by omega) (fun k e => by have := (h.1.2.1.lt k e).1; omega)).setCell (by show G ≤ V; omega) _
theorem Seats.main {w w' : World} {V G lo : Nat} {v1 v2 v3 v2' : Value} {P : Pol} {o : ByteArray} {W' : List ByteArray} (h : Seats w V G lo v1 v2 v3 P o) (hg : w.grownBy w' v2.ownBlock) (ho : OwnV w' lo 9 v2' (strs W')) (hn : ∀ k,v2'.ownBlock = some k → v2.ownBlock = some k ∨ w.heap.size ≤ k) :
  Seats (w'.setCell ⟨V, 1,none⟩ v2') V G lo v1 v2' v3 ⟨P.win,W',P.sk⟩ o ∧ Below G w (w'.setCell ⟨V, 1,none⟩ v2') := by
 have h3 := h.2.2.1
 have h4 := h.2.2.2
 have h5 := h.lo
 refine ⟨⟨h.1.setMain seats_ty hg ho hn,h.gone2 hg 1 _,h.2.2⟩, ?_⟩
 exact ((Below.refl G w).grown hg (by omega) (fun k e => by have := (h.1.2.2.1.lt k e).1; omega)).setCell (by show G ≤ V; omega) _
end Go.Proofs.YthfjfccdelbkhaaGreatDoor
