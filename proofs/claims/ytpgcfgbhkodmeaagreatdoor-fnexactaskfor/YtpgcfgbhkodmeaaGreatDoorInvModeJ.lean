/- Texts that stand in one: InvMode, OwnCut, PolHold, SnocS. -/
import Derived.Test.YtpgcfgbhkodmeaaGreatDoorInsCliJ
import Derived.Test.YtpgcfgbhkodmeaaGreatDoorSumTabJ
import Derived.Test.YtpgcfgbhkodmeaaGreatDoorSkStepJ
import Derived.Test.YtpgcfgbhkodmeaaGreatDoorPrxMarkJ
import Derived.Test.YtpgcfgbhkodmeaaGreatDoorShelf
namespace Go.Proofs.YtpgcfgbhkodmeaaGreatDoor
section
variable {P : Program} {ops : Array Oper} {Q : Exit → Act → World → Prop} {md : Region.Mode} {S : World → Prop}
def backM (md : Region.Mode) (ops : Array Oper) : Bool := (List.range ops.size).all fun i => match ops[i]? with | some o => o.after.all fun e => !Region.binds md e || decide (e.on < i) | none => true
theorem backM_spec (h : backM md ops = true) : ∀ (i : Nat) (o : Oper),ops[i]? = some o → ∀ e ∈ o.after,Region.binds md e = true → e.on < i := by
 intro i o ho e he hb
 have hlt : i < ops.size := (Array.getElem?_eq_some_iff.1 ho).1
 have h1 := (List.all_eq_true.1 h) i (List.mem_range.2 hlt)
 rw [ho] at h1
 have h2 := Array.all_eq_true_iff_forall_mem.1 h1 e he
 rw [hb] at h2
 simpa using h2
theorem all_listedM {s : Array Bool} (hback : ∀ (i : Nat) (o : Oper),ops[i]? = some o → ∀ e ∈ o.after,Region.binds md e = true → e.on < i) (h : Region.ready md ops s = []) (hsz : s.size = ops.size) : ∀ k,k < ops.size → s.getD k false = true := by
 intro k
 induction k using Nat.strongRecOn with
 | ind k ih =>
  intro hk
  cases hb : s.getD k false with
  | true => rfl
  | false =>
   exfalso
   have hm : k ∈ Region.ready md ops s := by
    refine mem_ready.2 ⟨?_,ops[k],Array.getElem?_eq_getElem hk,fun e he hbe => ih e.on (hback k _ (Array.getElem?_eq_getElem hk) e he hbe) ?_⟩
    ·have h' : k < s.size := by omega
     simp [h'] at hb ⊢
     exact hb
    ·have := hback k _ (Array.getElem?_eq_getElem hk) e he hbe
     omega
   rw [h] at hm
   cases hm
theorem wpAnyH_invM (I : Array Bool → Act → World → Prop) (hbk : backM md ops = true)
  (hsz : ∀ s a w,I s a w → s.size = ops.size) (hS : ∀ s a w,I s a w → S w)
  (hstep : ∀ s a w i,I s a w → i ∈ Region.ready md ops s → wpOp P ops Q i (I (s.setIfInBounds i true)) a w)
  (hend : ∀ s a w,I s a w → (∀ k,k < ops.size → s.getD k false = true) → Q .normal a w) :
  ∀ (m : Nat) (s : Array Bool) (a : Act) (w : World),I s a w → s.toList.count false ≤ m → wpAnyH P md ops Q S m s a w := by
 have hback := backM_spec hbk
 intro m
 induction m with
 | zero =>
  intro s a w hI hc
  have hall : ∀ k,k < ops.size → s.getD k false = true := by
   intro k hk
   have hk' : k < s.size := by rw [hsz s a w hI]; exact hk
   have h0 : s.toList.count false = 0 := by omega
   have hn : false ∉ s.toList := List.count_eq_zero.1 h0
   cases hb : s[k] with
   | true => simp [hk',hb]
   | false => exact absurd (by rw [← hb]; simp) hn
  refine ⟨?_,hend s a w hI hall⟩
  rw [List.eq_nil_iff_forall_not_mem]
  intro i hi
  obtain ⟨h1,o,ho,_⟩ := mem_ready.1 hi
  have hlt : i < ops.size := (Array.getElem?_eq_some_iff.1 ho).1
  have h2 := hall i hlt
  have hk' : i < s.size := by rw [hsz s a w hI]; exact hlt
  simp [hk'] at h1 h2
  rw [h1] at h2
  cases h2
 | succ m ih =>
  intro s a w hI hc
  refine ⟨fun h => hend s a w hI (all_listedM hback h (hsz s a w hI)),fun i hi => ?_⟩
  refine wpOp_mono (fun a' w' h' => ⟨hS _ _ _ h',ih _ a' w' h' ?_⟩) (hstep s a w i hI hi)
  obtain ⟨h1,o,ho,_⟩ := mem_ready.1 hi
  have hlt : i < ops.size := (Array.getElem?_eq_some_iff.1 ho).1
  have hk' : i < s.size := by rw [hsz s a w hI]; exact hlt
  have hf : s.toList[i]'(by simpa using hk') = false := by simpa [hk'] using h1
  have hpos : 0 < s.toList.count false := List.count_pos_iff.2 (by rw [← hf]; exact List.getElem_mem _)
  have hset : (s.setIfInBounds i true).toList.count false = s.toList.count false - 1 := by
   rw [Array.toList_setIfInBounds,List.count_set (by simpa using hk')]
   simp [hf]
  omega
end
end Go.Proofs.YtpgcfgbhkodmeaaGreatDoor
namespace Go.Proofs.YtpgcfgbhkodmeaaGreatDoor
open Go.RowKit
theorem OwnV.storedAll {base g n cap : Nat} {e : TypeId} : ∀ (vs : List Value) (o : Nat) (w : World) (xs : List Value),OwnV w base e (.slice (some ⟨g, 0,none⟩) n cap) xs → n = xs.length →
  ∃ ys,ys.length = xs.length ∧ (∀ j,j < o → ys[j]? = xs[j]?) ∧ (∀ j,j < vs.length → o + j < xs.length → ys[o + j]? = vs[j]?) ∧ (∀ j,o + vs.length ≤ j → ys[j]? = xs[j]?) ∧ OwnV (w.setCells g o vs) base e (.slice (some ⟨g, 0,none⟩) n cap) ys ∧ w.grownBy (w.setCells g o vs) (some g)
 | [],o,w,xs,h,hn => ⟨xs,rfl,fun _ _ => rfl,fun j hj => by simp at hj,fun _ _ => rfl,h,grownBy_refl _ _⟩
 | v :: rest,o,w,xs,h,hn => by
  obtain ⟨h1,hg1⟩ := h.stored hn o v
  obtain ⟨ys,e1,e2,e3,e4,e5,e6⟩ := OwnV.storedAll rest (o + 1) (w.setCell ⟨g,o,none⟩ v) (xs.set o v) h1 (by rw [List.length_set]; exact hn)
  refine ⟨ys,by rw [e1,List.length_set],fun j hj => ?_,fun j hj hx => ?_,fun j hj => ?_,e5,grownBy_trans hg1 e6⟩
  ·rw [e2 j (by omega),List.getElem?_set_ne (by omega)]
  ·cases j with
   | zero =>
    rw [Nat.add_zero] at hx ⊢
    rw [e2 o (by omega),List.getElem?_set_self hx]
    rfl
   | succ j =>
    have := e3 j (by simp at hj; omega) (by rw [List.length_set]; omega)
    rw [show o + (j + 1) = o + 1 + j by omega,this]
    rfl
  ·simp only [List.length_cons] at hj
   rw [e4 j (by omega),List.getElem?_set_ne (by omega)]
theorem OwnV.cut {w : World} {base g n cap : Nat} {e : TypeId} {xs : List Value} (h : OwnV w base e (.slice (some ⟨g, 0,none⟩) n cap) xs) (hn : n = xs.length) (m : Nat) (hm : m ≤ n) : OwnV w base e (.slice (some ⟨g, 0,none⟩) m cap) (xs.take m) := by
 rcases h.2 with ⟨e1,_⟩ | ⟨g',cp,cur,e1,h1,h2,h3,h4,h5,h6⟩
 ·cases e1
 ·simp only [Value.slice.injEq,Option.some.injEq,Addr.mk.injEq,and_true] at e1
  obtain ⟨rfl,e2,rfl⟩ := e1
  have hl : (xs.take m).length = m := by rw [List.length_take]; omega
  unfold OwnV
  rw [hl]
  refine ⟨by rw [hl,Nat.mul_one],.inr ⟨g,cap,cur,rfl,h1,h2,by omega,h4,h5, ?_⟩⟩
  rw [← h6,List.take_take,Nat.mul_one,Nat.mul_one,Nat.min_eq_left (by omega)]
theorem take_same {α : Type} {xs ys : List α} {n : Nat} (h : ∀ j,j < n → ys[j]? = xs[j]?) : ys.take n = xs.take n := by
 apply List.ext_getElem?
 intro i
 by_cases hi : i < n
 ·rw [List.getElem?_take_of_lt hi,List.getElem?_take_of_lt hi,h i hi]
 ·rw [List.getElem?_eq_none (by rw [List.length_take]; omega),List.getElem?_eq_none (by rw [List.length_take]; omega)]
theorem OwnV.cell {w : World} {base g n cap : Nat} {e : TypeId} {xs : List Value} (h : OwnV w base e (.slice (some ⟨g, 0,none⟩) n cap) xs) {j : Nat} (hj : j < xs.length) : w.cell? ⟨g,j,none⟩ = some xs[j] ∧ w.frozen? ⟨g,j,none⟩ = false ∧ base ≤ g ∧ g < w.heap.size := by
 obtain ⟨a,c,e1,h1⟩ := h.shape
 simp only [Value.slice.injEq] at e1
 obtain ⟨g',e2,h2,h3,h4,h5⟩ := h1 j hj
 rw [← e1.1] at e2
 simp only [Option.some.injEq,Addr.mk.injEq,and_true] at e2
 subst e2
 exact ⟨h2,h3,h4,h5⟩
theorem OwnV.capOf {w : World} {base g n cap : Nat} {e : TypeId} {xs : List Value} (h : OwnV w base e (.slice (some ⟨g, 0,none⟩) n cap) xs) : n ≤ cap ∧ cap ≤ maxLen := by
 rcases h.2 with ⟨e1,_⟩ | ⟨g',cp,cur,e1,h1,h2,h3,h4,h5,h6⟩
 ·cases e1
 ·simp only [Value.slice.injEq] at e1
  omega
def tyOk (t : TypeId) : Prop := t ≠ 9 ∧ t ≠ 3 ∧ t ≠ 36
def PHold (w : World) (V : Nat) (ty : TypeId) (ext : List Value) (lo : Nat) (v1 v2 v3 : Value) (P : Pol) : Prop :=
 w.heap[V]? = some (.cells (v1 :: v2 :: v3 :: .int .i64 P.sk.added :: ext).toArray ty (0, 0)) ∧ OwnV w lo 9 v1 (strs P.win) ∧ OwnV w lo 9 v2 (strs P.main) ∧ (∀ k,v1.ownBlock = some k → v2.ownBlock ≠ some k) ∧ OwnSS w lo w.heap.size v3 P.sk.rows
theorem PHold.lt {w : World} {V lo : Nat} {ty : TypeId} {ext : List Value} {v1 v2 v3 : Value} {P : Pol} (h : PHold w V ty ext lo v1 v2 v3 P) : V < w.heap.size := (Array.getElem?_eq_some_iff.1 h.1).1
theorem PHold.cells {w : World} {V lo : Nat} {ty : TypeId} {ext : List Value} {v1 v2 v3 : Value} {P : Pol} (h : PHold w V ty ext lo v1 v2 v3 P) : w.cell? ⟨V, 0,none⟩ = some v1 ∧ w.cell? ⟨V, 1,none⟩ = some v2 ∧ w.cell? ⟨V, 2,none⟩ = some v3 ∧ w.cell? ⟨V, 3,none⟩ = some (.int .i64 P.sk.added) ∧ w.cell? ⟨V, 4,none⟩ = ext[0]? := by
 refine ⟨?_, ?_, ?_, ?_, ?_⟩
 ·rw [cell_of_row w V 0 _ _ (0, 0) h.1]; rfl
 ·rw [cell_of_row w V 1 _ _ (0, 0) h.1]; rfl
 ·rw [cell_of_row w V 2 _ _ (0, 0) h.1]; rfl
 ·rw [cell_of_row w V 3 _ _ (0, 0) h.1]; rfl
 ·rw [cell_of_row w V 4 _ _ (0, 0) h.1]; simp
theorem PHold.thaw {w : World} {V lo : Nat} {ty : TypeId} {ext : List Value} {v1 v2 v3 : Value} {P : Pol} (h : PHold w V ty ext lo v1 v2 v3 P) (i : Nat) : w.frozen? ⟨V,i,none⟩ = false := by
 have := h.1
 simp [World.frozen?,this]
theorem PHold.on {w w' : World} {V lo : Nat} {ty : TypeId} {ext : List Value} {v1 v2 v3 : Value} {P : Pol} (h : PHold w V ty ext lo v1 v2 v3 P) (hb : Below w.heap.size w w') : PHold w' V ty ext lo v1 v2 v3 P :=
 ⟨(hb.block V h.lt).trans h.1,h.2.1.below hb (Nat.le_refl _),h.2.2.1.below hb (Nat.le_refl _),h.2.2.2.1,(h.2.2.2.2.below hb (Nat.le_refl _)).mono (Nat.le_refl _) hb.size⟩
theorem PHold.own {w : World} {V lo : Nat} {ty : TypeId} {ext : List Value} {v1 v2 v3 : Value} {P : Pol} (h : PHold w V ty ext lo v1 v2 v3 P) : POwn w lo w.heap.size (.agg #[v1,v2,v3,.int .i64 P.sk.added]) P :=
 POwn.mk3 h.2.1 h.2.2.1 h.2.2.2.2 (Nat.le_refl _) (Nat.le_refl _) (Nat.le_refl _) h.2.2.2.1
theorem heap_put {w : World} {V : Nat} {cs : Array Value} {ty : TypeId} (h : w.heap[V]? = some (.cells cs ty (0, 0))) (i : Nat) (x : Value) : (w.setCell ⟨V,i,none⟩ x).heap[V]? = some (.cells (cs.setIfInBounds i x) ty (0, 0)) := by
 simp only [World.setCell,Array.getElem?_modify,h]
 simp
theorem ty_ne {w : World} {k V : Nat} {cs cs' : Array Value} {t ty : TypeId} (h1 : w.heap[k]? = some (.cells cs t (0, 0))) (h2 : w.heap[V]? = some (.cells cs' ty (0, 0))) (hn : ty ≠ t) : k ≠ V := by
 rintro rfl
 rw [h1] at h2
 simp only [Option.some.injEq,Obj.cells.injEq] at h2
 exact hn h2.2.1.symm
theorem OwnSS.apart {w w' : World} {lo hi : Nat} {v : Value} {LL : List (List Int)} (h : OwnSS w lo hi v LL) (hk : ∀ (k : Nat) (cs : Array Value) (t : TypeId),w.heap[k]? = some (Obj.cells cs t (0, 0)) → (t = 3 ∨ t = 36) → w'.heap[k]? = w.heap[k]?) : OwnSS w' lo hi v LL :=
 h.kept fun k _ _ h3 h4 => by
  obtain ⟨c,hc⟩ : ∃ c,w.heap[k]? = some c := ⟨_,Array.getElem?_eq_getElem h3⟩
  rcases h4 c hc with ⟨cs,rfl⟩ | ⟨cs,rfl⟩
  ·exact hk k _ _ hc (.inr rfl)
  ·exact hk k _ _ hc (.inl rfl)
theorem PHold.setWin {w w' : World} {V lo : Nat} {ty : TypeId} {ext : List Value} {v1 v2 v3 v1' : Value} {P : Pol} {W' : List ByteArray} (h : PHold w V ty ext lo v1 v2 v3 P) (ht : tyOk ty) (hg : w.grownBy w' v1.ownBlock) (ho : OwnV w' lo 9 v1' (strs W')) (hn : ∀ k,v1'.ownBlock = some k → v1.ownBlock = some k ∨ w.heap.size ≤ k) :
  PHold (w'.setCell ⟨V, 0,none⟩ v1') V ty ext lo v1' v2 v3 ⟨W',P.main,P.sk⟩ := by
 obtain ⟨hV,h1,h2,h3,h4⟩ := h
 have hVn : v1.ownBlock ≠ some V := fun e => by
  obtain ⟨cs,hc⟩ := ownV_type h1 V e
  exact ty_ne hc hV ht.1 rfl
 have hV' : w'.heap[V]? = some (.cells (v1 :: v2 :: v3 :: .int .i64 P.sk.added :: ext).toArray ty (0, 0)) := (hg.block V (Array.getElem?_eq_some_iff.1 hV).1 (fun e => hVn e.symm)).trans hV
 have hs : (w'.setCell ⟨V, 0,none⟩ v1').heap.size = w'.heap.size := by simp [World.setCell]
 have far : ∀ k,k ≠ V → (w'.setCell ⟨V, 0,none⟩ v1').heap[k]? = w'.heap[k]? := fun k hk => Below.heap_setCell _ _ _ _ (by exact hk)
 refine ⟨?_,ho.kept fun k hk => ?_,(h2.grown hg (fun k hk e => h3 k e hk)).kept fun k hk => ?_,fun k hk e => ?_, ?_⟩
 ·rw [heap_put hV']; simp
 ·obtain ⟨cs,hc⟩ := ownV_type ho k hk
  exact far k (ty_ne hc hV' ht.1)
 ·obtain ⟨cs,hc⟩ := ownV_type (h2.grown hg (fun k hk e => h3 k e hk)) k hk
  exact far k (ty_ne hc hV' ht.1)
 ·rcases hn k hk with hk' | hk'
  ·exact h3 k hk' e
  ·have := (h2.lt k e).2; omega
 ·rw [hs]
  refine OwnSS.apart (h4.mono (Nat.le_refl _) hg.size) fun k cs t hc htt => ?_
  have hkV : k ≠ V := ty_ne hc hV (by rcases htt with rfl | rfl; exact ht.2.1; exact ht.2.2)
  rw [far k hkV]
  refine hg.block k (Array.getElem?_eq_some_iff.1 hc).1 fun e => ?_
  obtain ⟨cs',hc'⟩ := ownV_type h1 k e.symm
  rw [hc] at hc'
  simp only [Option.some.injEq,Obj.cells.injEq] at hc'
  rcases htt with rfl | rfl
  ·exact absurd hc'.2.1 (by decide)
  ·exact absurd hc'.2.1 (by decide)
theorem PHold.setMain {w w' : World} {V lo : Nat} {ty : TypeId} {ext : List Value} {v1 v2 v3 v2' : Value} {P : Pol} {W' : List ByteArray} (h : PHold w V ty ext lo v1 v2 v3 P) (ht : tyOk ty) (hg : w.grownBy w' v2.ownBlock) (ho : OwnV w' lo 9 v2' (strs W')) (hn : ∀ k,v2'.ownBlock = some k → v2.ownBlock = some k ∨ w.heap.size ≤ k) :
  PHold (w'.setCell ⟨V, 1,none⟩ v2') V ty ext lo v1 v2' v3 ⟨P.win,W',P.sk⟩ := by
 obtain ⟨hV,h1,h2,h3,h4⟩ := h
 have hVn : v2.ownBlock ≠ some V := fun e => by
  obtain ⟨cs,hc⟩ := ownV_type h2 V e
  exact ty_ne hc hV ht.1 rfl
 have hV' : w'.heap[V]? = some (.cells (v1 :: v2 :: v3 :: .int .i64 P.sk.added :: ext).toArray ty (0, 0)) := (hg.block V (Array.getElem?_eq_some_iff.1 hV).1 (fun e => hVn e.symm)).trans hV
 have hs : (w'.setCell ⟨V, 1,none⟩ v2').heap.size = w'.heap.size := by simp [World.setCell]
 have far : ∀ k,k ≠ V → (w'.setCell ⟨V, 1,none⟩ v2').heap[k]? = w'.heap[k]? := fun k hk => Below.heap_setCell _ _ _ _ (by exact hk)
 refine ⟨?_,(h1.grown hg (fun k hk e => h3 k hk e)).kept fun k hk => ?_,ho.kept fun k hk => ?_,fun k hk e => ?_, ?_⟩
 ·rw [heap_put hV']; simp
 ·obtain ⟨cs,hc⟩ := ownV_type (h1.grown hg (fun k hk e => h3 k hk e)) k hk
  exact far k (ty_ne hc hV' ht.1)
 ·obtain ⟨cs,hc⟩ := ownV_type ho k hk
  exact far k (ty_ne hc hV' ht.1)
 ·rcases hn k e with hk' | hk'
  ·exact h3 k hk hk'
  ·have := (h1.lt k hk).2; omega
 ·rw [hs]
  refine OwnSS.apart (h4.mono (Nat.le_refl _) hg.size) fun k cs t hc htt => ?_
  have hkV : k ≠ V := ty_ne hc hV (by rcases htt with rfl | rfl; exact ht.2.1; exact ht.2.2)
  rw [far k hkV]
  refine hg.block k (Array.getElem?_eq_some_iff.1 hc).1 fun e => ?_
  obtain ⟨cs',hc'⟩ := ownV_type h2 k e.symm
  rw [hc] at hc'
  simp only [Option.some.injEq,Obj.cells.injEq] at hc'
  rcases htt with rfl | rfl
  ·exact absurd hc'.2.1 (by decide)
  ·exact absurd hc'.2.1 (by decide)
theorem PHold.setSk {w w' : World} {V lo : Nat} {ty : TypeId} {ext : List Value} {v1 v2 v3 v3' : Value} {P : Pol} {S : Sk} (h : PHold w V ty ext lo v1 v2 v3 P) (ht : tyOk ty) (hb : Below w.heap.size w w') (hlo : lo ≤ w.heap.size) (ho : OwnSS w' w.heap.size w'.heap.size v3' S.rows) :
  PHold ((w'.setCell ⟨V, 2,none⟩ v3').setCell ⟨V, 3,none⟩ (.int .i64 S.added)) V ty ext lo v1 v2 v3' ⟨P.win,P.main,S⟩ := by
 have h' := h.on hb
 obtain ⟨hV,h1,h2,h3,h4⟩ := h'
 have far : ∀ k,k ≠ V → ((w'.setCell ⟨V, 2,none⟩ v3').setCell ⟨V, 3,none⟩ (.int .i64 S.added)).heap[k]? = w'.heap[k]? := fun k hk => by
  rw [Below.heap_setCell _ _ _ _ (by exact hk),Below.heap_setCell _ _ _ _ (by exact hk)]
 have hs : ((w'.setCell ⟨V, 2,none⟩ v3').setCell ⟨V, 3,none⟩ (.int .i64 S.added)).heap.size = w'.heap.size := by simp [World.setCell]
 refine ⟨?_,h1.kept fun k hk => ?_,h2.kept fun k hk => ?_,h3, ?_⟩
 ·rw [heap_put (heap_put hV 2 v3')]; simp
 ·obtain ⟨cs,hc⟩ := ownV_type h1 k hk
  exact far k (ty_ne hc hV ht.1)
 ·obtain ⟨cs,hc⟩ := ownV_type h2 k hk
  exact far k (ty_ne hc hV ht.1)
 ·rw [hs]
  refine OwnSS.apart (ho.mono hlo (Nat.le_refl _)) fun k cs t hc htt => ?_
  exact far k (ty_ne hc hV (by rcases htt with rfl | rfl; exact ht.2.1; exact ht.2.2))
theorem PHold.far {w w' : World} {V T lo : Nat} {ty t' : TypeId} {ext : List Value} {cs' : Array Value} {v1 v2 v3 : Value} {P : Pol} (h : PHold w V ty ext lo v1 v2 v3 P) (hT : w.heap[T]? = some (.cells cs' t' (0, 0))) (ht' : tyOk t' ∨ T < lo) (hVT : V ≠ T) (hk : ∀ k,k ≠ T → w'.heap[k]? = w.heap[k]?) (hs : w'.heap.size = w.heap.size) : PHold w' V ty ext lo v1 v2 v3 P := by
 obtain ⟨hV,h1,h2,h3,h4⟩ := h
 refine ⟨(hk V hVT).trans hV,h1.kept fun k hk' => ?_,h2.kept fun k hk' => ?_,h3, ?_⟩
 ·obtain ⟨cs,hc⟩ := ownV_type h1 k hk'
  rcases ht' with ht' | ht'
  ·exact hk k (ty_ne hc hT ht'.1)
  ·exact hk k (by have := (h1.lt k hk').1; omega)
 ·obtain ⟨cs,hc⟩ := ownV_type h2 k hk'
  rcases ht' with ht' | ht'
  ·exact hk k (ty_ne hc hT ht'.1)
  ·exact hk k (by have := (h2.lt k hk').1; omega)
 ·rw [hs]
  refine h4.kept fun k k1 _ k3 k4 => ?_
  obtain ⟨c,hc⟩ : ∃ c,w.heap[k]? = some c := ⟨_,Array.getElem?_eq_getElem k3⟩
  rcases ht' with ht' | ht'
  ·rcases k4 c hc with ⟨cs,rfl⟩ | ⟨cs,rfl⟩
   ·exact hk k (ty_ne hc hT ht'.2.2)
   ·exact hk k (ty_ne hc hT ht'.2.1)
  ·exact hk k (by omega)
theorem POwn.hold {w : World} {lo : Nat} {v1 v2 v3 : Value} {P : Pol} (h : POwn w lo w.heap.size (.agg #[v1,v2,v3,.int .i64 P.sk.added]) P) (ty : TypeId) (ext : List Value) :
  PHold (w.alloc (.cells (v1 :: v2 :: v3 :: .int .i64 P.sk.added :: ext).toArray ty)) w.heap.size ty ext lo v1 v2 v3 P := by
 obtain ⟨u1,u2,u3,e,a1,a2,a3,a4,a5⟩ := h
 simp only [Value.agg.injEq,Array.mk.injEq,List.cons.injEq,and_true] at e
 obtain ⟨rfl,rfl,rfl⟩ := e
 have hb : Below w.heap.size w (w.alloc (.cells (v1 :: v2 :: v3 :: .int .i64 P.sk.added :: ext).toArray ty)) := (Below.refl _ _).alloc (Nat.le_refl _) _
 exact ⟨heap_alloc_new _ _,a1.below hb (Nat.le_refl _),a2.below hb (Nat.le_refl _),fun k hk => (a3 k hk).2,(a5.below hb (Nat.le_refl _)).mono (Nat.le_refl _) hb.size⟩
theorem PHold.var1 {w w' : World} {V lo : Nat} {ty : TypeId} {ext : List Value} {v1 v2 v3 : Value} {P : Pol} (h : PHold w V ty ext lo v1 v2 v3 P) (ht : tyOk ty) (hg : w.grownBy w' v1.ownBlock) : w'.cell? ⟨V, 0,none⟩ = some v1 ∧ ∀ i,w'.frozen? ⟨V,i,none⟩ = false := by
 have hVn : v1.ownBlock ≠ some V := fun e => by
  obtain ⟨cs,hc⟩ := ownV_type h.2.1 V e
  exact ty_ne hc h.1 ht.1 rfl
 have hV' := (hg.block V h.lt (fun e => hVn e.symm)).trans h.1
 exact ⟨by rw [cell_of_row w' V 0 _ _ (0, 0) hV']; rfl,fun i => by simp [World.frozen?,hV']⟩
theorem PHold.var2 {w w' : World} {V lo : Nat} {ty : TypeId} {ext : List Value} {v1 v2 v3 : Value} {P : Pol} (h : PHold w V ty ext lo v1 v2 v3 P) (ht : tyOk ty) (hg : w.grownBy w' v2.ownBlock) : w'.cell? ⟨V, 1,none⟩ = some v2 ∧ ∀ i,w'.frozen? ⟨V,i,none⟩ = false := by
 have hVn : v2.ownBlock ≠ some V := fun e => by
  obtain ⟨cs,hc⟩ := ownV_type h.2.2.1 V e
  exact ty_ne hc h.1 ht.1 rfl
 have hV' := (hg.block V h.lt (fun e => hVn e.symm)).trans h.1
 exact ⟨by rw [cell_of_row w' V 1 _ _ (0, 0) hV']; rfl,fun i => by simp [World.frozen?,hV']⟩
end Go.Proofs.YtpgcfgbhkodmeaaGreatDoor
namespace Go.Proofs.YtpgcfgbhkodmeaaGreatDoor
open Go.RowKit Go.Sort
theorem grown_alloc {w w' : World} {o : Obj} {row : Option Nat} (h : (w.alloc o).grownBy w' row) : w.grownBy w' row := by
 have h0 : w.grownBy (w.alloc o) row := grownBy_below ((Below.refl _ _).alloc (Nat.le_refl _) _)
 exact grownBy_trans h0 h
theorem wpList_snocS {P : Program} {ops : Array Oper} {rest : List Oper} {o : Oper} {a : Act} {Q : Exit → Act → World → Prop} {wr : World} (hgd : o.guard = none) (s x : Operand) (t : TypeId)
  (ho : o.op = .call { callee := .builtin .append,args := #[s,x],argTypes := #[t,t] }) (base : Nat) (ht : P.underlying t = some (.slice 9))
  (hinfo : (P.info? 9).map (fun i => (i.zero,i.size,i.bytes)) = some (some (.string ⟨#[]⟩), 1, 16)) (v : Value) (L : List ByteArray) (hs : a.eval s = v) (hown : OwnV wr base 9 v (strs L))
  (y : ByteArray) (hx : a.eval x = .slice (some ⟨wr.heap.size, 0,none⟩) 1 1) (hlen : L.length ≤ 2000000) (hbase : base ≤ wr.heap.size)
  (h : ∀ g cap w',OwnV w' base 9 (.slice (some ⟨g, 0,none⟩) (L.length + 1) cap) (strs (L ++ [y])) → wr.grownBy w' v.ownBlock → (v.ownBlock = some g ∨ wr.heap.size ≤ g) → wpList P ops Q rest (a.put o.dst (.slice (some ⟨g, 0,none⟩) (L.length + 1) cap)) w') :
  wpList P ops Q (o :: rest) a (wr.alloc (.cells #[.string y] 9)) := by
 obtain ⟨i0,hi,hz0,hz1,hz2⟩ := info_parts hinfo
 have hO : (wr.alloc (.cells #[.string y] 9)).ownsRow base 9 1 v L.length (strs L) := by
  have h1 := OwnV.alloc hown (.cells #[.string y] 9)
  unfold OwnV at h1
  rw [strs_length] at h1
  exact h1
 refine wpList_append_lies _ hgd s x t ho base 9 i0 _ 1 16 ht hi hz0 hz1 hz2 rfl (by decide) v L.length (strs L) hs hO ⟨wr.heap.size, 0,none⟩ 1 1 [.string y] hx rfl (fun j u hj => ?_) (fun u hu => ?_) (by decide) (by unfold maxLen; omega) (by omega) (by simp; omega) (wr.heap.size + 1) (by simp) ?_
 ·match j,hj with
  | 0,hj => simp at hj; subst hj; simp [Addr.add]
 ·simp at hu; subst hu; rfl
 ·intro g cap w' h1 h2 h3 _
  refine h g cap w' ?_ (grown_alloc h2) ?_
  ·unfold OwnV
   rw [strs_append,List.length_append,strs_length]
   exact h1
  ·rcases h3 with h3 | h3
   ·exact .inl h3
   ·exact .inr (by omega)
theorem strsOf_strs (L : List ByteArray) : (Lib.strsOf (fun i => L.getD i noKey) L.length).map encStr = strs L := by
 apply List.ext_getElem
 ·simp [Lib.strsOf,strs]
 ·intro i h1 h2
  have hi : i < L.length := by simpa [strs] using h2
  simp [Lib.strsOf,strs,encStr,List.getD_eq_getElem?_getD,hi]
theorem deleteFirst_any (w : World) (base : Nat) (v : Value) (L : List ByteArray) (ho : OwnV w base 9 v (strs L)) (hl : 0 < L.length) :
  Calls Tryz.prog 238 #[v,.int .i64 0,.int .i64 1] w fun e w' => ∃ v',e = .returned v' ∧ OwnV w' base 9 v' (strs L.tail) ∧ v'.ownBlock = v.ownBlock ∧ w.grownBy w' v.ownBlock := by
 rcases ho.2 with ⟨rfl,h0⟩ | ⟨g,c,cur,rfl,h1,h2,h3,h4,h5,h6⟩
 ·rw [strs_length] at h0; omega
 ·rw [strs_length] at h3 h6 ho ⊢
  have hc := Tryz.slices_Delete_string_cells g 0 L.length c 0 1 (fun i => L.getD i noKey) w h3 (by unfold maxLen at h4; omega) (by omega) (by omega)
   (fun i hi => by
    rw [Nat.zero_add,(ho.cell (j := i) (by rw [strs_length]; exact hi)).1,strs_at hi]
    simp [List.getD_eq_getElem?_getD,hi])
   (fun i hi => by rw [Nat.zero_add]; exact (ho.cell (j := i) (by rw [strs_length]; exact hi)).2.1)
  refine hc.mono ?_
  rintro e w' ⟨rfl,q,rfl⟩
  have hv : (((Lib.strsOf (fun i => L.getD i noKey) L.length).take 0 ++ (Lib.strsOf (fun i => L.getD i noKey) L.length).drop 1 ++ List.replicate (1 - 0) []).map encStr) = strs (L.drop 1) ++ [Value.string ⟨#[]⟩] := by
   rw [List.take_zero,List.nil_append,List.map_append,List.map_drop,strsOf_strs]
   simp [strs,encStr]
  rw [hv]
  have ho' : OwnV (w.drewN q) base 9 (.slice (some ⟨g, 0,none⟩) L.length c) (strs L) := ho
  obtain ⟨ys,e1,_,e3,_,e5,e6⟩ := OwnV.storedAll (strs (L.drop 1) ++ [Value.string ⟨#[]⟩]) 0 (w.drewN q) (strs L) ho' (by rw [strs_length])
  have hcut := e5.cut (by rw [e1,strs_length]) (L.length - 1) (by omega)
  have hgw : w.grownBy (w.drewN q) (some g) := ⟨rfl,rfl,rfl,Nat.le_refl _,fun _ _ _ => rfl⟩
  refine ⟨_,rfl, ?_,rfl,grownBy_trans hgw e6⟩
  rw [show L.length - (1 - 0) = L.length - 1 by omega]
  have ht : ys.take (L.length - 1) = strs L.tail := by
   apply List.ext_getElem?
   intro i
   by_cases hi : i < L.length - 1
   ·rw [List.getElem?_take_of_lt hi]
    have := e3 i (by simp [strs]; omega) (by rw [strs_length]; omega)
    rw [Nat.zero_add] at this
    rw [this,List.getElem?_append_left (by simp [strs]; omega)]
    simp [strs]
   ·rw [List.getElem?_eq_none (by rw [List.length_take]; omega),List.getElem?_eq_none (by simp [strs]; omega)]
  rw [ht] at hcut
  exact hcut
end Go.Proofs.YtpgcfgbhkodmeaaGreatDoor
