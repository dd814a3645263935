/- Texts that stand in one: FolderPlain, FindPlain, CopyMany, DelBase. -/
import Derived.Test.YthfjfccdelbkhaaGreatDoorRet9XJ
import Derived.Maps.Own
import Derived.Maps.OwnSet
import Derived.Maps.Ext
import Derived.Sort.Walk0
import Derived.Sort.KeysCollected
import Derived.Test.YthfjfccdelbkhaaGreatDoorReadPlainJ
import Derived.Laws.CopyOwn
import Derived.Lib.SliceRun
import Derived.Test.YthfjfccdelbkhaaGreatDoorIntsJ
import Derived.Test.YthfjfccdelbkhaaGreatDoorPolSpecJ
namespace Go.Proofs.YthfjfccdelbkhaaGreatDoor
open Go.RowKit
theorem toList_data' (a : ByteArray) : a.toList = a.data.toList := ByteArray.toList_eq a
theorem before_less : ∀ (x y : List UInt8),bytesBefore x y = Op.bytesLess x y
 | [], [] => by simp [bytesBefore,Op.bytesLess]
 | _ :: _, [] => by simp [bytesBefore,Op.bytesLess]
 | [],_ :: _ => by simp [bytesBefore,Op.bytesLess]
 | a :: x,b :: y => by simp [bytesBefore,Op.bytesLess,before_less x y]
theorem before_lt (a b : ByteArray) : (Lit.string a.data.toList).before (.string b.data.toList) = ltS a b := by
 simp only [Lit.before,ltS,before_less,toList_data']
theorem eqS_iff {a b : ByteArray} : eqS a b = true ↔ a = b := by
 unfold eqS
 rw [beq_iff_eq,toList_data',toList_data']
 constructor
 ·intro h; cases a; cases b; simp at h; simp [h]
 ·rintro rfl; rfl
theorem eqS_ne {a b : ByteArray} : eqS a b = false ↔ a ≠ b := by rw [← Bool.not_eq_true,eqS_iff]
theorem eqS_refl (a : ByteArray) : eqS a a = true := eqS_iff.2 rfl
theorem ltS_irr (a : ByteArray) : ltS a a = false := by rw [← before_lt]; exact WideAt.bytes_irrefl _
theorem ltS_trans {a b c : ByteArray} (h : ltS a b = true) (k : ltS b c = true) : ltS a c = true := by
 rw [← before_lt] at *
 exact WideShapes.bytes_trans _ _ _ h k
theorem ltS_total {a b : ByteArray} (h : a ≠ b) : ltS a b = true ∨ ltS b a = true := by
 rw [← before_lt, ← before_lt]
 exact WideAt.bytes_total _ _ (fun e => h (by cases a; cases b; simp at e; simp [e]))
theorem ltS_asym {a b : ByteArray} (h : ltS a b = true) : ltS b a = false := by
 cases k : ltS b a with
 | false => rfl
 | true => have := ltS_trans h k; rw [ltS_irr] at this; cases this
theorem gtS_iff {a b : ByteArray} : (!(ltS a b || eqS a b)) = ltS b a := by
 by_cases e : a = b
 ·subst e; simp [eqS_refl,ltS_irr]
 ·have he : eqS a b = false := eqS_ne.2 e
  rcases ltS_total e with h | h
  ·simp [h,ltS_asym h]
  ·simp [h,he,ltS_asym h]
def insE (L : List En) (e : En) : List En := (L.filter fun x => ltS x.key e.key) ++ e :: (L.filter fun x => ltS e.key x.key)
def UpK (L : List En) : Prop := L.Pairwise fun x y => ltS x.key y.key = true
def ApartK (L : List En) : Prop := L.Pairwise fun x y => x.key ≠ y.key
theorem UpK.apart {L : List En} (h : UpK L) : ApartK L := h.imp fun {x y} hxy e => by rw [e,ltS_irr] at hxy; cases hxy
theorem mem_insE {L : List En} {e x : En} : x ∈ insE L e ↔ x = e ∨ (x ∈ L ∧ x.key ≠ e.key) := by
 unfold insE
 simp only [List.mem_append,List.mem_cons,List.mem_filter]
 constructor
 ·rintro (⟨h1,h2⟩ | h | ⟨h1,h2⟩)
  ·exact .inr ⟨h1,fun e => by rw [e,ltS_irr] at h2; cases h2⟩
  ·exact .inl h
  ·exact .inr ⟨h1,fun e => by rw [e,ltS_irr] at h2; cases h2⟩
 ·rintro (h | ⟨h1,h2⟩)
  ·exact .inr (.inl h)
  ·rcases ltS_total h2 with h | h
   ·exact .inl ⟨h1,h⟩
   ·exact .inr (.inr ⟨h1,h⟩)
theorem insE_up {L : List En} (h : UpK L) (e : En) : UpK (insE L e) := by
 unfold UpK insE
 rw [List.pairwise_append]
 refine ⟨h.filter _, ?_, ?_⟩
 ·rw [List.pairwise_cons]
  exact ⟨fun x hx => (List.mem_filter.1 hx).2,h.filter _⟩
 ·intro x hx y hy
  have hx2 := (List.mem_filter.1 hx).2
  rcases List.mem_cons.1 hy with rfl | hy
  ·exact hx2
  ·exact ltS_trans hx2 (List.mem_filter.1 hy).2
theorem run_copy_rowN {P : Program} (w : World) (dT sT ty elem : TypeId) (g o dLen dCap : Nat) (a : Addr) (sLen sCap : Nat) (cur : Array Value) (t : TypeId) (cs : List Value) (k : Nat)
  (hu : P.underlying dT = some (.slice elem)) (hs : (P.info? elem).map (·.size) = some k)
  (hg : w.heap[g]? = some (.cells cur t (0, 0))) (hn : cs.length = Nat.min sLen dLen * k)
  (hsrc : ∀ j v,cs[j]? = some v → w.cell? (a.add j) = some v) (hfit : o + cs.length ≤ cur.size) (h1 : ∀ v ∈ cs,v.oneCell' = true) :
  (Builtin.copy_ #[dT,sT] ty #[.slice (some ⟨g,o,none⟩) dLen dCap,.slice (some a) sLen sCap]).run P w =
   .ok (goInt (Nat.min sLen dLen)) (w.setRow g (cur.toList.take o ++ cs ++ cur.toList.drop (o + cs.length)).toArray) := by
 have hl := run_loadCells_list (P := P) w a cs hsrc
 have hst := run_storeCells_at P g o t cs 0 cur w hg (by simpa using hfit) h1
 cases hq : P.info? elem with
 | none => simp [hq] at hs
 | some i =>
  have hi : i.size = k := by simpa [hq] using hs
  simp [Builtin.copy_,run_underlying hu,Builtin.lenOf,Builtin.firstCells,sizeOf,typeInfo,hq,hi, ← hn,hl,hst]
theorem step_copy_spliceN {P : Program} {ops : Array Oper} {o : Oper} {a : Act} {w : World} {K : Act → World → Prop} {Q : Exit → Act → World → Prop} {E : Prop} (hgd : o.guard = none) (d s : Operand) (dT sT : TypeId)
  (ho : o.op = .call { callee := .builtin .copy,args := #[d,s],argTypes := #[dT,sT] }) (elem : TypeId) (k : Nat) (hu : P.underlying dT = some (.slice elem)) (hsz : (P.info? elem).map (·.size) = some k)
  (dLen dCap sLen sCap : Nat) (g off : Nat) (ad : Addr) (hd : a.eval d = .slice (some ⟨g,off,none⟩) dLen dCap) (hs : a.eval s = .slice (some ad) sLen sCap)
  (cur : List Value) (t : TypeId) (hg : w.heap[g]? = some (.cells cur.toArray t (0, 0))) (cs : List Value) (hn : cs.length = Nat.min sLen dLen * k)
  (hsrc : ∀ j v,cs[j]? = some v → w.cell? (ad.add j) = some v)
  (hfit : off + cs.length ≤ cur.length) (h1 : ∀ v ∈ cs,v.oneCell' = true) (B : Nat) (w0 : World) (hb : Below B w0 w) (hBg : B ≤ g)
  (h : ∀ w',Hid (w'.heap[g]? = some (.cells (splice cur off cs).toArray t (0, 0)) ∧ ∀ j,j ≠ g → w'.heap[j]? = w.heap[j]?) → Below B w0 w' → K (a.put o.dst (goInt (Nat.min sLen dLen))) w') :
  if Region.wanted o (yielded ops a.tmps) = true then Oper.wp P o a w K Q else E := by
 have hw : Region.wanted o (yielded ops a.tmps) = true := by simp [Region.wanted,hgd]
 rw [if_pos hw]
 have hrun := run_copy_rowN (P := P) w dT sT o.type elem g off dLen dCap ad sLen sCap cur.toArray t cs k hu hsz hg hn hsrc (by simpa using hfit) h1
 unfold Oper.wp
 simp [execOp,ho,resolve,invoke,builtin,hd,hs,hrun,Result.andThen]
 exact h _ ⟨show _ = _ by simpa [splice] using setRow_heap w g _ _ t _ hg,fun j hj => setRow_other w g j _ hj⟩ (below_setRow hb hBg _)
theorem wpList_copy_spliceN {P : Program} {ops : Array Oper} {rest : List Oper} {o : Oper} {a : Act} {w : World} {Q : Exit → Act → World → Prop} (hgd : o.guard = none) (d s : Operand) (dT sT : TypeId)
  (ho : o.op = .call { callee := .builtin .copy,args := #[d,s],argTypes := #[dT,sT] }) (elem : TypeId) (k : Nat) (hu : P.underlying dT = some (.slice elem)) (hsz : (P.info? elem).map (·.size) = some k)
  (dLen dCap sLen sCap : Nat) (g off : Nat) (ad : Addr) (hd : a.eval d = .slice (some ⟨g,off,none⟩) dLen dCap) (hs : a.eval s = .slice (some ad) sLen sCap)
  (cur : List Value) (t : TypeId) (hg : w.heap[g]? = some (.cells cur.toArray t (0, 0))) (cs : List Value) (hn : cs.length = Nat.min sLen dLen * k)
  (hsrc : ∀ j v,cs[j]? = some v → w.cell? (ad.add j) = some v)
  (hfit : off + cs.length ≤ cur.length) (h1 : ∀ v ∈ cs,v.oneCell' = true) (B : Nat) (w0 : World) (hb : Below B w0 w) (hBg : B ≤ g)
  (h : ∀ w',Hid (w'.heap[g]? = some (.cells (splice cur off cs).toArray t (0, 0)) ∧ ∀ j,j ≠ g → w'.heap[j]? = w.heap[j]?) → Below B w0 w' → wpList P ops Q rest (a.put o.dst (goInt (Nat.min sLen dLen))) w') :
  wpList P ops Q (o :: rest) a w := by
 refine wpList_plain hgd fun K hK => ?_
 have hrun := run_copy_rowN (P := P) w dT sT o.type elem g off dLen dCap ad sLen sCap cur.toArray t cs k hu hsz hg hn hsrc (by simpa using hfit) h1
 unfold Oper.wp
 simp [execOp,ho,resolve,invoke,builtin,hd,hs,hrun,Result.andThen]
 exact hK _ _ (h _ ⟨show _ = _ by simpa [splice] using setRow_heap w g _ _ t _ hg,fun j hj => setRow_other w g j _ hj⟩ (below_setRow hb hBg _))
end Go.Proofs.YthfjfccdelbkhaaGreatDoor
namespace Go.Proofs.YthfjfccdelbkhaaGreatDoor
open Go.RowKit Go.Sort
def idxX {α : Type} (p : α → Bool) (L : List α) : Int := match L.findIdx? p with | some i => (i : Int) | none => -1
theorem idxX_hit {α : Type} {p : α → Bool} {L : List α} {k : Nat} (hk : k < L.length) (h : p L[k] = true) (hno : ∀ j (hj : j < k),p (L[j]'(by omega)) = false) : idxX p L = k := by
 have : L.findIdx? p = some k := by
  rw [List.findIdx?_eq_some_iff_getElem]
  exact ⟨hk,h,fun j hj => by simp [hno j hj]⟩
 simp [idxX,this]
theorem idxX_miss {α : Type} {p : α → Bool} {L : List α} (h : ∀ x ∈ L,p x = false) : idxX p L = -1 := by
 have : L.findIdx? p = none := by
  rw [List.findIdx?_eq_none_iff]
  exact h
 simp [idxX,this]
theorem idxX_cases {α : Type} (p : α → Bool) (L : List α) : (∃ (k : Nat) (hk : k < L.length),idxX p L = k ∧ p L[k] = true ∧ ∀ j (hj : j < k),p (L[j]'(by omega)) = false) ∨ (idxX p L = -1 ∧ ∀ x ∈ L,p x = false) := by
 cases h : L.findIdx? p with
 | none =>
  rw [List.findIdx?_eq_none_iff] at h
  exact .inr ⟨idxX_miss h,h⟩
 | some k =>
  have h0 := h
  rw [List.findIdx?_eq_some_iff_getElem] at h
  obtain ⟨hk,h1,h2⟩ := h
  exact .inl ⟨k,hk,by simp [idxX,h0],h1,fun j hj => by simpa using h2 j hj⟩
def keepX {α : Type} (p : α → Bool) (L : List α) : List α := L.filter fun x => !p x
theorem keepX_take {α : Type} {p : α → Bool} {L : List α} {k : Nat} (hk : k < L.length) : keepX p (L.take (k + 1)) = keepX p (L.take k) ++ if p L[k] = true then [] else [L[k]] := by
 unfold keepX
 rw [List.take_succ_eq_append_getElem hk,List.filter_append]
 cases h : p L[k] <;> simp [h]
theorem keepX_none {α : Type} {p : α → Bool} {L : List α} (h : ∀ x ∈ L,p x = false) : keepX p L = L := List.filter_eq_self.2 fun x hx => by rw [h x hx]; rfl
theorem keepX_step {α : Type} {p : α → Bool} {L : List α} {k : Nat} (hk : k < L.length) (hx : p L[k] = true) (hno : ∀ j (hj : j < k),p (L[j]'(by omega)) = false) : keepX p (L.take (k + 1)) = L.take k := by
 rw [keepX_take hk,if_pos hx,List.append_nil]
 refine keepX_none fun x hx => ?_
 obtain ⟨j,hj,rfl⟩ := List.getElem_of_mem hx
 rw [List.length_take] at hj
 rw [List.getElem_take]
 exact hno j (by omega)
theorem run_clear_x {P : Program} (w : World) (t e ty : TypeId) (z : Value) (ht : P.underlying t = some (.slice e)) (hv : ∀ w,(zeroValue e).run P w = .ok z w) (n : Nat) (hn : 0 < n) (h1 : ∀ v ∈ (Builtin.zeroCells z.cells n).toList,v.oneCell' = true) (g o c : Nat)
  (cur : List Value) (tt : TypeId) (hg : w.heap[g]? = some (.cells cur.toArray tt (0, 0))) (hfit : o + (Builtin.zeroCells z.cells n).toList.length ≤ cur.length) :
  (Builtin.clear_ #[t] ty #[.slice (some ⟨g,o,none⟩) n c]).run P w = .ok (.tuple #[]) (w.setRow g (splice cur o (Builtin.zeroCells z.cells n).toList).toArray) := by
 have hst := run_storeCells_at P g o tt (Builtin.zeroCells z.cells n).toList 0 cur.toArray w hg (by simpa using hfit) h1
 simp only [Nat.add_zero] at hst
 obtain ⟨m,rfl⟩ : ∃ m,n = m + 1 := ⟨n - 1,by omega⟩
 simp [Builtin.clear_,run_underlying ht,hv,hst,splice]
end Go.Proofs.YthfjfccdelbkhaaGreatDoor
