/- Texts that stand in one: CellPlain, CellSpec, SkPlain, SkFlat, RowStep. -/
import Derived.Test.YtpgcfgbhkodmeaaGreatDoorSumPlainJ
import Derived.Deep.DeepCutAuto
import Derived.Deep.MidRow
import Derived.Deep.RegionLaw
import Derived.Test.YtpgcfgbhkodmeaaGreatDoorSkKitJ
import Derived.Laws.CopyOwn
import Derived.Laws.Rows
import Derived.Laws.Tables
import Derived.Deep.WholeRow
import Derived.WalkKit
namespace Go.Proofs.YtpgcfgbhkodmeaaGreatDoor
open Go.RowKit
end Go.Proofs.YtpgcfgbhkodmeaaGreatDoor
namespace Go.Proofs.YtpgcfgbhkodmeaaGreatDoor
open Go.RowKit Go.Sort
theorem ints_one' (l : List Int) : ∀ u ∈ ints l,u.oneCell' = true := by
 intro u hu
 simp only [ints,List.mem_map] at hu
 obtain ⟨x,_,rfl⟩ := hu
 rfl
theorem wpList_allI {P : Program} {ops : Array Oper} {rest : List Oper} {o : Oper} {a : Act} {Q : Exit → Act → World → Prop} {w : World} (hgd : o.guard = none) (s x : Operand) (t : TypeId)
  (ho : o.op = .call { callee := .builtin .append,args := #[s,x],argTypes := #[t,t] }) (base : Nat) (e : TypeId) (ht : P.underlying t = some (.slice e))
  (hinfo : (P.info? e).map (fun i => (i.zero,i.size,i.bytes)) = some (some (.int .i64 0), 1, 8)) (E : Nat) (hs : a.eval s = .slice (some ⟨E, 0,none⟩) 0 0) (hown : OwnV w base e (.slice (some ⟨E, 0,none⟩) 0 0) [])
  (ad : Addr) (cap : Nat) (l : List Int) (B : Nat) (hx : a.eval x = .slice (some ad) l.length cap) (hI : IAt w (some ad) l B) (hlen : l.length ≤ 1048576) (hbase : base ≤ w.heap.size)
  (h : ∀ v' w',OwnV w' base e v' (ints l) → w.grownBy w' (some E) → wpList P ops Q rest (a.put o.dst v') w') :
  wpList P ops Q (o :: rest) a w := by
 obtain ⟨i0,hi,hz0,hz1,hz2⟩ := info_parts hinfo
 refine wpList_append_own _ hgd s x t ho base e i0 _ 1 8 ht hi hz0 hz1 hz2 rfl (by decide) _ 0 [] hs hown ad l.length cap (ints l) hx (by rw [ints_length,Nat.mul_one]) ?_ (ints_one' l) (by unfold maxLen; omega) (by omega) hbase ?_
 ·intro j u hu
  obtain ⟨hj,hu'⟩ := List.getElem?_eq_some_iff.1 hu
  have hj' : j < l.length := by rw [ints_length] at hj; exact hj
  obtain ⟨g,off,ha,_,hc⟩ := hI j hj'
  simp only [Option.some.injEq] at ha
  subst ha
  rw [Addr.add_mid,hc, ← hu',ints_at hj']
 ·intro v' w' h1 h2 _
  exact h v' w' (by unfold OwnV; rw [ints_length]; simpa using h1) h2
theorem IAt.alloc {w : World} {a : Option Addr} {l : List Int} (h : IAt w a l w.heap.size) (o : Obj) : IAt (w.alloc o) a l (w.alloc o).heap.size := h.on ((Below.refl _ _).alloc (Nat.le_refl _) o)
theorem own_empty (w : World) : OwnV (w.alloc (.cells #[] 3)) w.heap.size 3 (.slice (some ⟨w.heap.size, 0,none⟩) 0 0) [] := ⟨rfl,.inr ⟨w.heap.size, 0,#[],rfl,Nat.le_refl _,heap_alloc_new _ _,Nat.le_refl _,by simp [maxLen],by simp,rfl⟩⟩
end Go.Proofs.YtpgcfgbhkodmeaaGreatDoor
namespace Go.Proofs.YtpgcfgbhkodmeaaGreatDoor
open Go.RowKit
def rowByte (row : Int) : UInt8 := UInt8.ofNat (row % 256).toNat
def placeS (row : Int) (key : ByteArray) : Nat := sumAll 4294967295 (key.data.toList ++ [rowByte row]) % 16
def bumpR (key : ByteArray) (i : Nat) (r : List Int) : List Int := r.set (placeS i key) (min (r.getD (placeS i key) 0 + 1) 15)
def halfR (r : List Int) : List Int := r.map (fun z => z / 2)
def bumpTo (key : ByteArray) (rows : List (List Int)) (k : Nat) : List (List Int) := rows.mapIdx fun i r => if i < k then bumpR key i r else r
def halfTo (rows : List (List Int)) (k : Nat) : List (List Int) := rows.mapIdx fun i r => if i < k then halfR r else r
def bumpS (S : Sk) (key : ByteArray) : Sk := if okK S = true then (if S.added = 63 then ⟨halfTo (bumpTo key S.rows 3) 3, 0⟩ else ⟨bumpTo key S.rows 3,S.added + 1⟩) else S
def lookR (key : ByteArray) (rows : List (List Int)) (i : Nat) : Int := (rows.getD i []).getD (placeS i key) 0
def guessTo (key : ByteArray) (rows : List (List Int)) (k : Nat) : Int := (List.range k).foldl (fun n i => min (lookR key rows i) n) 15
def guessS (S : Sk) (key : ByteArray) : Int := if okK S = true then guessTo key S.rows 3 else 0
theorem placeS_lt (row : Int) (key : ByteArray) : placeS row key < 16 := Nat.mod_lt _ (by omega)
theorem bumpR_ok {key : ByteArray} {i : Nat} {r : List Int} (h : rowOk r = true) : rowOk (bumpR key i r) = true := by
 have hl := rowOk_len h
 have hat := rowOk_at h (placeS i key) (placeS_lt _ _)
 unfold rowOk at h ⊢
 unfold bumpR
 simp only [Bool.and_eq_true,decide_eq_true_eq,List.all_eq_true] at h ⊢
 refine ⟨by rw [List.length_set]; exact hl,fun z hz => ?_⟩
 rcases List.mem_or_eq_of_mem_set hz with hz | rfl
 ·exact h.2 z hz
 ·simp only [numOk,decide_eq_true_eq]; omega
theorem halfR_ok {r : List Int} (h : rowOk r = true) : rowOk (halfR r) = true ∧ ∀ p,(halfR r).getD p 0 ≤ 7 := by
 have hl := rowOk_len h
 constructor
 ·unfold rowOk at h ⊢
  unfold halfR
  simp only [Bool.and_eq_true,decide_eq_true_eq,List.all_eq_true,List.length_map] at h ⊢
  refine ⟨hl,fun z hz => ?_⟩
  obtain ⟨y,hy,rfl⟩ := List.mem_map.1 hz
  have := h.2 y hy
  simp only [numOk,decide_eq_true_eq] at this ⊢
  omega
 ·intro p
  by_cases hp : p < 16
  ·have := rowOk_at h p hp
   unfold halfR
   rw [List.getD_eq_getElem?_getD,List.getElem?_map]
   rw [List.getD_eq_getElem?_getD] at this
   rw [List.getElem?_eq_getElem (by omega)] at this ⊢
   simp at this ⊢
   omega
  ·rw [List.getD_eq_getElem?_getD,List.getElem?_eq_none (by simp [halfR]; omega)]
   simp
theorem bumpTo_three (key : ByteArray) (a b c : List Int) : bumpTo key [a,b,c] 3 = [bumpR key 0 a,bumpR key 1 b,bumpR key 2 c] := by simp [bumpTo,List.mapIdx_cons]
theorem halfTo_three (a b c : List Int) : halfTo [a,b,c] 3 = [halfR a,halfR b,halfR c] := by simp [halfTo,List.mapIdx_cons]
theorem bumpTo_zero (key : ByteArray) (rows : List (List Int)) : bumpTo key rows 0 = rows := by
 unfold bumpTo
 apply List.ext_getElem?
 intro i
 simp
theorem halfTo_zero (rows : List (List Int)) : halfTo rows 0 = rows := by
 unfold halfTo
 apply List.ext_getElem?
 intro i
 simp
theorem bumpTo_succ (key : ByteArray) (rows : List (List Int)) (k : Nat) (r : List Int) (hr : rows[k]? = some r) : (bumpTo key rows k)[k]? = some r ∧ bumpTo key rows (k + 1) = (bumpTo key rows k).set k (bumpR key k r) := by
 unfold bumpTo
 constructor
 ·simp [hr]
 ·apply List.ext_getElem?
  intro i
  by_cases hi : i = k
  ·subst hi
   obtain ⟨h1,rfl⟩ := List.getElem?_eq_some_iff.1 hr
   simp [h1]
  ·rw [List.getElem?_set_ne (fun e => hi e.symm)]
   simp only [List.getElem?_mapIdx]
   congr 1
   funext x
   by_cases h1 : i < k
   ·rw [if_pos h1,if_pos (by omega)]
   ·rw [if_neg h1,if_neg (by omega)]
theorem halfTo_succ (rows : List (List Int)) (k : Nat) (r : List Int) (hr : rows[k]? = some r) : (halfTo rows k)[k]? = some r ∧ halfTo rows (k + 1) = (halfTo rows k).set k (halfR r) := by
 unfold halfTo
 constructor
 ·simp [hr]
 ·apply List.ext_getElem?
  intro i
  by_cases hi : i = k
  ·subst hi
   obtain ⟨h1,rfl⟩ := List.getElem?_eq_some_iff.1 hr
   simp [h1]
  ·rw [List.getElem?_set_ne (fun e => hi e.symm)]
   simp only [List.getElem?_mapIdx]
   congr 1
   funext x
   by_cases h1 : i < k
   ·rw [if_pos h1,if_pos (by omega)]
   ·rw [if_neg h1,if_neg (by omega)]
theorem bumpTo_length (key : ByteArray) (rows : List (List Int)) (k : Nat) : (bumpTo key rows k).length = rows.length := by simp [bumpTo]
theorem halfTo_length (rows : List (List Int)) (k : Nat) : (halfTo rows k).length = rows.length := by simp [halfTo]
theorem bumpS_ok {S : Sk} (key : ByteArray) (h : okK S = true) : okK (bumpS S key) = true := by
 obtain ⟨a,b,c,e,ha,hb,hc,h0,h1⟩ := okK_parts h
 unfold bumpS
 rw [if_pos h,e,bumpTo_three]
 by_cases h63 : S.added = 63
 ·rw [if_pos h63,halfTo_three]
  exact okK_mk (halfR_ok (bumpR_ok ha)).1 (halfR_ok (bumpR_ok hb)).1 (halfR_ok (bumpR_ok hc)).1 (by omega) (by omega)
 ·rw [if_neg h63]
  exact okK_mk (bumpR_ok ha) (bumpR_ok hb) (bumpR_ok hc) (by omega) (by omega)
def All16 (rows : List (List Int)) : Prop := ∀ r ∈ rows,r.length = 16
theorem flat_len : ∀ (rows : List (List Int)),All16 rows → rows.flatten.length = 16 * rows.length
 | [],_ => rfl
 | r :: rs,h => by
  have h1 := h r (by simp)
  have h2 := flat_len rs (fun x hx => h x (by simp [hx]))
  simp only [List.flatten_cons,List.length_append,List.length_cons,h1,h2]
  omega
theorem flat_at : ∀ (rows : List (List Int)),All16 rows → ∀ (k p : Nat),p < 16 → rows.flatten[k * 16 + p]? = (rows.getD k [])[p]?
 | [],_,k,p,_ => by simp
 | r :: rs,h, 0,p,hp => by
  have h1 := h r (by simp)
  rw [List.flatten_cons,List.getElem?_append_left (by omega)]
  simp
 | r :: rs,h,k + 1,p,hp => by
  have h1 := h r (by simp)
  rw [List.flatten_cons,List.getElem?_append_right (by omega),show (k + 1) * 16 + p - r.length = k * 16 + p by omega,flat_at rs (fun x hx => h x (by simp [hx])) k p hp]
  simp
theorem flat_set : ∀ (rows : List (List Int)),All16 rows → ∀ (k p : Nat) (z : Int),p < 16 → k < rows.length → rows.flatten.set (k * 16 + p) z = (rows.set k ((rows.getD k []).set p z)).flatten
 | [],_,k,p,z,_,hk => by simp at hk
 | r :: rs,h, 0,p,z,hp,_ => by
  have h1 := h r (by simp)
  rw [List.flatten_cons,List.set_append_left _ _ (by omega)]
  simp
 | r :: rs,h,k + 1,p,z,hp,hk => by
  have h1 := h r (by simp)
  rw [List.flatten_cons,List.set_append_right _ _ (by omega),show (k + 1) * 16 + p - r.length = k * 16 + p by omega,flat_set rs (fun x hx => h x (by simp [hx])) k p z hp (by simpa using hk)]
  simp
theorem flat_splice : ∀ (rows : List (List Int)),All16 rows → ∀ (k : Nat) (q : List Int),q.length = 16 → k < rows.length → splice rows.flatten (k * 16) q = (rows.set k q).flatten
 | [],_,k,q,_,hk => by simp at hk
 | r :: rs,h, 0,q,hq,_ => by
  have h1 := h r (by simp)
  unfold splice
  rw [List.flatten_cons,hq,List.drop_append]
  simp [h1]
 | r :: rs,h,k + 1,q,hq,hk => by
  have h1 := h r (by simp)
  have ih := flat_splice rs (fun x hx => h x (by simp [hx])) k q hq (by simpa using hk)
  unfold splice at ih ⊢
  rw [List.flatten_cons,List.take_append,List.drop_append,List.take_of_length_le (by omega),List.drop_eq_nil_of_le (by omega),List.nil_append,show (k + 1) * 16 - r.length = k * 16 by omega,show (k + 1) * 16 + q.length - r.length = k * 16 + q.length by omega,List.append_assoc,ih]
  simp
theorem all16_set {rows : List (List Int)} (h : All16 rows) (k : Nat) {q : List Int} (hq : q.length = 16) : All16 (rows.set k q) := by
 intro r hr
 rcases List.mem_or_eq_of_mem_set hr with hr | rfl
 ·exact h r hr
 ·exact hq
theorem all16_get {rows : List (List Int)} (h : All16 rows) {k : Nat} (hk : k < rows.length) : rows[k].length = 16 := h _ (List.getElem_mem hk)
def RBox (w : World) (T : Nat) (rows : List (List Int)) : Prop := w.heap[T]? = some (.cells (ints rows.flatten).toArray 219 (0, 0))
theorem RBox.lt {w : World} {T : Nat} {rows : List (List Int)} (h : RBox w T rows) : T < w.heap.size := (Array.getElem?_eq_some_iff.1 h).1
theorem RBox.new (w : World) (rows : List (List Int)) : RBox (w.alloc (.cells (ints rows.flatten).toArray 219)) w.heap.size rows := heap_alloc_new w _
theorem RBox.kept {w w' : World} {T : Nat} {rows : List (List Int)} (h : RBox w T rows) (hk : w'.heap[T]? = w.heap[T]?) : RBox w' T rows := hk.trans h
theorem RBox.on {w w' : World} {T : Nat} {rows : List (List Int)} (h : RBox w T rows) (hb : Below w.heap.size w w') : RBox w' T rows := h.kept (hb.block T h.lt)
theorem RBox.thaw {w : World} {T : Nat} {rows : List (List Int)} (h : RBox w T rows) (i : Nat) : w.frozen? ⟨T,i,none⟩ = false := by
 unfold RBox at h
 simp [World.frozen?,h]
theorem RBox.cell {w : World} {T : Nat} {rows : List (List Int)} (h : RBox w T rows) (h16 : All16 rows) {k p : Nat} (hk : k < rows.length) (hp : p < 16) : w.cell? ⟨T,k * 16 + p,none⟩ = some (.int .i64 ((rows.getD k []).getD p 0)) := by
 unfold RBox at h
 have hl : p < (rows.getD k []).length := by rw [List.getD_eq_getElem?_getD,List.getElem?_eq_getElem hk]; simpa [all16_get h16 hk] using hp
 rw [cell_of_row w T (k * 16 + p) _ _ (0, 0) h]
 simp only [ints,List.getElem?_toArray,List.getElem?_map,flat_at rows h16 k p hp,List.getElem?_eq_getElem hl,Option.map_some]
 have e : ∀ (r : List Int) (h : p < r.length),r[p] = r.getD p 0 := by intro r h; simp [List.getD_eq_getElem?_getD,h]
 rw [e _ hl]
theorem RBox.at {w : World} {T : Nat} {rows : List (List Int)} (h : RBox w T rows) (h16 : All16 rows) {k : Nat} (hk : k < rows.length) : IAt w (some ⟨T,k * 16,none⟩) rows[k] w.heap.size := by
 intro j hj
 have hl := all16_get h16 hk
 refine ⟨T,k * 16,rfl,h.lt, ?_⟩
 rw [h.cell h16 hk (by omega)]
 simp [List.getD_eq_getElem?_getD,List.getElem?_eq_getElem hk,List.getElem?_eq_getElem hj]
theorem RBox.set {w : World} {T : Nat} {rows : List (List Int)} (h : RBox w T rows) (h16 : All16 rows) {k p : Nat} (hk : k < rows.length) (hp : p < 16) (z : Int) : RBox (w.setCell ⟨T,k * 16 + p,none⟩ (.int .i64 z)) T (rows.set k ((rows.getD k []).set p z)) := by
 unfold RBox at *
 rw [setCell_eq_setRow w T _ _ _ (0, 0) _ h,setRow_heap w T _ _ _ _ h, ← flat_set rows h16 k p z hp hk]
 simp [ints,List.map_set]
theorem ints_all (l : List Int) : (ints l).toArray.all (·.oneCell') = true := by
 rw [Array.all_eq_true_iff_forall_mem]
 intro v hv
 simp only [List.mem_toArray,ints,List.mem_map] at hv
 obtain ⟨x,_,rfl⟩ := hv
 rfl
theorem ints_one (l : List Int) : ∀ u ∈ ints l,u.oneCell' = true := by
 intro u hu
 simp only [ints,List.mem_map] at hu
 obtain ⟨x,_,rfl⟩ := hu
 rfl
theorem RBox.load {P : Program} {w : World} {T : Nat} {rows : List (List Int)} (h : RBox w T rows) (hl : rows.flatten.length = 48) : (loadCellsFrom ⟨T, 0,none⟩ 0 48 #[]).run P w = .ok (ints rows.flatten).toArray w := by
 have h' : w.heap[T]? = some (.cells (ints rows.flatten).toArray 219 (0, 0)) := h
 have := run_loadCells_list (P := P) w ⟨T, 0,none⟩ (ints rows.flatten) (fun j v hv => by
  have hadd : (⟨T, 0,none⟩ : Addr).add j = ⟨T,j,none⟩ := by unfold Addr.add; split <;> simp_all
  rw [hadd,cell_of_row _ _ j _ _ (0, 0) h']
  simpa using hv)
 rw [ints_length,hl] at this
 simpa [loadCells] using this
theorem splice_all {α : Type} (L cs : List α) (h : L.length = cs.length) : L.take 0 ++ cs ++ L.drop (0 + cs.length) = cs := by
 rw [Nat.zero_add, ← h]
 simp
theorem RBox.store {P : Program} {w : World} {T : Nat} {rows new : List (List Int)} (h : RBox w T rows) (hl : rows.flatten.length = 48) (hn : new.flatten.length = 48) : (storeCells ⟨T, 0,none⟩ (ints new.flatten) 0).run P w = .ok () (w.setRow T (ints new.flatten).toArray) := by
 have h' : w.heap[T]? = some (.cells (ints rows.flatten).toArray 219 (0, 0)) := h
 have := run_storeCells_at P T 0 219 (ints new.flatten) 0 _ w h' (Nat.le_of_eq (by rw [ints_length,List.size_toArray,ints_length,hn,hl])) (ints_one _)
 rw [this]
 simp only [Nat.add_zero]
 rw [splice_all _ _ (by rw [ints_length,ints_length,hl,hn])]
theorem RBox.stored {w : World} {T : Nat} {rows : List (List Int)} (h : RBox w T rows) (new : List (List Int)) : RBox (w.setRow T (ints new.flatten).toArray) T new := setRow_heap w T _ _ _ _ h
theorem run_loadR {P : Program} {w : World} {T n : Nat} {t e tt : TypeId} {cs : Array Value} (hT : w.heap[T]? = some (.cells cs tt (0, 0))) (hu : P.underlying t = some (.array n e)) (hi : (P.info? t).map (·.size) = some cs.size) :
  (Instr.loadAt t (.pointer (some ⟨T, 0,none⟩))).run P w = .ok (.agg cs) w := by
 simp only [Instr.loadAt,Instr.sureAddr,Sem.run_bind,Sem.run_pure,Result.andThen]
 exact run_loadVar_row w T tt t cs (0, 0) _ hT hu rfl hi
theorem run_storeR {P : Program} {w : World} {T : Nat} {t tt : TypeId} {old cs : Array Value} (hT : w.heap[T]? = some (.cells old tt (0, 0))) (hi : (P.info? t).map (·.size) = some cs.size) (ho : old.size = cs.size) (h1 : cs.all (·.oneCell') = true) :
  (Instr.storeAt t (.pointer (some ⟨T, 0,none⟩)) (.agg cs)).run P w = .ok () (w.setRow T cs) := by
 simp only [Instr.storeAt,Instr.sureAddr,Sem.run_bind,Sem.run_pure,Result.andThen]
 exact run_storeVar_row w T tt t old cs hT hi ho h1
theorem wpList_loadR {P : Program} {ops : Array Oper} {rest : List Oper} {o : Oper} {a : Act} {w : World} {Q : Exit → Act → World → Prop} (hgd : o.guard = none) (p : Operand) (t : TypeId) (ho : o.op = .load t p) (T : Nat) (hp : a.eval p = .pointer (some ⟨T, 0,none⟩))
  (n : Nat) (e : TypeId) (hu : P.underlying t = some (.array n e)) (cs : Array Value) (tt : TypeId) (hT : w.heap[T]? = some (.cells cs tt (0, 0))) (hi : (P.info? t).map (·.size) = some cs.size) (h : wpList P ops Q rest (a.put o.dst (.agg cs)) w) : wpList P ops Q (o :: rest) a w := by
 refine wpList_plain hgd fun K hK => ?_
 have hrun := run_loadR (P := P) hT hu hi
 unfold Oper.wp
 simp only [execOp,ho,hp,Sem.run_bind,hrun,Result.andThen,Sem.run_pure]
 exact hK _ _ h
theorem wpList_storeR {P : Program} {ops : Array Oper} {rest : List Oper} {o : Oper} {a : Act} {w : World} {Q : Exit → Act → World → Prop} (hgd : o.guard = none) (p x : Operand) (t : TypeId) (ho : o.op = .store t p x) (T : Nat) (hp : a.eval p = .pointer (some ⟨T, 0,none⟩))
  (cs : Array Value) (hx : a.eval x = .agg cs) (old : Array Value) (tt : TypeId) (hT : w.heap[T]? = some (.cells old tt (0, 0))) (hi : (P.info? t).map (·.size) = some cs.size) (hol : old.size = cs.size) (h1 : cs.all (·.oneCell') = true) (h : wpList P ops Q rest (a.put o.dst undef) (w.setRow T cs)) : wpList P ops Q (o :: rest) a w := by
 refine wpList_plain hgd fun K hK => ?_
 have hrun := run_storeR (P := P) hT hi hol h1
 unfold Oper.wp
 simp only [execOp,ho,hp,hx,Sem.run_bind,hrun,Result.andThen,Sem.run_pure]
 exact hK _ _ h
end Go.Proofs.YtpgcfgbhkodmeaaGreatDoor
