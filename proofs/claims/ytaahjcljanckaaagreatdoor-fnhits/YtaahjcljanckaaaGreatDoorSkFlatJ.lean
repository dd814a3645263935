/- Texts that stand in one: SkFlat, MarkInts, SkLaw. -/
import Derived.Test.YtaahjcljanckaaaGreatDoorSkBaseJ
import Derived.Laws.CopyOwn
import Derived.Laws.Rows
import Derived.Laws.Tables
import Derived.Deep.WholeRow
import Derived.Lib.QuietBelow
import Derived.BigQuiet
namespace Go.Proofs.YtaahjcljanckaaaGreatDoor
open Go.RowKit
def All16 (rows : List (List Int)) : Prop := ∀ r ∈ rows,r.length = 16
theorem flat_len : ∀ (rows : List (List Int)),All16 rows → rows.flatten.length = 16 * rows.length
 | [],_ => rfl
 | r :: rs,h => by
  have h1 := h r (by simp)
  have h2 := flat_len rs (fun x hx => h x (by simp [hx]))
  simp only [List.flatten_cons,List.length_append,List.length_cons,h1,h2]
  omega
theorem flat_at : ∀ (rows : List (List Int)),All16 rows → ∀ (k p : Nat),p < 16 → rows.flatten[k * 16 + p]? = (rows.getD k [])[p]?
 | [],_,k,p,_ => by simp
 | r :: rs,h, 0,p,hp => by
  have h1 := h r (by simp)
  rw [List.flatten_cons,List.getElem?_append_left (by omega)]
  simp
 | r :: rs,h,k + 1,p,hp => by
  have h1 := h r (by simp)
  rw [List.flatten_cons,List.getElem?_append_right (by omega),show (k + 1) * 16 + p - r.length = k * 16 + p by omega,flat_at rs (fun x hx => h x (by simp [hx])) k p hp]
  simp
theorem flat_set : ∀ (rows : List (List Int)),All16 rows → ∀ (k p : Nat) (z : Int),p < 16 → k < rows.length → rows.flatten.set (k * 16 + p) z = (rows.set k ((rows.getD k []).set p z)).flatten
 | [],_,k,p,z,_,hk => by simp at hk
 | r :: rs,h, 0,p,z,hp,_ => by
  have h1 := h r (by simp)
  rw [List.flatten_cons,List.set_append_left _ _ (by omega)]
  simp
 | r :: rs,h,k + 1,p,z,hp,hk => by
  have h1 := h r (by simp)
  rw [List.flatten_cons,List.set_append_right _ _ (by omega),show (k + 1) * 16 + p - r.length = k * 16 + p by omega,flat_set rs (fun x hx => h x (by simp [hx])) k p z hp (by simpa using hk)]
  simp
theorem flat_splice : ∀ (rows : List (List Int)),All16 rows → ∀ (k : Nat) (q : List Int),q.length = 16 → k < rows.length → splice rows.flatten (k * 16) q = (rows.set k q).flatten
 | [],_,k,q,_,hk => by simp at hk
 | r :: rs,h, 0,q,hq,_ => by
  have h1 := h r (by simp)
  unfold splice
  rw [List.flatten_cons,hq,List.drop_append]
  simp [h1]
 | r :: rs,h,k + 1,q,hq,hk => by
  have h1 := h r (by simp)
  have ih := flat_splice rs (fun x hx => h x (by simp [hx])) k q hq (by simpa using hk)
  unfold splice at ih ⊢
  rw [List.flatten_cons,List.take_append,List.drop_append,List.take_of_length_le (by omega),List.drop_eq_nil_of_le (by omega),List.nil_append,show (k + 1) * 16 - r.length = k * 16 by omega,show (k + 1) * 16 + q.length - r.length = k * 16 + q.length by omega,List.append_assoc,ih]
  simp
theorem all16_set {rows : List (List Int)} (h : All16 rows) (k : Nat) {q : List Int} (hq : q.length = 16) : All16 (rows.set k q) := by
 intro r hr
 rcases List.mem_or_eq_of_mem_set hr with hr | rfl
 ·exact h r hr
 ·exact hq
theorem all16_zero : All16 (List.replicate 3 (List.replicate 16 0)) := by
 intro r hr
 obtain ⟨_,rfl⟩ := List.mem_replicate.1 hr
 simp
theorem all16_get {rows : List (List Int)} (h : All16 rows) {k : Nat} (hk : k < rows.length) : rows[k].length = 16 := h _ (List.getElem_mem hk)
def RBox (w : World) (T : Nat) (rows : List (List Int)) : Prop := w.heap[T]? = some (.cells (ints rows.flatten).toArray 119 (0, 0))
theorem RBox.lt {w : World} {T : Nat} {rows : List (List Int)} (h : RBox w T rows) : T < w.heap.size := (Array.getElem?_eq_some_iff.1 h).1
theorem RBox.new (w : World) (rows : List (List Int)) : RBox (w.alloc (.cells (ints rows.flatten).toArray 119)) w.heap.size rows := heap_alloc_new w _
theorem RBox.kept {w w' : World} {T : Nat} {rows : List (List Int)} (h : RBox w T rows) (hk : w'.heap[T]? = w.heap[T]?) : RBox w' T rows := hk.trans h
theorem RBox.on {w w' : World} {T : Nat} {rows : List (List Int)} (h : RBox w T rows) (hb : Below w.heap.size w w') : RBox w' T rows := h.kept (hb.block T h.lt)
theorem RBox.thaw {w : World} {T : Nat} {rows : List (List Int)} (h : RBox w T rows) (i : Nat) : w.frozen? ⟨T,i,none⟩ = false := by
 unfold RBox at h
 simp [World.frozen?,h]
theorem RBox.cell {w : World} {T : Nat} {rows : List (List Int)} (h : RBox w T rows) (h16 : All16 rows) {k p : Nat} (hk : k < rows.length) (hp : p < 16) : w.cell? ⟨T,k * 16 + p,none⟩ = some (.int .i64 ((rows.getD k []).getD p 0)) := by
 unfold RBox at h
 have hl : p < (rows.getD k []).length := by rw [List.getD_eq_getElem?_getD,List.getElem?_eq_getElem hk]; simpa [all16_get h16 hk] using hp
 rw [cell_of_row w T (k * 16 + p) _ _ (0, 0) h]
 simp only [ints,List.getElem?_toArray,List.getElem?_map,flat_at rows h16 k p hp,List.getElem?_eq_getElem hl,Option.map_some]
 have e : ∀ (r : List Int) (h : p < r.length),r[p] = r.getD p 0 := by intro r h; simp [List.getD_eq_getElem?_getD,h]
 rw [e _ hl]
theorem RBox.at {w : World} {T : Nat} {rows : List (List Int)} (h : RBox w T rows) (h16 : All16 rows) {k : Nat} (hk : k < rows.length) : IAt w (some ⟨T,k * 16,none⟩) rows[k] w.heap.size := by
 intro j hj
 have hl := all16_get h16 hk
 refine ⟨T,k * 16,rfl,h.lt, ?_⟩
 rw [h.cell h16 hk (by omega)]
 simp [List.getD_eq_getElem?_getD,List.getElem?_eq_getElem hk,List.getElem?_eq_getElem hj]
theorem RBox.set {w : World} {T : Nat} {rows : List (List Int)} (h : RBox w T rows) (h16 : All16 rows) {k p : Nat} (hk : k < rows.length) (hp : p < 16) (z : Int) : RBox (w.setCell ⟨T,k * 16 + p,none⟩ (.int .i64 z)) T (rows.set k ((rows.getD k []).set p z)) := by
 unfold RBox at *
 rw [setCell_eq_setRow w T _ _ _ (0, 0) _ h,setRow_heap w T _ _ _ _ h, ← flat_set rows h16 k p z hp hk]
 simp [ints,List.map_set]
theorem ints_all (l : List Int) : (ints l).toArray.all (·.oneCell') = true := by
 rw [Array.all_eq_true_iff_forall_mem]
 intro v hv
 simp only [List.mem_toArray,ints,List.mem_map] at hv
 obtain ⟨x,_,rfl⟩ := hv
 rfl
theorem ints_one (l : List Int) : ∀ u ∈ ints l,u.oneCell' = true := by
 intro u hu
 simp only [ints,List.mem_map] at hu
 obtain ⟨x,_,rfl⟩ := hu
 rfl
theorem RBox.load {P : Program} {w : World} {T : Nat} {rows : List (List Int)} (h : RBox w T rows) (hl : rows.flatten.length = 48) : (loadCellsFrom ⟨T, 0,none⟩ 0 48 #[]).run P w = .ok (ints rows.flatten).toArray w := by
 have h' : w.heap[T]? = some (.cells (ints rows.flatten).toArray 119 (0, 0)) := h
 have := run_loadCells_list (P := P) w ⟨T, 0,none⟩ (ints rows.flatten) (fun j v hv => by
  have hadd : (⟨T, 0,none⟩ : Addr).add j = ⟨T,j,none⟩ := by unfold Addr.add; split <;> simp_all
  rw [hadd,cell_of_row _ _ j _ _ (0, 0) h']
  simpa using hv)
 rw [ints_length,hl] at this
 simpa [loadCells] using this
theorem splice_all {α : Type} (L cs : List α) (h : L.length = cs.length) : L.take 0 ++ cs ++ L.drop (0 + cs.length) = cs := by
 rw [Nat.zero_add, ← h]
 simp
theorem RBox.store {P : Program} {w : World} {T : Nat} {rows new : List (List Int)} (h : RBox w T rows) (hl : rows.flatten.length = 48) (hn : new.flatten.length = 48) : (storeCells ⟨T, 0,none⟩ (ints new.flatten) 0).run P w = .ok () (w.setRow T (ints new.flatten).toArray) := by
 have h' : w.heap[T]? = some (.cells (ints rows.flatten).toArray 119 (0, 0)) := h
 have := run_storeCells_at P T 0 119 (ints new.flatten) 0 _ w h' (Nat.le_of_eq (by rw [ints_length,List.size_toArray,ints_length,hn,hl])) (ints_one _)
 rw [this]
 simp only [Nat.add_zero]
 rw [splice_all _ _ (by rw [ints_length,ints_length,hl,hn])]
theorem RBox.stored {w : World} {T : Nat} {rows : List (List Int)} (h : RBox w T rows) (new : List (List Int)) : RBox (w.setRow T (ints new.flatten).toArray) T new := setRow_heap w T _ _ _ _ h
end Go.Proofs.YtaahjcljanckaaaGreatDoor
namespace Go.Proofs.YtaahjcljanckaaaGreatDoor
open Go.RowKit Go.Sort
def tot (LL : List (List Int)) (j : Nat) : Nat := ((LL.take j).map List.length).sum
theorem tot_succ (LL : List (List Int)) (j : Nat) (hj : j < LL.length) : tot LL (j + 1) = tot LL j + LL[j].length := by
 unfold tot
 rw [List.take_succ_eq_append_getElem hj,List.map_append,List.sum_append]
 simp only [List.map_cons,List.map_nil,List.sum_cons,List.sum_nil,Nat.add_zero]
theorem tot_mono (LL : List (List Int)) (j : Nat) : ∀ n,j ≤ n → n ≤ LL.length → tot LL j ≤ tot LL n
 | 0,h,_ => by rw [show j = 0 by omega]; exact Nat.le_refl _
 | n + 1,h,hn => by
  by_cases e : j = n + 1
  ·rw [e]; exact Nat.le_refl _
  ·have := tot_mono LL j n (by omega) (by omega)
   rw [tot_succ LL n (by omega)]
   omega
theorem tot_at (LL : List (List Int)) (j : Nat) (hj : j < LL.length) : tot LL j + LL[j].length ≤ tot LL LL.length := by
 rw [← tot_succ LL j hj]
 exact tot_mono LL (j + 1) _ (by omega) (Nat.le_refl _)
theorem fill_set {α : Type} (LL : List α) (z : α) (k : Nat) (hk : k < LL.length) : (LL.take k ++ List.replicate (LL.length - k) z).set k LL[k] = LL.take (k + 1) ++ List.replicate (LL.length - (k + 1)) z := by
 rw [List.set_append_right _ _ (by rw [List.length_take]; omega),List.length_take,show k - min k LL.length = 0 by omega,show LL.length - k = (LL.length - (k + 1)) + 1 by omega,List.replicate_succ,List.set_cons_zero,List.take_succ_eq_append_getElem hk,List.append_assoc]
 rfl
theorem Tryz.infoIntS : (Tryz.prog.info? 24).map (fun i => (i.zero,i.size,i.bytes)) = some (some (.slice none 0 0), 1, 24) := by kernel_rfl
theorem OwnSS.made {w : World} {lo n : Nat} {v : Value} (h : OwnV w lo 24 v (List.replicate n (.slice none 0 0))) : OwnSS w lo w.heap.size v (List.replicate n []) := by
 refine ⟨_,h,fun k hk => (h.lt k hk).2,by simp,fun i u l hu hl => ?_,fun i j u u' k hu hu' h1 => ?_⟩
 ·obtain ⟨_,rfl⟩ := List.getElem?_eq_some_iff.1 hu
  obtain ⟨_,rfl⟩ := List.getElem?_eq_some_iff.1 hl
  simp only [List.getElem_replicate]
  exact ⟨OwnV.nil _ _ _,fun k hk => by simp [Value.ownBlock] at hk⟩
 ·obtain ⟨_,rfl⟩ := List.getElem?_eq_some_iff.1 hu
  simp [Value.ownBlock] at h1
end Go.Proofs.YtaahjcljanckaaaGreatDoor
