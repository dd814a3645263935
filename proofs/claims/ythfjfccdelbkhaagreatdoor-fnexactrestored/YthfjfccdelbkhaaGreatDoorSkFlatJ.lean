/- Texts that stand in one: SkFlat, MarkInts, SkLaw. -/
import Derived.Test.YthfjfccdelbkhaaGreatDoorIntsJ
import Derived.Laws.CopyOwn
import Derived.Laws.Rows
import Derived.Laws.Tables
import Derived.Deep.WholeRow
import Derived.Lib.QuietBelow
import Derived.BigQuiet
namespace Go.Proofs.YthfjfccdelbkhaaGreatDoor
open Go.RowKit
def All16 (rows : List (List Int)) : Prop := ∀ r ∈ rows,r.length = 16
theorem flat_len : ∀ (rows : List (List Int)),All16 rows → rows.flatten.length = 16 * rows.length
 | [],_ => rfl
 | r :: rs,h => by
  have h1 := h r (by simp)
  have h2 := flat_len rs (fun x hx => h x (by simp [hx]))
  simp only [List.flatten_cons,List.length_append,List.length_cons,h1,h2]
  omega
theorem flat_at : ∀ (rows : List (List Int)),All16 rows → ∀ (k p : Nat),p < 16 → rows.flatten[k * 16 + p]? = (rows.getD k [])[p]?
 | [],_,k,p,_ => by simp
 | r :: rs,h, 0,p,hp => by
  have h1 := h r (by simp)
  rw [List.flatten_cons,List.getElem?_append_left (by omega)]
  simp
 | r :: rs,h,k + 1,p,hp => by
  have h1 := h r (by simp)
  rw [List.flatten_cons,List.getElem?_append_right (by omega),show (k + 1) * 16 + p - r.length = k * 16 + p by omega,flat_at rs (fun x hx => h x (by simp [hx])) k p hp]
  simp
theorem flat_set : ∀ (rows : List (List Int)),All16 rows → ∀ (k p : Nat) (z : Int),p < 16 → k < rows.length → rows.flatten.set (k * 16 + p) z = (rows.set k ((rows.getD k []).set p z)).flatten
 | [],_,k,p,z,_,hk => by simp at hk
 | r :: rs,h, 0,p,z,hp,_ => by
  have h1 := h r (by simp)
  rw [List.flatten_cons,List.set_append_left _ _ (by omega)]
  simp
 | r :: rs,h,k + 1,p,z,hp,hk => by
  have h1 := h r (by simp)
  rw [List.flatten_cons,List.set_append_right _ _ (by omega),show (k + 1) * 16 + p - r.length = k * 16 + p by omega,flat_set rs (fun x hx => h x (by simp [hx])) k p z hp (by simpa using hk)]
  simp
theorem flat_splice : ∀ (rows : List (List Int)),All16 rows → ∀ (k : Nat) (q : List Int),q.length = 16 → k < rows.length → splice rows.flatten (k * 16) q = (rows.set k q).flatten
 | [],_,k,q,_,hk => by simp at hk
 | r :: rs,h, 0,q,hq,_ => by
  have h1 := h r (by simp)
  unfold splice
  rw [List.flatten_cons,hq,List.drop_append]
  simp [h1]
 | r :: rs,h,k + 1,q,hq,hk => by
  have h1 := h r (by simp)
  have ih := flat_splice rs (fun x hx => h x (by simp [hx])) k q hq (by simpa using hk)
  unfold splice at ih ⊢
  rw [List.flatten_cons,List.take_append,List.drop_append,List.take_of_length_le (by omega),List.drop_eq_nil_of_le (by omega),List.nil_append,show (k + 1) * 16 - r.length = k * 16 by omega,show (k + 1) * 16 + q.length - r.length = k * 16 + q.length by omega,List.append_assoc,ih]
  simp
theorem all16_set {rows : List (List Int)} (h : All16 rows) (k : Nat) {q : List Int} (hq : q.length = 16) : All16 (rows.set k q) := by
 intro r hr
 rcases List.mem_or_eq_of_mem_set hr with hr | rfl
 ·exact h r hr
 ·exact hq
theorem all16_zero : All16 (List.replicate 3 (List.replicate 16 0)) := by
 intro r hr
 obtain ⟨_,rfl⟩ := List.mem_replicate.1 hr
 simp
theorem all16_get {rows : List (List Int)} (h : All16 rows) {k : Nat} (hk : k < rows.length) : rows[k].length = 16 := h _ (List.getElem_mem hk)
def RBox (w : World) (T : Nat) (rows : List (List Int)) : Prop := w.heap[T]? = some (.cells (ints rows.flatten).toArray 113 (0, 0))
theorem RBox.lt {w : World} {T : Nat} {rows : List (List Int)} (h : RBox w T rows) : T < w.heap.size := (Array.getElem?_eq_some_iff.1 h).1
theorem RBox.new (w : World) (rows : List (List Int)) : RBox (w.alloc (.cells (ints rows.flatten).toArray 113)) w.heap.size rows := heap_alloc_new w _
theorem RBox.kept {w w' : World} {T : Nat} {rows : List (List Int)} (h : RBox w T rows) (hk : w'.heap[T]? = w.heap[T]?) : RBox w' T rows := hk.trans h
theorem RBox.on {w w' : World} {T : Nat} {rows : List (List Int)} (h : RBox w T rows) (hb : Below w.heap.size w w') : RBox w' T rows := h.kept (hb.block T h.lt)
theorem RBox.thaw {w : World} {T : Nat} {rows : List (List Int)} (h : RBox w T rows) (i : Nat) : w.frozen? ⟨T,i,none⟩ = false := by
 unfold RBox at h
 simp [World.frozen?,h]
theorem RBox.cell {w : World} {T : Nat} {rows : List (List Int)} (h : RBox w T rows) (h16 : All16 rows) {k p : Nat} (hk : k < rows.length) (hp : p < 16) : w.cell? ⟨T,k * 16 + p,none⟩ = some (.int .i64 ((rows.getD k []).getD p 0)) := by
 unfold RBox at h
 have hl : p < (rows.getD k []).length := by rw [List.getD_eq_getElem?_getD,List.getElem?_eq_getElem hk]; simpa [all16_get h16 hk] using hp
 rw [cell_of_row w T (k * 16 + p) _ _ (0, 0) h]
 simp only [ints,List.getElem?_toArray,List.getElem?_map,flat_at rows h16 k p hp,List.getElem?_eq_getElem hl,Option.map_some]
 have e : ∀ (r : List Int) (h : p < r.length),r[p] = r.getD p 0 := by intro r h; simp [List.getD_eq_getElem?_getD,h]
 rw [e _ hl]
theorem RBox.at {w : World} {T : Nat} {rows : List (List Int)} (h : RBox w T rows) (h16 : All16 rows) {k : Nat} (hk : k < rows.length) : IAt w (some ⟨T,k * 16,none⟩) rows[k] w.heap.size := by
 intro j hj
 have hl := all16_get h16 hk
 refine ⟨T,k * 16,rfl,h.lt, ?_⟩
 rw [h.cell h16 hk (by omega)]
 simp [List.getD_eq_getElem?_getD,List.getElem?_eq_getElem hk,List.getElem?_eq_getElem hj]
theorem RBox.set {w : World} {T : Nat} {rows : List (List Int)} (h : RBox w T rows) (h16 : All16 rows) {k p : Nat} (hk : k < rows.length) (hp : p < 16) (z : Int) : RBox (w.setCell ⟨T,k * 16 + p,none⟩ (.int .i64 z)) T (rows.set k ((rows.getD k []).set p z)) := by
 unfold RBox at *
 rw [setCell_eq_setRow w T _ _ _ (0, 0) _ h,setRow_heap w T _ _ _ _ h, ← flat_set rows h16 k p z hp hk]
 simp [ints,List.map_set]
theorem ints_all (l : List Int) : (ints l).toArray.all (·.oneCell') = true := by
 rw [Array.all_eq_true_iff_forall_mem]
 intro v hv
 simp only [List.mem_toArray,ints,List.mem_map] at hv
 obtain ⟨x,_,rfl⟩ := hv
 rfl
theorem ints_one (l : List Int) : ∀ u ∈ ints l,u.oneCell' = true := by
 intro u hu
 simp only [ints,List.mem_map] at hu
 obtain ⟨x,_,rfl⟩ := hu
 rfl
theorem RBox.load {P : Program} {w : World} {T : Nat} {rows : List (List Int)} (h : RBox w T rows) (hl : rows.flatten.length = 48) : (loadCellsFrom ⟨T, 0,none⟩ 0 48 #[]).run P w = .ok (ints rows.flatten).toArray w := by
 have h' : w.heap[T]? = some (.cells (ints rows.flatten).toArray 113 (0, 0)) := h
 have := run_loadCells_list (P := P) w ⟨T, 0,none⟩ (ints rows.flatten) (fun j v hv => by
  have hadd : (⟨T, 0,none⟩ : Addr).add j = ⟨T,j,none⟩ := by unfold Addr.add; split <;> simp_all
  rw [hadd,cell_of_row _ _ j _ _ (0, 0) h']
  simpa using hv)
 rw [ints_length,hl] at this
 simpa [loadCells] using this
theorem splice_all {α : Type} (L cs : List α) (h : L.length = cs.length) : L.take 0 ++ cs ++ L.drop (0 + cs.length) = cs := by
 rw [Nat.zero_add, ← h]
 simp
theorem RBox.store {P : Program} {w : World} {T : Nat} {rows new : List (List Int)} (h : RBox w T rows) (hl : rows.flatten.length = 48) (hn : new.flatten.length = 48) : (storeCells ⟨T, 0,none⟩ (ints new.flatten) 0).run P w = .ok () (w.setRow T (ints new.flatten).toArray) := by
 have h' : w.heap[T]? = some (.cells (ints rows.flatten).toArray 113 (0, 0)) := h
 have := run_storeCells_at P T 0 113 (ints new.flatten) 0 _ w h' (Nat.le_of_eq (by rw [ints_length,List.size_toArray,ints_length,hn,hl])) (ints_one _)
 rw [this]
 simp only [Nat.add_zero]
 rw [splice_all _ _ (by rw [ints_length,ints_length,hl,hn])]
theorem RBox.stored {w : World} {T : Nat} {rows : List (List Int)} (h : RBox w T rows) (new : List (List Int)) : RBox (w.setRow T (ints new.flatten).toArray) T new := setRow_heap w T _ _ _ _ h
end Go.Proofs.YthfjfccdelbkhaaGreatDoor
namespace Go.Proofs.YthfjfccdelbkhaaGreatDoor
open Go.RowKit Go.Sort
def Marked (k : Nat) (m : List Int) (n : Nat) : Prop := ∀ i,i < n → m[i]? = some ((k + i : Nat) : Int)
set_option maxHeartbeats 1000000 in
theorem markI_any (w : World) (base : Nat) (v : Value) (l : List Int) (k : Nat) (hown : OwnV w base 3 v (ints l)) (hl : l.length ≤ 1048576) (hk1 : k ≤ 100000000) :
  Calls Tryz.prog 102 #[v,.int .i64 k] w fun e w' => e = .returned (.int .i64 ((k + l.length : Nat) : Int)) ∧ (∃ m,m.length = l.length ∧ Marked k m l.length ∧ OwnV w' base 3 v (ints m)) ∧ w.grownBy w' v.ownBlock := by
 obtain ⟨a,cap,rfl,_⟩ := hown.shape
 rw [ints_length] at hown ⊢
 go_enter Tryz.func102,Tryz.ntmps102
 go_wp2
 go_loopw [1, 5] (fun n i wr => Box (∃ (j : Nat) (m : List Int),Hid (m.length = l.length) ∧ Hid (Marked k m j) ∧ j ≤ l.length ∧ i = .int .i64 j ∧ n = .int .i64 ((k + j : Nat) : Int) ∧ OwnV wr base 3 (.slice a l.length cap) (ints m) ∧ w.grownBy wr (Value.slice a l.length cap).ownBlock))
  (fun _ i _ => l.length - (intOf i).toNat)
 case atStart => exact ⟨⟨0,l,rfl,fun i h => by omega,by omega,rfl,rfl,hown,grownBy_refl _ _⟩⟩
 case round =>
  obtain ⟨j,m,HL,HM,hj,rfl,rfl,hown1,hgr⟩ := hrel.out
  by_cases hlt : j < l.length
  ·have hjm : j < (ints m).length := by rw [ints_length,HL.out]; exact hlt
   obtain ⟨a',cap',hv,hc⟩ := hown1.shape
   obtain ⟨g,hg,hcell,hfr,hbg,hgs⟩ := hc j hjm
   rw [hg] at hv
   have ha : a = some ⟨g, 0,none⟩ := by simp only [Value.slice.injEq] at hv; exact hv.1
   subst ha
   have hst := hown1.stored (by rw [ints_length,HL.out]) j (.int .i64 ((k : Int) + (j : Int)))
   have he : (ints m).set j (.int .i64 ((k : Int) + (j : Int))) = ints (m.set j ((k : Int) + (j : Int))) := by simp [ints,List.map_set]
   rw [he] at hst
   have HX : Hid (OwnV (wr.setCell ⟨g,j,none⟩ (.int .i64 ((k : Int) + (j : Int)))) base 3 (.slice (some ⟨g, 0,none⟩) l.length cap) (ints (m.set j ((k : Int) + (j : Int)))) ∧ w.grownBy (wr.setCell ⟨g,j,none⟩ (.int .i64 ((k : Int) + (j : Int)))) (Value.slice (some ⟨g, 0,none⟩) l.length cap).ownBlock) := ⟨hst.1,grownBy_trans hgr hst.2⟩
   have HN : Hid (Marked k (m.set j ((k : Int) + (j : Int))) (j + 1)) := by
    intro i hi
    by_cases hij : j = i
    ·subst hij
     have hjl : j < m.length := by rw [HL.out]; exact hlt
     simp [hjl]
    ·rw [List.getElem?_set_ne hij]
     exact HM.out i (by omega)
   obtain ⟨u,hu⟩ : ∃ u,(ints m)[j] = u := ⟨_,rfl⟩
   rw [hu] at hcell
   clear hown1 hgr hc hv hg hown hst hrel hu he
   have hi1 : (0 : Int) ≤ (j : Int) := by omega
   have hi2 : (j : Int) < (l.length : Int) := by omega
   go_wp2
   go_roundw
   case rel =>
    try ((repeat apply Exists.intro); refine ⟨?_,rfl⟩)
    exact ⟨⟨j + 1,_,(by show _ = _; rw [List.length_set]; exact HL.out),HN,by omega,by go_num,by go_num,HX.out.1,HX.out.2⟩⟩
   case measure => simp [intOf]; omega
  ·go_wp2
   go_ret
   have hje : j = l.length := by omega
   subst hje
   exact ⟨rfl,⟨m,HL.out,HM.out,hown1⟩,hgr⟩
set_option maxHeartbeats 1000000 in
theorem heldI_any (w : World) (base : Nat) (v : Value) (m : List Int) (n k : Nat) (hn : m.length = n) (hown : OwnV w base 3 v (ints m)) (hM : Marked k m n) (hl : n ≤ 1048576) (hk1 : k ≤ 100000000) :
  Calls Tryz.prog 103 #[v,.int .i64 k] w fun e w' => e = .returned (.int .i64 ((k + n : Nat) : Int)) ∧ w' = w := by
 obtain ⟨a,cap,rfl,hc⟩ := hown.shape
 rw [ints_length,hn]
 go_enter Tryz.func103,Tryz.ntmps103
 go_wp2
 go_loopw [1, 5] (fun m i wr => Box (∃ (j : Nat),j ≤ n ∧ i = .int .i64 j ∧ m = .int .i64 ((k + j : Nat) : Int) ∧ w = wr))
  (fun _ i _ => n - (intOf i).toNat)
 case atStart => exact ⟨⟨0,by omega,rfl,rfl,rfl⟩⟩
 case round =>
  obtain ⟨j,hj,rfl,rfl,rfl⟩ := hrel.out
  by_cases hlt : j < n
  ·have hjm : j < m.length := by omega
   obtain ⟨g,rfl,hcell,_,_,hgs⟩ := hc j (by rw [ints_length]; exact hjm)
   have hmj : m[j] = ((k + j : Nat) : Int) := by
    have := hM j hlt
    rw [List.getElem?_eq_getElem hjm] at this
    exact Option.some.inj this
   rw [ints_at hjm,hmj] at hcell
   simp only [Int.natCast_add] at hcell
   clear hc hown hM hmj hjm hn hrel
   have hi1 : (0 : Int) ≤ (j : Int) := by omega
   have hi2 : (j : Int) < (n : Int) := by omega
   go_wp2
   go_roundw
   case rel =>
    try ((repeat apply Exists.intro); refine ⟨?_,rfl⟩)
    exact ⟨⟨j + 1,by omega,by go_num,by go_num,by first | rfl | trivial⟩⟩
   case measure => simp [intOf]; omega
  ·go_wp2
   go_ret
   exact ⟨ret_int (by omega),rfl⟩
def tot (LL : List (List Int)) (j : Nat) : Nat := ((LL.take j).map List.length).sum
theorem tot_zero (LL : List (List Int)) : tot LL 0 = 0 := by simp [tot]
theorem tot_succ (LL : List (List Int)) (j : Nat) (hj : j < LL.length) : tot LL (j + 1) = tot LL j + LL[j].length := by
 unfold tot
 rw [List.take_succ_eq_append_getElem hj,List.map_append,List.sum_append]
 simp only [List.map_cons,List.map_nil,List.sum_cons,List.sum_nil,Nat.add_zero]
theorem tot_mono (LL : List (List Int)) (j : Nat) : ∀ n,j ≤ n → n ≤ LL.length → tot LL j ≤ tot LL n
 | 0,h,_ => by rw [show j = 0 by omega]; exact Nat.le_refl _
 | n + 1,h,hn => by
  by_cases e : j = n + 1
  ·rw [e]; exact Nat.le_refl _
  ·have := tot_mono LL j n (by omega) (by omega)
   rw [tot_succ LL n (by omega)]
   omega
theorem tot_at (LL : List (List Int)) (j : Nat) (hj : j < LL.length) : tot LL j + LL[j].length ≤ tot LL LL.length := by
 rw [← tot_succ LL j hj]
 exact tot_mono LL (j + 1) _ (by omega) (Nat.le_refl _)
theorem fill_set {α : Type} (LL : List α) (z : α) (k : Nat) (hk : k < LL.length) : (LL.take k ++ List.replicate (LL.length - k) z).set k LL[k] = LL.take (k + 1) ++ List.replicate (LL.length - (k + 1)) z := by
 rw [List.set_append_right _ _ (by rw [List.length_take]; omega),List.length_take,show k - min k LL.length = 0 by omega,show LL.length - k = (LL.length - (k + 1)) + 1 by omega,List.replicate_succ,List.set_cons_zero,List.take_succ_eq_append_getElem hk,List.append_assoc]
 rfl
theorem Tryz.infoIntS : (Tryz.prog.info? 107).map (fun i => (i.zero,i.size,i.bytes)) = some (some (.slice none 0 0), 1, 24) := by kernel_rfl
theorem OwnSS.made {w : World} {lo n : Nat} {v : Value} (h : OwnV w lo 107 v (List.replicate n (.slice none 0 0))) : OwnSS w lo w.heap.size v (List.replicate n []) := by
 refine ⟨_,h,fun k hk => (h.lt k hk).2,by simp,fun i u l hu hl => ?_,fun i j u u' k hu hu' h1 => ?_⟩
 ·obtain ⟨_,rfl⟩ := List.getElem?_eq_some_iff.1 hu
  obtain ⟨_,rfl⟩ := List.getElem?_eq_some_iff.1 hl
  simp only [List.getElem_replicate]
  exact ⟨OwnV.nil _ _ _,fun k hk => by simp [Value.ownBlock] at hk⟩
 ·obtain ⟨_,rfl⟩ := List.getElem?_eq_some_iff.1 hu
  simp [Value.ownBlock] at h1
set_option maxHeartbeats 1000000 in
theorem eqIntSS_same (w : World) (a b : Option Addr) (c1 c2 : Nat) (LL : List (List Int)) (hA : SSAt w a LL w.heap.size) (hB : SSAt w b LL w.heap.size) (hl : LL.length + tot LL LL.length ≤ 1048576) :
  Calls Tryz.prog 82 #[.slice a LL.length c1,.slice b LL.length c2] w fun e w' => e = .returned (.bool true) ∧ Below w.heap.size w w' := by
 go_enter Tryz.func82,Tryz.ntmps82
 go_wp2
 go_loopw [5] (fun i wr => Box (∃ (k : Nat),k ≤ LL.length ∧ i = .int .i64 k ∧ Below w.heap.size w wr))
  (fun i _ => LL.length - (intOf i).toNat)
 case atStart => exact ⟨⟨0,by omega,rfl,Below.refl _ _⟩⟩
 case round =>
  obtain ⟨k,hk,rfl,hbel⟩ := hrel.out
  by_cases hlt : k < LL.length
  ·obtain ⟨g,off,ai,ci,rfl,hg,hc0,hI⟩ := (hA.below hbel (Nat.le_refl _)) k hlt
   obtain ⟨g',off',bi,di,rfl,hg',hd0,hJ⟩ := (hB.below hbel (Nat.le_refl _)) k hlt
   have hlen := tot_at LL k hlt
   have hI' := hI.mono hbel.size
   have hJ' := hJ.mono hbel.size
   obtain ⟨f,hf⟩ : ∃ f,LL[k] = f := ⟨_,rfl⟩
   rw [hf] at hc0 hd0 hI' hJ' hlen
   have k0 := cell_regrown hc0
   have l0 := cell_regrown hd0
   have cV : ∀ d os,Calls Tryz.prog 101 #[.slice ai f.length ci,.slice bi f.length di] (grow (redrawn wr d) os) fun e w'' => e = .returned (.bool true) ∧ ∃ p : Regrown,w'' = grow (redrawn wr p.d) p.os := fun d os => Calls.regrown_of (by have h := below_regrown wr d os; have := eqIntS_same (grow (redrawn wr d) os) ai bi ci di f (hI'.on h) (hJ'.on h) (by omega); simpa using this)
   clear hA hB hrel hc0 hd0 hI hJ hI' hJ' hf hlen
   have hi1 : (0 : Int) ≤ (k : Int) := by omega
   have hi2 : (k : Int) < (LL.length : Int) := by omega
   go_wp2
   refine wp_region_quiet_below (by kernel_rfl) (by kernel_rfl) ?_
   repeat (first | go_big_quiet_step (exact cV _ _) | quiet_step (exact cV _ _))
   refine wpQuiet_nil ?_
   intro _ hw'
   obtain ⟨⟨dq,osq⟩,hw''⟩ := hw'
   subst hw''
   go_wp2
   go_roundw
   case rel =>
    try ((repeat apply Exists.intro); refine ⟨?_,rfl⟩)
    exact ⟨⟨k + 1,by omega,by go_num,hbel.trans ((below_regrown wr dq osq).mono hbel.size)⟩⟩
   case measure => simp [intOf]; omega
  ·go_wp2
   go_ret
   exact ⟨rfl,hbel⟩
def MarkSS (k : Nat) (LL MM : List (List Int)) (j : Nat) : Prop := MM.map List.length = LL.map List.length ∧ ∀ i m,i < j → MM[i]? = some m → Marked (k + tot LL i) m m.length
set_option maxHeartbeats 1000000 in
theorem heldIntSS_any (w : World) (lo hi : Nat) (a : Option Addr) (cap : Nat) (LL MM : List (List Int)) (k : Nat) (hO : OwnSS w lo hi (.slice a LL.length cap) MM) (hM : MarkSS k LL MM LL.length) (hl : LL.length + tot LL LL.length ≤ 1048576) (hk : k ≤ 10000000) :
  Calls Tryz.prog 84 #[.slice a LL.length cap,.int .i64 k] w fun e w' => e = .returned (.int .i64 ((k + tot LL LL.length : Nat) : Int)) ∧ w' = w := by
 have hML : MM.length = LL.length := by have := congrArg List.length hM.1; simpa using this
 go_enter Tryz.func84,Tryz.ntmps84
 go_wp2
 go_loopw [1, 5] (fun n i wr => Box (∃ (j : Nat),j ≤ LL.length ∧ i = .int .i64 j ∧ n = .int .i64 ((k + tot LL j : Nat) : Int) ∧ w = wr))
  (fun _ i _ => LL.length - (intOf i).toNat)
 case atStart => exact ⟨⟨0,by omega,rfl,by rw [tot_zero]; rfl,rfl⟩⟩
 case round =>
  obtain ⟨j,hj,rfl,rfl,rfl⟩ := hrel.out
  by_cases hlt : j < LL.length
  ·have hjm : j < MM.length := by omega
   have hlj : MM[j].length = LL[j].length := by
    have := congrArg (·[j]?) hM.1
    simp only [List.getElem?_map,List.getElem?_eq_getElem hjm,List.getElem?_eq_getElem hlt,Option.map_some,Option.some.injEq] at this
    exact this
   obtain ⟨g,cap',u,hv,_,hgs,hc,ho,_,_⟩ := hO.row j hjm
   simp only [Value.slice.injEq] at hv
   obtain ⟨rfl,e1,e2⟩ := hv
   clear e1 e2
   have hta := tot_at LL j hlt
   have HT : Hid (tot LL (j + 1) = tot LL j + LL[j].length) := tot_succ LL j hlt
   have c := heldI_any w lo u MM[j] MM[j].length (k + tot LL j) rfl ho (hM.2 j MM[j] hlt (List.getElem?_eq_getElem hjm)) (by omega) (by omega)
   rw [hlj] at c
   obtain ⟨r,hr⟩ : ∃ r,LL[j].length = r := ⟨_,rfl⟩
   rw [hr] at c HT hta
   obtain ⟨K,hK⟩ : ∃ K,k + tot LL j = K := ⟨_,rfl⟩
   rw [hK] at c ⊢
   have HE : Hid ((K : Int) + (r : Int) = ((k + tot LL (j + 1) : Nat) : Int)) := by show _ = _; rw [HT.out, ← hK]; omega
   have hKr : ¬ (((K + r : Nat) : Int) < 0) := by omega
   clear hrel hO hM ho hlj hML hr hK hta hjm HT
   have hi1 : (0 : Int) ≤ (j : Int) := by omega
   have hi2 : (j : Int) < (LL.length : Int) := by omega
   go_wp2_with fail
   refine c.mono ?_
   rintro e w1 ⟨rfl,rfl⟩
   go_wp2_with fail
   go_roundw
   case rel =>
    try ((repeat apply Exists.intro); refine ⟨?_,rfl⟩)
    exact ⟨⟨j + 1,by omega,by go_num,by rw [HE.out],by first | rfl | trivial⟩⟩
   case measure => simp [intOf]; omega
  ·go_wp2_with fail
   go_ret
   have hje : j = LL.length := by omega
   subst hje
   exact ⟨rfl,rfl⟩
end Go.Proofs.YthfjfccdelbkhaaGreatDoor
