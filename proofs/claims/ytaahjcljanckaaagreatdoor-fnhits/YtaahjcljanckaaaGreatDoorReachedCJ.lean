/- Texts that stand in one: ReachedC, EntryOfI, OkWgt, PartWgt, KeepPlain, ClosePlain. -/
import Derived.Test.YtaahjcljanckaaaGreatDoorTellPlainJ
import Derived.Test.YtaahjcljanckaaaGreatDoorStmOkImplJ
import Derived.Test.YtaahjcljanckaaaGreatDoorPxSlicesJ
import Derived.Test.YtaahjcljanckaaaGreatDoorPolSzTextJ
import Derived.Test.YtaahjcljanckaaaGreatDoorEntPlaceJ
import Derived.Deep.RegionHeld3
import Derived.Test.YtaahjcljanckaaaGreatDoorSkNewSpecJ
import Derived.Test.YtaahjcljanckaaaGreatDoorFindPlainJ
namespace Go.Proofs.YtaahjcljanckaaaGreatDoor
open Go.RowKit Go.Sort
def closeM (S : Stm) (life : Int) : Stm × Bool := if inB life 0 999999 = true then endM S false else (S,false)
set_option maxRecDepth 100000 in
set_option maxHeartbeats 4000000 in
theorem reachedC_any (w : World) (life st : Int) (tx : ByteArray) (hs : tx.size ≤ 1048576) :
  Calls Tryz.prog 155 #[.agg #[.int .i64 life],.agg #[.int .i64 st,.string tx,.slice none 0 0]] w fun e w' => ∃ a2 n2 c2,e = .returned (.tuple #[.agg #[.int .i64 (closeM ⟨st,tx, []⟩ life).1.st,.string (closeM ⟨st,tx, []⟩ life).1.text,.slice a2 n2 c2],.bool (closeM ⟨st,tx, []⟩ life).2]) ∧ Below w.heap.size w w' := by
 obtain ⟨w1,hw1⟩ : ∃ x,((w.alloc (.cells #[.int .i64 life] 73)).alloc (.cells #[.int .i64 st,.string tx,.slice none 0 0] 105)).alloc (.cells #[.int .i64 0,.string ⟨#[]⟩,.slice none 0 0] 105) = x := ⟨_,rfl⟩
 have hb1 : Below w.heap.size w w1 := by rw [← hw1]; exact (((Below.refl _ _).alloc (Nat.le_refl _) _).alloc (by simp) _).alloc (by simp; omega) _
 have hs1 : w1.heap.size = w.heap.size + 3 := by rw [← hw1]; simp
 have hSB : w1.heap[w.heap.size + 1]? = some (.cells #[.int .i64 st,.string tx,.slice none 0 0] 105 (0, 0)) := by
  have e : w.heap.size + 1 = (w.alloc (.cells #[.int .i64 life] 73)).heap.size := by simp
  have h : ((w.alloc (.cells #[.int .i64 life] 73)).alloc (.cells #[.int .i64 st,.string tx,.slice none 0 0] 105)).heap[w.heap.size + 1]? = some (.cells #[.int .i64 st,.string tx,.slice none 0 0] 105 (0, 0)) := by rw [e]; exact heap_alloc_new _ _
  rw [← hw1]
  exact (((Below.refl _ _).alloc (Nat.le_refl _) _).block _ (by simp)).trans h
 have hRB : w1.heap[w.heap.size + 2]? = some (.cells #[.int .i64 0,.string ⟨#[]⟩,.slice none 0 0] 105 (0, 0)) := by
  have e : w.heap.size + 2 = ((w.alloc (.cells #[.int .i64 life] 73)).alloc (.cells #[.int .i64 st,.string tx,.slice none 0 0] 105)).heap.size := by simp
  rw [← hw1,e]
  exact heap_alloc_new _ _
 have c0 := lifeE_any life w1
 obtain ⟨b,hb⟩ : ∃ b,inB life 0 999999 = b := ⟨_,rfl⟩
 rw [hb] at c0
 have HBB : Hid (inB life 0 999999 = b) := hb
 have HW : Hid (((w.alloc (.cells #[.int .i64 life] 73)).alloc (.cells #[.int .i64 st,.string tx,.slice none 0 0] 105)).alloc (.cells #[.int .i64 0,.string ⟨#[]⟩,.slice none 0 0] 105) = w1) := hw1
 have HB : Hid (Below w.heap.size w w1 ∧ w1.heap.size = w.heap.size + 3 ∧ w1.heap[w.heap.size + 2]? = some (.cells #[.int .i64 0,.string ⟨#[]⟩,.slice none 0 0] 105 (0, 0)) ∧ w1.heap[w.heap.size + 1]? = some (.cells #[.int .i64 st,.string tx,.slice none 0 0] 105 (0, 0))) := ⟨hb1,hs1,hRB,hSB⟩
 have HS0 : Hid (tx.size ≤ 1048576) := hs
 clear hw1 hb1 hs1 hRB hSB hs hb
 go_enter Tryz.func155,Tryz.ntmps155
 go_wp2_with fail
 rw [HW.out]
 refine c0.mono ?_
 rintro e w' ⟨rfl,rfl⟩
 clear c0
 have m0 := stmCell0 HB.out.2.2.2
 have m1 := stmCell1 HB.out.2.2.2
 have m2 := stmCell2 HB.out.2.2.2
 cases b with
 | false =>
  have HS : Hid (closeM ⟨st,tx, []⟩ life = (⟨st,tx, []⟩,false)) := by show _ = _; unfold closeM; rw [if_neg (by rw [HBB.out]; decide)]
  have hR2 := HB.out.2.2.1
  have r0 : w1.cell? ⟨w.heap.size + 2, 0,none⟩ = some (.int .i64 0) := by rw [cell_of_row w1 (w.heap.size + 2) 0 _ _ (0, 0) hR2]; rfl
  have r1 : w1.cell? ⟨w.heap.size + 2, 1,none⟩ = some (.string ⟨#[]⟩) := by rw [cell_of_row w1 (w.heap.size + 2) 1 _ _ (0, 0) hR2]; rfl
  have r2 : w1.cell? ⟨w.heap.size + 2, 2,none⟩ = some (.slice none 0 0) := by rw [cell_of_row w1 (w.heap.size + 2) 2 _ _ (0, 0) hR2]; rfl
  have tt : ∀ i,w1.frozen? ⟨w.heap.size + 2,i,none⟩ = false := fun i => by simp [World.frozen?,hR2]
  have t0 := tt 0
  have t1 := tt 1
  have t2 := tt 2
  have HF : Hid ((((w1.setCell ⟨w.heap.size + 2, 0,none⟩ (.int .i64 st)).setCell ⟨w.heap.size + 2, 1,none⟩ (.string tx)).setCell ⟨w.heap.size + 2, 2,none⟩ (.slice none 0 0)).heap[w.heap.size + 2]? = some (.cells #[.int .i64 st,.string tx,.slice none 0 0] 105 (0, 0))) := by
   show _ = _
   simp only [World.setCell,Array.getElem?_modify,hR2]
   simp
  have HG : Hid (Below w.heap.size w (((w1.setCell ⟨w.heap.size + 2, 0,none⟩ (.int .i64 st)).setCell ⟨w.heap.size + 2, 1,none⟩ (.string tx)).setCell ⟨w.heap.size + 2, 2,none⟩ (.slice none 0 0))) := (((HB.out.1).setCell (by show w.heap.size ≤ w.heap.size + 2; omega) _).setCell (by show w.heap.size ≤ w.heap.size + 2; omega) _).setCell (by show w.heap.size ≤ w.heap.size + 2; omega) _
  have HQ : Hid ((((w1.setCell ⟨w.heap.size + 2, 0,none⟩ (.int .i64 st)).setCell ⟨w.heap.size + 2, 1,none⟩ (.string tx)).setCell ⟨w.heap.size + 2, 2,none⟩ (.slice none 0 0)).cell? ⟨w.heap.size + 2, 0,none⟩ = some (.int .i64 st) ∧ (((w1.setCell ⟨w.heap.size + 2, 0,none⟩ (.int .i64 st)).setCell ⟨w.heap.size + 2, 1,none⟩ (.string tx)).setCell ⟨w.heap.size + 2, 2,none⟩ (.slice none 0 0)).cell? ⟨w.heap.size + 2, 1,none⟩ = some (.string tx) ∧ (((w1.setCell ⟨w.heap.size + 2, 0,none⟩ (.int .i64 st)).setCell ⟨w.heap.size + 2, 1,none⟩ (.string tx)).setCell ⟨w.heap.size + 2, 2,none⟩ (.slice none 0 0)).cell? ⟨w.heap.size + 2, 2,none⟩ = some (.slice none 0 0)) := ⟨by rw [cell_of_row _ (w.heap.size + 2) 0 _ _ (0, 0) HF.out]; rfl,by rw [cell_of_row _ (w.heap.size + 2) 1 _ _ (0, 0) HF.out]; rfl,by rw [cell_of_row _ (w.heap.size + 2) 2 _ _ (0, 0) HF.out]; rfl⟩
  clear hR2 tt
  go_wp2_with fail
  obtain ⟨q0,q1,q2⟩ := HQ.out
  refine bodyPost_ret (v := .tuple #[.agg #[.int .i64 st,.string tx,.slice none 0 0],.bool false]) (by simp [results,Tryz.results155,go_sem,q0,q1,q2]) rfl ?_
  exact ⟨_,_,_,by rw [HS.out],HG.out⟩
 | true =>
  have c1 := implStreamEnd_any w1 none 0 ⟨st,tx, []⟩ false (fun j hj => absurd hj (Nat.not_lt_zero _)) HS0.out (by simp)
  dsimp only at c1
  obtain ⟨S',hS'⟩ : ∃ S,endM ⟨st,tx, []⟩ false = S := ⟨_,rfl⟩
  rw [hS'] at c1
  have HS : Hid (closeM ⟨st,tx, []⟩ life = S') := by show _ = _; unfold closeM; rw [if_pos HBB.out]; exact hS'
  clear hS'
  go_wp2_with fail
  refine c1.mono ?_
  rintro e w2 ⟨v,rfl,ho,hb2⟩
  obtain ⟨rdv,rfl,hrd0⟩ := ho
  obtain ⟨a2,c2,rfl,_⟩ := hrd0.at
  have hR2 := (hb2.block _ (Array.getElem?_eq_some_iff.1 HB.out.2.2.1).1).trans HB.out.2.2.1
  obtain ⟨n2,hn2⟩ : ∃ n,S'.1.rd.length = n := ⟨_,rfl⟩
  rw [hn2]
  clear hn2 c1 m0 m1 m2
  have r0 : w2.cell? ⟨w.heap.size + 2, 0,none⟩ = some (.int .i64 0) := by rw [cell_of_row w2 (w.heap.size + 2) 0 _ _ (0, 0) hR2]; rfl
  have r1 : w2.cell? ⟨w.heap.size + 2, 1,none⟩ = some (.string ⟨#[]⟩) := by rw [cell_of_row w2 (w.heap.size + 2) 1 _ _ (0, 0) hR2]; rfl
  have r2 : w2.cell? ⟨w.heap.size + 2, 2,none⟩ = some (.slice none 0 0) := by rw [cell_of_row w2 (w.heap.size + 2) 2 _ _ (0, 0) hR2]; rfl
  have tt : ∀ i,w2.frozen? ⟨w.heap.size + 2,i,none⟩ = false := fun i => by simp [World.frozen?,hR2]
  have t0 := tt 0
  have t1 := tt 1
  have t2 := tt 2
  have HF : Hid ((((w2.setCell ⟨w.heap.size + 2, 0,none⟩ (.int .i64 S'.1.st)).setCell ⟨w.heap.size + 2, 1,none⟩ (.string S'.1.text)).setCell ⟨w.heap.size + 2, 2,none⟩ (.slice a2 n2 c2)).heap[w.heap.size + 2]? = some (.cells #[.int .i64 S'.1.st,.string S'.1.text,.slice a2 n2 c2] 105 (0, 0))) := by
   show _ = _
   simp only [World.setCell,Array.getElem?_modify,hR2]
   simp
  have HG : Hid (Below w.heap.size w (((w2.setCell ⟨w.heap.size + 2, 0,none⟩ (.int .i64 S'.1.st)).setCell ⟨w.heap.size + 2, 1,none⟩ (.string S'.1.text)).setCell ⟨w.heap.size + 2, 2,none⟩ (.slice a2 n2 c2))) := (((HB.out.1.trans (hb2.mono HB.out.1.size)).setCell (by show w.heap.size ≤ w.heap.size + 2; omega) _).setCell (by show w.heap.size ≤ w.heap.size + 2; omega) _).setCell (by show w.heap.size ≤ w.heap.size + 2; omega) _
  have HQ : Hid ((((w2.setCell ⟨w.heap.size + 2, 0,none⟩ (.int .i64 S'.1.st)).setCell ⟨w.heap.size + 2, 1,none⟩ (.string S'.1.text)).setCell ⟨w.heap.size + 2, 2,none⟩ (.slice a2 n2 c2)).cell? ⟨w.heap.size + 2, 0,none⟩ = some (.int .i64 S'.1.st) ∧ (((w2.setCell ⟨w.heap.size + 2, 0,none⟩ (.int .i64 S'.1.st)).setCell ⟨w.heap.size + 2, 1,none⟩ (.string S'.1.text)).setCell ⟨w.heap.size + 2, 2,none⟩ (.slice a2 n2 c2)).cell? ⟨w.heap.size + 2, 1,none⟩ = some (.string S'.1.text) ∧ (((w2.setCell ⟨w.heap.size + 2, 0,none⟩ (.int .i64 S'.1.st)).setCell ⟨w.heap.size + 2, 1,none⟩ (.string S'.1.text)).setCell ⟨w.heap.size + 2, 2,none⟩ (.slice a2 n2 c2)).cell? ⟨w.heap.size + 2, 2,none⟩ = some (.slice a2 n2 c2)) := ⟨by rw [cell_of_row _ (w.heap.size + 2) 0 _ _ (0, 0) HF.out]; rfl,by rw [cell_of_row _ (w.heap.size + 2) 1 _ _ (0, 0) HF.out]; rfl,by rw [cell_of_row _ (w.heap.size + 2) 2 _ _ (0, 0) HF.out]; rfl⟩
  clear hR2 tt hb2
  go_wp2_with fail
  obtain ⟨q0,q1,q2⟩ := HQ.out
  refine bodyPost_ret (v := .tuple #[.agg #[.int .i64 S'.1.st,.string S'.1.text,.slice a2 n2 c2],.bool S'.2]) (by simp [results,Tryz.results155,go_sem,q0,q1,q2]) rfl ?_
  exact ⟨_,_,_,by rw [HS.out],HG.out⟩
def entOfF (f : Fet) : En := ⟨f.key,f.sto,f.lf,f.tx⟩
set_option maxRecDepth 100000 in
set_option maxHeartbeats 4000000 in
theorem entryOf_any (w : World) (f : Fet) (hs0 : f.key.size ≤ 1048576) (hs1 : f.tx.size ≤ 1048576) :
  Calls Tryz.prog 81 #[.agg #[.string f.key,.string f.tx,.int .i64 f.st,.int .i64 f.lf,.int .i64 f.sto]] w fun e w' => e = .returned (.agg #[.string f.key,.int .i64 f.sto,.int .i64 f.lf,.string f.tx]) ∧ Below w.heap.size w w' := by
 obtain ⟨T,hT⟩ : ∃ T,w.heap.size = T := ⟨_,rfl⟩
 obtain ⟨w0,hw0⟩ : ∃ y,w.alloc (.cells #[.string f.key,.string f.tx,.int .i64 f.st,.int .i64 f.lf,.int .i64 f.sto] 84) = y := ⟨_,rfl⟩
 obtain ⟨wx,hwx⟩ : ∃ y,w0.alloc (.cells #[.string ⟨#[]⟩,.int .i64 0,.int .i64 0,.string ⟨#[]⟩] 65) = y := ⟨_,rfl⟩
 have hb0 : Below w.heap.size w w0 := by rw [← hw0]; exact (Below.refl _ _).alloc (Nat.le_refl _) _
 have hbx : Below w0.heap.size w0 wx := by rw [← hwx]; exact (Below.refl _ _).alloc (Nat.le_refl _) _
 have s0 : w0.heap.size = T + 1 := by rw [← hw0]; simp [hT]
 have sx : wx.heap.size = T + 2 := by rw [← hwx]; simp; omega
 have hX0 : FetB w0 T 84 f := by rw [← hw0, ← hT]; exact FetB.new _ _ _
 have hXB : FetB wx T 84 f := hX0.on hbx
 have hRB : wx.heap[T + 1]? = some (.cells #[.string ⟨#[]⟩,.int .i64 0,.int .i64 0,.string ⟨#[]⟩] 65 (0, 0)) := by rw [← hwx, ← s0]; exact heap_alloc_new _ _
 have HXW : Hid ((w.alloc (.cells #[.string f.key,.string f.tx,.int .i64 f.st,.int .i64 f.lf,.int .i64 f.sto] 84)).alloc (.cells #[.string ⟨#[]⟩,.int .i64 0,.int .i64 0,.string ⟨#[]⟩] 65) = wx) := by show _ = _; rw [hw0]; exact hwx
 have HBX : Hid (Below w.heap.size w wx ∧ w.heap.size = T ∧ wx.heap.size = T + 2) := ⟨hb0.trans (hbx.mono hb0.size),hT,sx⟩
 have hdx : Below wx.heap.size wx wx.drew := ⟨rfl,rfl,rfl,Nat.le_refl _,fun _ _ => rfl⟩
 have HCL0 : Hid (∀ wi,Calls Tryz.prog 34 #[.string f.key] wi fun e w' => e = .returned (.string f.key) ∧ Below wi.heap.size wi w') := fun wi => cloneP_any f.key wi hs0
 have HCL1 : Hid (∀ wi,Calls Tryz.prog 34 #[.string f.tx] wi fun e w' => e = .returned (.string f.tx) ∧ Below wi.heap.size wi w') := fun wi => cloneP_any f.tx wi hs1
 have KX : ∀ W,FetB W T 84 f → W.cell? ⟨T, 0,none⟩ = some (.string f.key) ∧ W.cell? ⟨T, 1,none⟩ = some (.string f.tx) ∧ W.cell? ⟨T, 3,none⟩ = some (.int .i64 f.lf) ∧ W.cell? ⟨T, 4,none⟩ = some (.int .i64 f.sto) := fun W h => ⟨h.cells.1,h.cells.2.1,h.cells.2.2.2.1,h.cells.2.2.2.2⟩
 have HD : Hid (∀ W,Below wx.heap.size wx W → FetB W T 84 f ∧ W.heap[T + 1]? = some (.cells #[.string ⟨#[]⟩,.int .i64 0,.int .i64 0,.string ⟨#[]⟩] 65 (0, 0))) := fun W h => ⟨hXB.on h,(h.block _ (Array.getElem?_eq_some_iff.1 hRB).1).trans hRB⟩
 have HC7 : Hid (∀ w7,Below wx.heap.size wx w7 → (w7.cell? ⟨T + 1, 0,none⟩ = some (.string ⟨#[]⟩) ∧ w7.cell? ⟨T + 1, 1,none⟩ = some (.int .i64 0) ∧ w7.cell? ⟨T + 1, 2,none⟩ = some (.int .i64 0) ∧ w7.cell? ⟨T + 1, 3,none⟩ = some (.string ⟨#[]⟩)) ∧ (w7.frozen? ⟨T + 1, 0,none⟩ = false ∧ w7.frozen? ⟨T + 1, 1,none⟩ = false ∧ w7.frozen? ⟨T + 1, 2,none⟩ = false ∧ w7.frozen? ⟨T + 1, 3,none⟩ = false) ∧ (((((w7.setCell ⟨T + 1, 0,none⟩ (.string f.key)).setCell ⟨T + 1, 1,none⟩ (.int .i64 f.sto)).setCell ⟨T + 1, 2,none⟩ (.int .i64 f.lf)).setCell ⟨T + 1, 3,none⟩ (.string f.tx)).cell? ⟨T, 0,none⟩ = some (.string f.key) ∧ ((((w7.setCell ⟨T + 1, 0,none⟩ (.string f.key)).setCell ⟨T + 1, 1,none⟩ (.int .i64 f.sto)).setCell ⟨T + 1, 2,none⟩ (.int .i64 f.lf)).setCell ⟨T + 1, 3,none⟩ (.string f.tx)).cell? ⟨T, 1,none⟩ = some (.string f.tx) ∧ ((((w7.setCell ⟨T + 1, 0,none⟩ (.string f.key)).setCell ⟨T + 1, 1,none⟩ (.int .i64 f.sto)).setCell ⟨T + 1, 2,none⟩ (.int .i64 f.lf)).setCell ⟨T + 1, 3,none⟩ (.string f.tx)).cell? ⟨T, 3,none⟩ = some (.int .i64 f.lf) ∧ ((((w7.setCell ⟨T + 1, 0,none⟩ (.string f.key)).setCell ⟨T + 1, 1,none⟩ (.int .i64 f.sto)).setCell ⟨T + 1, 2,none⟩ (.int .i64 f.lf)).setCell ⟨T + 1, 3,none⟩ (.string f.tx)).cell? ⟨T, 4,none⟩ = some (.int .i64 f.sto))) := by
  show ∀ w7,_ → _
  intro w7 h7
  obtain ⟨hD7,hR7⟩ := HD.out w7 h7
  have tt : ∀ i,w7.frozen? ⟨T + 1,i,none⟩ = false := fun i => by simp [World.frozen?,hR7]
  refine ⟨⟨by rw [cell_of_row w7 (T + 1) 0 _ _ (0, 0) hR7]; rfl,by rw [cell_of_row w7 (T + 1) 1 _ _ (0, 0) hR7]; rfl,by rw [cell_of_row w7 (T + 1) 2 _ _ (0, 0) hR7]; rfl,by rw [cell_of_row w7 (T + 1) 3 _ _ (0, 0) hR7]; rfl⟩,⟨tt 0,tt 1,tt 2,tt 3⟩,KX _ ?_⟩
  have hh : ∀ (W : World) (i : Nat) (v : Value),FetB W T 84 f → FetB (W.setCell ⟨T + 1,i,none⟩ v) T 84 f := fun W i v h => (Below.heap_setCell _ _ _ _ (by show T ≠ T + 1; omega)).trans h
  exact hh _ _ _ (hh _ _ _ (hh _ _ _ (hh _ _ _ hD7)))
 have hXD := KX _ (HD.out _ hdx).1
 rw [hT]
 clear hw0 hwx hb0 hbx s0 sx hX0 hXB hRB hs0 hs1
 go_enter Tryz.func81,Tryz.ntmps81
 go_upto_region 1 with fail
 rw [HXW.out]
 go_region_held3 (fun W => W.cell? ⟨T, 0,none⟩ = some (.string f.key) ∧ W.cell? ⟨T, 1,none⟩ = some (.string f.tx) ∧ W.cell? ⟨T, 3,none⟩ = some (.int .i64 f.lf) ∧ W.cell? ⟨T, 4,none⟩ = some (.int .i64 f.sto)) (first | with_reducible exact hXD | with_reducible exact KX _ hD6 | with_reducible exact KX _ hD7 | with_reducible exact hK9)
  (first | (go_at_call 34; first
   | (with_reducible refine (HCL0.out _).mono ?_; rintro e w6 ⟨rfl,hb6⟩; have hC6 := hdx.trans (hb6.mono hdx.size); have hD6 := (HD.out _ hC6).1)
   | (with_reducible refine (HCL1.out _).mono ?_; rintro e w7 ⟨rfl,hb7⟩; have hC7 := hC6.trans (hb7.mono hC6.size); have hD7 := (HD.out _ hC7).1; have hR7 := (HD.out _ hC7).2; obtain ⟨⟨r0,r1,r2,r3⟩,⟨t0,t1,t2,t3⟩,hK9⟩ := HC7.out _ hC7)))
 have HF : Hid (EnB ((((w7.setCell ⟨T + 1, 0,none⟩ (.string f.key)).setCell ⟨T + 1, 1,none⟩ (.int .i64 f.sto)).setCell ⟨T + 1, 2,none⟩ (.int .i64 f.lf)).setCell ⟨T + 1, 3,none⟩ (.string f.tx)) (T + 1) 65 (entOfF f)) := by
  show EnB _ _ _ _
  unfold EnB entOfF
  have hR7 := (HD.out _ hC7).2
  simp only [World.setCell,Array.getElem?_modify,hR7]
  simp
 have HG : Hid (Below T w ((((w7.setCell ⟨T + 1, 0,none⟩ (.string f.key)).setCell ⟨T + 1, 1,none⟩ (.int .i64 f.sto)).setCell ⟨T + 1, 2,none⟩ (.int .i64 f.lf)).setCell ⟨T + 1, 3,none⟩ (.string f.tx))) := by
  have h := HBX.out.1.trans (hC7.mono HBX.out.1.size)
  rw [HBX.out.2.1] at h
  exact (((h.setCell (by show T ≤ T + 1; omega) _).setCell (by show T ≤ T + 1; omega) _).setCell (by show T ≤ T + 1; omega) _).setCell (by show T ≤ T + 1; omega) _
 clear hXD hD6 hD7 hC6 hC7 hb6 hb7 hK9 r0 r1 r2 r3 t0 t1 t2 t3 HC7 HD KX hdx HCL0 HCL1
 go_wp2_with fail
 obtain ⟨q0,q1,q2,q3⟩ := HF.out.cells
 unfold entOfF at q0 q1 q2 q3
 exact bodyPost_ret (v := .agg #[.string f.key,.int .i64 f.sto,.int .i64 f.lf,.string f.tx]) (by simp [results,Tryz.results81,go_sem,q0,q1,q2,q3]) rfl ⟨rfl,HG.out⟩
theorem ewg_le {b : Nat} : ∀ {L : List En},(∀ e ∈ L,e.wg ≤ b) → ewg L ≤ L.length * b
 | [],_ => Nat.zero_le _
 | a :: r,h => by
  have h1 := ewg_le (fun e he => h e (List.mem_cons_of_mem _ he))
  have h2 := h a (by simp)
  simp only [ewg,List.length_cons,Nat.succ_mul]
  omega
theorem ftwg_le {b : Nat} : ∀ {L : List Fet},(∀ e ∈ L,e.wg ≤ b) → ftwg L ≤ L.length * b
 | [],_ => Nat.zero_le _
 | a :: r,h => by
  have h1 := ftwg_le (fun e he => h e (List.mem_cons_of_mem _ he))
  have h2 := h a (by simp)
  simp only [ftwg,List.length_cons,Nat.succ_mul]
  omega
theorem clwg_le {b : Nat} : ∀ {L : List Cli},(∀ e ∈ L,e.wg ≤ b) → clwg L ≤ L.length * b
 | [],_ => Nat.zero_le _
 | a :: r,h => by
  have h1 := clwg_le (fun e he => h e (List.mem_cons_of_mem _ he))
  have h2 := h a (by simp)
  simp only [clwg,List.length_cons,Nat.succ_mul]
  omega
theorem enKey_sz {s : ByteArray} (h : enKey s = true) : s.size ≤ 30 := by
 unfold enKey at h
 rw [decide_eq_true_eq] at h
 exact h.2
theorem okX_wgt {R : Prx} (h : okX R = true) : wgtX R ≤ 20000 ∧ ewg R.ents ≤ 2600 ∧ ftwg R.fes ≤ 8600 ∧ clwg R.cls ≤ 2600 := by
 have H := okX_iff.1 h
 have hp := okP_wgt H.pol
 obtain ⟨_,_,_,_,_,hw,hm,_⟩ := okP_iff.1 H.pol
 have he := ewg_le (b := 430) (L := R.ents) (fun e he => by
  obtain ⟨h1,_,_,h4⟩ := enOk_iff.1 (H.ents e he)
  unfold En.wg; omega)
 have hf := ftwg_le (b := 430) (L := R.fes) (fun e he => by
  obtain ⟨h1,h2,_⟩ := H.fes e he
  have := enKey_sz h1
  unfold Fet.wg; omega)
 have hc := clwg_le (b := 430) (L := R.cls) (fun e he => by
  obtain ⟨_,h1,_,h2,_⟩ := H.cls e he
  have := enKey_sz h1
  unfold Cli.wg; omega)
 have l1 := H.len
 have l2 := H.flen
 have l3 := H.clen
 have e1 : R.ents.length * 430 ≤ 6 * 430 := Nat.mul_le_mul_right _ (by omega)
 have e2 : R.fes.length * 430 ≤ 20 * 430 := Nat.mul_le_mul_right _ (by omega)
 have e3 : R.cls.length * 430 ≤ 6 * 430 := Nat.mul_le_mul_right _ (by omega)
 unfold wgtX
 omega
theorem ftwg_set (L : List Fet) (k : Nat) (f : Fet) : ftwg (L.set k f) ≤ ftwg L + f.wg := by
 induction L generalizing k with
 | nil => simp
 | cons a r ih =>
  cases k with
  | zero => simp [ftwg]; omega
  | succ k => have := ih k; simp [ftwg]; omega
theorem clwg_tell (L : List Cli) (k : Int) (F : Cli → Cli) (b : Nat) (hF : ∀ c ∈ L,(F c).wg ≤ b + c.wg) : clwg (tellX L k F) ≤ clwg L + L.length * b := by
 induction L with
 | nil => simp [tellX,clwg]
 | cons a r ih =>
  have h := ih (fun c hc => hF c (List.mem_cons_of_mem _ hc))
  have ha := hF a (by simp)
  unfold tellX at h ⊢
  simp only [List.map_cons,List.length_cons,clwg]
  have h1 : (tellF k F a).wg ≤ b + a.wg := by
   unfold tellF
   split
   ·exact ha
   ·omega
  have e : (r.length + 1) * b = r.length * b + b := Nat.succ_mul _ _
  omega
def keepB (R : Prx) (e : En) : Bool := hasP (touchP R.pol e.key).1 e.key
def keepR (R : Prx) (e : En) : Prx :=
 ⟨R.now,if keepB R e = true then insE (offE R.ents (touchP R.pol e.key).2) e else offE R.ents (touchP R.pol e.key).2,(touchP R.pol e.key).1,R.fes,R.cls,R.hits⟩
theorem offE_up {E : List En} (key : ByteArray) (h : UpK E) : UpK (offE E key) := h.filter _
theorem upK_asc {E : List En} (h : UpK E) : AscE E := fun i j hi hj hij => (List.pairwise_iff_getElem.1 h) i j hi hj hij
theorem offE_mem {E : List En} {key : ByteArray} {x : En} (h : x ∈ offE E key) : x ∈ E ∧ ¬ x.key = key := by
 unfold offE keepX at h
 rw [List.mem_filter] at h
 refine ⟨h.1,fun e => ?_⟩
 have h2 : (!(eqS x.key key)) = true := h.2
 rw [show eqS x.key key = true from eqS_iff.2 e] at h2
 cases h2
theorem place_insE {E : List En} {e : En} {k : Nat} {b : Bool} (h : PlaceE (offE E e.key) e.key k b) : (offE E e.key).take k ++ e :: (offE E e.key).drop k = insE E e := by
 obtain ⟨M,hM⟩ : ∃ M,offE E e.key = M := ⟨_,rfl⟩
 rw [hM] at h ⊢
 have h1 : ∀ x ∈ M.take k,ltS x.key e.key = true := fun x hx => by
  rw [List.mem_take_iff_getElem] at hx
  obtain ⟨i,hi,rfl⟩ := hx
  exact h.lo i (by omega) (by omega)
 have h2 : ∀ x ∈ M.drop k,ltS e.key x.key = true := fun x hx => by
  have h4 : ¬ x.key = e.key := (offE_mem (E := E) (by rw [hM]; exact List.mem_of_mem_drop hx)).2
  rw [List.mem_drop_iff_getElem] at hx
  obtain ⟨i,hi,rfl⟩ := hx
  have h3 := h.hi (k + i) (by omega) (by omega)
  rcases ltS_total h4 with h5 | h5
  ·rw [h3] at h5; cases h5
  ·exact h5
 have e0 : ∀ p : En → Bool,(∀ x,x.key = e.key → p x = false) → E.filter p = M.filter p := fun p hp => by
  rw [← hM]
  unfold offE keepX
  rw [List.filter_filter]
  refine List.filter_congr fun x _ => ?_
  show p x = (p x && !(eqS x.key e.key))
  cases hx : eqS x.key e.key with
  | true => rw [hp x (eqS_iff.1 hx)]; rfl
  | false => simp
 have e1 : M.filter (fun x => ltS x.key e.key) = M.take k := by
  conv => lhs; rw [← List.take_append_drop k M]
  rw [List.filter_append,List.filter_eq_self.2 (fun x hx => h1 x hx),List.filter_eq_nil_iff.2 (fun x hx => by rw [ltS_asym (h2 x hx)]; decide),List.append_nil]
 have e2 : M.filter (fun x => ltS e.key x.key) = M.drop k := by
  conv => lhs; rw [← List.take_append_drop k M]
  rw [List.filter_append,List.filter_eq_nil_iff.2 (fun x hx => by rw [ltS_asym (h1 x hx)]; decide),List.filter_eq_self.2 (fun x hx => h2 x hx),List.nil_append]
 unfold insE
 rw [e0 _ (fun x hx => by rw [hx,ltS_irr]),e0 (fun x => ltS e.key x.key) (fun x hx => by rw [hx,ltS_irr]),e1,e2]
theorem keepR_no {R : Prx} {e : En} (h : keepB R e = false) : keepR R e = ⟨R.now,offE R.ents (touchP R.pol e.key).2,(touchP R.pol e.key).1,R.fes,R.cls,R.hits⟩ := by unfold keepR; rw [if_neg (by rw [h]; decide)]
theorem keepR_yes {R : Prx} {e : En} (h : keepB R e = true) : keepR R e = ⟨R.now,insE (offE R.ents (touchP R.pol e.key).2) e,(touchP R.pol e.key).1,R.fes,R.cls,R.hits⟩ := by unfold keepR; rw [if_pos h]
def closeG (R : Prx) (k : Nat) (life : Int) : Fet := ((fetAt R k).turn (closeM (stmOf (fetAt R k)) life).1.text (closeM (stmOf (fetAt R k)) life).1.st).done life R.now
def closeT (R : Prx) (k : Nat) (life : Int) : Prx := ⟨R.now,R.ents,R.pol,R.fes.set k (closeG R k life),tellX R.cls k (fun c => c.w_st 2),R.hits⟩
def closeP (R : Prx) (k : Nat) (life : Int) : Prx := if 0 < life then keepR (closeT R k life) (entOfF (closeG R k life)) else closeT R k life
def closeR (R : Prx) (k : Int) (life : Int) : Prx × Bool := if (turnB R k && (closeM (stmOf (fetAt R k.toNat)) life).2) = true then (closeP R k.toNat life,true) else (R,false)
theorem closeM_text (S : Stm) (life : Int) : (closeM S life).1.text = S.text := by
 unfold closeM endM
 split
 ·split <;> rfl
 ·rfl
theorem closeT_sz {R : Prx} (h : okX R = true) (k : Nat) (life : Int) : PxSz (closeT R k life) := by
 have H := okX_iff.1 h
 obtain ⟨hw,h3,h4,h5⟩ := okX_wgt h
 have hk : (fetAt R k).key.size ≤ 30 ∧ (fetAt R k).tx.size ≤ 400 := by
  unfold fetAt
  by_cases hk : k < R.fes.length
  ·rw [getD_of hk]; exact ⟨enKey_sz (H.fes _ (List.getElem_mem hk)).1,(H.fes _ (List.getElem_mem hk)).2.1⟩
  ·rw [List.getD_eq_getElem?_getD,List.getElem?_eq_none (by omega)]; exact ⟨Nat.zero_le _,Nat.zero_le _⟩
 have e1 := ftwg_set R.fes k (closeG R k life)
 have e2 : (closeG R k life).wg ≤ 430 := by
  show (fetAt R k).key.size + (closeM (stmOf (fetAt R k)) life).1.text.size ≤ 430
  rw [closeM_text]
  show (fetAt R k).key.size + (fetAt R k).tx.size ≤ 430
  omega
 have e3 := clwg_tell R.cls k (fun c => c.w_st 2) 0 (fun c _ => by
  show c.key.size + c.got.size ≤ 0 + (c.key.size + c.got.size)
  omega)
 have e5 : (tellX R.cls k (fun c => c.w_st 2)).length = R.cls.length := by unfold tellX; rw [List.length_map]
 unfold PxSz
 unfold wgtX at hw
 show R.ents.length + ewg R.ents + wgtP R.pol + ((R.fes.set _ _).length + ftwg (R.fes.set _ _)) + ((tellX _ _ _).length + clwg (tellX _ _ _)) ≤ 1048576
 rw [List.length_set,e5]
 omega
end Go.Proofs.YtaahjcljanckaaaGreatDoor
