/- Texts that stand in one: SketchOf, StrsOf, PolicyOf, EnOf, EnsOf, PrxOf. -/
import Derived.Test.YtpgcfgbhkodmeaaGreatDoorSkKitJ
import Derived.WalkKit
import Derived.ProofKit
import Derived.OpenShut
import Derived.ChangeOld
import Derived.Below
import Derived.Deep.Slices
import Derived.Deep.Matrix
import Derived.Deep.MidRow
import Derived.Lib.SmallJoins
import Derived.Test.YtpgcfgbhkodmeaaGreatDoorSumTabJ
import Derived.SliceStrings
import Derived.Test.YtpgcfgbhkodmeaaGreatDoorReadPlainJ
import Derived.Deep.Strs
import Derived.Test.YtpgcfgbhkodmeaaGreatDoorFilesJ
import Derived.Test.YtpgcfgbhkodmeaaGreatDoorPrxBaseJ
namespace Go.Proofs.YtpgcfgbhkodmeaaGreatDoor
open Go.ChangeShapes Go.WideShapes Go.ChangeAt Go.RowKit Go.Deep
set_option maxRecDepth 100000 in
theorem rowsCell_of {H : Type} {enc : TypeId × Value → H} {W : World} {fuel : Nat} {c : Value} {x : DataW H × List MemPlace} (hf : DataW.trod enc Tryz.prog W 0 (fun _ => true) true fuel 24 [c] = some x) :
  ∃ a cap LL,c = .slice a (List.length LL) cap ∧ SSAt W a LL W.heap.size ∧ LL.length ≤ maxLen ∧ ∀ j (hj : j < LL.length),LL[j].length ≤ maxLen := by
 have hc1 : Tryz.prog.cellsOf 36 = 1 := by kernel_rfl
 have hc2 : Tryz.prog.cellsOf 3 = 1 := by kernel_rfl
 rcases open_int_rows Tryz.underlying24 Tryz.underlying36 Tryz.underlying3 hc1 hc2 hf with ⟨hcs,_⟩ | ⟨a,len,cap,A,L,C,Z,hcs,_,hlc,hcm,_,hel⟩
 ·simp at hcs
  subst hcs
  exact ⟨none, 0, [],rfl,fun j hj => by simp at hj,by simp [maxLen],fun j hj => by simp at hj⟩
 ·simp at hcs
  subst hcs
  refine ⟨some a,cap,(List.range len).map (fun r => (Z r).take (L r)),by simp,fun j hj => ?_,by simp; omega,fun j hj => ?_⟩
  ·simp only [List.length_map,List.length_range] at hj
   obtain ⟨h1,h2,h3,h4,h5,h6,h7⟩ := hel j (by omega)
   obtain ⟨b,off,spot⟩ := a
   have hspot : spot = none := by
    have h00 := (hel 0 (by omega)).1
    simpa [Addr.add] using World.cell?_spot h00
   subst hspot
   have hlt := World.block_lt_of_cell? W _ h1
   have hlen : ((Z j).take (L j)).length = L j := by rw [List.length_take]; omega
   refine ⟨b,off,A j,C j,rfl,by simpa [Addr.add_mid] using hlt, ?_,fun i hi => ?_⟩
   ·simp only [List.getElem_map,List.getElem_range,hlen]
    simpa [Addr.add_mid] using h1
   ·simp only [List.getElem_map,List.getElem_range,hlen] at hi ⊢
    cases hAj : A j with
    | none => have := h6 hAj; omega
    | some a' =>
     obtain ⟨_,hcell⟩ := h7 a' hAj
     obtain ⟨b',off',spot'⟩ := a'
     have hspot' : spot' = none := by
      have h00 := hcell 0 (by omega)
      simpa [Addr.add] using World.cell?_spot h00
     subst hspot'
     have hci := hcell i (by omega)
     rw [Addr.add_mid] at hci
     refine ⟨b',off',rfl,World.block_lt_of_cell? W _ hci, ?_⟩
     rw [hci]
     have hzi : i < (Z j).length := by omega
     simp [List.getD_eq_getElem?_getD,hzi]
  ·simp only [List.length_map,List.length_range] at hj
   obtain ⟨_,h2,h3,h4,_⟩ := hel j (by omega)
   simp only [List.getElem_map,List.getElem_range,List.length_take]
   omega
end Go.Proofs.YtpgcfgbhkodmeaaGreatDoor
namespace Go.Proofs.YtpgcfgbhkodmeaaGreatDoor
open Go.ChangeShapes Go.WideShapes Go.ChangeAt Go.RowKit
end Go.Proofs.YtpgcfgbhkodmeaaGreatDoor
namespace Go.Proofs.YtpgcfgbhkodmeaaGreatDoor
open Go.ChangeShapes Go.WideShapes Go.ChangeAt Go.RowKit Go.Deep
theorem list4S {l : List Value} (h : l.length = 4) : ∃ a b c d,l = [a,b,c,d] := by
 match l,h with
 | [a,b,c,d],_ => exact ⟨a,b,c,d,rfl⟩
set_option maxRecDepth 100000 in
theorem strsCell_of {H : Type} {enc : TypeId × Value → H} {W : World} {fuel : Nat} {c : Value} {x : DataW H × List MemPlace} (hf : DataW.trod enc Tryz.prog W 0 (fun _ => true) true fuel 23 [c] = some x) :
  ∃ a cap l,c = .slice a (List.length l) cap ∧ LAt W a l W.heap.size ∧ l.length ≤ maxLen ∧ ∀ j (hj : j < l.length),l[j].size ≤ maxLen := by
 rcases open_strings Tryz.underlying23 Tryz.underlying9 (by kernel_rfl) hf with ⟨hcs,_⟩ | ⟨y,len,cap,zs,hcs,_,hl,hm,hz,_,hcell,hwz⟩
 ·simp at hcs
  subst hcs
  exact ⟨none, 0, [],rfl,fun j hj => by simp at hj,by simp [maxLen],fun j hj => by simp at hj⟩
 ·simp at hcs
  subst hcs
  have hz' : zs.length = cap := by simpa using hz
  refine ⟨some y,cap,zs.take len,by rw [List.length_take,show min len zs.length = len by omega],fun j hj => ?_,by rw [List.length_take]; omega,fun j hj => hwz _ (List.mem_of_mem_take (List.getElem_mem hj))⟩
  have hj' : j < len := by rw [List.length_take] at hj; omega
  have h1 := hcell j (by omega)
  have h00 := hcell 0 (by omega)
  obtain ⟨b,off,spot⟩ := y
  have hspot : spot = none := by simpa [Addr.add] using World.cell?_spot h00
  subst hspot
  have e : zs.getD j ByteArray.empty = (zs.take len)[j] := by simp [List.getD,List.getElem?_eq_getElem (show j < zs.length by omega)]
  have h2 : W.cell? ⟨b,off + j,none⟩ = some (.string (zs.getD j ByteArray.empty)) := by
   by_cases hj0 : j = 0
   ·subst hj0; simpa [Addr.add] using h1
   ·simpa [Addr.add,hj0] using h1
  rw [e] at h2
  exact ⟨b,off,rfl,World.block_lt_of_cell? W ⟨b,off + j,none⟩ h2,h2⟩
theorem list4E {l : List Value} (h : l.length = 4) : ∃ a b c d,l = [a,b,c,d] := by
 match l,h with
 | [a,b,c,d],_ => exact ⟨a,b,c,d,rfl⟩
set_option maxRecDepth 100000 in
theorem entryCells_of {H : Type} {enc : TypeId × Value → H} {W : World} {fuel : Nat} {cs : List Value} {x : DataW H × List MemPlace} (h : DataW.trod enc Tryz.prog W 0 (fun _ => true) true fuel 120 cs = some x) :
  ∃ E : En,cs = [.string E.key,.int .i64 E.st,.int .i64 E.lf,.string E.bd] ∧ E.Sized := by
 obtain ⟨y0,y1,y2,y3,n,_,hl,h0,h1,h2,h3⟩ := Joins.trod_struct4 Tryz.underlying120 h
 have hc : Tryz.prog.cellsOf 120 = 4 := by kernel_rfl
 have hc9 : Tryz.prog.cellsOf 9 = 1 := by kernel_rfl
 have hc3 : Tryz.prog.cellsOf 3 = 1 := by kernel_rfl
 rw [hc] at hl
 obtain ⟨c0,c1,c2,c3,rfl⟩ := list4E hl
 simp only [hc9,hc3,List.drop_zero,List.take_succ_cons,List.take_zero,List.drop_succ_cons] at h0 h1 h2 h3
 obtain ⟨s0,e0,_,z0⟩ := DataW.trod_string Tryz.underlying9 h0
 obtain ⟨k1,e1,_,z1⟩ := DataW.trod_int Tryz.underlying3 h1
 obtain ⟨k2,e2,_,z2⟩ := DataW.trod_int Tryz.underlying3 h2
 obtain ⟨s3,e3,_,z3⟩ := DataW.trod_string Tryz.underlying9 h3
 simp only [List.cons.injEq,and_true] at e0 e1 e2 e3
 subst e0 e1 e2 e3
 exact ⟨⟨s0,k1,k2,s3⟩,rfl,⟨z0,z3⟩,z1,z2⟩
theorem cells4E {w : World} {base : Nat} {a : Addr} {cs : List Value} (h : w.cells? base a 4 = some cs) : ∃ x y z u,cs = [x,y,z,u] ∧ w.cell? (a.add 0) = some x ∧ w.cell? (a.add 1) = some y ∧ w.cell? (a.add 2) = some z ∧ w.cell? (a.add 3) = some u := by
 unfold World.cells? at h
 split at h
 ·rw [show List.range 4 = [0, 1, 2, 3] from rfl] at h
  simp only [List.mapM_cons,List.mapM_nil] at h
  cases h0 : w.cell? (a.add 0) with
  | none => simp [h0] at h
  | some x =>
   cases h1 : w.cell? (a.add 1) with
   | none => simp [h0,h1] at h
   | some y =>
    cases h2 : w.cell? (a.add 2) with
    | none => simp [h0,h1,h2] at h
    | some z =>
     cases h3 : w.cell? (a.add 3) with
     | none => simp [h0,h1,h2,h3] at h
     | some u =>
      simp [h0,h1,h2,h3] at h
      exact ⟨x,y,z,u,h.symm,rfl,rfl,rfl,rfl⟩
 ·simp at h
theorem trodX_struct5 {H : Type} {enc : TypeId × Value → H} {P : Program} {w : World} {base : Nat} {spare : Nat → Bool} {held : Bool} {t : TypeId} {f0 f1 f2 f3 f4 : Field} {fuel : Nat} {cs : List Value} {x : DataW H × List MemPlace} (ht : P.underlying t = some (.struct #[f0,f1,f2,f3,f4])) (h : DataW.trod enc P w base spare held fuel t cs = some x) :
  ∃ y0 y1 y2 y3 y4 n,cs.length = P.cellsOf t ∧ DataW.trod enc P w base spare held n f0.type ((cs.drop f0.offset).take (P.cellsOf f0.type)) = some y0 ∧ DataW.trod enc P w base spare held n f1.type ((cs.drop f1.offset).take (P.cellsOf f1.type)) = some y1 ∧ DataW.trod enc P w base spare held n f2.type ((cs.drop f2.offset).take (P.cellsOf f2.type)) = some y2 ∧ DataW.trod enc P w base spare held n f3.type ((cs.drop f3.offset).take (P.cellsOf f3.type)) = some y3 ∧ DataW.trod enc P w base spare held n f4.type ((cs.drop f4.offset).take (P.cellsOf f4.type)) = some y4 := by
 obtain ⟨xs,n,_,rfl,hl,hlen,hf⟩ := DataW.trod_struct ht h
 match xs,hlen with
 | [y0,y1,y2,y3,y4],_ => exact ⟨y0,y1,y2,y3,y4,n,hl,by simpa using hf 0 f0 rfl,by simpa using hf 1 f1 rfl,by simpa using hf 2 f2 rfl,by simpa using hf 3 f3 rfl,by simpa using hf 4 f4 rfl⟩
theorem trodX_struct6 {H : Type} {enc : TypeId × Value → H} {P : Program} {w : World} {base : Nat} {spare : Nat → Bool} {held : Bool} {t : TypeId} {f0 f1 f2 f3 f4 f5 : Field} {fuel : Nat} {cs : List Value} {x : DataW H × List MemPlace} (ht : P.underlying t = some (.struct #[f0,f1,f2,f3,f4,f5])) (h : DataW.trod enc P w base spare held fuel t cs = some x) :
  ∃ y0 y1 y2 y3 y4 y5 n,cs.length = P.cellsOf t ∧ DataW.trod enc P w base spare held n f0.type ((cs.drop f0.offset).take (P.cellsOf f0.type)) = some y0 ∧ DataW.trod enc P w base spare held n f1.type ((cs.drop f1.offset).take (P.cellsOf f1.type)) = some y1 ∧ DataW.trod enc P w base spare held n f2.type ((cs.drop f2.offset).take (P.cellsOf f2.type)) = some y2 ∧ DataW.trod enc P w base spare held n f3.type ((cs.drop f3.offset).take (P.cellsOf f3.type)) = some y3 ∧ DataW.trod enc P w base spare held n f4.type ((cs.drop f4.offset).take (P.cellsOf f4.type)) = some y4 ∧ DataW.trod enc P w base spare held n f5.type ((cs.drop f5.offset).take (P.cellsOf f5.type)) = some y5 := by
 obtain ⟨xs,n,_,rfl,hl,hlen,hf⟩ := DataW.trod_struct ht h
 match xs,hlen with
 | [y0,y1,y2,y3,y4,y5],_ => exact ⟨y0,y1,y2,y3,y4,y5,n,hl,by simpa using hf 0 f0 rfl,by simpa using hf 1 f1 rfl,by simpa using hf 2 f2 rfl,by simpa using hf 3 f3 rfl,by simpa using hf 4 f4 rfl,by simpa using hf 5 f5 rfl⟩
theorem trodX_struct7 {H : Type} {enc : TypeId × Value → H} {P : Program} {w : World} {base : Nat} {spare : Nat → Bool} {held : Bool} {t : TypeId} {f0 f1 f2 f3 f4 f5 f6 : Field} {fuel : Nat} {cs : List Value} {x : DataW H × List MemPlace} (ht : P.underlying t = some (.struct #[f0,f1,f2,f3,f4,f5,f6])) (h : DataW.trod enc P w base spare held fuel t cs = some x) :
  ∃ y0 y1 y2 y3 y4 y5 y6 n,cs.length = P.cellsOf t ∧ DataW.trod enc P w base spare held n f0.type ((cs.drop f0.offset).take (P.cellsOf f0.type)) = some y0 ∧ DataW.trod enc P w base spare held n f1.type ((cs.drop f1.offset).take (P.cellsOf f1.type)) = some y1 ∧ DataW.trod enc P w base spare held n f2.type ((cs.drop f2.offset).take (P.cellsOf f2.type)) = some y2 ∧ DataW.trod enc P w base spare held n f3.type ((cs.drop f3.offset).take (P.cellsOf f3.type)) = some y3 ∧ DataW.trod enc P w base spare held n f4.type ((cs.drop f4.offset).take (P.cellsOf f4.type)) = some y4 ∧ DataW.trod enc P w base spare held n f5.type ((cs.drop f5.offset).take (P.cellsOf f5.type)) = some y5 ∧ DataW.trod enc P w base spare held n f6.type ((cs.drop f6.offset).take (P.cellsOf f6.type)) = some y6 := by
 obtain ⟨xs,n,_,rfl,hl,hlen,hf⟩ := DataW.trod_struct ht h
 match xs,hlen with
 | [y0,y1,y2,y3,y4,y5,y6],_ => exact ⟨y0,y1,y2,y3,y4,y5,y6,n,hl,by simpa using hf 0 f0 rfl,by simpa using hf 1 f1 rfl,by simpa using hf 2 f2 rfl,by simpa using hf 3 f3 rfl,by simpa using hf 4 f4 rfl,by simpa using hf 5 f5 rfl,by simpa using hf 6 f6 rfl⟩
theorem listX5 {l : List Value} (h : l.length = 5) : ∃ z0 z1 z2 z3 z4,l = [z0,z1,z2,z3,z4] := by
 match l,h with
 | [z0,z1,z2,z3,z4],_ => exact ⟨z0,z1,z2,z3,z4,rfl⟩
theorem listX7 {l : List Value} (h : l.length = 7) : ∃ z0 z1 z2 z3 z4 z5 z6,l = [z0,z1,z2,z3,z4,z5,z6] := by
 match l,h with
 | [z0,z1,z2,z3,z4,z5,z6],_ => exact ⟨z0,z1,z2,z3,z4,z5,z6,rfl⟩
theorem listX9 {l : List Value} (h : l.length = 9) : ∃ z0 z1 z2 z3 z4 z5 z6 z7 z8,l = [z0,z1,z2,z3,z4,z5,z6,z7,z8] := by
 match l,h with
 | [z0,z1,z2,z3,z4,z5,z6,z7,z8],_ => exact ⟨z0,z1,z2,z3,z4,z5,z6,z7,z8,rfl⟩
theorem cellsX5 {w : World} {base : Nat} {a : Addr} {cs : List Value} (h : w.cells? base a 5 = some cs) : ∃ x0 x1 x2 x3 x4,cs = [x0,x1,x2,x3,x4] ∧ w.cell? (a.add 0) = some x0 ∧ w.cell? (a.add 1) = some x1 ∧ w.cell? (a.add 2) = some x2 ∧ w.cell? (a.add 3) = some x3 ∧ w.cell? (a.add 4) = some x4 := by
 unfold World.cells? at h
 split at h
 ·rw [show List.range 5 = [0, 1, 2, 3, 4] from rfl] at h
  simp only [List.mapM_cons,List.mapM_nil] at h
  cases h0 : w.cell? (a.add 0) with
  | none => simp [h0] at h
  | some x0 =>
   cases h1 : w.cell? (a.add 1) with
   | none => simp [h0,h1] at h
   | some x1 =>
    cases h2 : w.cell? (a.add 2) with
    | none => simp [h0,h1,h2] at h
    | some x2 =>
     cases h3 : w.cell? (a.add 3) with
     | none => simp [h0,h1,h2,h3] at h
     | some x3 =>
      cases h4 : w.cell? (a.add 4) with
      | none => simp [h0,h1,h2,h3,h4] at h
      | some x4 =>
       simp [h0,h1,h2,h3,h4] at h
       exact ⟨x0,x1,x2,x3,x4,h.symm,rfl,rfl,rfl,rfl,rfl⟩
 ·simp at h
theorem cellsX7 {w : World} {base : Nat} {a : Addr} {cs : List Value} (h : w.cells? base a 7 = some cs) : ∃ x0 x1 x2 x3 x4 x5 x6,cs = [x0,x1,x2,x3,x4,x5,x6] ∧ w.cell? (a.add 0) = some x0 ∧ w.cell? (a.add 1) = some x1 ∧ w.cell? (a.add 2) = some x2 ∧ w.cell? (a.add 3) = some x3 ∧ w.cell? (a.add 4) = some x4 ∧ w.cell? (a.add 5) = some x5 ∧ w.cell? (a.add 6) = some x6 := by
 unfold World.cells? at h
 split at h
 ·rw [show List.range 7 = [0, 1, 2, 3, 4, 5, 6] from rfl] at h
  simp only [List.mapM_cons,List.mapM_nil] at h
  cases h0 : w.cell? (a.add 0) with
  | none => simp [h0] at h
  | some x0 =>
   cases h1 : w.cell? (a.add 1) with
   | none => simp [h0,h1] at h
   | some x1 =>
    cases h2 : w.cell? (a.add 2) with
    | none => simp [h0,h1,h2] at h
    | some x2 =>
     cases h3 : w.cell? (a.add 3) with
     | none => simp [h0,h1,h2,h3] at h
     | some x3 =>
      cases h4 : w.cell? (a.add 4) with
      | none => simp [h0,h1,h2,h3,h4] at h
      | some x4 =>
       cases h5 : w.cell? (a.add 5) with
       | none => simp [h0,h1,h2,h3,h4,h5] at h
       | some x5 =>
        cases h6 : w.cell? (a.add 6) with
        | none => simp [h0,h1,h2,h3,h4,h5,h6] at h
        | some x6 =>
         simp [h0,h1,h2,h3,h4,h5,h6] at h
         exact ⟨x0,x1,x2,x3,x4,x5,x6,h.symm,rfl,rfl,rfl,rfl,rfl,rfl,rfl⟩
 ·simp at h
set_option maxRecDepth 100000 in
theorem fetCells_of {H : Type} {enc : TypeId × Value → H} {W : World} {fuel : Nat} {cs : List Value} {x : DataW H × List MemPlace} (h : DataW.trod enc Tryz.prog W 0 (fun _ => true) true fuel 148 cs = some x) :
  ∃ E : Fet,cs = [.string E.key,.string E.tx,.int .i64 E.st,.int .i64 E.lf,.int .i64 E.sto] ∧ E.Sized := by
 obtain ⟨y0,y1,y2,y3,y4,n,hl,h0,h1,h2,h3,h4⟩ := trodX_struct5 Tryz.underlying148 h
 have hc : Tryz.prog.cellsOf 148 = 5 := by kernel_rfl
 have hc9 : Tryz.prog.cellsOf 9 = 1 := by kernel_rfl
 have hc3 : Tryz.prog.cellsOf 3 = 1 := by kernel_rfl
 rw [hc] at hl
 obtain ⟨c0,c1,c2,c3,c4,rfl⟩ := listX5 hl
 simp only [hc9,hc3,List.drop_zero,List.take_succ_cons,List.take_zero,List.drop_succ_cons] at h0 h1 h2 h3 h4
 obtain ⟨s0,e0,_,z0⟩ := DataW.trod_string Tryz.underlying9 h0
 obtain ⟨s1,e1,_,z1⟩ := DataW.trod_string Tryz.underlying9 h1
 obtain ⟨s2,e2,_,z2⟩ := DataW.trod_int Tryz.underlying3 h2
 obtain ⟨s3,e3,_,z3⟩ := DataW.trod_int Tryz.underlying3 h3
 obtain ⟨s4,e4,_,z4⟩ := DataW.trod_int Tryz.underlying3 h4
 simp only [List.cons.injEq,and_true] at e0 e1 e2 e3 e4
 subst e0 e1 e2 e3 e4
 exact ⟨⟨s0,s1,s2,s3,s4⟩,rfl,⟨z0,z1⟩,z2,z3,z4⟩
set_option maxRecDepth 100000 in
theorem cliCells_of {H : Type} {enc : TypeId × Value → H} {W : World} {fuel : Nat} {cs : List Value} {x : DataW H × List MemPlace} (h : DataW.trod enc Tryz.prog W 0 (fun _ => true) true fuel 150 cs = some x) :
  ∃ E : Cli,cs = [.int .i64 E.id,.string E.key,.int .i64 E.fe,.int .i64 E.fr,.int .i64 E.st,.string E.got,.int .i64 E.ag] ∧ E.Sized := by
 obtain ⟨y0,y1,y2,y3,y4,y5,y6,n,hl,h0,h1,h2,h3,h4,h5,h6⟩ := trodX_struct7 Tryz.underlying150 h
 have hc : Tryz.prog.cellsOf 150 = 7 := by kernel_rfl
 have hc9 : Tryz.prog.cellsOf 9 = 1 := by kernel_rfl
 have hc3 : Tryz.prog.cellsOf 3 = 1 := by kernel_rfl
 rw [hc] at hl
 obtain ⟨c0,c1,c2,c3,c4,c5,c6,rfl⟩ := listX7 hl
 simp only [hc9,hc3,List.drop_zero,List.take_succ_cons,List.take_zero,List.drop_succ_cons] at h0 h1 h2 h3 h4 h5 h6
 obtain ⟨s0,e0,_,z0⟩ := DataW.trod_int Tryz.underlying3 h0
 obtain ⟨s1,e1,_,z1⟩ := DataW.trod_string Tryz.underlying9 h1
 obtain ⟨s2,e2,_,z2⟩ := DataW.trod_int Tryz.underlying3 h2
 obtain ⟨s3,e3,_,z3⟩ := DataW.trod_int Tryz.underlying3 h3
 obtain ⟨s4,e4,_,z4⟩ := DataW.trod_int Tryz.underlying3 h4
 obtain ⟨s5,e5,_,z5⟩ := DataW.trod_string Tryz.underlying9 h5
 obtain ⟨s6,e6,_,z6⟩ := DataW.trod_int Tryz.underlying3 h6
 simp only [List.cons.injEq,and_true] at e0 e1 e2 e3 e4 e5 e6
 subst e0 e1 e2 e3 e4 e5 e6
 exact ⟨⟨s0,s1,s2,s3,s4,s5,s6⟩,rfl,⟨z1,z5⟩,z0,z2,z3,z4,z6⟩
set_option maxRecDepth 100000 in
theorem entRowCell_of {H : Type} {enc : TypeId × Value → H} {W : World} {fuel : Nat} {c : Value} {x : DataW H × List MemPlace} (hf : DataW.trod enc Tryz.prog W 0 (fun _ => true) true fuel 22 [c] = some x) :
  ∃ a cap L,c = .slice a (List.length L) cap ∧ NAt W a L W.heap.size ∧ SizedN L ∧ L.length ≤ maxLen := by
 have hcF : Tryz.prog.cellsOf 120 = 4 := by kernel_rfl
 rcases open_slice Tryz.underlying22 hf with ⟨hcs,_⟩ | ⟨a,len,cap,m,k,D,Pl,hcs,_,hlc,hcm,hmm,_,hel⟩
 ·simp at hcs
  subst hcs
  exact ⟨none, 0, [],rfl,fun j hj => by simp at hj,fun j hj => by simp at hj,by simp [maxLen]⟩
 ·simp at hcs
  subst hcs
  simp at hmm
  subst hmm
  rw [hcF] at hel
  have hF : ∀ i,i < m → ∃ f : En,W.cell? ((a.add (i * 4)).add 0) = some (.string f.key) ∧ W.cell? ((a.add (i * 4)).add 1) = some (.int .i64 f.st) ∧ W.cell? ((a.add (i * 4)).add 2) = some (.int .i64 f.lf) ∧ W.cell? ((a.add (i * 4)).add 3) = some (.string f.bd) ∧ f.Sized := by
   intro i hi
   obtain ⟨cs',hcs',htr⟩ := hel i hi
   obtain ⟨f,rfl,hs1⟩ := entryCells_of htr
   obtain ⟨x0,x1,x2,x3,he,h0,h1,h2,h3⟩ := cells4E hcs'
   simp only [List.cons.injEq,and_true] at he
   obtain ⟨rfl,rfl,rfl,rfl⟩ := he
   exact ⟨f,h0,h1,h2,h3,hs1⟩
  haveI : Inhabited En := ⟨zen⟩
  obtain ⟨F,hF⟩ := choose_lt hF
  refine ⟨some a,m,(List.range len).map F,by simp,fun j hj => ?_,fun j hj => ?_,by simp; omega⟩
  ·simp only [List.length_map,List.length_range] at hj
   obtain ⟨h0,h1,h2,h3,_⟩ := hF j (by omega)
   obtain ⟨b,off,spot⟩ := a
   have hspot : spot = none := by
    have h00 := (hF 0 (by omega)).1
    simpa [Addr.add] using World.cell?_spot h00
   subst hspot
   have hlt := World.block_lt_of_cell? W _ h0
   refine ⟨b,off,rfl, ?_, ?_, ?_, ?_, ?_⟩
   ·simpa [Addr.add_mid] using hlt
   ·simpa [Addr.add_mid] using h0
   ·simpa [Addr.add_mid] using h1
   ·simpa [Addr.add_mid] using h2
   ·simpa [Addr.add_mid] using h3
  ·simp only [List.length_map,List.length_range] at hj
   have := hF j (by omega)
   simpa using this.2.2.2.2
set_option maxRecDepth 100000 in
theorem fetRowCell_of {H : Type} {enc : TypeId × Value → H} {W : World} {fuel : Nat} {c : Value} {x : DataW H × List MemPlace} (hf : DataW.trod enc Tryz.prog W 0 (fun _ => true) true fuel 29 [c] = some x) :
  ∃ a cap L,c = .slice a (List.length L) cap ∧ FetAt W a L W.heap.size ∧ SizedFet L ∧ L.length ≤ maxLen := by
 have hcF : Tryz.prog.cellsOf 148 = 5 := by kernel_rfl
 rcases open_slice Tryz.underlying29 hf with ⟨hcs,_⟩ | ⟨a,len,cap,m,k,D,Pl,hcs,_,hlc,hcm,hmm,_,hel⟩
 ·simp at hcs
  subst hcs
  exact ⟨none, 0, [],rfl,fun j hj => by simp at hj,fun j hj => by simp at hj,by simp [maxLen]⟩
 ·simp at hcs
  subst hcs
  simp at hmm
  subst hmm
  rw [hcF] at hel
  have hF : ∀ i,i < m → ∃ f : Fet,W.cell? ((a.add (i * 5)).add 0) = some (.string f.key) ∧ W.cell? ((a.add (i * 5)).add 1) = some (.string f.tx) ∧ W.cell? ((a.add (i * 5)).add 2) = some (.int .i64 f.st) ∧ W.cell? ((a.add (i * 5)).add 3) = some (.int .i64 f.lf) ∧ W.cell? ((a.add (i * 5)).add 4) = some (.int .i64 f.sto) ∧ f.Sized := by
   intro i hi
   obtain ⟨cs',hcs',htr⟩ := hel i hi
   obtain ⟨f,rfl,hs1⟩ := fetCells_of htr
   obtain ⟨x0,x1,x2,x3,x4,he,h0,h1,h2,h3,h4⟩ := cellsX5 hcs'
   simp only [List.cons.injEq,and_true] at he
   obtain ⟨rfl,rfl,rfl,rfl,rfl⟩ := he
   exact ⟨f,h0,h1,h2,h3,h4,hs1⟩
  haveI : Inhabited Fet := ⟨zFet⟩
  obtain ⟨F,hF⟩ := choose_lt hF
  refine ⟨some a,m,(List.range len).map F,by simp,fun j hj => ?_,fun j hj => ?_,by simp; omega⟩
  ·simp only [List.length_map,List.length_range] at hj
   obtain ⟨h0,h1,h2,h3,h4,_⟩ := hF j (by omega)
   obtain ⟨b,off,spot⟩ := a
   have hspot : spot = none := by
    have h00 := (hF 0 (by omega)).1
    simpa [Addr.add] using World.cell?_spot h00
   subst hspot
   have hlt := World.block_lt_of_cell? W _ h0
   refine ⟨b,off,rfl, ?_, ?_, ?_, ?_, ?_, ?_⟩
   ·simpa [Addr.add_mid] using hlt
   ·simpa [Addr.add_mid] using h0
   ·simpa [Addr.add_mid] using h1
   ·simpa [Addr.add_mid] using h2
   ·simpa [Addr.add_mid] using h3
   ·simpa [Addr.add_mid] using h4
  ·simp only [List.length_map,List.length_range] at hj
   have := hF j (by omega)
   simpa using this.2.2.2.2.2
set_option maxRecDepth 100000 in
theorem cliRowCell_of {H : Type} {enc : TypeId × Value → H} {W : World} {fuel : Nat} {c : Value} {x : DataW H × List MemPlace} (hf : DataW.trod enc Tryz.prog W 0 (fun _ => true) true fuel 30 [c] = some x) :
  ∃ a cap L,c = .slice a (List.length L) cap ∧ CliAt W a L W.heap.size ∧ SizedCli L ∧ L.length ≤ maxLen := by
 have hcF : Tryz.prog.cellsOf 150 = 7 := by kernel_rfl
 rcases open_slice Tryz.underlying30 hf with ⟨hcs,_⟩ | ⟨a,len,cap,m,k,D,Pl,hcs,_,hlc,hcm,hmm,_,hel⟩
 ·simp at hcs
  subst hcs
  exact ⟨none, 0, [],rfl,fun j hj => by simp at hj,fun j hj => by simp at hj,by simp [maxLen]⟩
 ·simp at hcs
  subst hcs
  simp at hmm
  subst hmm
  rw [hcF] at hel
  have hF : ∀ i,i < m → ∃ f : Cli,W.cell? ((a.add (i * 7)).add 0) = some (.int .i64 f.id) ∧ W.cell? ((a.add (i * 7)).add 1) = some (.string f.key) ∧ W.cell? ((a.add (i * 7)).add 2) = some (.int .i64 f.fe) ∧ W.cell? ((a.add (i * 7)).add 3) = some (.int .i64 f.fr) ∧ W.cell? ((a.add (i * 7)).add 4) = some (.int .i64 f.st) ∧ W.cell? ((a.add (i * 7)).add 5) = some (.string f.got) ∧ W.cell? ((a.add (i * 7)).add 6) = some (.int .i64 f.ag) ∧ f.Sized := by
   intro i hi
   obtain ⟨cs',hcs',htr⟩ := hel i hi
   obtain ⟨f,rfl,hs1⟩ := cliCells_of htr
   obtain ⟨x0,x1,x2,x3,x4,x5,x6,he,h0,h1,h2,h3,h4,h5,h6⟩ := cellsX7 hcs'
   simp only [List.cons.injEq,and_true] at he
   obtain ⟨rfl,rfl,rfl,rfl,rfl,rfl,rfl⟩ := he
   exact ⟨f,h0,h1,h2,h3,h4,h5,h6,hs1⟩
  haveI : Inhabited Cli := ⟨zCli⟩
  obtain ⟨F,hF⟩ := choose_lt hF
  refine ⟨some a,m,(List.range len).map F,by simp,fun j hj => ?_,fun j hj => ?_,by simp; omega⟩
  ·simp only [List.length_map,List.length_range] at hj
   obtain ⟨h0,h1,h2,h3,h4,h5,h6,_⟩ := hF j (by omega)
   obtain ⟨b,off,spot⟩ := a
   have hspot : spot = none := by
    have h00 := (hF 0 (by omega)).1
    simpa [Addr.add] using World.cell?_spot h00
   subst hspot
   have hlt := World.block_lt_of_cell? W _ h0
   refine ⟨b,off,rfl, ?_, ?_, ?_, ?_, ?_, ?_, ?_, ?_⟩
   ·simpa [Addr.add_mid] using hlt
   ·simpa [Addr.add_mid] using h0
   ·simpa [Addr.add_mid] using h1
   ·simpa [Addr.add_mid] using h2
   ·simpa [Addr.add_mid] using h3
   ·simpa [Addr.add_mid] using h4
   ·simpa [Addr.add_mid] using h5
   ·simpa [Addr.add_mid] using h6
  ·simp only [List.length_map,List.length_range] at hj
   have := hF j (by omega)
   simpa using this.2.2.2.2.2.2.2
set_option maxRecDepth 100000 in
theorem policyCells_of {H : Type} {enc : TypeId × Value → H} {W : World} {fuel : Nat} {cs : List Value} {x : DataW H × List MemPlace} (hf : DataW.trod enc Tryz.prog W 0 (fun _ => true) true fuel 28 cs = some x) :
  ∃ (aw : Option Addr) (cw : Nat) (am : Option Addr) (cm : Nat) (ak : Option Addr) (ck : Nat) (P : Pol),cs = [.slice aw P.win.length cw,.slice am P.main.length cm,.slice ak P.sk.rows.length ck,.int .i64 P.sk.added] ∧ PolAt W aw am ak P W.heap.size ∧ (P.win.length ≤ maxLen ∧ P.main.length ≤ maxLen ∧ (∀ j (hj : j < P.win.length),P.win[j].size ≤ maxLen) ∧ (∀ j (hj : j < P.main.length),P.main[j].size ≤ maxLen) ∧ P.sk.rows.length ≤ maxLen ∧ ∀ j (hj : j < P.sk.rows.length),P.sk.rows[j].length ≤ maxLen) := by
 obtain ⟨y0,y1,y2,n,_,hl,h0,h1,h2⟩ := trod_struct3 Tryz.underlying28 hf
 have hc : Tryz.prog.cellsOf 28 = 4 := by kernel_rfl
 have hc0 : Tryz.prog.cellsOf 23 = 1 := by kernel_rfl
 have hc2 : Tryz.prog.cellsOf 26 = 2 := by kernel_rfl
 have hc3 : Tryz.prog.cellsOf 24 = 1 := by kernel_rfl
 have hc4 : Tryz.prog.cellsOf 3 = 1 := by kernel_rfl
 rw [hc] at hl
 obtain ⟨a,b,c,e,rfl⟩ := list4S (l := cs) hl
 simp only [hc0,hc2,List.drop_zero,List.take_succ_cons,List.take_zero,List.drop_succ_cons] at h0 h1 h2
 obtain ⟨z0,z1,m,_,hl2,g0,g1⟩ := trod_struct2 Tryz.underlying26 h2
 simp only [hc3,hc4,List.drop_zero,List.take_succ_cons,List.take_zero,List.drop_succ_cons] at g0 g1
 obtain ⟨k1,e1,_,_⟩ := DataW.trod_int Tryz.underlying3 g1
 simp only [List.cons.injEq,and_true] at e1
 subst e1
 obtain ⟨pa,pc,LL,rfl,hP,hPl,hPr⟩ := rowsCell_of g0
 obtain ⟨wa,wc,L1,rfl,hW1,hW2,hW3⟩ := strsCell_of h0
 obtain ⟨ma,mc,L2,rfl,hM1,hM2,hM3⟩ := strsCell_of h1
 exact ⟨wa,wc,ma,mc,pa,pc,⟨L1,L2,⟨LL,k1⟩⟩,rfl,⟨hW1,hM1,hP⟩,hW2,hM2,hW3,hM3,hPl,hPr⟩
set_option maxRecDepth 100000 in
theorem proxy_of {H : Type} {enc : TypeId × Value → H} {W : World} {base : Nat} {v : Value} {d : DataW H} {ps : List MemPlace} (hv : Value.okWide Tryz.prog W .any base 32 v) (h : DataW.Trod enc Tryz.prog W 0 (fun _ => true) true 32 v d ps) :
  ∃ (X : Pc) (R : Prx),v = .agg #[.int .i64 R.now,X.e,X.w,X.m,X.k,.int .i64 R.pol.sk.added,X.f,X.c,.int .i64 R.hits] ∧ PxAt W X R W.heap.size ∧ PxM R := by
 obtain ⟨cs,rfl,hsz⟩ := okWide_struct Tryz.underlying32 hv
 obtain ⟨fuel,hf⟩ := h
 obtain ⟨y0,y1,y2,y3,y4,y5,n,hl,h0,h1,h2,h3,h4,h5⟩ := trodX_struct6 Tryz.underlying32 hf
 have hc : Tryz.prog.cellsOf 32 = 9 := by kernel_rfl
 have hcE : Tryz.prog.cellsOf 22 = 1 := by kernel_rfl
 have hcP : Tryz.prog.cellsOf 28 = 4 := by kernel_rfl
 have hcF : Tryz.prog.cellsOf 29 = 1 := by kernel_rfl
 have hcC : Tryz.prog.cellsOf 30 = 1 := by kernel_rfl
 have hc3 : Tryz.prog.cellsOf 3 = 1 := by kernel_rfl
 rw [hc] at hl
 obtain ⟨l⟩ := cs
 simp only [Value.cells] at hl h0 h1 h2 h3 h4 h5
 obtain ⟨a0,a1,a2,a3,a4,a5,a6,a7,a8,rfl⟩ := listX9 (l := l) hl
 simp only [hc3,hcE,hcP,hcF,hcC,List.drop_zero,List.take_succ_cons,List.take_zero,List.drop_succ_cons] at h0 h1 h2 h3 h4 h5
 obtain ⟨k0,e0,_,z0⟩ := DataW.trod_int Tryz.underlying3 h0
 obtain ⟨k5,e5,_,z5⟩ := DataW.trod_int Tryz.underlying3 h5
 obtain ⟨ae,ce,LE,rfl,hE1,hE2,hE3⟩ := entRowCell_of h1
 obtain ⟨aw,cw,am,cm,ak,ck,P,eP,hP1,hP2⟩ := policyCells_of h2
 obtain ⟨af,cf,LF,rfl,hF1,hF2,hF3⟩ := fetRowCell_of h3
 obtain ⟨ac,cc,LC,rfl,hC1,hC2,hC3⟩ := cliRowCell_of h4
 simp only [List.cons.injEq,and_true] at e0 e5 eP
 obtain ⟨rfl,rfl,rfl,rfl⟩ := eP
 subst e0 e5
 exact ⟨⟨.slice ae LE.length ce,.slice aw P.win.length cw,.slice am P.main.length cm,.slice ak P.sk.rows.length ck,.slice af LF.length cf,.slice ac LC.length cc⟩,⟨k0,LE,P,LF,LC,k5⟩,rfl,
  ⟨⟨ae,ce,rfl,hE1⟩,⟨aw,cw,rfl,hP1.1⟩,⟨am,cm,rfl,hP1.2.1⟩,⟨ak,ck,rfl,hP1.2.2⟩,⟨af,cf,rfl,hF1⟩,⟨ac,cc,rfl,hC1⟩⟩,⟨z0,z5,hE2,hE3,hP2,hF2,hF3,hC2,hC3⟩⟩
end Go.Proofs.YtpgcfgbhkodmeaaGreatDoor
