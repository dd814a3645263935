/- Texts that stand in one: TellPlain, HallTell, Pairs, StmBase, TurnedKit, StmRow, Locks, HeldKit, HeldChange. -/
import Derived.Test.YtaahjcljanckaaaGreatDoorFetRowsJ
import Derived.Test.YtaahjcljanckaaaGreatDoorHallKitJ
import Derived.Shelf.Abstract
import Derived.Test.YtaahjcljanckaaaGreatDoorSkBaseJ
import Derived.Deep.MidRow
import Derived.Test.YtaahjcljanckaaaGreatDoorPxSlicesJ
import Derived.Deep.AppendLies
import Derived.Deep.RegionHeld3
import Derived.Deep.RegionLaw
import Derived.Test.YtaahjcljanckaaaGreatDoorChecked
import Derived.Conc.RwLib
import Derived.KernelRfl
import Derived.Conc.MuLone
namespace Go.Proofs.YtaahjcljanckaaaGreatDoor
open Go.RowKit
def waitsB (k : Int) (c : Cli) : Bool := (c.st == 1) && (c.fe == k + 1)
def tellF (k : Int) (F : Cli → Cli) (c : Cli) : Cli := if waitsB k c = true then F c else c
def tellX (L : List Cli) (k : Int) (F : Cli → Cli) : List Cli := L.map (tellF k F)
def tellTo (L : List Cli) (k : Int) (F : Cli → Cli) (n : Nat) : List Cli := (L.take n).map (tellF k F) ++ L.drop n
theorem tellTo_zero (L : List Cli) (k : Int) (F : Cli → Cli) : tellTo L k F 0 = L := by simp [tellTo]
theorem tellTo_all (L : List Cli) (k : Int) (F : Cli → Cli) : tellTo L k F L.length = tellX L k F := by simp [tellTo,tellX]
theorem tellTo_len (L : List Cli) (k : Int) (F : Cli → Cli) (n : Nat) : (tellTo L k F n).length = L.length := by
 unfold tellTo
 rw [List.length_append,List.length_map,List.length_take,List.length_drop]
 omega
theorem tellTo_at (L : List Cli) (k : Int) (F : Cli → Cli) (n : Nat) (h : n < L.length) : (tellTo L k F n)[n]'(by rw [tellTo_len]; exact h) = L[n] := by
 unfold tellTo
 rw [List.getElem_append_right (by simp; omega)]
 simp
 congr 1
 omega
theorem tellTo_succ (L : List Cli) (k : Int) (F : Cli → Cli) (n : Nat) (h : n < L.length) : tellTo L k F (n + 1) = (tellTo L k F n).set n (tellF k F L[n]) := by
 have hd : L.drop n = L[n] :: L.drop (n + 1) := List.drop_eq_getElem_cons h
 have hl : ((L.take n).map (tellF k F)).length = n := by rw [List.length_map,List.length_take]; omega
 unfold tellTo
 rw [hd,List.set_append_right _ _ (by omega),hl,Nat.sub_self,List.set_cons_zero,List.take_succ_eq_append_getElem h,List.map_append,List.append_assoc]
 rfl
end Go.Proofs.YtaahjcljanckaaaGreatDoor
namespace Go.Proofs.YtaahjcljanckaaaGreatDoor
open Go.RowKit Go.Sort
set_option maxRecDepth 100000 in
set_option maxHeartbeats 8000000 in
theorem tellWaiting_any (g : Nat) (lb : Array Value) (F : Cli → Cli) (eg : ∀ args w,(callFunc g args).run Tryz.prog w = .ok (.enter g args) w) (w : World) (lo T : Nat) (X : Pc) (R : Prx) (k : Nat) (H : HallAt w lo T X R) (hk : k ≤ 1048576) (hm : R.cls.length ≤ 1048576)
  (hp : ∀ (W : World) (G c : Nat) (L' : List Cli) (j : Nat) (hj : j < L'.length),X.c = .slice (some ⟨G, 0,none⟩) L'.length c → Tch (fun b => b = G) w W → OwnCli W lo 45 X.c L' →
   Calls Tryz.prog g (#[.pointer (some ⟨G,j * 7,none⟩)] ++ lb) W fun e w' => e = .returned (.tuple #[]) ∧ Tch (fun b => b = G) W w' ∧ OwnCli w' lo 45 X.c (L'.set j (F L'[j]))) :
  Calls Tryz.prog 77 #[.pointer (some ⟨T, 0,none⟩),.int .i64 (k : Int),.func (.func g) #[] lb] w fun e w' => e = .returned (.tuple #[]) ∧ Tch (fun b => X.c.ownBlock = some b) w w' ∧ OwnCli w' lo 45 X.c (tellX R.cls k F) := by
 obtain ⟨hB,hO,hle⟩ := H
 have hc := hO.c
 obtain ⟨a,c,hXc,hA⟩ := hc.at
 obtain ⟨L,hL⟩ : ∃ L,R.cls = L := ⟨_,rfl⟩
 rw [hL] at hc hXc hA hm ⊢
 have hT : ¬ (X.c.ownBlock = some T) := fun e => by
  obtain ⟨cs,h1⟩ := hc.type T e
  have h2 : w.heap[T]? = _ := hB
  rw [h2] at h1
  simp only [Option.some.injEq,Obj.cells.injEq] at h1
  exact absurd h1.2.1 (by decide)
 by_cases h0 : L.length = 0
 ·have hnil : L = [] := List.length_eq_zero_iff.1 h0
  subst hnil
  have b7 := hB.cells.2.2.2.2.2.2.2.1
  rw [hXc] at b7
  have HC : Hid (OwnCli w lo 45 X.c (tellX [] k F)) := hc
  clear hp hO hc hA hXc h0 hB
  go_enter Tryz.func77,Tryz.ntmps77
  go_wp2_with fail
  go_loopw [6, 14] (fun _ i wr => Box (i = .int .i64 0 ∧ wr = w)) (fun _ _ _ => 0)
  case atStart => exact ⟨⟨rfl,rfl⟩⟩
  case round =>
   obtain ⟨rfl,hw⟩ := hrel.out
   subst hw
   go_wp2_with fail
   exact bodyPost_end (results_none rfl _ _ _) rfl ⟨rfl,Tch.of_below (Below.refl _ _),HC.out⟩
 obtain ⟨G,hG,hGs,hGl⟩ : ∃ G,a = some ⟨G, 0,none⟩ ∧ G < w.heap.size ∧ lo ≤ G := by
  have h := hc
  rw [hXc] at h
  exact row7_addr h (by omega)
 subst hG
 have hTG : ¬ (T = G) := fun e => hT (by rw [hXc,e]; rfl)
 have HP : Hid (∀ (W : World) (L' : List Cli) (j : Nat) (hj : j < L'.length),L'.length = L.length → Tch (fun b => b = G) w W → OwnCli W lo 45 X.c L' → Calls Tryz.prog g (#[.pointer (some ⟨G,j * 7,none⟩)] ++ lb) W fun e w' => e = .returned (.tuple #[]) ∧ Tch (fun b => b = G) W w' ∧ OwnCli w' lo 45 X.c (L'.set j (F L'[j]))) := fun W L' j hj hl ht ho => hp W G c L' j hj (by rw [hl]; exact hXc) ht ho
 have HBX : Hid (∀ W,Tch (fun b => b = G) w W → W.cell? ⟨T, 7,none⟩ = some (.slice (some ⟨G, 0,none⟩) L.length c)) := fun W ht => by
  have h := (hB.kept (ht.2 T hB.lt hTG)).cells.2.2.2.2.2.2.2.1
  rw [hXc] at h
  exact h
 have b7 := HBX.out w (Tch.of_below (Below.refl _ _))
 have HXC : Hid (X.c = .slice (some ⟨G, 0,none⟩) L.length c) := hXc
 have HOB : Hid (∀ b,X.c.ownBlock = some b ↔ b = G) := fun b => by rw [hXc]; simp [Value.ownBlock]; exact eq_comm
 have HC0 : Hid (OwnCli w lo 45 X.c L) := hc
 clear hp hO hc hA hXc hB hle hT hTG hGs hGl hL
 go_enter Tryz.func77,Tryz.ntmps77
 go_wp2_with fail
 clear b7
 go_loopw [6, 14] (fun _ i wr => Box (∃ n : Nat,n ≤ L.length ∧ i = .int .i64 n ∧ Tch (fun b => b = G) w wr ∧ OwnCli wr lo 45 X.c (tellTo L k F n)))
  (fun _ i _ => L.length - (intOf i).toNat)
 case atStart => exact ⟨⟨0,by omega,rfl,Tch.of_below (Below.refl _ _),by rw [tellTo_zero]; exact HC0.out⟩⟩
 case round =>
  obtain ⟨n,hn,rfl,ht,ho⟩ := hrel.out
  obtain ⟨wo,hwo⟩ : ∃ wo,wo = wr := ⟨_,rfl⟩
  subst hwo
  have HT : Hid (Tch (fun b => b = G) w wo) := ht
  have HO : Hid (OwnCli wo lo 45 X.c (tellTo L k F n)) := ho
  have b7 := HBX.out wo ht
  clear hrel ht ho
  by_cases hlt : n < L.length
  ·have ho' := HO.out
   rw [HXC.out] at ho'
   have hce := ho'.cellP n (by rw [tellTo_len]; exact hlt)
   rw [tellTo_at L k F n hlt] at hce
   obtain ⟨x,hx⟩ : ∃ x,L[n] = x := ⟨_,rfl⟩
   rw [hx] at hce
   obtain ⟨q0,q1,q2,q3,q4,q5,q6⟩ := hce
   have HX : Hid (tellTo L k F (n + 1) = (tellTo L k F n).set n (tellF k F x)) := by show _ = _; rw [tellTo_succ L k F n hlt,hx]
   have cP := HP.out wo (tellTo L k F n) n (by rw [tellTo_len]; exact hlt) (tellTo_len _ _ _ _) HT.out HO.out
   rw [tellTo_at L k F n hlt,hx] at cP
   have HAT : Hid ((tellTo L k F n).set n x = tellTo L k F n) := by
    show _ = _
    have h1 := tellTo_at L k F n hlt
    rw [← hx, ← h1]
    exact List.set_getElem_self _
   have hi1 : (0 : Int) ≤ (n : Int) := by omega
   have hi3 : (n : Int) < (L.length : Int) := by omega
   have HK : Hid (n < L.length) := hlt
   obtain ⟨y1,hy1⟩ : ∃ b,(x.st == 1) = b := ⟨_,rfl⟩
   obtain ⟨y2,hy2⟩ : ∃ b,(x.fe == (k : Int) + 1) = b := ⟨_,rfl⟩
   have HW : Hid (tellF k F x = if (y1 && y2) = true then F x else x) := by show _ = _; unfold tellF waitsB; rw [hy1,hy2]
   clear ho' hx hlt
   cases y1 with
   | false =>
    have HF : Hid (OwnCli wo lo 45 X.c (tellTo L k F (n + 1))) := by
     show OwnCli _ _ _ _ _
     rw [HX.out,HW.out]
     simp only [Bool.false_and,Bool.false_eq_true,if_false]
     rw [HAT.out]
     exact HO.out
    clear cP
    go_wp2_with fail
    go_roundw
    case rel =>
     try ((repeat apply Exists.intro); refine ⟨?_,rfl⟩)
     exact ⟨⟨n + 1,by have := HK.out; omega,by go_num,HT.out,HF.out⟩⟩
    case measure => have := HK.out; simp [intOf]; omega
   | true =>
    cases y2 with
    | false =>
     have HF : Hid (OwnCli wo lo 45 X.c (tellTo L k F (n + 1))) := by
      show OwnCli _ _ _ _ _
      rw [HX.out,HW.out]
      simp only [Bool.and_false,Bool.false_eq_true,if_false]
      rw [HAT.out]
      exact HO.out
     clear cP
     go_wp2_with fail
     go_roundw
     case rel =>
      try ((repeat apply Exists.intro); refine ⟨?_,rfl⟩)
      exact ⟨⟨n + 1,by have := HK.out; omega,by go_num,HT.out,HF.out⟩⟩
     case measure => have := HK.out; simp [intOf]; omega
    | true =>
     go_wp2_with (go_at_fn g; refine cP.mono ?_; rintro e w2 ⟨rfl,ht2,ho2⟩)
     have HF : Hid (OwnCli w2 lo 45 X.c (tellTo L k F (n + 1))) := by
      show OwnCli _ _ _ _ _
      rw [HX.out,HW.out]
      exact ho2
     have HT2 : Hid (Tch (fun b => b = G) w w2) := HT.out.trans ht2
     clear cP ho2 ht2
     try go_wp2_with fail
     go_roundw
     case rel =>
      try ((repeat apply Exists.intro); refine ⟨?_,rfl⟩)
      exact ⟨⟨n + 1,by have := HK.out; omega,by go_num,HT2.out,HF.out⟩⟩
     case measure => have := HK.out; simp [intOf]; omega
  ·have hi3 : ¬ (n : Int) < (L.length : Int) := by omega
   have HF : Hid (OwnCli wo lo 45 X.c (tellX L k F)) := by
    show OwnCli _ _ _ _ _
    rw [← tellTo_all,show L.length = n by omega]
    exact HO.out
   clear hlt hn
   go_wp2_with fail
   exact bodyPost_end (results_none rfl _ _ _) rfl ⟨rfl,HT.out.weak (fun b hb => (HOB.out b).2 hb),HF.out⟩
end Go.Proofs.YtaahjcljanckaaaGreatDoor
namespace Go.Proofs.YtaahjcljanckaaaGreatDoor
open Go.RowKit
def prCells (f : Int × Int) : List Value := [.int .i64 f.1,.int .i64 f.2]
def prl (L : List (Int × Int)) : List Value := L.flatMap prCells
theorem prl_length (L : List (Int × Int)) : (prl L).length = L.length * 2 := by
 induction L with
 | nil => rfl
 | cons f L ih => simp [prl,prCells] at *; omega
theorem prl_cons (f : Int × Int) (L : List (Int × Int)) : prl (f :: L) = prCells f ++ prl L := by simp [prl]
theorem prl_at : ∀ (L : List (Int × Int)) (j : Nat) (h : j < L.length),(prl L)[2 * j]? = some (.int .i64 L[j].1) ∧ (prl L)[2 * j + 1]? = some (.int .i64 L[j].2)
 | [],j,h => by simp at h
 | f :: L, 0,h => by simp [prl_cons,prCells]
 | f :: L,j + 1,h => by
  have ih := prl_at L j (by simpa using h)
  have e : ∀ k, 2 * (j + 1) + k = (2 * j + k) + 2 := fun k => by omega
  rw [prl_cons]
  refine ⟨?_, ?_⟩
  ·rw [show 2 * (j + 1) = 2 * j + 2 by omega]; simpa [prCells] using ih.1
  ·rw [e 1]; simpa [prCells] using ih.2
theorem prl_set : ∀ (L : List (Int × Int)) (j : Nat) (f : Int × Int),((prl L).set (j * 2) (.int .i64 f.1)).set (j * 2 + 1) (.int .i64 f.2) = prl (L.set j f)
 | [],j,f => by simp [prl]
 | g :: L, 0,f => by simp [prl_cons,prCells]
 | g :: L,j + 1,f => by
  have ih := prl_set L j f
  rw [show (j + 1) * 2 = j * 2 + 1 + 1 by omega,prl_cons,List.set_cons_succ,prl_cons, ← ih]
  simp [prCells]
def PAt (w : World) (a : Option Addr) (L : List (Int × Int)) (B : Nat) : Prop :=
 ∀ j (hj : j < L.length), ∃ g off,a = some ⟨g,off,none⟩ ∧ g < B ∧ w.cell? ⟨g,off + j * 2,none⟩ = some (.int .i64 L[j].1) ∧ w.cell? ⟨g,off + j * 2 + 1,none⟩ = some (.int .i64 L[j].2)
def OwnP (w : World) (base : Nat) (e : TypeId) (v : Value) (L : List (Int × Int)) : Prop := w.ownsRow base e 2 v L.length (prl L)
theorem OwnP.lt {w : World} {base : Nat} {e : TypeId} {v : Value} {L : List (Int × Int)} (h : OwnP w base e v L) (k : Nat) (hk : v.ownBlock = some k) : base ≤ k ∧ k < w.heap.size := World.ownsRow.lt h k hk
theorem OwnP.alloc {w : World} {base : Nat} {e : TypeId} {v : Value} {L : List (Int × Int)} (h : OwnP w base e v L) (o : Obj) : OwnP (w.alloc o) base e v L := World.ownsRow.alloc h o
theorem OwnP.mono {w : World} {base base' : Nat} {e : TypeId} {v : Value} {L : List (Int × Int)} (h : OwnP w base e v L) (hb : base' ≤ base) : OwnP w base' e v L := by
 refine ⟨h.1, ?_⟩
 rcases h.2 with h | ⟨g,cap,cur,hv,hg,rest⟩
 ·exact .inl h
 ·exact .inr ⟨g,cap,cur,hv,Nat.le_trans hb hg,rest⟩
theorem OwnP.kept {w w' : World} {base : Nat} {e : TypeId} {v : Value} {L : List (Int × Int)} (h : OwnP w base e v L) (hk : ∀ k,v.ownBlock = some k → w'.heap[k]? = w.heap[k]?) : OwnP w' base e v L := by
 refine ⟨h.1, ?_⟩
 rcases h.2 with hn | ⟨g,cap,cur,rfl,hb,hg,rest⟩
 ·exact .inl hn
 ·exact .inr ⟨g,cap,cur,rfl,hb,by rw [hk g rfl]; exact hg,rest⟩
theorem OwnP.below {w w' : World} {B base : Nat} {e : TypeId} {v : Value} {L : List (Int × Int)} (h : OwnP w base e v L) (hb : Below B w w') (hB : w.heap.size ≤ B) : OwnP w' base e v L :=
 h.kept fun k hk => hb.block k (Nat.lt_of_lt_of_le (h.lt k hk).2 hB)
theorem OwnP.grown {w w' : World} {row : Option Nat} {base : Nat} {e : TypeId} {v : Value} {L : List (Int × Int)} (h : OwnP w base e v L) (hb : w.grownBy w' row) (hne : ∀ k,v.ownBlock = some k → row ≠ some k) : OwnP w' base e v L :=
 h.kept fun k hk => hb.block k (h.lt k hk).2 (fun e => hne k hk e.symm)
theorem OwnP.at {w : World} {base : Nat} {e : TypeId} {v : Value} {L : List (Int × Int)} (h : OwnP w base e v L) : ∃ a cap,v = .slice a L.length cap ∧ PAt w a L w.heap.size := by
 have h0 := h
 rcases h.2 with ⟨rfl,hn⟩ | ⟨g,cap,cur,rfl,hb,hg,h1,h2,h3,h4⟩
 ·have hx : L = [] := List.length_eq_zero_iff.1 hn
  subst hx
  exact ⟨none, 0,rfl,fun j hj => by simp at hj⟩
 ·have hgs := (Array.getElem?_eq_some_iff.1 hg).1
  refine ⟨_,_,rfl,fun j hj => ⟨g, 0,rfl,hgs, ?_⟩⟩
  have := prl_at L j hj
  rw [World.ownsRow.cellAt h0 (0 + j * 2) (by omega),World.ownsRow.cellAt h0 (0 + j * 2 + 1) (by omega)]
  rw [show 0 + j * 2 = 2 * j by omega]
  exact this
theorem OwnP.there {w : World} {base : Nat} {e : TypeId} {g n cap : Nat} {L : List (Int × Int)} (h : OwnP w base e (.slice (some ⟨g, 0,none⟩) n cap) L) (hn : n = L.length) (i : Nat) : w.frozen? ⟨g,i,none⟩ = false := by
 subst hn
 exact World.ownsRow.frozenAt h i
theorem OwnP.stored {w : World} {base : Nat} {e : TypeId} {g n cap : Nat} {L : List (Int × Int)} (h : OwnP w base e (.slice (some ⟨g, 0,none⟩) n cap) L) (hn : n = L.length) (j : Nat) (f : Int × Int) :
  OwnP ((w.setCell ⟨g,j * 2,none⟩ (.int .i64 f.1)).setCell ⟨g,j * 2 + 1,none⟩ (.int .i64 f.2)) base e (.slice (some ⟨g, 0,none⟩) n cap) (L.set j f) ∧
   w.grownBy ((w.setCell ⟨g,j * 2,none⟩ (.int .i64 f.1)).setCell ⟨g,j * 2 + 1,none⟩ (.int .i64 f.2)) (some g) := by
 subst hn
 have h0 := World.ownsRow.stored h (j * 2) (.int .i64 f.1)
 have h1 := World.ownsRow.stored h0.1 (j * 2 + 1) (.int .i64 f.2)
 rw [prl_set] at h1
 refine ⟨?_,grownBy_trans h0.2 (h1.2)⟩
 unfold OwnP
 rw [List.length_set]
 exact h1.1
theorem prl_one' (L : List (Int × Int)) : ∀ u ∈ prl L,u.oneCell' = true := by
 intro u hu
 simp only [prl,List.mem_flatMap,prCells,List.mem_cons,List.not_mem_nil,or_false] at hu
 obtain ⟨f,_,rfl | rfl⟩ := hu <;> rfl
theorem PAt.below {w w' : World} {a : Option Addr} {L : List (Int × Int)} {B B' : Nat} (h : PAt w a L B) (hb : Below B' w w') (hB : B ≤ B') : PAt w' a L B := by
 intro j hj
 obtain ⟨g,off,ha,hg,h0,h1⟩ := h j hj
 have hl := Nat.lt_of_lt_of_le hg hB
 exact ⟨g,off,ha,hg,(hb.cell hl).trans h0,(hb.cell hl).trans h1⟩
theorem PAt.on {w w' : World} {a : Option Addr} {L : List (Int × Int)} (h : PAt w a L w.heap.size) (hb : Below w.heap.size w w') : PAt w' a L w'.heap.size := by
 intro j hj
 obtain ⟨g,off,ha,hg,r⟩ := (h.below hb (Nat.le_refl _)) j hj
 exact ⟨g,off,ha,Nat.lt_of_lt_of_le hg hb.size,r⟩
structure Stm where
 st : Int
 text : ByteArray
 rd : List (Int × Int)
def inI (n a b : Int) : Bool := decide (a ≤ n ∧ n ≤ b)
def rdOkTo (t : Nat) (l : List (Int × Int)) (k : Nat) : Bool := (List.range k).all fun i => inI (l.getD i (0, 0)).1 1 9 && !(decide (0 < i) && decide ((l.getD i (0, 0)).1 ≤ (l.getD (i - 1) (0, 0)).1)) && inI (l.getD i (0, 0)).2 0 t
def okM (S : Stm) : Bool := rdOkTo S.text.size S.rd S.rd.length && (inI S.st 1 3 && decide (S.text.size ≤ 400) && decide (S.rd.length ≤ 6))
def putM (S : Stm) (part : ByteArray) : Stm × Bool := if (okM S && decide (S.st = 1) && (decide (1 ≤ part.size) && decide (part.size ≤ 40)) && decide (S.text.size + part.size ≤ 400)) = true then (⟨S.st,S.text ++ part,S.rd⟩,true) else (S,false)
def endM (S : Stm) (broken : Bool) : Stm × Bool := if (okM S && decide (S.st = 1)) = true then (⟨if broken = true then 3 else 2,S.text,S.rd⟩,true) else (S,false)
theorem rdOkTo_succ (t : Nat) (l : List (Int × Int)) (k : Nat) : rdOkTo t l (k + 1) = (rdOkTo t l k && (inI (l.getD k (0, 0)).1 1 9 && !(decide (0 < k) && decide ((l.getD k (0, 0)).1 ≤ (l.getD (k - 1) (0, 0)).1)) && inI (l.getD k (0, 0)).2 0 t)) := by
 unfold rdOkTo
 rw [List.range_succ,List.all_append]
 simp
theorem rdOkTo_down (t : Nat) (l : List (Int × Int)) {k : Nat} : ∀ n,k ≤ n → rdOkTo t l k = false → rdOkTo t l n = false
 | 0,hk,h => by
  have : k = 0 := by omega
  rw [← this]
  exact h
 | n + 1,hk,h => by
  by_cases e : k = n + 1
  ·rw [← e]; exact h
  ·rw [rdOkTo_succ,rdOkTo_down t l n (by omega) h]; rfl
def MBox (w : World) (T : Nat) (a b c : Value) : Prop := w.heap[T]? = some (.cells #[a,b,c] 105 (0, 0))
theorem MBox.lt {w : World} {T : Nat} {a b c : Value} (h : MBox w T a b c) : T < w.heap.size := (Array.getElem?_eq_some_iff.1 h).1
theorem MBox.new (w : World) (a b c : Value) : MBox (w.alloc (.cells #[a,b,c] 105)) w.heap.size a b c := heap_alloc_new w _
theorem MBox.kept {w w' : World} {T : Nat} {a b c : Value} (h : MBox w T a b c) (hk : w'.heap[T]? = w.heap[T]?) : MBox w' T a b c := hk.trans h
theorem MBox.on {w w' : World} {T : Nat} {a b c : Value} (h : MBox w T a b c) (hb : Below w.heap.size w w') : MBox w' T a b c := h.kept (hb.block T h.lt)
theorem MBox.thaw {w : World} {T : Nat} {a b c : Value} (h : MBox w T a b c) (i : Nat) : w.frozen? ⟨T,i,none⟩ = false := by
 unfold MBox at h
 simp [World.frozen?,h]
theorem MBox.cells {w : World} {T : Nat} {a b c : Value} (h : MBox w T a b c) : w.cell? ⟨T, 0,none⟩ = some a ∧ w.cell? ⟨T, 1,none⟩ = some b ∧ w.cell? ⟨T, 2,none⟩ = some c := by
 unfold MBox at h
 refine ⟨?_, ?_, ?_⟩
 ·rw [cell_of_row w T 0 _ _ (0, 0) h]; rfl
 ·rw [cell_of_row w T 1 _ _ (0, 0) h]; rfl
 ·rw [cell_of_row w T 2 _ _ (0, 0) h]; rfl
theorem MBox.set0 {w : World} {T : Nat} {a b c : Value} (h : MBox w T a b c) (x : Value) : MBox (w.setCell ⟨T, 0,none⟩ x) T x b c := by
 unfold MBox at *
 simp only [World.setCell,Array.getElem?_modify,h]
 simp
theorem MBox.set1 {w : World} {T : Nat} {a b c : Value} (h : MBox w T a b c) (x : Value) : MBox (w.setCell ⟨T, 1,none⟩ x) T a x c := by
 unfold MBox at *
 simp only [World.setCell,Array.getElem?_modify,h]
 simp
theorem MBox.set2 {w : World} {T : Nat} {a b c : Value} (h : MBox w T a b c) (x : Value) : MBox (w.setCell ⟨T, 2,none⟩ x) T a b x := by
 unfold MBox at *
 simp only [World.setCell,Array.getElem?_modify,h]
 simp
theorem MBox.put {w : World} {T : Nat} {a b c : Value} (h : MBox w T a b c) (x y z : Value) : MBox (((w.setCell ⟨T, 0,none⟩ x).setCell ⟨T, 1,none⟩ y).setCell ⟨T, 2,none⟩ z) T x y z := ((h.set0 x).set1 y).set2 z
theorem put3_otherM (w : World) (T : Nat) (x y z : Value) (k : Nat) (hk : k ≠ T) : (((w.setCell ⟨T, 0,none⟩ x).setCell ⟨T, 1,none⟩ y).setCell ⟨T, 2,none⟩ z).heap[k]? = w.heap[k]? := by
 rw [Below.heap_setCell _ _ _ _ (by exact hk),Below.heap_setCell _ _ _ _ (by exact hk),Below.heap_setCell _ _ _ _ (by exact hk)]
theorem Below.put3M {B : Nat} {a w : World} (h : Below B a w) {T : Nat} (hT : B ≤ T) (x y z : Value) : Below B a (((w.setCell ⟨T, 0,none⟩ x).setCell ⟨T, 1,none⟩ y).setCell ⟨T, 2,none⟩ z) := ((h.setCell hT x).setCell hT y).setCell hT z
def MOwn (w : World) (lo : Nat) (v : Value) (S : Stm) : Prop := ∃ v1,v = .agg #[.int .i64 S.st,.string S.text,v1] ∧ OwnP w lo 198 v1 S.rd
theorem MOwn.at {w : World} {lo : Nat} {v : Value} {S : Stm} (h : MOwn w lo v S) : ∃ a c,v = .agg #[.int .i64 S.st,.string S.text,.slice a S.rd.length c] ∧ PAt w a S.rd w.heap.size := by
 obtain ⟨v1,rfl,h1⟩ := h
 obtain ⟨a,c,rfl,hA⟩ := h1.at
 exact ⟨a,c,rfl,hA⟩
theorem MOwn.mono {w : World} {lo lo' : Nat} {v : Value} {S : Stm} (h : MOwn w lo v S) (hl : lo' ≤ lo) : MOwn w lo' v S := by
 obtain ⟨v1,rfl,h1⟩ := h
 exact ⟨v1,rfl,h1.mono hl⟩
theorem MOwn.below {w w' : World} {B lo : Nat} {v : Value} {S : Stm} (h : MOwn w lo v S) (hb : Below B w w') (hB : w.heap.size ≤ B) : MOwn w' lo v S := by
 obtain ⟨v1,rfl,h1⟩ := h
 exact ⟨v1,rfl,h1.below hb hB⟩
theorem ownP_type {w : World} {lo : Nat} {e : TypeId} {u : Value} {L : List (Int × Int)} (ho : OwnP w lo e u L) : ∀ k,u.ownBlock = some k → ∃ cs,w.heap[k]? = some (.cells cs e (0, 0)) := by
 intro k hk
 rcases ho.2 with ⟨rfl,_⟩ | ⟨g,cap,cur,rfl,_,hg,_⟩
 ·simp [Value.ownBlock] at hk
 ·simp [Value.ownBlock] at hk
  subst hk
  exact ⟨_,hg⟩
theorem MOwn.box {w w' : World} {lo T : Nat} {a b c v : Value} {S : Stm} (h : MOwn w lo v S) (hB : MBox w T a b c) (hk : ∀ k,k ≠ T → w'.heap[k]? = w.heap[k]?) : MOwn w' lo v S := by
 obtain ⟨v1,rfl,h1⟩ := h
 refine ⟨v1,rfl,h1.kept fun k hk' => hk k fun e => ?_⟩
 subst e
 obtain ⟨cs,hc⟩ := ownP_type h1 k hk'
 unfold MBox at hB
 rw [hB] at hc
 simp only [Option.some.injEq,Obj.cells.injEq] at hc
 exact absurd hc.2.1 (by decide)
theorem MOwn.put3 {w : World} {lo T : Nat} {a b c v : Value} {S : Stm} (h : MOwn w lo v S) (hB : MBox w T a b c) (x y z : Value) : MOwn (((w.setCell ⟨T, 0,none⟩ x).setCell ⟨T, 1,none⟩ y).setCell ⟨T, 2,none⟩ z) lo v S := h.box hB fun k hk => put3_otherM w T x y z k hk
end Go.Proofs.YtaahjcljanckaaaGreatDoor
namespace Go.Proofs.YtaahjcljanckaaaGreatDoor
open Go.RowKit Go.Sort
def fetAt (R : Prx) (k : Nat) : Fet := R.fes.getD k zFet
def turnB (R : Prx) (k : Int) : Bool := okX R && (decide (0 ≤ k) && decide (k < (R.fes.length : Int)))
def stmOf (f : Fet) : Stm := ⟨f.st,f.tx, []⟩
def partP (R : Prx) (k : Nat) (part : ByteArray) : Prx := ⟨R.now,R.ents,R.pol,R.fes.set k ((fetAt R k).turn (putM (stmOf (fetAt R k)) part).1.text (putM (stmOf (fetAt R k)) part).1.st),tellX R.cls k (fun c => c.w_got (putM (stmOf (fetAt R k)) part).1.text),R.hits⟩
def partR (R : Prx) (k : Int) (part : ByteArray) : Prx × Bool := if (turnB R k && (putM (stmOf (fetAt R k.toNat)) part).2) = true then (partP R k.toNat part,true) else (R,false)
theorem putM_size (S : Stm) (part : ByteArray) (h1 : S.text.size ≤ 1048576) : (putM S part).1.text.size ≤ 1048576 := by
 unfold putM
 split
 ·rename_i h
  simp only [Bool.and_eq_true,decide_eq_true_eq] at h
  show (S.text ++ part).size ≤ _
  rw [ByteArray.size_append]; omega
 ·show S.text.size ≤ _
  omega
theorem fet_sz {R : Prx} (h : PxSz R) (k : Nat) : (fetAt R k).tx.size ≤ 1048576 := by
 unfold fetAt
 by_cases hk : k < R.fes.length
 ·rw [getD_of hk]; exact (h.fes _ (List.getElem_mem hk)).2
 ·rw [List.getD_eq_getElem?_getD,List.getElem?_eq_none (by omega)]; exact Nat.zero_le _
theorem stmCell0 {w : World} {N : Nat} {t : TypeId} {a b c : Value} (h : w.heap[N]? = some (.cells #[a,b,c] t (0, 0))) : w.cell? ⟨N, 0,none⟩ = some a := by rw [cell_of_row w N 0 _ _ (0, 0) h]; rfl
theorem stmCell1 {w : World} {N : Nat} {t : TypeId} {a b c : Value} (h : w.heap[N]? = some (.cells #[a,b,c] t (0, 0))) : w.cell? ⟨N, 1,none⟩ = some b := by rw [cell_of_row w N 1 _ _ (0, 0) h]; rfl
theorem stmCell2 {w : World} {N : Nat} {t : TypeId} {a b c : Value} (h : w.heap[N]? = some (.cells #[a,b,c] t (0, 0))) : w.cell? ⟨N, 2,none⟩ = some c := by rw [cell_of_row w N 2 _ _ (0, 0) h]; rfl
theorem stmThaw {w : World} {N : Nat} {t : TypeId} {a b c : Value} (h : w.heap[N]? = some (.cells #[a,b,c] t (0, 0))) (i : Nat) : w.frozen? ⟨N,i,none⟩ = false := by simp [World.frozen?,h]
theorem stmPut {w : World} {N : Nat} {t : TypeId} {a b c : Value} (h : w.heap[N]? = some (.cells #[a,b,c] t (0, 0))) (x y z : Value) : (((w.setCell ⟨N, 0,none⟩ x).setCell ⟨N, 1,none⟩ y).setCell ⟨N, 2,none⟩ z).heap[N]? = some (.cells #[x,y,z] t (0, 0)) := by
 simp only [World.setCell,Array.getElem?_modify,h]
 simp
theorem stmBelow {B : Nat} {a w : World} (h : Below B a w) {T : Nat} (hT : B ≤ T) (x y z : Value) : Below B a (((w.setCell ⟨T, 0,none⟩ x).setCell ⟨T, 1,none⟩ y).setCell ⟨T, 2,none⟩ z) := ((h.setCell hT x).setCell hT y).setCell hT z
theorem HallAt.out {w : World} {lo T : Nat} {X : Pc} {R : Prx} (H : HallAt w lo T X R) : PxOwn w lo w.heap.size X R := H.own
theorem Tryz.infoRdr : (Tryz.prog.info? 198).map (fun i => (i.zero,i.size,i.bytes)) = some (some (.agg #[.int .i64 0,.int .i64 0]), 2, 16) := by kernel_rfl
theorem step_allR {P : Program} {ops : Array Oper} {o : Oper} {a : Act} {K : Act → World → Prop} {Q : Exit → Act → World → Prop} {E' : Prop} {w : World} (hgd : o.guard = none) (s x : Operand) (t : TypeId)
  (ho : o.op = .call { callee := .builtin .append,args := #[s,x],argTypes := #[t,t] }) (e : TypeId) (ht : P.underlying t = some (.slice e)) (z : Value) (size bytes : Nat)
  (hinfo : (P.info? e).map (fun i => (i.zero,i.size,i.bytes)) = some (some z,size,bytes)) (hzs : z.cells.size = size) (hsz : 0 < size) (hby : bytes ≤ 1000)
  (G : Nat) (hs : a.eval s = .slice (some ⟨G, 0,none⟩) 0 0) (hG : w.heap[G]? = some (.cells #[] e (0, 0)))
  (a0 : Option Addr) (n cap : Nat) (news : List Value) (hx : a.eval x = .slice a0 n cap) (hl : news.length = n * size) (hnone : a0 = none → n = 0) (hnews : ∀ ad,a0 = some ad → ∀ j u,news[j]? = some u → w.cell? (ad.add j) = some u) (h1 : ∀ u ∈ news,u.oneCell' = true) (hn : n ≤ 1048576)
  (h : ∀ g c w',w'.ownsRow G e size (.slice (some ⟨g, 0,none⟩) n c) n news → Below G w w' → (g = G ∨ w.heap.size ≤ g) → (∀ k,k < w.heap.size → k ≠ G → w'.heap[k]? = w.heap[k]?) → K (a.put o.dst (.slice (some ⟨g, 0,none⟩) n c)) w') :
  if Region.wanted o (yielded ops a.tmps) = true then Oper.wp P o a w K Q else E' := by
 obtain ⟨i0,hi,hz0,hz1,hz2⟩ := info_parts hinfo
 have hGs : G < w.heap.size := (Array.getElem?_eq_some_iff.1 hG).1
 by_cases h0 : n = 0
 ·subst h0
  have hnil : news = [] := List.length_eq_zero_iff.1 (by simpa using hl)
  subst hnil
  have hw : Region.wanted o (yielded ops a.tmps) = true := by simp [Region.wanted,hgd]
  rw [if_pos hw]
  have hrun : (Builtin.append_ #[t,t] o.type #[.slice (some ⟨G, 0,none⟩) 0 0,.slice a0 0 cap]).run P w = .ok (.slice (some ⟨G, 0,none⟩) 0 0) w := by
   cases a0 with
   | none => simp [Builtin.append_,run_underlying ht,sizeOf,typeInfo,hi,Builtin.lenOf,Builtin.firstCells,storeCells]
   | some ad =>
    have hld := run_loadCells_list (P := P) w ad [] (fun j u hu => by simp at hu)
    simp at hld
    simp [Builtin.append_,run_underlying ht,sizeOf,typeInfo,hi,Builtin.lenOf,Builtin.firstCells,storeCells,hld]
  unfold Oper.wp
  simp [execOp,ho,resolve,invoke,builtin,hs,hx,hrun,Result.andThen]
  exact h G 0 w ⟨by simp,.inr ⟨G, 0,#[],rfl,Nat.le_refl _,hG,Nat.le_refl _,by simp [maxLen],by simp,by simp⟩⟩ (Below.refl _ _) (.inl rfl) (fun _ _ _ => rfl)
 ·obtain ⟨ad,rfl⟩ : ∃ ad,a0 = some ad := by
   cases a0 with
   | none => exact absurd (hnone rfl) h0
   | some ad => exact ⟨ad,rfl⟩
  have hown : w.ownsRow G e size (.slice (some ⟨G, 0,none⟩) 0 0) 0 [] := ⟨by simp,.inr ⟨G, 0,#[],rfl,Nat.le_refl _,hG,Nat.le_refl _,by simp [maxLen],by simp,by simp⟩⟩
  have hbs : (0 + n) * bytes ≤ 140737488355328 := by
   have : (0 + n) * bytes ≤ 1048576 * 1000 := by rw [Nat.zero_add]; exact Nat.mul_le_mul hn hby
   omega
  refine step_append_lies w hgd s x t ho G e i0 z size bytes ht hi hz0 hz1 hz2 hzs hsz _ 0 [] hs hown ad n cap news hx hl (hnews ad rfl) h1 (by omega) (by unfold maxLen; omega) hbs (by omega) w.heap.size rfl ?_
  intro g c w' ho' hgr hg hgl
  rw [Nat.zero_add,List.nil_append] at ho'
  rw [Nat.zero_add]
  refine h g c w' ho' ((Below.refl _ w).grown hgr (by omega) (fun k e => by cases e; exact Nat.le_refl _)) ?_ (fun k hk hne => hgr.block k hk (fun e => hne (by cases e; rfl)))
  rcases hg with hg | hg
  ·left; cases hg; rfl
  ·right; omega
theorem PAt.srcR {w : World} {a0 : Option Addr} {l : List (Int × Int)} {B : Nat} (h : PAt w a0 l B) : (a0 = none → l.length = 0) ∧ ∀ ad,a0 = some ad → ∀ j u,(prl l)[j]? = some u → w.cell? (ad.add j) = some u := by
 refine ⟨fun e => ?_,fun ad e j u hu => ?_⟩
 ·cases l with
  | nil => rfl
  | cons x r => obtain ⟨g,off,ha,_⟩ := h 0 (by simp); rw [e] at ha; cases ha
 ·obtain ⟨hj,_⟩ := List.getElem?_eq_some_iff.1 hu
  rw [prl_length] at hj
  obtain ⟨g,off,ha,_,hc0,hc1⟩ := h (j / 2) (by omega)
  rw [e] at ha
  simp only [Option.some.injEq] at ha
  subst ha
  have hat := prl_at l (j / 2) (by omega)
  rw [Addr.add_mid]
  rcases (by omega : j % 2 = 0 ∨ j % 2 = 1) with h | h
  ·have e : j = 2 * (j / 2) := by omega
   rw [e,hat.1] at hu
   rw [show off + j = off + j / 2 * 2 by omega,hc0]
   exact hu
  ·have e : j = 2 * (j / 2) + 1 := by omega
   rw [e,hat.2] at hu
   rw [show off + j = off + j / 2 * 2 + 1 by omega,hc1]
   exact hu
theorem bplusR {a b : World} (h : Below a.heap.size a b) (o : Obj) : Below a.heap.size a (b.alloc o) := h.alloc h.size o
theorem ballocR {n : Nat} {a b : World} (h : Below n a b) (hn : n ≤ a.heap.size) (o : Obj) : Below n a (b.alloc o) := h.alloc (Nat.le_trans hn h.size) o
end Go.Proofs.YtaahjcljanckaaaGreatDoor
namespace Go.Proofs
abbrev Tryz.muLink : Go.Conc.Locks.MuLink := { lock := 135,unlock := 136,ilock := 138,iunlock := 139,lockSlow := 144,unlockSlow := 147,disable := 140,enable := 142,acquire := 143,relMerge := 145,cas32 := 141,add32 := 146,tMutex := 191,tIMutex := 189,tPMutex := 196,tPIMutex := 199,tPI32 := 201,tUP := 203,tNoCopy := 187,tU32 := 152 }
theorem Tryz.muLib : Go.Conc.Locks.MuLib Tryz.prog Tryz.muLink :=
 ⟨Tryz.func135,Tryz.func136,Tryz.func138,Tryz.func139,Tryz.func140,Tryz.func142,Tryz.func143,Tryz.func145,Tryz.func141,Tryz.func146,Tryz.underlying189,Tryz.runUnderlying189,Tryz.sizeOf189,Tryz.isAgg189,Tryz.zeroValue189,Tryz.underlying191,Tryz.runUnderlying191,Tryz.sizeOf191,Tryz.isAgg191,Tryz.zeroValue191,Tryz.underlying196,Tryz.runUnderlying196,Tryz.sizeOf196,Tryz.isAgg196,Tryz.zeroValue196,Tryz.underlying199,Tryz.runUnderlying199,Tryz.sizeOf199,Tryz.isAgg199,Tryz.zeroValue199,Tryz.underlying201,Tryz.runUnderlying201,Tryz.sizeOf201,Tryz.isAgg201,Tryz.zeroValue201,Tryz.underlying203,Tryz.runUnderlying203,Tryz.sizeOf203,Tryz.isAgg203,Tryz.zeroValue203,Tryz.underlying187,Tryz.runUnderlying187,Tryz.sizeOf187,Tryz.isAgg187,Tryz.zeroValue187,Tryz.underlying21,Tryz.runUnderlying21,Tryz.sizeOf21,Tryz.isAgg21,Tryz.zeroValue21,(by kernel_rfl)⟩
end Go.Proofs
namespace Go.Proofs.YtaahjcljanckaaaGreatDoor
open Go.RowKit Go.Sort Go.MuLone
def HBox (w : World) (B : Nat) (l : Int) (st : Int) (t : ByteArray) (v : Value) : Prop := w.heap[B]? = some (.cells #[.int .i32 l,.int .u32 0,.int .i64 st,.string t,v] 193 (0, 0))
theorem HBox.lt {w : World} {B : Nat} {l st : Int} {t : ByteArray} {v : Value} (h : HBox w B l st t v) : B < w.heap.size := (Array.getElem?_eq_some_iff.1 h).1
theorem HBox.kept {w w' : World} {B : Nat} {l st : Int} {t : ByteArray} {v : Value} (h : HBox w B l st t v) (hk : w'.heap[B]? = w.heap[B]?) : HBox w' B l st t v := hk.trans h
theorem HBox.on {w w' : World} {B : Nat} {l st : Int} {t : ByteArray} {v : Value} (h : HBox w B l st t v) (hb : Below w.heap.size w w') : HBox w' B l st t v := h.kept (hb.block B h.lt)
theorem HBox.thaw {w : World} {B : Nat} {l st : Int} {t : ByteArray} {v : Value} (h : HBox w B l st t v) (i : Nat) : w.frozen? ⟨B,i,none⟩ = false := by
 unfold HBox at h
 simp [World.frozen?,h]
theorem HBox.lock {w : World} {B : Nat} {l st : Int} {t : ByteArray} {v : Value} (h : HBox w B l st t v) : w.cell? ⟨B, 0,none⟩ = some (.int .i32 l) := by
 unfold HBox at h
 rw [cell_of_row w B 0 _ _ (0, 0) h]; rfl
theorem HBox.cells {w : World} {B : Nat} {l st : Int} {t : ByteArray} {v : Value} (h : HBox w B l st t v) : w.cell? ⟨B, 2,none⟩ = some (.int .i64 st) ∧ w.cell? ⟨B, 3,none⟩ = some (.string t) ∧ w.cell? ⟨B, 4,none⟩ = some v := by
 unfold HBox at h
 refine ⟨?_, ?_, ?_⟩
 ·rw [cell_of_row w B 2 _ _ (0, 0) h]; rfl
 ·rw [cell_of_row w B 3 _ _ (0, 0) h]; rfl
 ·rw [cell_of_row w B 4 _ _ (0, 0) h]; rfl
theorem HBox.setL {w : World} {B : Nat} {l st : Int} {t : ByteArray} {v : Value} (h : HBox w B l st t v) (x : Int) : HBox (w.setCell ⟨B, 0,none⟩ (.int .i32 x)) B x st t v := by
 unfold HBox at *
 simp only [World.setCell,Array.getElem?_modify,h]
 simp
theorem HBox.setS {w : World} {B : Nat} {l st : Int} {t : ByteArray} {v : Value} (h : HBox w B l st t v) (x : Int) : HBox (w.setCell ⟨B, 2,none⟩ (.int .i64 x)) B l x t v := by
 unfold HBox at *
 simp only [World.setCell,Array.getElem?_modify,h]
 simp
theorem HBox.setT {w : World} {B : Nat} {l st : Int} {t : ByteArray} {v : Value} (h : HBox w B l st t v) (x : ByteArray) : HBox (w.setCell ⟨B, 3,none⟩ (.string x)) B l st x v := by
 unfold HBox at *
 simp only [World.setCell,Array.getElem?_modify,h]
 simp
theorem tch_set {S : Nat → Prop} (w : World) (B i : Nat) (x : Value) (hS : S B) : Tch S w (w.setCell ⟨B,i,none⟩ x) := ⟨⟨rfl,rfl,rfl,by simp [World.setCell],fun _ hk => absurd hk (Nat.not_lt_zero _)⟩,fun k _ hn => Below.heap_setCell _ _ _ _ (show k ≠ B from fun e => hn (e ▸ hS))⟩
structure Held (w0 : World) (B : Nat) (l : Int) (S : Stm) (v : Value) (w : World) : Prop where
 below : Below w0.heap.size w0 w
 hB : w0.heap.size ≤ B
 box : HBox w B l S.st S.text v
 own : OwnP w w0.heap.size 198 v S.rd
theorem ownP_notHeld {w : World} {lo B : Nat} {l st : Int} {t : ByteArray} {v u : Value} {L : List (Int × Int)} (ho : OwnP w lo 198 u L) (hB : HBox w B l st t v) : ∀ k,u.ownBlock = some k → k ≠ B := by
 intro k hk e
 subst e
 obtain ⟨cs,hc⟩ := ownP_type ho k hk
 unfold HBox at hB
 rw [hB] at hc
 simp only [Option.some.injEq,Obj.cells.injEq] at hc
 exact absurd hc.2.1 (by decide)
theorem ownP_notBox {w : World} {lo T : Nat} {a b c u : Value} {L : List (Int × Int)} (ho : OwnP w lo 198 u L) (hB : MBox w T a b c) : ∀ k,u.ownBlock = some k → k ≠ T := by
 intro k hk e
 subst e
 obtain ⟨cs,hc⟩ := ownP_type ho k hk
 unfold MBox at hB
 rw [hB] at hc
 simp only [Option.some.injEq,Obj.cells.injEq] at hc
 exact absurd hc.2.1 (by decide)
theorem Held.on {w0 : World} {B : Nat} {l : Int} {S : Stm} {v : Value} {w w' : World} (h : Held w0 B l S v w) (hb : Below w.heap.size w w') : Held w0 B l S v w' := ⟨h.below.trans (hb.mono h.below.size),h.hB,h.box.on hb,h.own.below hb (Nat.le_refl _)⟩
theorem Held.stTo {w0 : World} {B : Nat} {l : Int} {S : Stm} {v : Value} {w : World} (h : Held w0 B l S v w) (x : Int) : Held w0 B l ⟨x,S.text,S.rd⟩ v (w.setCell ⟨B, 2,none⟩ (.int .i64 x)) :=
 ⟨h.below.setCell h.hB _,h.hB,h.box.setS x,h.own.kept fun k hk => Below.heap_setCell _ _ _ _ (show k ≠ B from ownP_notHeld h.own h.box k hk)⟩
theorem Held.textTo {w0 : World} {B : Nat} {l : Int} {S : Stm} {v : Value} {w : World} (h : Held w0 B l S v w) (x : ByteArray) : Held w0 B l ⟨S.st,x,S.rd⟩ v (w.setCell ⟨B, 3,none⟩ (.string x)) :=
 ⟨h.below.setCell h.hB _,h.hB,h.box.setT x,h.own.kept fun k hk => Below.heap_setCell _ _ _ _ (show k ≠ B from ownP_notHeld h.own h.box k hk)⟩
theorem Held.at {w0 : World} {B : Nat} {l : Int} {S : Stm} {v : Value} {w : World} (h : Held w0 B l S v w) : ∃ a c,v = .slice a S.rd.length c ∧ PAt w a S.rd w.heap.size := h.own.at
set_option maxRecDepth 100000 in
set_option maxHeartbeats 4000000 in
theorem change_any (g : Nat) (lb : Array Value) (eg : ∀ args w,(callFunc g args).run Tryz.prog w = .ok (.enter g args) w) (w : World) (B : Nat) (st : Int) (t : ByteArray) (v : Value) (hB : HBox w B 0 st t v) (Q : Bool → Int → ByteArray → Value → World → Prop)
  (hf : ∀ W,HBox W B 1 st t v → MBox W w.heap.size (.int .i64 0) (.string ⟨#[]⟩) (.slice none 0 0) → Tch (fun k => k = B) w W → Calls Tryz.prog g (#[.pointer (some ⟨B, 2,none⟩)] ++ lb) W fun e w' => ∃ ok st' t' a' n' c',e = .returned (.bool ok) ∧ HBox w' B 1 st' t' (.slice a' n' c') ∧ MBox w' w.heap.size (.int .i64 0) (.string ⟨#[]⟩) (.slice none 0 0) ∧ Q ok st' t' (.slice a' n' c') w') :
  Calls Tryz.prog 132 #[.pointer (some ⟨B, 0,none⟩),.func (.func g) #[] lb] w fun e w' => ∃ ok st' t' v' w2,e = .returned (.tuple #[.agg #[.int .i64 st',.string t',v'],.bool ok]) ∧ Q ok st' t' v' w2 ∧ HBox w2 B 1 st' t' v' ∧ MBox w2 w.heap.size (.int .i64 0) (.string ⟨#[]⟩) (.slice none 0 0) ∧ Tch (fun k => k = B ∨ k = w.heap.size) w2 w' ∧ HBox w' B 0 st' t' v' := by
 have hBn : B < w.heap.size := hB.lt
 obtain ⟨w1,hw1⟩ : ∃ x,w.alloc (.cells #[.int .i64 0,.string ⟨#[]⟩,.slice none 0 0] 105) = x := ⟨_,rfl⟩
 have hb1 : Below w.heap.size w w1 := by rw [← hw1]; exact (Below.refl _ _).alloc (Nat.le_refl _) _
 have hR1 : MBox w1 w.heap.size (.int .i64 0) (.string ⟨#[]⟩) (.slice none 0 0) := by rw [← hw1]; exact MBox.new _ _ _ _
 have hB1 : HBox w1 B 0 st t v := hB.on hb1
 have HW : Hid (w.alloc (.cells #[.int .i64 0,.string ⟨#[]⟩,.slice none 0 0] 105) = w1) := hw1
 have c0 := hf (w1.setCell ⟨B, 0,none⟩ (.int .i32 1)) (hB1.setL 1) (hR1.kept (Below.heap_setCell _ _ _ _ (show w.heap.size ≠ B by omega))) ((Tch.of_below hb1).trans (tch_set _ _ _ _ rfl))
 have hl := hB1.lock
 have hz := hB1.thaw 0
 clear hw1 hb1 hR1 hB1 hf hB
 go_enter_defers Tryz.func132,Tryz.ntmps132
 go_wp2_with fail
 rw [HW.out]
 refine (lock_free Tryz.muLib ⟨B, 0,none⟩ _ hl hz).mono ?_
 rintro e wx ⟨rfl,rfl⟩
 go_wp2_with (go_at_fn g; refine c0.mono ?_; rintro e w2 ⟨ok,st',t',a',n',c',rfl,hB2,hR2,hQ⟩; obtain ⟨x2,x3,x4⟩ := hB2.cells; obtain ⟨r0,r1,r2⟩ := hR2.cells; obtain ⟨f0,f1,f2⟩ := (⟨hR2.thaw 0,hR2.thaw 1,hR2.thaw 2⟩ : _ ∧ _ ∧ _))
 have hk3 : ∀ k,k ≠ w.heap.size → (((w2.setCell ⟨w.heap.size, 0,none⟩ (.int .i64 st')).setCell ⟨w.heap.size, 1,none⟩ (.string t')).setCell ⟨w.heap.size, 2,none⟩ (.slice a' n' c')).heap[k]? = w2.heap[k]? := fun k hk => put3_otherM _ _ _ _ _ k hk
 have hB3 : HBox (((w2.setCell ⟨w.heap.size, 0,none⟩ (.int .i64 st')).setCell ⟨w.heap.size, 1,none⟩ (.string t')).setCell ⟨w.heap.size, 2,none⟩ (.slice a' n' c')) B 1 st' t' (.slice a' n' c') := hB2.kept (hk3 B (by omega))
 obtain ⟨q0,q1,q2⟩ := (hR2.put (.int .i64 st') (.string t') (.slice a' n' c')).cells
 refine leaves_cons (f := 136) (args := #[.pointer (some ⟨B, 0,none⟩)]) (by simp) (by simp [go_sem]) ?_
 refine (unlock_deferred Tryz.muLib ⟨B, 0,none⟩ .returning _ hB3.lock (hB3.thaw 0)).mono ?_
 rintro e u' w3 ⟨rfl,rfl,rfl⟩
 have k0 : ((((w2.setCell ⟨w.heap.size, 0,none⟩ (.int .i64 st')).setCell ⟨w.heap.size, 1,none⟩ (.string t')).setCell ⟨w.heap.size, 2,none⟩ (.slice a' n' c')).setCell ⟨B, 0,none⟩ (.int .i32 0)).heap[w.heap.size]? = (((w2.setCell ⟨w.heap.size, 0,none⟩ (.int .i64 st')).setCell ⟨w.heap.size, 1,none⟩ (.string t')).setCell ⟨w.heap.size, 2,none⟩ (.slice a' n' c')).heap[w.heap.size]? := Below.heap_setCell _ _ _ _ (show w.heap.size ≠ B by omega)
 obtain ⟨y0,y1,y2⟩ := ((hR2.put (.int .i64 st') (.string t') (.slice a' n' c')).kept k0).cells
 refine ⟨_,by simp [results,Tryz.results132,go_sem,y0,y1,y2],ok,st',t',_,w2,rfl,hQ,hB2,hR2, ?_,hB3.setL 0⟩
 exact (((tch_set _ _ _ _ (Or.inr rfl)).trans (tch_set _ _ _ _ (Or.inr rfl))).trans (tch_set _ _ _ _ (Or.inr rfl))).trans (tch_set _ _ _ _ (Or.inl rfl))
end Go.Proofs.YtaahjcljanckaaaGreatDoor
