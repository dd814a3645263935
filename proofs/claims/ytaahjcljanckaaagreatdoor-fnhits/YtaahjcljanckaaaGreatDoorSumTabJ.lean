/- Texts that stand in one: SumTab, PolBase, Strs, PolKit, SkLaw2. -/
import Derived.Test.YtaahjcljanckaaaGreatDoorCards
import Derived.Test.YtaahjcljanckaaaGreatDoorTie
import Derived.Test.YtaahjcljanckaaaGreatDoorRowStepJ
import Derived.WalkKit
import Derived.ProofKit
import Derived.OpenShut
import Derived.OpenVars
import Derived.Deep.DeepHandedRow
import Derived.Lib.LaidTab
import Derived.Stop.LaidErr
import Derived.ShutString
import Derived.Test.YtaahjcljanckaaaGreatDoorSkBaseJ
import Derived.Test.YtaahjcljanckaaaGreatDoorSkFlatJ
namespace Go.Proofs.YtaahjcljanckaaaGreatDoor
open Go.ChangeShapes Go.WideShapes Go.ChangeAt Go.RowKit
theorem card_own : ownKnob Tryz.prog.godebug = none := by kernel_rfl
theorem gFourType : (Tryz.prog.globals[1]?).map (·.type) = some 165 := by kernel_rfl
theorem cellsFour : Tryz.prog.cellsOf 165 = 16 := by kernel_rfl
theorem cellsU32 : Tryz.prog.cellsOf 152 = 1 := by kernel_rfl
theorem fourData : Rows.laid_loop_example_g00245_impl_fourSteps (H := Unit) = Lib.tabData .u32 (sumTab.map fun (n : Nat) => (n : Int)) := by kernel_rfl
theorem laidOut : laidOutB Tryz.prog = true := by kernel_rfl
theorem varsRows : varsRowed Tryz.prog ["loop.example/g00245/impl.fourSteps"] = true := by kernel_rfl
theorem tab_of {W : World} (h : laidMetH Tryz.prog [("loop.example/g00245/impl.fourSteps",Rows.laid_loop_example_g00245_impl_fourSteps)] W) : Tab W := by
 have h2 : laidMet Tryz.prog [("loop.example/g00245/impl.fourSteps",Rows.laid_loop_example_g00245_impl_fourSteps)] W := h
 rw [fourData] at h2
 exact Lib.tabIs_of_head gFour gFourType Tryz.underlying165 Tryz.underlying152 cellsU32 cellsFour h2
def putCells (cs : Array Value) : Obj → Obj
 | .cells _ t frozen => .cells cs t frozen
 | o => o
def fourCells : Array Value := ([0, 1166650509, 2333301018, 3466261911, 3189058079, 4221339282, 889615109, 1888477064, 3558460437, 2442158232, 1594529039, 444807554, 1779230218, 797264519, 3776954128, 2761298845].map fun z => Value.int .u32 z).toArray
end Go.Proofs.YtaahjcljanckaaaGreatDoor
namespace Go.Proofs.YtaahjcljanckaaaGreatDoor
open Go.RowKit
structure Pol where
 win : List ByteArray
 main : List ByteArray
 sk : Sk
def noKey : ByteArray := ⟨#[]⟩
def inL (l : List ByteArray) (s : ByteArray) : Bool := l.any fun z => decide (z = s)
def keyOk (s : ByteArray) : Bool := decide (1 ≤ s.size ∧ s.size ≤ 30)
def listOkTo (l : List ByteArray) (k : Nat) : Bool := (List.range k).all fun i => keyOk (l.getD i noKey) && !inL (l.take i) (l.getD i noKey)
def listOk (l : List ByteArray) : Bool := listOkTo l l.length
def okP (P : Pol) : Bool := listOk (P.win ++ P.main) && (decide (P.win.length ≤ 2) && decide (P.main.length ≤ 4) && okK P.sk)
def hasP (P : Pol) (key : ByteArray) : Bool := inL P.win key || inL P.main key
def without (l : List ByteArray) (s : ByteArray) : List ByteArray := l.filter fun z => !decide (z = s)
def dropP (P : Pol) (key : ByteArray) : Pol := ⟨without P.win key,without P.main key,P.sk⟩
def newP : Pol := ⟨[], [],newS⟩
theorem inL_iff {l : List ByteArray} {s : ByteArray} : inL l s = true ↔ s ∈ l := by
 unfold inL
 rw [List.any_eq_true]
 constructor
 ·rintro ⟨z,hz,e⟩
  simp only [decide_eq_true_eq] at e
  rw [← e]
  exact hz
 ·intro h
  exact ⟨s,h,by simp⟩
theorem inL_false {l : List ByteArray} {s : ByteArray} : inL l s = false ↔ s ∉ l := by
 rw [← inL_iff]
 simp
theorem without_mem {l : List ByteArray} {s z : ByteArray} : z ∈ without l s ↔ z ∈ l ∧ z ≠ s := by
 unfold without
 rw [List.mem_filter]
 simp
theorem without_none {l : List ByteArray} {s : ByteArray} (h : s ∉ l) : without l s = l := by
 unfold without
 rw [List.filter_eq_self]
 intro z hz
 simp only [Bool.not_eq_true',decide_eq_false_iff_not]
 intro e
 rw [e] at hz
 exact h hz
theorem nodup_snoc {l : List ByteArray} {z : ByteArray} : (l ++ [z]).Nodup ↔ l.Nodup ∧ z ∉ l := by
 rw [List.nodup_append]
 constructor
 ·rintro ⟨h1,_,h3⟩
  exact ⟨h1,fun hz => h3 z hz z (by simp) rfl⟩
 ·rintro ⟨h1,h2⟩
  refine ⟨h1,by simp,fun a ha b hb e => ?_⟩
  rw [List.mem_singleton] at hb
  rw [hb] at e
  rw [e] at ha
  exact h2 ha
theorem listOkTo_iff (l : List ByteArray) : ∀ k,k ≤ l.length → (listOkTo l k = true ↔ (∀ z ∈ l.take k,keyOk z = true) ∧ (l.take k).Nodup)
 | 0,_ => by simp [listOkTo]
 | k + 1,hk => by
  have ih := listOkTo_iff l k (by omega)
  have hlt : k < l.length := by omega
  have hg : l.getD k noKey = l[k] := by simp [List.getD_eq_getElem?_getD,hlt]
  have e : listOkTo l (k + 1) = (listOkTo l k && (keyOk l[k] && !inL (l.take k) l[k])) := by
   unfold listOkTo
   rw [List.range_succ,List.all_append]
   simp only [List.all_cons,List.all_nil,Bool.and_true,hg]
  rw [e,Bool.and_eq_true,ih,Bool.and_eq_true,Bool.not_eq_true',inL_false,List.take_succ_eq_append_getElem hlt,nodup_snoc]
  constructor
  ·rintro ⟨⟨h1,h2⟩,h3,h4⟩
   refine ⟨fun z hz => ?_,h2,h4⟩
   rcases List.mem_append.1 hz with hz | hz
   ·exact h1 z hz
   ·rw [List.mem_singleton.1 hz]; exact h3
  ·rintro ⟨h1,h2,h3⟩
   exact ⟨⟨fun z hz => h1 z (List.mem_append_left _ hz),h2⟩,h1 _ (List.mem_append_right _ (List.mem_singleton.2 rfl)),h3⟩
theorem listOk_iff {l : List ByteArray} : listOk l = true ↔ (∀ z ∈ l,keyOk z = true) ∧ l.Nodup := by
 have := listOkTo_iff l l.length (Nat.le_refl _)
 rw [List.take_length] at this
 exact this
theorem okP_iff {P : Pol} : okP P = true ↔ (∀ z ∈ P.win,keyOk z = true) ∧ (∀ z ∈ P.main,keyOk z = true) ∧ P.win.Nodup ∧ P.main.Nodup ∧ (∀ z ∈ P.win,z ∉ P.main) ∧ P.win.length ≤ 2 ∧ P.main.length ≤ 4 ∧ okK P.sk = true := by
 unfold okP
 simp only [Bool.and_eq_true,decide_eq_true_eq]
 rw [listOk_iff,List.nodup_append]
 constructor
 ·rintro ⟨⟨h1,h2,h3,h4⟩,⟨h5,h6⟩,h7⟩
  exact ⟨fun z hz => h1 z (List.mem_append_left _ hz),fun z hz => h1 z (List.mem_append_right _ hz),h2,h3,fun z hz hm => h4 z hz z hm rfl,h5,h6,h7⟩
 ·rintro ⟨h1,h2,h3,h4,h5,h6,h7,h8⟩
  refine ⟨⟨fun z hz => ?_,h3,h4,fun a ha b hb e => h5 a ha (by rw [e]; exact hb)⟩,⟨h6,h7⟩,h8⟩
  rcases List.mem_append.1 hz with hz | hz
  ·exact h1 z hz
  ·exact h2 z hz
theorem without_length {l : List ByteArray} {s : ByteArray} (h : l.Nodup) (hs : s ∈ l) : (without l s).length + 1 = l.length := by
 induction l with
 | nil => simp at hs
 | cons a r ih =>
  rw [List.nodup_cons] at h
  by_cases e : a = s
  ·subst e
   have hn : without r a = r := without_none h.1
   have : without (a :: r) a = without r a := by simp [without]
   rw [this,hn]
   simp
  ·have hr : s ∈ r := by
    rcases List.mem_cons.1 hs with h1 | h1
    ·exact absurd h1.symm e
    ·exact h1
   have : without (a :: r) s = a :: without r s := by simp [without,e]
   rw [this,List.length_cons,List.length_cons,ih h.2 hr]
theorem without_nodup {l : List ByteArray} {s : ByteArray} (h : l.Nodup) : (without l s).Nodup := h.filter _
theorem keyOk_ne {z : ByteArray} (h : keyOk z = true) : z ≠ noKey := by
 rintro rfl
 simp [keyOk,noKey,ByteArray.size] at h
def LAt (w : World) (a : Option Addr) (L : List ByteArray) (B : Nat) : Prop :=
 ∀ j (hj : j < L.length), ∃ g off,a = some ⟨g,off,none⟩ ∧ g < B ∧ w.cell? ⟨g,off + j,none⟩ = some (.string L[j])
theorem LAt.below {w w' : World} {a : Option Addr} {L : List ByteArray} {B B' : Nat} (h : LAt w a L B) (hb : Below B' w w') (hB : B ≤ B') : LAt w' a L B := by
 intro j hj
 obtain ⟨g,off,ha,hg,h1⟩ := h j hj
 exact ⟨g,off,ha,hg,(hb.cell (Nat.lt_of_lt_of_le hg hB)).trans h1⟩
theorem LAt.mono {w : World} {a : Option Addr} {L : List ByteArray} {B B' : Nat} (h : LAt w a L B) (hB : B ≤ B') : LAt w a L B' := by
 intro j hj
 obtain ⟨g,off,ha,hg,r⟩ := h j hj
 exact ⟨g,off,ha,Nat.lt_of_lt_of_le hg hB,r⟩
theorem LAt.on {w w' : World} {a : Option Addr} {L : List ByteArray} (h : LAt w a L w.heap.size) (hb : Below w.heap.size w w') : LAt w' a L w'.heap.size := (h.below hb (Nat.le_refl _)).mono hb.size
theorem OwnV.strsAt {w : World} {base : Nat} {e : TypeId} {v : Value} {L : List ByteArray} (h : OwnV w base e v (strs L)) : ∃ a cap,v = .slice a L.length cap ∧ LAt w a L w.heap.size := by
 obtain ⟨a,cap,hv,hc⟩ := h.shape
 rw [strs_length] at hv
 refine ⟨a,cap,hv,fun j hj => ?_⟩
 obtain ⟨g,ha,hcell,_,_,hg⟩ := hc j (by rw [strs_length]; exact hj)
 rw [strs_at hj] at hcell
 exact ⟨g, 0,ha,hg,by simpa using hcell⟩
def PBox (w : World) (T : Nat) (a b c d : Value) : Prop := w.heap[T]? = some (.cells #[a,b,c,d] 32 (0, 0))
theorem PBox.lt {w : World} {T : Nat} {a b c d : Value} (h : PBox w T a b c d) : T < w.heap.size := (Array.getElem?_eq_some_iff.1 h).1
theorem PBox.new (w : World) (a b c d : Value) : PBox (w.alloc (.cells #[a,b,c,d] 32)) w.heap.size a b c d := heap_alloc_new w _
theorem PBox.kept {w w' : World} {T : Nat} {a b c d : Value} (h : PBox w T a b c d) (hk : w'.heap[T]? = w.heap[T]?) : PBox w' T a b c d := hk.trans h
theorem PBox.on {w w' : World} {T : Nat} {a b c d : Value} (h : PBox w T a b c d) (hb : Below w.heap.size w w') : PBox w' T a b c d := h.kept (hb.block T h.lt)
theorem PBox.thaw {w : World} {T : Nat} {a b c d : Value} (h : PBox w T a b c d) (i : Nat) : w.frozen? ⟨T,i,none⟩ = false := by
 unfold PBox at h
 simp [World.frozen?,h]
theorem PBox.cells {w : World} {T : Nat} {a b c d : Value} (h : PBox w T a b c d) : w.cell? ⟨T, 0,none⟩ = some a ∧ w.cell? ⟨T, 1,none⟩ = some b ∧ w.cell? ⟨T, 2,none⟩ = some c ∧ w.cell? ⟨T, 3,none⟩ = some d := by
 unfold PBox at h
 refine ⟨?_, ?_, ?_, ?_⟩
 ·rw [cell_of_row w T 0 _ _ (0, 0) h]; rfl
 ·rw [cell_of_row w T 1 _ _ (0, 0) h]; rfl
 ·rw [cell_of_row w T 2 _ _ (0, 0) h]; rfl
 ·rw [cell_of_row w T 3 _ _ (0, 0) h]; rfl
theorem PBox.set0 {w : World} {T : Nat} {a b c d : Value} (h : PBox w T a b c d) (x : Value) : PBox (w.setCell ⟨T, 0,none⟩ x) T x b c d := by
 unfold PBox at *
 simp only [World.setCell,Array.getElem?_modify,h]
 simp
theorem PBox.set1 {w : World} {T : Nat} {a b c d : Value} (h : PBox w T a b c d) (x : Value) : PBox (w.setCell ⟨T, 1,none⟩ x) T a x c d := by
 unfold PBox at *
 simp only [World.setCell,Array.getElem?_modify,h]
 simp
theorem PBox.set2 {w : World} {T : Nat} {a b c d : Value} (h : PBox w T a b c d) (x : Value) : PBox (w.setCell ⟨T, 2,none⟩ x) T a b x d := by
 unfold PBox at *
 simp only [World.setCell,Array.getElem?_modify,h]
 simp
theorem PBox.set3 {w : World} {T : Nat} {a b c d : Value} (h : PBox w T a b c d) (x : Value) : PBox (w.setCell ⟨T, 3,none⟩ x) T a b c x := by
 unfold PBox at *
 simp only [World.setCell,Array.getElem?_modify,h]
 simp
def put4 (w : World) (T : Nat) (x y z u : Value) : World := (((w.setCell ⟨T, 0,none⟩ x).setCell ⟨T, 1,none⟩ y).setCell ⟨T, 2,none⟩ z).setCell ⟨T, 3,none⟩ u
theorem PBox.put {w : World} {T : Nat} {a b c d : Value} (h : PBox w T a b c d) (x y z u : Value) : PBox ((((w.setCell ⟨T, 0,none⟩ x).setCell ⟨T, 1,none⟩ y).setCell ⟨T, 2,none⟩ z).setCell ⟨T, 3,none⟩ u) T x y z u := (((h.set0 x).set1 y).set2 z).set3 u
theorem put4_other (w : World) (T : Nat) (x y z u : Value) (k : Nat) (hk : k ≠ T) : ((((w.setCell ⟨T, 0,none⟩ x).setCell ⟨T, 1,none⟩ y).setCell ⟨T, 2,none⟩ z).setCell ⟨T, 3,none⟩ u).heap[k]? = w.heap[k]? := by
 rw [Below.heap_setCell _ _ _ _ (by exact hk),Below.heap_setCell _ _ _ _ (by exact hk),Below.heap_setCell _ _ _ _ (by exact hk),Below.heap_setCell _ _ _ _ (by exact hk)]
theorem Below.put4 {B : Nat} {a w : World} (h : Below B a w) {T : Nat} (hT : B ≤ T) (x y z u : Value) : Below B a ((((w.setCell ⟨T, 0,none⟩ x).setCell ⟨T, 1,none⟩ y).setCell ⟨T, 2,none⟩ z).setCell ⟨T, 3,none⟩ u) := (((h.setCell hT x).setCell hT y).setCell hT z).setCell hT u
theorem PBox.far {w : World} {T T' : Nat} {a b c d : Value} (h : PBox w T a b c d) (i : Nat) (x : Value) (hn : T ≠ T') : PBox (w.setCell ⟨T',i,none⟩ x) T a b c d := h.kept (Below.heap_setCell _ _ _ _ (by exact hn))
def PolAt (w : World) (aw am ak : Option Addr) (P : Pol) (B : Nat) : Prop := LAt w aw P.win B ∧ LAt w am P.main B ∧ SSAt w ak P.sk.rows B
theorem PolAt.on {w w' : World} {aw am ak : Option Addr} {P : Pol} (h : PolAt w aw am ak P w.heap.size) (hb : Below w.heap.size w w') : PolAt w' aw am ak P w'.heap.size := ⟨h.1.on hb,h.2.1.on hb,h.2.2.on hb⟩
theorem PolAt.below {w w' : World} {aw am ak : Option Addr} {P : Pol} {B B' : Nat} (h : PolAt w aw am ak P B) (hb : Below B' w w') (hB : B ≤ B') : PolAt w' aw am ak P B := ⟨h.1.below hb hB,h.2.1.below hb hB,h.2.2.below hb hB⟩
def POwn (w : World) (lo hi : Nat) (v : Value) (P : Pol) : Prop :=
 ∃ v1 v2 v3,v = .agg #[v1,v2,v3,.int .i64 P.sk.added] ∧ OwnV w lo 9 v1 (strs P.win) ∧ OwnV w lo 9 v2 (strs P.main) ∧ (∀ k,v1.ownBlock = some k → k < hi ∧ v2.ownBlock ≠ some k) ∧ (∀ k,v2.ownBlock = some k → k < hi) ∧ OwnSS w lo hi v3 P.sk.rows
theorem POwn.at {w : World} {lo hi : Nat} {v : Value} {P : Pol} (h : POwn w lo hi v P) : ∃ aw cw am cm ak cs,v = .agg #[.slice aw P.win.length cw,.slice am P.main.length cm,.slice ak P.sk.rows.length cs,.int .i64 P.sk.added] ∧ PolAt w aw am ak P w.heap.size := by
 obtain ⟨v1,v2,v3,rfl,h1,h2,_,_,h3⟩ := h
 obtain ⟨aw,cw,rfl,hw⟩ := h1.strsAt
 obtain ⟨am,cm,rfl,hm⟩ := h2.strsAt
 obtain ⟨ak,cs,rfl,hs⟩ := h3.at
 exact ⟨aw,cw,am,cm,ak,cs,rfl,hw,hm,hs⟩
theorem POwn.mono {w : World} {lo hi lo' hi' : Nat} {v : Value} {P : Pol} (h : POwn w lo hi v P) (h1 : lo' ≤ lo) (h2 : hi ≤ hi') : POwn w lo' hi' v P := by
 obtain ⟨v1,v2,v3,rfl,a1,a2,a3,a4,a5⟩ := h
 exact ⟨v1,v2,v3,rfl,a1.mono h1,a2.mono h1,fun k hk => ⟨Nat.lt_of_lt_of_le (a3 k hk).1 h2,(a3 k hk).2⟩,fun k hk => Nat.lt_of_lt_of_le (a4 k hk) h2,a5.mono h1 h2⟩
theorem POwn.up {w : World} {lo hi : Nat} {v : Value} {P : Pol} (h : POwn w lo hi v P) : POwn w lo w.heap.size v P := by
 obtain ⟨v1,v2,v3,rfl,a1,a2,a3,a4,a5⟩ := h
 exact ⟨v1,v2,v3,rfl,a1,a2,fun k hk => ⟨(a1.lt k hk).2,(a3 k hk).2⟩,fun k hk => (a2.lt k hk).2,a5.up⟩
theorem ownV_type {w : World} {lo : Nat} {e : TypeId} {u : Value} {xs : List Value} (ho : OwnV w lo e u xs) : ∀ k,u.ownBlock = some k → ∃ cs,w.heap[k]? = some (.cells cs e (0, 0)) := by
 intro k hk
 rcases ho.2 with ⟨rfl,_⟩ | ⟨g,cap,cur,rfl,_,hg,_⟩
 ·simp [Value.ownBlock] at hk
 ·simp [Value.ownBlock] at hk
  subst hk
  exact ⟨_,hg⟩
theorem POwn.kept {w w' : World} {lo hi : Nat} {v : Value} {P : Pol} (h : POwn w lo hi v P) (hk : ∀ k,lo ≤ k → k < hi → k < w.heap.size → (∀ c,w.heap[k]? = some c → ∃ cs e,c = .cells cs e (0, 0) ∧ e ≠ 32) → w'.heap[k]? = w.heap[k]?) : POwn w' lo hi v P := by
 obtain ⟨v1,v2,v3,rfl,a1,a2,a3,a4,a5⟩ := h
 refine ⟨v1,v2,v3,rfl,a1.kept fun k hk' => hk k (a1.lt k hk').1 (a3 k hk').1 (a1.lt k hk').2 fun c hc => ?_,a2.kept fun k hk' => hk k (a2.lt k hk').1 (a4 k hk') (a2.lt k hk').2 fun c hc => ?_,a3,a4,a5.kept fun k h1 h2 h3 h4 => hk k h1 h2 h3 fun c hc => ?_⟩
 ·obtain ⟨cs,e⟩ := ownV_type a1 k hk'
  rw [e] at hc
  exact ⟨cs, 9,(Option.some.inj hc).symm,by decide⟩
 ·obtain ⟨cs,e⟩ := ownV_type a2 k hk'
  rw [e] at hc
  exact ⟨cs, 9,(Option.some.inj hc).symm,by decide⟩
 ·rcases h4 c hc with ⟨cs,e⟩ | ⟨cs,e⟩
  ·exact ⟨cs,_,e,by decide⟩
  ·exact ⟨cs,_,e,by decide⟩
theorem POwn.below {w w' : World} {B lo hi : Nat} {v : Value} {P : Pol} (h : POwn w lo hi v P) (hb : Below B w w') (hB : w.heap.size ≤ B) : POwn w' lo hi v P := h.kept fun k _ _ hk _ => hb.block k (Nat.lt_of_lt_of_le hk hB)
theorem POwn.tch {S : Nat → Prop} {w w' : World} {lo hi : Nat} {v : Value} {P : Pol} (h : POwn w lo hi v P) (ht : Tch S w w') (hn : ∀ k,S k → k < lo ∨ hi ≤ k) : POwn w' lo hi v P := h.kept fun k h1 h2 hk _ => ht.2 k hk (fun e => by have := hn k e; omega)
theorem POwn.box {w w' : World} {lo hi T : Nat} {a b c d v : Value} {P : Pol} (h : POwn w lo hi v P) (hB : PBox w T a b c d) (hk : ∀ k,k ≠ T → w'.heap[k]? = w.heap[k]?) : POwn w' lo hi v P :=
 h.kept fun k _ _ _ hty => hk k (fun e => by
  subst e
  obtain ⟨cs,e,h1,h2⟩ := hty _ hB
  simp only [Obj.cells.injEq] at h1
  exact h2 h1.2.1.symm)
theorem POwn.put4 {w : World} {lo hi T : Nat} {a b c d v : Value} {P : Pol} (h : POwn w lo hi v P) (hB : PBox w T a b c d) (x y z u : Value) : POwn ((((w.setCell ⟨T, 0,none⟩ x).setCell ⟨T, 1,none⟩ y).setCell ⟨T, 2,none⟩ z).setCell ⟨T, 3,none⟩ u) lo hi v P := h.box hB fun k hk => put4_other w T x y z u k hk
end Go.Proofs.YtaahjcljanckaaaGreatDoor
namespace Go.Proofs.YtaahjcljanckaaaGreatDoor
open Go.RowKit Go.Sort
def SkSz (S : Sk) : Prop := S.rows.length + tot S.rows S.rows.length ≤ 1048576
end Go.Proofs.YtaahjcljanckaaaGreatDoor
