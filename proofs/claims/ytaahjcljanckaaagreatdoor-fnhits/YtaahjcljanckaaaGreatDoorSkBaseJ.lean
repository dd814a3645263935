/- Texts that stand in one: SkBase, Bytes, Rowed, Base, Ints, Touch, SkKit. -/
import Derived.WalkKit
import Derived.Laws.IdiomStrings
import Derived.Deep.AppendLies
import Derived.Laws.OwnMore
import Derived.Test.YtaahjcljanckaaaGreatDoorChecked
import Derived.Lib.QuietBelow
import Derived.BigQuiet
namespace Go.Proofs.YtaahjcljanckaaaGreatDoor
open Go.RowKit
structure Sk where
 rows : List (List Int)
 added : Int
def numOk (z : Int) : Bool := decide (0 ≤ z ∧ z ≤ 15)
def rowOk (r : List Int) : Bool := decide (r.length = 16) && r.all numOk
def headOkK (S : Sk) : Bool := decide (S.rows.length = 3) && decide (0 ≤ S.added ∧ S.added ≤ 63)
def okK (S : Sk) : Bool := headOkK S && S.rows.all rowOk
def newS : Sk := ⟨List.replicate 3 (List.replicate 16 0), 0⟩
theorem rowOk_len {r : List Int} (h : rowOk r = true) : r.length = 16 := by
 unfold rowOk at h
 simp only [Bool.and_eq_true,decide_eq_true_eq] at h
 exact h.1
theorem rowOk_at {r : List Int} (h : rowOk r = true) (p : Nat) (hp : p < 16) : 0 ≤ r.getD p 0 ∧ r.getD p 0 ≤ 15 := by
 have hl := rowOk_len h
 unfold rowOk at h
 simp only [Bool.and_eq_true,List.all_eq_true] at h
 have h2 := h.2 r[p] (List.getElem_mem (by omega))
 simp only [numOk,decide_eq_true_eq] at h2
 rw [List.getD_eq_getElem?_getD,List.getElem?_eq_getElem (by omega)]
 exact h2
theorem list3S {l : List (List Int)} (h : l.length = 3) : ∃ a b c,l = [a,b,c] := by
 match l,h with
 | [a,b,c],_ => exact ⟨a,b,c,rfl⟩
theorem okK_parts {S : Sk} (h : okK S = true) : ∃ a b c,S.rows = [a,b,c] ∧ rowOk a = true ∧ rowOk b = true ∧ rowOk c = true ∧ 0 ≤ S.added ∧ S.added ≤ 63 := by
 unfold okK headOkK at h
 simp only [Bool.and_eq_true,decide_eq_true_eq,List.all_eq_true] at h
 obtain ⟨⟨h1,h2⟩,h3⟩ := h
 obtain ⟨a,b,c,e⟩ := list3S h1
 rw [e] at h3
 exact ⟨a,b,c,e,h3 a (by simp),h3 b (by simp),h3 c (by simp),h2.1,h2.2⟩
theorem okK_mk {a b c : List Int} {n : Int} (ha : rowOk a = true) (hb : rowOk b = true) (hc : rowOk c = true) (h0 : 0 ≤ n) (h1 : n ≤ 63) : okK ⟨[a,b,c],n⟩ = true := by
 simp [okK,headOkK,ha,hb,hc,h0,h1]
theorem newS_ok : okK newS = true := by decide
structure Box (p : Prop) : Prop where
 out : p
theorem ret_int {k : IntKind} {a b : Int} (h : a = b) : Ending.returned (.int k a) = .returned (.int k b) := by rw [h]
def OwnV (w : World) (base : Nat) (e : TypeId) (v : Value) (xs : List Value) : Prop := w.ownsRow base e 1 v xs.length xs
theorem OwnV.alloc {w : World} {base : Nat} {e : TypeId} {v : Value} {xs : List Value} (h : OwnV w base e v xs) (o : Obj) : OwnV (w.alloc o) base e v xs := World.ownsRow.alloc h o
theorem OwnV.lt {w : World} {base : Nat} {e : TypeId} {v : Value} {xs : List Value} (h : OwnV w base e v xs) (k : Nat) (hk : v.ownBlock = some k) : base ≤ k ∧ k < w.heap.size := World.ownsRow.lt h k hk
theorem OwnV.mono {w : World} {base base' : Nat} {e : TypeId} {v : Value} {xs : List Value} (h : OwnV w base e v xs) (hb : base' ≤ base) : OwnV w base' e v xs := by
 refine ⟨h.1, ?_⟩
 rcases h.2 with h | ⟨g,cap,cur,hv,hg,rest⟩
 ·exact .inl h
 ·exact .inr ⟨g,cap,cur,hv,Nat.le_trans hb hg,rest⟩
theorem OwnV.kept {w w' : World} {base : Nat} {e : TypeId} {v : Value} {xs : List Value} (h : OwnV w base e v xs) (hk : ∀ k,v.ownBlock = some k → w'.heap[k]? = w.heap[k]?) : OwnV w' base e v xs := by
 refine ⟨h.1, ?_⟩
 rcases h.2 with hn | ⟨g,cap,cur,rfl,hb,hg,rest⟩
 ·exact .inl hn
 ·exact .inr ⟨g,cap,cur,rfl,hb,by rw [hk g rfl]; exact hg,rest⟩
theorem OwnV.below {w w' : World} {B base : Nat} {e : TypeId} {v : Value} {xs : List Value} (h : OwnV w base e v xs) (hb : Below B w w') (hB : w.heap.size ≤ B) : OwnV w' base e v xs :=
 h.kept fun k hk => hb.block k (Nat.lt_of_lt_of_le (h.lt k hk).2 hB)
theorem OwnV.grown {w w' : World} {row : Option Nat} {base : Nat} {e : TypeId} {v : Value} {xs : List Value} (h : OwnV w base e v xs) (hb : w.grownBy w' row) (hne : ∀ k,v.ownBlock = some k → row ≠ some k) : OwnV w' base e v xs :=
 h.kept fun k hk => hb.block k (h.lt k hk).2 (fun e => hne k hk e.symm)
theorem OwnV.shape {w : World} {base : Nat} {e : TypeId} {v : Value} {xs : List Value} (h : OwnV w base e v xs) :
  ∃ a cap,v = .slice a xs.length cap ∧ ∀ j (hj : j < xs.length), ∃ g,a = some ⟨g, 0,none⟩ ∧ w.cell? ⟨g,j,none⟩ = some xs[j] ∧ w.frozen? ⟨g,j,none⟩ = false ∧ base ≤ g ∧ g < w.heap.size := by
 have h0 := h
 rcases h.2 with ⟨rfl,hn⟩ | ⟨g,cap,cur,rfl,hb,hg,rest⟩
 ·have hx : xs = [] := List.length_eq_zero_iff.1 hn
  subst hx
  exact ⟨none, 0,rfl,fun j hj => by simp at hj⟩
 ·refine ⟨_,_,rfl,fun j hj => ⟨g,rfl, ?_,World.ownsRow.frozenAt h0 j,hb,(Array.getElem?_eq_some_iff.1 hg).1⟩⟩
  rw [World.ownsRow.cellAt h0 j (by omega),List.getElem?_eq_getElem hj]
theorem OwnV.nil (w : World) (base : Nat) (e : TypeId) : OwnV w base e (.slice none 0 0) [] := World.ownsRow_nil w base e 1
theorem OwnV.stored {w : World} {base : Nat} {e : TypeId} {g n cap : Nat} {xs : List Value} (h : OwnV w base e (.slice (some ⟨g, 0,none⟩) n cap) xs) (hn : n = xs.length) (j : Nat) (u : Value) :
  OwnV (w.setCell ⟨g,j,none⟩ u) base e (.slice (some ⟨g, 0,none⟩) n cap) (xs.set j u) ∧ w.grownBy (w.setCell ⟨g,j,none⟩ u) (some g) := by
 subst hn
 have := World.ownsRow.stored h j u
 refine ⟨?_,this.2⟩
 unfold OwnV
 rw [List.length_set]
 exact this.1
theorem grownBy_refl (w : World) (row : Option Nat) : w.grownBy w row := ⟨rfl,rfl,rfl,Nat.le_refl _,fun _ _ _ => rfl⟩
theorem grownBy_trans {a b c : World} {row : Option Nat} (h : a.grownBy b row) (k : b.grownBy c row) : a.grownBy c row :=
 ⟨k.os.trans h.os,k.tape.trans h.tape,k.output.trans h.output,Nat.le_trans h.size k.size,fun j hj hr => (k.block j (Nat.lt_of_lt_of_le hj h.size) hr).trans (h.block j hj hr)⟩
theorem grownBy_below {a b : World} {row : Option Nat} (h : Below a.heap.size a b) : a.grownBy b row := ⟨h.os,h.tape,h.output,h.size,fun j hj _ => h.block j hj⟩
theorem wpList_snocV {P : Program} {ops : Array Oper} {rest : List Oper} {o : Oper} {a : Act} {Q : Exit → Act → World → Prop} {wr : World} (hgd : o.guard = none) (s x : Operand) (t : TypeId)
  (ho : o.op = .call { callee := .builtin .append,args := #[s,x],argTypes := #[t,t] }) (base : Nat) (e : TypeId) (ht : P.underlying t = some (.slice e)) (z : Value) (bytes : Nat)
  (hinfo : (P.info? e).map (fun i => (i.zero,i.size,i.bytes)) = some (some z, 1,bytes)) (hz : z.cells.size = 1) (v : Value) (xs : List Value) (hs : a.eval s = v) (hown : OwnV wr base e v xs)
  (y : Value) (hx : a.eval x = .slice (some ⟨wr.heap.size, 0,none⟩) 1 1) (hy : y.oneCell' = true) (hlen : (xs.length + 1) * bytes ≤ 140737488355328) (hlen2 : xs.length < 140737488355328) (hbase : base ≤ wr.heap.size)
  (h : ∀ v' w',OwnV w' base e v' (xs ++ [y]) → v' ≠ .slice none 0 0 → (∀ w0,Below base w0 wr → Below base w0 w') → wr.heap.size ≤ w'.heap.size → wpList P ops Q rest (a.put o.dst v') w') :
  wpList P ops Q (o :: rest) a (wr.alloc (.cells #[y] e)) := by
 obtain ⟨i0,hi,hz0,hz1,hz2⟩ := info_parts hinfo
 refine wpList_append_own _ hgd s x t ho base e i0 z 1 bytes ht hi hz0 hz1 hz2 hz (by decide) v xs.length xs hs (World.ownsRow.alloc hown _) ⟨wr.heap.size, 0,none⟩ 1 1 [y] hx rfl ?_ ?_ ?_ ?_ ?_ ?_
 ·intro j u hj
  match j,hj with
  | 0,hj => simp at hj; subst hj; simp [Addr.add]
 ·intro u hu; simp at hu; subst hu; exact hy
 ·unfold maxLen; omega
 ·exact hlen
 ·simp; omega
 ·intro v' w' h1 h2 h3
  refine h v' w' ?_ (fun hn => by have := h3.1 hn; omega) (fun w0 hb => ?_) ?_
  ·unfold OwnV; simpa using h1
  ·exact Below.grown (hb.alloc hbase _) h2 (by simp; omega) (fun k hk => (World.ownsRow.lt hown k hk).1)
  ·have := h2.size; simp at this; omega
def strs (l : List ByteArray) : List Value := l.map Value.string
theorem strs_length (l : List ByteArray) : (strs l).length = l.length := by simp [strs]
theorem strs_append (l m : List ByteArray) : strs (l ++ m) = strs l ++ strs m := by simp [strs]
theorem strs_at {l : List ByteArray} {j : Nat} (h : j < l.length) : (strs l)[j]'(by rw [strs_length]; exact h) = .string l[j] := by simp [strs]
def ints (l : List Int) : List Value := l.map (Value.int .i64)
theorem ints_length (l : List Int) : (ints l).length = l.length := by simp [ints]
theorem ints_at {l : List Int} {j : Nat} (h : j < l.length) : (ints l)[j]'(by rw [ints_length]; exact h) = .int .i64 l[j] := by simp [ints]
theorem Tryz.info5 : (Tryz.prog.info? 5).map (fun i => (i.zero,i.size,i.bytes)) = some (some (.int .u8 0), 1, 1) := by kernel_rfl
end Go.Proofs.YtaahjcljanckaaaGreatDoor
namespace Go.Proofs.YtaahjcljanckaaaGreatDoor
open Go.RowKit Go.Sort
theorem Tryz.infoInt : (Tryz.prog.info? 3).map (fun i => (i.zero,i.size,i.bytes)) = some (some (.int .i64 0), 1, 8) := by kernel_rfl
def IAt (w : World) (a : Option Addr) (l : List Int) (B : Nat) : Prop :=
 ∀ j (hj : j < l.length), ∃ g off,a = some ⟨g,off,none⟩ ∧ g < B ∧ w.cell? ⟨g,off + j,none⟩ = some (.int .i64 l[j])
theorem IAt.below {w w' : World} {a : Option Addr} {l : List Int} {B B' : Nat} (h : IAt w a l B) (hb : Below B' w w') (hB : B ≤ B') : IAt w' a l B := by
 intro j hj
 obtain ⟨g,off,ha,hg,h1⟩ := h j hj
 exact ⟨g,off,ha,hg,(hb.cell (Nat.lt_of_lt_of_le hg hB)).trans h1⟩
theorem IAt.mono {w : World} {a : Option Addr} {l : List Int} {B B' : Nat} (h : IAt w a l B) (hB : B ≤ B') : IAt w a l B' := by
 intro j hj
 obtain ⟨g,off,ha,hg,r⟩ := h j hj
 exact ⟨g,off,ha,Nat.lt_of_lt_of_le hg hB,r⟩
theorem IAt.on {w w' : World} {a : Option Addr} {l : List Int} (h : IAt w a l w.heap.size) (hb : Below w.heap.size w w') : IAt w' a l w'.heap.size := (h.below hb (Nat.le_refl _)).mono hb.size
theorem OwnV.ints {w : World} {base : Nat} {e : TypeId} {v : Value} {l : List Int} (h : OwnV w base e v (ints l)) : ∃ a cap,v = .slice a l.length cap ∧ IAt w a l w.heap.size := by
 obtain ⟨a,cap,hv,hc⟩ := h.shape
 rw [ints_length] at hv
 refine ⟨a,cap,hv,fun j hj => ?_⟩
 obtain ⟨g,ha,hcell,_,_,hg⟩ := hc j (by rw [ints_length]; exact hj)
 rw [ints_at hj] at hcell
 exact ⟨g, 0,ha,hg,by simpa using hcell⟩
end Go.Proofs.YtaahjcljanckaaaGreatDoor
namespace Go.Proofs.YtaahjcljanckaaaGreatDoor
open Go.RowKit
def Tch (S : Nat → Prop) (w w' : World) : Prop := Below 0 w w' ∧ ∀ k,k < w.heap.size → ¬ S k → w'.heap[k]? = w.heap[k]?
theorem Tch.size {S : Nat → Prop} {w w' : World} (h : Tch S w w') : w.heap.size ≤ w'.heap.size := h.1.size
theorem Tch.of_below {S : Nat → Prop} {w w' : World} (h : Below w.heap.size w w') : Tch S w w' := ⟨h.mono (Nat.zero_le _),fun k hk _ => h.block k hk⟩
theorem Tch.of_grown {S : Nat → Prop} {w w' : World} {row : Option Nat} (h : w.grownBy w' row) (hS : ∀ k,row = some k → S k) : Tch S w w' :=
 ⟨⟨h.os,h.tape,h.output,h.size,fun _ hk => absurd hk (Nat.not_lt_zero _)⟩,fun k hk hn => h.block k hk (fun e => hn (hS k e.symm))⟩
theorem Tch.trans {S : Nat → Prop} {a b c : World} (h : Tch S a b) (k : Tch S b c) : Tch S a c :=
 ⟨h.1.trans k.1,fun j hj hn => (k.2 j (Nat.lt_of_lt_of_le hj h.size) hn).trans (h.2 j hj hn)⟩
theorem Tch.weak {S S' : Nat → Prop} {w w' : World} (h : Tch S w w') (hS : ∀ k,S k → S' k) : Tch S' w w' := ⟨h.1,fun k hk hn => h.2 k hk (fun e => hn (hS k e))⟩
theorem Tch.below {S : Nat → Prop} {w0 w w' : World} {B : Nat} (hb : Below B w0 w) (h : Tch S w w') (hB : B ≤ w.heap.size) (hS : ∀ k,S k → B ≤ k) : Below B w0 w' :=
 ⟨h.1.os.trans hb.os,h.1.tape.trans hb.tape,h.1.output.trans hb.output,Nat.le_trans hb.size h.size,fun k hk => (h.2 k (by omega) (fun e => by have := hS k e; omega)).trans (hb.block k hk)⟩
theorem Tch.keep {S : Nat → Prop} {w w' : World} (h : Tch S w w') {k : Nat} {o : Obj} (hk : w.heap[k]? = some o) (hn : ¬ S k) : w'.heap[k]? = some o := (h.2 k (Array.getElem?_eq_some_iff.1 hk).1 hn).trans hk
theorem OwnV.tch {S : Nat → Prop} {w w' : World} {base : Nat} {e : TypeId} {v : Value} {xs : List Value} (h : OwnV w base e v xs) (ht : Tch S w w') (hn : ∀ k,v.ownBlock = some k → ¬ S k) : OwnV w' base e v xs := h.kept fun k hk => ht.2 k (h.lt k hk).2 (hn k hk)
def SSAt (w : World) (a : Option Addr) (LL : List (List Int)) (B : Nat) : Prop :=
 ∀ j (hj : j < LL.length), ∃ g off ai ci,a = some ⟨g,off,none⟩ ∧ g < B ∧ w.cell? ⟨g,off + j,none⟩ = some (.slice ai LL[j].length ci) ∧ IAt w ai LL[j] B
theorem SSAt.below {w w' : World} {a : Option Addr} {LL : List (List Int)} {B B' : Nat} (h : SSAt w a LL B) (hb : Below B' w w') (hB : B ≤ B') : SSAt w' a LL B := by
 intro j hj
 obtain ⟨g,off,ai,ci,ha,hg,h1,h2⟩ := h j hj
 exact ⟨g,off,ai,ci,ha,hg,(hb.cell (Nat.lt_of_lt_of_le hg hB)).trans h1,h2.below hb hB⟩
theorem SSAt.mono {w : World} {a : Option Addr} {LL : List (List Int)} {B B' : Nat} (h : SSAt w a LL B) (hB : B ≤ B') : SSAt w a LL B' := by
 intro j hj
 obtain ⟨g,off,ai,ci,ha,hg,h1,h2⟩ := h j hj
 exact ⟨g,off,ai,ci,ha,Nat.lt_of_lt_of_le hg hB,h1,h2.mono hB⟩
theorem SSAt.on {w w' : World} {a : Option Addr} {LL : List (List Int)} (h : SSAt w a LL w.heap.size) (hb : Below w.heap.size w w') : SSAt w' a LL w'.heap.size := (h.below hb (Nat.le_refl _)).mono hb.size
def OwnSS (w : World) (lo hi : Nat) (v : Value) (LL : List (List Int)) : Prop :=
 ∃ vs : List Value,OwnV w lo 24 v vs ∧ (∀ k,v.ownBlock = some k → k < hi) ∧ vs.length = LL.length ∧
  (∀ (i : Nat) (u : Value) (l : List Int),vs[i]? = some u → LL[i]? = some l → OwnV w lo 3 u (ints l) ∧ ∀ k,u.ownBlock = some k → k < hi) ∧
  (∀ (i j : Nat) (u u' : Value) (k : Nat),vs[i]? = some u → vs[j]? = some u' → u.ownBlock = some k → u'.ownBlock = some k → i = j)
theorem OwnSS.mono {w : World} {lo hi lo' hi' : Nat} {v : Value} {LL : List (List Int)} (h : OwnSS w lo hi v LL) (h1 : lo' ≤ lo) (h2 : hi ≤ hi') : OwnSS w lo' hi' v LL := by
 obtain ⟨vs,hv,hb,hl,hr,hd⟩ := h
 exact ⟨vs,hv.mono h1,fun k hk => Nat.lt_of_lt_of_le (hb k hk) h2,hl,fun i u l hu hll => ⟨(hr i u l hu hll).1.mono h1,fun k hk => Nat.lt_of_lt_of_le ((hr i u l hu hll).2 k hk) h2⟩,hd⟩
theorem OwnSS.up {w : World} {lo hi : Nat} {v : Value} {LL : List (List Int)} (h : OwnSS w lo hi v LL) : OwnSS w lo w.heap.size v LL := by
 obtain ⟨vs,hv,hb,hl,hr,hd⟩ := h
 exact ⟨vs,hv,fun k hk => (hv.lt k hk).2,hl,fun i u l hu hll => ⟨(hr i u l hu hll).1,fun k hk => ((hr i u l hu hll).1.lt k hk).2⟩,hd⟩
theorem OwnSS.kept {w w' : World} {lo hi : Nat} {v : Value} {LL : List (List Int)} (h : OwnSS w lo hi v LL) (hk : ∀ k,lo ≤ k → k < hi → k < w.heap.size → (∀ c,w.heap[k]? = some c → (∃ cs,c = .cells cs 24 (0, 0)) ∨ (∃ cs,c = .cells cs 3 (0, 0))) → w'.heap[k]? = w.heap[k]?) : OwnSS w' lo hi v LL := by
 obtain ⟨vs,hv,hb,hl,hr,hd⟩ := h
 have ty : ∀ (e : TypeId) (u : Value) (xs : List Value),OwnV w lo e u xs → ∀ k,u.ownBlock = some k → ∃ cs,w.heap[k]? = some (.cells cs e (0, 0)) := by
  intro e u xs ho k hk
  rcases ho.2 with ⟨rfl,_⟩ | ⟨g,cap,cur,rfl,_,hg,_⟩
  ·simp [Value.ownBlock] at hk
  ·simp [Value.ownBlock] at hk
   subst hk
   exact ⟨_,hg⟩
 refine ⟨vs,hv.kept fun k hk' => hk k (hv.lt k hk').1 (hb k hk') (hv.lt k hk').2 (fun c hc => ?_),hb,hl,fun i u l hu hll => ?_,hd⟩
 ·obtain ⟨cs,e⟩ := ty _ _ _ hv k hk'
  rw [e] at hc
  exact .inl ⟨cs,(Option.some.inj hc).symm⟩
 ·obtain ⟨ho,hh⟩ := hr i u l hu hll
  refine ⟨ho.kept fun k hk' => hk k (ho.lt k hk').1 (hh k hk') (ho.lt k hk').2 (fun c hc => ?_),hh⟩
  obtain ⟨cs,e⟩ := ty _ _ _ ho k hk'
  rw [e] at hc
  exact .inr ⟨cs,(Option.some.inj hc).symm⟩
theorem OwnSS.below {w w' : World} {B lo hi : Nat} {v : Value} {LL : List (List Int)} (h : OwnSS w lo hi v LL) (hb : Below B w w') (hB : w.heap.size ≤ B) : OwnSS w' lo hi v LL := h.kept fun k _ _ hk _ => hb.block k (Nat.lt_of_lt_of_le hk hB)
theorem OwnSS.tch {S : Nat → Prop} {w w' : World} {lo hi : Nat} {v : Value} {LL : List (List Int)} (h : OwnSS w lo hi v LL) (ht : Tch S w w') (hn : ∀ k,S k → k < lo ∨ hi ≤ k) : OwnSS w' lo hi v LL :=
 h.kept fun k h1 h2 hk _ => ht.2 k hk (fun e => by have := hn k e; omega)
theorem OwnSS.at {w : World} {lo hi : Nat} {v : Value} {LL : List (List Int)} (h : OwnSS w lo hi v LL) : ∃ a cap,v = .slice a LL.length cap ∧ SSAt w a LL w.heap.size := by
 obtain ⟨vs,hv,_,hl,hr,_⟩ := h
 obtain ⟨a,cap,e,hc⟩ := hv.shape
 rw [hl] at e
 refine ⟨a,cap,e,fun j hj => ?_⟩
 obtain ⟨g,ha,hcell,_,_,hg⟩ := hc j (by omega)
 have ho := (hr j vs[j] LL[j] (List.getElem?_eq_getElem _) (List.getElem?_eq_getElem _)).1
 obtain ⟨ai,ci,e2,hI⟩ := ho.ints
 rw [e2] at hcell
 exact ⟨g, 0,ai,ci,ha,hg,by simpa using hcell,hI⟩
theorem OwnSS.nil (w : World) (lo hi : Nat) : OwnSS w lo hi (.slice none 0 0) [] := ⟨[],OwnV.nil _ _ _,fun k hk => by simp [Value.ownBlock] at hk,rfl,fun i u l hu => by simp at hu,fun i j u u' k hu => by simp at hu⟩
theorem OwnSS.row {w : World} {lo hi : Nat} {v : Value} {LL : List (List Int)} (h : OwnSS w lo hi v LL) (i : Nat) (hi' : i < LL.length) :
  ∃ g cap u,v = .slice (some ⟨g, 0,none⟩) LL.length cap ∧ lo ≤ g ∧ g < w.heap.size ∧ w.cell? ⟨g,i,none⟩ = some u ∧ OwnV w lo 3 u (ints LL[i]) ∧ (∀ k,u.ownBlock = some k → lo ≤ k ∧ k < hi) ∧
   ∀ w' m,w.grownBy w' u.ownBlock → OwnV w' lo 3 u (ints m) → OwnSS w' lo hi v (LL.set i m) := by
 obtain ⟨vs,hv,hb,hl,hr,hd⟩ := h
 obtain ⟨a,cap,e,hc⟩ := hv.shape
 obtain ⟨g,ha,hcell,_,hlo,hg⟩ := hc i (by omega)
 rw [hl,ha] at e
 have hu : vs[i]? = some vs[i] := List.getElem?_eq_getElem (by omega)
 obtain ⟨ho,hh⟩ := hr i vs[i] LL[i] hu (List.getElem?_eq_getElem _)
 refine ⟨g,cap,vs[i],e,hlo,hg,hcell,ho,fun k hk => ⟨(ho.lt k hk).1,hh k hk⟩,fun w' m hgr hm => ⟨vs, ?_,hb,by rw [List.length_set]; exact hl,fun j u l hj hll => ?_,hd⟩⟩
 ·refine hv.grown hgr fun k hk e2 => ?_
  rcases ho.2 with ⟨e3,_⟩ | ⟨g3,cap3,cur3,e3,_,hg3,_⟩
  ·rw [e3] at e2; simp [Value.ownBlock] at e2
  ·rcases hv.2 with ⟨e4,_⟩ | ⟨g4,cap4,cur4,e4,_,hg4,_⟩
   ·rw [e4] at hk; simp [Value.ownBlock] at hk
   ·rw [e3] at e2
    rw [e4] at hk
    simp [Value.ownBlock] at e2 hk
    subst e2
    subst hk
    have := hg3.symm.trans hg4
    simp at this
 ·by_cases hij : i = j
  ·subst hij
   rw [hu] at hj
   cases hj
   rw [List.getElem?_set_self hi'] at hll
   cases hll
   exact ⟨hm,hh⟩
  ·rw [List.getElem?_set_ne hij] at hll
   obtain ⟨h1,h2⟩ := hr j u l hj hll
   exact ⟨h1.grown hgr fun k hk e2 => hij (hd i j vs[i] u k hu hj e2 hk),h2⟩
theorem OwnSS.put {w : World} {lo hi : Nat} {v u : Value} {LL : List (List Int)} {l : List Int} (h : OwnSS w lo hi v LL) (hu : OwnV w hi 3 u (ints l)) (hlh : lo ≤ hi) (k : Nat) (hk : k < LL.length) :
  ∃ g cap x,v = .slice (some ⟨g, 0,none⟩) LL.length cap ∧ w.cell? ⟨g,k,none⟩ = some x ∧ w.frozen? ⟨g,k,none⟩ = false ∧ lo ≤ g ∧ g < hi ∧ OwnSS (w.setCell ⟨g,k,none⟩ u) lo w.heap.size v (LL.set k l) := by
 obtain ⟨vs,hv,hb,hl,hr,hd⟩ := h
 obtain ⟨a,cap,e,hc⟩ := hv.shape
 obtain ⟨g,ha,hcell,hfr,hlo,hg⟩ := hc k (by omega)
 rw [ha] at e
 have hgh : g < hi := hb g (by rw [e]; rfl)
 rw [e] at hv
 have hst := hv.stored rfl k u
 have e' := e
 rw [hl] at e'
 have kp : ∀ (x : Value) (xs : List Value) (b : Nat) ,OwnV w b 3 x xs → OwnV (w.setCell ⟨g,k,none⟩ u) b 3 x xs := by
  intro x xs b ho
  refine ho.grown hst.2 fun j hj e2 => ?_
  simp at e2
  subst e2
  rcases ho.2 with ⟨e3,_⟩ | ⟨g3,cap3,cur3,e3,_,hg3,_⟩
  ·rw [e3] at hj; simp [Value.ownBlock] at hj
  ·rcases hv.2 with ⟨e4,_⟩ | ⟨g4,cap4,cur4,e4,_,hg4,_⟩
   ·simp at e4
   ·rw [e3] at hj
    simp at e4
    simp [Value.ownBlock] at hj
    obtain ⟨rfl,_⟩ := e4
    subst hj
    have := hg3.symm.trans hg4
    simp at this
 refine ⟨g,cap,vs[k]'(by omega),e',hcell,hfr,hlo,hgh,vs.set k u, ?_,fun j hj => ?_,by simp [hl],fun i x m hx hm => ?_,fun i j x y q hx hy h1 h2 => ?_⟩
 ·rw [e]; exact hst.1
 ·have := hst.1.lt j (by rw [e] at hj; exact hj)
  simpa using this.2
 ·by_cases hik : k = i
  ·subst hik
   rw [List.getElem?_set_self (by omega)] at hx hm
   cases hx
   cases hm
   have := kp u (ints l) hi hu
   exact ⟨this.mono hlh,fun j hj => by simpa using (this.lt j hj).2⟩
  ·rw [List.getElem?_set_ne hik] at hx hm
   have := kp x (ints m) lo (hr i x m hx hm).1
   exact ⟨this,fun j hj => by simpa using (this.lt j hj).2⟩
 ·by_cases hik : k = i
  ·by_cases hjk : k = j
   ·omega
   ·exfalso
    subst hik
    rw [List.getElem?_set_self (by omega)] at hx
    rw [List.getElem?_set_ne hjk] at hy
    cases hx
    have a1 := (hu.lt q h1).1
    have hjl : j < LL.length := by have := (List.getElem?_eq_some_iff.1 hy).1; omega
    have a2 := (hr j y LL[j] hy (List.getElem?_eq_getElem hjl)).2 q h2
    omega
  ·by_cases hjk : k = j
   ·exfalso
    subst hjk
    rw [List.getElem?_set_self (by omega)] at hy
    rw [List.getElem?_set_ne hik] at hx
    cases hy
    have a1 := (hu.lt q h2).1
    have hil : i < LL.length := by have := (List.getElem?_eq_some_iff.1 hx).1; omega
    have a2 := (hr i x LL[i] hx (List.getElem?_eq_getElem hil)).2 q h1
    omega
   ·rw [List.getElem?_set_ne hik] at hx
    rw [List.getElem?_set_ne hjk] at hy
    exact hd i j x y q hx hy h1 h2
theorem OwnSS.snoc {w' : World} {lo hi : Nat} {v' u : Value} {LL : List (List Int)} {l : List Int} {vs : List Value} (hl : vs.length = LL.length)
  (hr : ∀ (i : Nat) (u : Value) (l : List Int),vs[i]? = some u → LL[i]? = some l → OwnV w' lo 3 u (ints l) ∧ ∀ k,u.ownBlock = some k → k < hi)
  (hd : ∀ (i j : Nat) (u u' : Value) (k : Nat),vs[i]? = some u → vs[j]? = some u' → u.ownBlock = some k → u'.ownBlock = some k → i = j)
  (hv : OwnV w' lo 24 v' (vs ++ [u])) (hu : OwnV w' hi 3 u (ints l)) (hlh : lo ≤ hi) : OwnSS w' lo w'.heap.size v' (LL ++ [l]) := by
 refine ⟨vs ++ [u],hv,fun k hk => (hv.lt k hk).2,by simp [hl],fun i x m hx hm => ?_,fun i j x y q hx hy h1 h2 => ?_⟩
 ·by_cases hi' : i < vs.length
  ·rw [List.getElem?_append_left hi'] at hx
   rw [List.getElem?_append_left (by omega)] at hm
   have := (hr i x m hx hm).1
   exact ⟨this,fun k hk => (this.lt k hk).2⟩
  ·rw [List.getElem?_append_right (by omega)] at hx hm
   obtain ⟨e1,rfl⟩ := List.getElem?_eq_some_iff.1 hx
   obtain ⟨e2,rfl⟩ := List.getElem?_eq_some_iff.1 hm
   simp only [List.length_singleton] at e1
   simp only [List.getElem_singleton]
   exact ⟨hu.mono hlh,fun k hk => (hu.lt k hk).2⟩
 ·by_cases hi' : i < vs.length
  ·by_cases hj' : j < vs.length
   ·rw [List.getElem?_append_left hi'] at hx
    rw [List.getElem?_append_left hj'] at hy
    exact hd i j x y q hx hy h1 h2
   ·exfalso
    rw [List.getElem?_append_left hi'] at hx
    rw [List.getElem?_append_right (by omega)] at hy
    obtain ⟨e1,rfl⟩ := List.getElem?_eq_some_iff.1 hy
    simp only [List.getElem_singleton] at h2
    have a1 := (hu.lt q h2).1
    have a2 := (hr i x LL[i] hx (List.getElem?_eq_getElem (by omega))).2 q h1
    omega
  ·by_cases hj' : j < vs.length
   ·exfalso
    rw [List.getElem?_append_left hj'] at hy
    rw [List.getElem?_append_right (by omega)] at hx
    obtain ⟨e1,rfl⟩ := List.getElem?_eq_some_iff.1 hx
    simp only [List.getElem_singleton] at h1
    have a1 := (hu.lt q h1).1
    have a2 := (hr j y LL[j] hy (List.getElem?_eq_getElem (by omega))).2 q h2
    omega
   ·have := (List.getElem?_eq_some_iff.1 hx).1
    have := (List.getElem?_eq_some_iff.1 hy).1
    simp at *
    omega
def SkBox (w : World) (T : Nat) (v1 v2 : Value) : Prop := w.heap[T]? = some (.cells #[v1,v2] 30 (0, 0))
theorem SkBox.lt {w : World} {T : Nat} {a b : Value} (h : SkBox w T a b) : T < w.heap.size := (Array.getElem?_eq_some_iff.1 h).1
theorem SkBox.new (w : World) (a b : Value) : SkBox (w.alloc (.cells #[a,b] 30)) w.heap.size a b := heap_alloc_new w _
theorem SkBox.kept {w w' : World} {T : Nat} {a b : Value} (h : SkBox w T a b) (hk : w'.heap[T]? = w.heap[T]?) : SkBox w' T a b := hk.trans h
theorem SkBox.on {w w' : World} {T : Nat} {a b : Value} (h : SkBox w T a b) (hb : Below w.heap.size w w') : SkBox w' T a b := h.kept (hb.block T h.lt)
theorem SkBox.thaw {w : World} {T : Nat} {a b : Value} (h : SkBox w T a b) (i : Nat) : w.frozen? ⟨T,i,none⟩ = false := by
 unfold SkBox at h
 simp [World.frozen?,h]
theorem SkBox.cells {w : World} {T : Nat} {a b : Value} (h : SkBox w T a b) : w.cell? ⟨T, 0,none⟩ = some a ∧ w.cell? ⟨T, 1,none⟩ = some b := by
 unfold SkBox at h
 refine ⟨?_, ?_⟩
 ·rw [cell_of_row w T 0 _ _ (0, 0) h]; rfl
 ·rw [cell_of_row w T 1 _ _ (0, 0) h]; rfl
theorem SkBox.set0 {w : World} {T : Nat} {a b : Value} (h : SkBox w T a b) (x : Value) : SkBox (w.setCell ⟨T, 0,none⟩ x) T x b := by
 unfold SkBox at *
 simp only [World.setCell,Array.getElem?_modify,h]
 simp
theorem SkBox.set1 {w : World} {T : Nat} {a b : Value} (h : SkBox w T a b) (x : Value) : SkBox (w.setCell ⟨T, 1,none⟩ x) T a x := by
 unfold SkBox at *
 simp only [World.setCell,Array.getElem?_modify,h]
 simp
theorem SkBox.put {w : World} {T : Nat} {a b : Value} (h : SkBox w T a b) (x y : Value) : SkBox ((w.setCell ⟨T, 0,none⟩ x).setCell ⟨T, 1,none⟩ y) T x y := (h.set0 x).set1 y
theorem put2_other (w : World) (T : Nat) (x y : Value) (k : Nat) (hk : k ≠ T) : ((w.setCell ⟨T, 0,none⟩ x).setCell ⟨T, 1,none⟩ y).heap[k]? = w.heap[k]? := by
 rw [Below.heap_setCell _ _ _ _ (by exact hk),Below.heap_setCell _ _ _ _ (by exact hk)]
theorem Below.put2 {B : Nat} {a w : World} (h : Below B a w) {T : Nat} (hT : B ≤ T) (x y : Value) : Below B a ((w.setCell ⟨T, 0,none⟩ x).setCell ⟨T, 1,none⟩ y) := (h.setCell hT x).setCell hT y
theorem SkBox.far {w : World} {T T' : Nat} {a b : Value} (h : SkBox w T a b) (i : Nat) (x : Value) (hn : T ≠ T') : SkBox (w.setCell ⟨T',i,none⟩ x) T a b := h.kept (Below.heap_setCell _ _ _ _ (by exact hn))
theorem OwnSS.box {w w' : World} {lo hi T : Nat} {a b v : Value} {LL : List (List Int)} (h : OwnSS w lo hi v LL) (hB : SkBox w T a b) (hk : ∀ k,k ≠ T → w'.heap[k]? = w.heap[k]?) : OwnSS w' lo hi v LL :=
 h.kept fun k _ _ _ hty => hk k (fun e => by
  subst e
  rcases hty _ hB with ⟨cs,e⟩ | ⟨cs,e⟩
  ·simp at e
  ·simp at e)
theorem OwnSS.far {w : World} {lo hi T : Nat} {a b v : Value} {LL : List (List Int)} (h : OwnSS w lo hi v LL) (hB : SkBox w T a b) (i : Nat) (x : Value) : OwnSS (w.setCell ⟨T,i,none⟩ x) lo hi v LL := h.box hB fun k hk => Below.heap_setCell _ _ _ _ (by exact hk)
theorem OwnSS.put2 {w : World} {lo hi T : Nat} {a b v : Value} {LL : List (List Int)} (h : OwnSS w lo hi v LL) (hB : SkBox w T a b) (x y : Value) : OwnSS ((w.setCell ⟨T, 0,none⟩ x).setCell ⟨T, 1,none⟩ y) lo hi v LL := h.box hB fun k hk => put2_other w T x y k hk
def SkOwn (w : World) (lo hi : Nat) (v : Value) (S : Sk) : Prop := ∃ v1,v = .agg #[v1,.int .i64 S.added] ∧ OwnSS w lo hi v1 S.rows
theorem SkOwn.at {w : World} {lo hi : Nat} {v : Value} {S : Sk} (h : SkOwn w lo hi v S) : ∃ a c,v = .agg #[.slice a S.rows.length c,.int .i64 S.added] ∧ SSAt w a S.rows w.heap.size := by
 obtain ⟨v1,rfl,h1⟩ := h
 obtain ⟨a,c,rfl,hA⟩ := h1.at
 exact ⟨a,c,rfl,hA⟩
theorem SkOwn.mono {w : World} {lo hi lo' hi' : Nat} {v : Value} {S : Sk} (h : SkOwn w lo hi v S) (h1 : lo' ≤ lo) (h2 : hi ≤ hi') : SkOwn w lo' hi' v S := by
 obtain ⟨v1,rfl,h3⟩ := h
 exact ⟨v1,rfl,h3.mono h1 h2⟩
theorem SkOwn.below {w w' : World} {B lo hi : Nat} {v : Value} {S : Sk} (h : SkOwn w lo hi v S) (hb : Below B w w') (hB : w.heap.size ≤ B) : SkOwn w' lo hi v S := by
 obtain ⟨v1,rfl,h3⟩ := h
 exact ⟨v1,rfl,h3.below hb hB⟩
theorem SkOwn.put2 {w : World} {lo hi T : Nat} {a b v : Value} {S : Sk} (h : SkOwn w lo hi v S) (hB : SkBox w T a b) (x y : Value) : SkOwn ((w.setCell ⟨T, 0,none⟩ x).setCell ⟨T, 1,none⟩ y) lo hi v S := by
 obtain ⟨v1,rfl,h3⟩ := h
 exact ⟨v1,rfl,h3.put2 hB x y⟩
end Go.Proofs.YtaahjcljanckaaaGreatDoor
