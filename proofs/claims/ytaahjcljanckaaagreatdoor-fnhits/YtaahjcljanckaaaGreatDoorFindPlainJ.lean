/- Texts that stand in one: FindPlain, CopyMany, DelBase, PxPlain. -/
import Derived.Test.YtaahjcljanckaaaGreatDoorReadPlainJ
import Derived.Test.YtaahjcljanckaaaGreatDoorPolSzTextJ
import Derived.Laws.CopyOwn
import Derived.Lib.SliceRun
import Derived.Test.YtaahjcljanckaaaGreatDoorSkBaseJ
import Derived.Test.YtaahjcljanckaaaGreatDoorSkStepJ
import Derived.Test.YtaahjcljanckaaaGreatDoorPrxBaseJ
namespace Go.Proofs.YtaahjcljanckaaaGreatDoor
open Go.RowKit
def insE (L : List En) (e : En) : List En := (L.filter fun x => ltS x.key e.key) ++ e :: (L.filter fun x => ltS e.key x.key)
def UpK (L : List En) : Prop := L.Pairwise fun x y => ltS x.key y.key = true
def ApartK (L : List En) : Prop := L.Pairwise fun x y => x.key ≠ y.key
theorem UpK.apart {L : List En} (h : UpK L) : ApartK L := h.imp fun {x y} hxy e => by rw [e,ltS_irr] at hxy; cases hxy
theorem run_copy_rowN {P : Program} (w : World) (dT sT ty elem : TypeId) (g o dLen dCap : Nat) (a : Addr) (sLen sCap : Nat) (cur : Array Value) (t : TypeId) (cs : List Value) (k : Nat)
  (hu : P.underlying dT = some (.slice elem)) (hs : (P.info? elem).map (·.size) = some k)
  (hg : w.heap[g]? = some (.cells cur t (0, 0))) (hn : cs.length = Nat.min sLen dLen * k)
  (hsrc : ∀ j v,cs[j]? = some v → w.cell? (a.add j) = some v) (hfit : o + cs.length ≤ cur.size) (h1 : ∀ v ∈ cs,v.oneCell' = true) :
  (Builtin.copy_ #[dT,sT] ty #[.slice (some ⟨g,o,none⟩) dLen dCap,.slice (some a) sLen sCap]).run P w =
   .ok (goInt (Nat.min sLen dLen)) (w.setRow g (cur.toList.take o ++ cs ++ cur.toList.drop (o + cs.length)).toArray) := by
 have hl := run_loadCells_list (P := P) w a cs hsrc
 have hst := run_storeCells_at P g o t cs 0 cur w hg (by simpa using hfit) h1
 cases hq : P.info? elem with
 | none => simp [hq] at hs
 | some i =>
  have hi : i.size = k := by simpa [hq] using hs
  simp [Builtin.copy_,run_underlying hu,Builtin.lenOf,Builtin.firstCells,sizeOf,typeInfo,hq,hi, ← hn,hl,hst]
theorem step_copy_spliceN {P : Program} {ops : Array Oper} {o : Oper} {a : Act} {w : World} {K : Act → World → Prop} {Q : Exit → Act → World → Prop} {E : Prop} (hgd : o.guard = none) (d s : Operand) (dT sT : TypeId)
  (ho : o.op = .call { callee := .builtin .copy,args := #[d,s],argTypes := #[dT,sT] }) (elem : TypeId) (k : Nat) (hu : P.underlying dT = some (.slice elem)) (hsz : (P.info? elem).map (·.size) = some k)
  (dLen dCap sLen sCap : Nat) (g off : Nat) (ad : Addr) (hd : a.eval d = .slice (some ⟨g,off,none⟩) dLen dCap) (hs : a.eval s = .slice (some ad) sLen sCap)
  (cur : List Value) (t : TypeId) (hg : w.heap[g]? = some (.cells cur.toArray t (0, 0))) (cs : List Value) (hn : cs.length = Nat.min sLen dLen * k)
  (hsrc : ∀ j v,cs[j]? = some v → w.cell? (ad.add j) = some v)
  (hfit : off + cs.length ≤ cur.length) (h1 : ∀ v ∈ cs,v.oneCell' = true) (B : Nat) (w0 : World) (hb : Below B w0 w) (hBg : B ≤ g)
  (h : ∀ w',Hid (w'.heap[g]? = some (.cells (splice cur off cs).toArray t (0, 0)) ∧ ∀ j,j ≠ g → w'.heap[j]? = w.heap[j]?) → Below B w0 w' → K (a.put o.dst (goInt (Nat.min sLen dLen))) w') :
  if Region.wanted o (yielded ops a.tmps) = true then Oper.wp P o a w K Q else E := by
 have hw : Region.wanted o (yielded ops a.tmps) = true := by simp [Region.wanted,hgd]
 rw [if_pos hw]
 have hrun := run_copy_rowN (P := P) w dT sT o.type elem g off dLen dCap ad sLen sCap cur.toArray t cs k hu hsz hg hn hsrc (by simpa using hfit) h1
 unfold Oper.wp
 simp [execOp,ho,resolve,invoke,builtin,hd,hs,hrun,Result.andThen]
 exact h _ ⟨show _ = _ by simpa [splice] using setRow_heap w g _ _ t _ hg,fun j hj => setRow_other w g j _ hj⟩ (below_setRow hb hBg _)
theorem wpList_copy_spliceN {P : Program} {ops : Array Oper} {rest : List Oper} {o : Oper} {a : Act} {w : World} {Q : Exit → Act → World → Prop} (hgd : o.guard = none) (d s : Operand) (dT sT : TypeId)
  (ho : o.op = .call { callee := .builtin .copy,args := #[d,s],argTypes := #[dT,sT] }) (elem : TypeId) (k : Nat) (hu : P.underlying dT = some (.slice elem)) (hsz : (P.info? elem).map (·.size) = some k)
  (dLen dCap sLen sCap : Nat) (g off : Nat) (ad : Addr) (hd : a.eval d = .slice (some ⟨g,off,none⟩) dLen dCap) (hs : a.eval s = .slice (some ad) sLen sCap)
  (cur : List Value) (t : TypeId) (hg : w.heap[g]? = some (.cells cur.toArray t (0, 0))) (cs : List Value) (hn : cs.length = Nat.min sLen dLen * k)
  (hsrc : ∀ j v,cs[j]? = some v → w.cell? (ad.add j) = some v)
  (hfit : off + cs.length ≤ cur.length) (h1 : ∀ v ∈ cs,v.oneCell' = true) (B : Nat) (w0 : World) (hb : Below B w0 w) (hBg : B ≤ g)
  (h : ∀ w',Hid (w'.heap[g]? = some (.cells (splice cur off cs).toArray t (0, 0)) ∧ ∀ j,j ≠ g → w'.heap[j]? = w.heap[j]?) → Below B w0 w' → wpList P ops Q rest (a.put o.dst (goInt (Nat.min sLen dLen))) w') :
  wpList P ops Q (o :: rest) a w := by
 refine wpList_plain hgd fun K hK => ?_
 have hrun := run_copy_rowN (P := P) w dT sT o.type elem g off dLen dCap ad sLen sCap cur.toArray t cs k hu hsz hg hn hsrc (by simpa using hfit) h1
 unfold Oper.wp
 simp [execOp,ho,resolve,invoke,builtin,hd,hs,hrun,Result.andThen]
 exact hK _ _ (h _ ⟨show _ = _ by simpa [splice] using setRow_heap w g _ _ t _ hg,fun j hj => setRow_other w g j _ hj⟩ (below_setRow hb hBg _))
end Go.Proofs.YtaahjcljanckaaaGreatDoor
namespace Go.Proofs.YtaahjcljanckaaaGreatDoor
open Go.RowKit Go.Sort
def idxX {α : Type} (p : α → Bool) (L : List α) : Int := match L.findIdx? p with | some i => (i : Int) | none => -1
theorem idxX_hit {α : Type} {p : α → Bool} {L : List α} {k : Nat} (hk : k < L.length) (h : p L[k] = true) (hno : ∀ j (hj : j < k),p (L[j]'(by omega)) = false) : idxX p L = k := by
 have : L.findIdx? p = some k := by
  rw [List.findIdx?_eq_some_iff_getElem]
  exact ⟨hk,h,fun j hj => by simp [hno j hj]⟩
 simp [idxX,this]
theorem idxX_miss {α : Type} {p : α → Bool} {L : List α} (h : ∀ x ∈ L,p x = false) : idxX p L = -1 := by
 have : L.findIdx? p = none := by
  rw [List.findIdx?_eq_none_iff]
  exact h
 simp [idxX,this]
theorem idxX_cases {α : Type} (p : α → Bool) (L : List α) : (∃ (k : Nat) (hk : k < L.length),idxX p L = k ∧ p L[k] = true ∧ ∀ j (hj : j < k),p (L[j]'(by omega)) = false) ∨ (idxX p L = -1 ∧ ∀ x ∈ L,p x = false) := by
 cases h : L.findIdx? p with
 | none =>
  rw [List.findIdx?_eq_none_iff] at h
  exact .inr ⟨idxX_miss h,h⟩
 | some k =>
  have h0 := h
  rw [List.findIdx?_eq_some_iff_getElem] at h
  obtain ⟨hk,h1,h2⟩ := h
  exact .inl ⟨k,hk,by simp [idxX,h0],h1,fun j hj => by simpa using h2 j hj⟩
def keepX {α : Type} (p : α → Bool) (L : List α) : List α := L.filter fun x => !p x
theorem keepX_take {α : Type} {p : α → Bool} {L : List α} {k : Nat} (hk : k < L.length) : keepX p (L.take (k + 1)) = keepX p (L.take k) ++ if p L[k] = true then [] else [L[k]] := by
 unfold keepX
 rw [List.take_succ_eq_append_getElem hk,List.filter_append]
 cases h : p L[k] <;> simp [h]
theorem keepX_none {α : Type} {p : α → Bool} {L : List α} (h : ∀ x ∈ L,p x = false) : keepX p L = L := List.filter_eq_self.2 fun x hx => by rw [h x hx]; rfl
theorem keepX_step {α : Type} {p : α → Bool} {L : List α} {k : Nat} (hk : k < L.length) (hx : p L[k] = true) (hno : ∀ j (hj : j < k),p (L[j]'(by omega)) = false) : keepX p (L.take (k + 1)) = L.take k := by
 rw [keepX_take hk,if_pos hx,List.append_nil]
 refine keepX_none fun x hx => ?_
 obtain ⟨j,hj,rfl⟩ := List.getElem_of_mem hx
 rw [List.length_take] at hj
 rw [List.getElem_take]
 exact hno j (by omega)
theorem run_clear_x {P : Program} (w : World) (t e ty : TypeId) (z : Value) (ht : P.underlying t = some (.slice e)) (hv : ∀ w,(zeroValue e).run P w = .ok z w) (n : Nat) (hn : 0 < n) (h1 : ∀ v ∈ (Builtin.zeroCells z.cells n).toList,v.oneCell' = true) (g o c : Nat)
  (cur : List Value) (tt : TypeId) (hg : w.heap[g]? = some (.cells cur.toArray tt (0, 0))) (hfit : o + (Builtin.zeroCells z.cells n).toList.length ≤ cur.length) :
  (Builtin.clear_ #[t] ty #[.slice (some ⟨g,o,none⟩) n c]).run P w = .ok (.tuple #[]) (w.setRow g (splice cur o (Builtin.zeroCells z.cells n).toList).toArray) := by
 have hst := run_storeCells_at P g o tt (Builtin.zeroCells z.cells n).toList 0 cur.toArray w hg (by simpa using hfit) h1
 simp only [Nat.add_zero] at hst
 obtain ⟨m,rfl⟩ : ∃ m,n = m + 1 := ⟨n - 1,by omega⟩
 simp [Builtin.clear_,run_underlying ht,hv,hst,splice]
def allT (f : Nat → Bool) : Nat → Bool
 | 0 => true
 | k + 1 => allT f k && f k
theorem allT_down {f : Nat → Bool} : ∀ {n k : Nat},k < n → f k = false → allT f n = false
 | 0,_,h,_ => absurd h (Nat.not_lt_zero _)
 | n + 1,k,h,hf => by
  by_cases e : k = n
  ·subst e; simp [allT,hf]
  ·simp [allT,allT_down (show k < n by omega) hf]
theorem allT_iff {f : Nat → Bool} : ∀ {n : Nat},allT f n = true ↔ ∀ i,i < n → f i = true
 | 0 => by simp [allT]
 | n + 1 => by
  have ih := @allT_iff f n
  unfold allT
  rw [Bool.and_eq_true,ih]
  constructor
  ·rintro ⟨h1,h2⟩ i hi
   by_cases e : i = n
   ·subst e; exact h2
   ·exact h1 i (by omega)
  ·intro h
   exact ⟨fun i hi => h i (by omega),h n (by omega)⟩
def entF (L : List En) (P : Pol) (i : Nat) : Bool := enOk (L.getD i zen) && (!(decide (0 < i) && !ltS (L.getD (i - 1) zen).key (L.getD i zen).key) && hasP P (L.getD i zen).key)
def openP (key : ByteArray) (f : Fet) : Bool := eqS f.key key && (f.st == 1)
def fetF (now : Int) (L : List Fet) (i : Nat) : Bool :=
 (enKey (L.getD i zFet).key && (decide ((L.getD i zFet).tx.size ≤ 400) && (inB (L.getD i zFet).st 1 3 && (inB (L.getD i zFet).lf 0 999999 && inB (L.getD i zFet).sto 0 now)))) && !(((L.getD i zFet).st == 1) && (L.take i).any (openP (L.getD i zFet).key))
def cliF (now : Int) (nf : Nat) (L : List Cli) (i : Nat) : Bool :=
 (inB (L.getD i zCli).id 1 9 && (enKey (L.getD i zCli).key && (inB (L.getD i zCli).st 1 3 && (decide ((L.getD i zCli).got.size ≤ 400) && (inB (L.getD i zCli).fe 0 nf && (inB (L.getD i zCli).fr 0 now && decide (0 ≤ (L.getD i zCli).ag))))))) && !(decide (0 < i) && decide ((L.getD i zCli).id ≤ (L.getD (i - 1) zCli).id))
def entsOkX (L : List En) (P : Pol) : Bool := decide (L.length = P.win.length + P.main.length) && allT (entF L P) L.length
def fesOkX (now : Int) (L : List Fet) : Bool := decide (L.length ≤ 20) && allT (fetF now L) L.length
def clsOkX (R : Prx) : Bool := decide (R.cls.length ≤ 6) && allT (cliF R.now R.fes.length R.cls) R.cls.length
def okX (R : Prx) : Bool := (inB R.now 1 1000000000 && inB R.hits 0 1000000000) && (okP R.pol && (entsOkX R.ents R.pol && (fesOkX R.now R.fes && clsOkX R)))
theorem inB_iff' {v lo hi : Int} : inB v lo hi = true ↔ lo ≤ v ∧ v ≤ hi := by unfold inB; simp
structure OkX (R : Prx) : Prop where
 now : 1 ≤ R.now ∧ R.now ≤ 1000000000
 hits : 0 ≤ R.hits ∧ R.hits ≤ 1000000000
 pol : okP R.pol = true
 len : R.ents.length = R.pol.win.length + R.pol.main.length
 ents : ∀ e ∈ R.ents,enOk e = true
 up : UpK R.ents
 sub : ∀ e ∈ R.ents,hasP R.pol e.key = true
 flen : R.fes.length ≤ 20
 fes : ∀ f ∈ R.fes,enKey f.key = true ∧ f.tx.size ≤ 400 ∧ (1 ≤ f.st ∧ f.st ≤ 3) ∧ (0 ≤ f.lf ∧ f.lf ≤ 999999) ∧ (0 ≤ f.sto ∧ f.sto ≤ R.now)
 one : ∀ i k (hi : i < R.fes.length) (hk : k < R.fes.length),R.fes[i].st = 1 → R.fes[k].st = 1 → R.fes[i].key = R.fes[k].key → i = k
 clen : R.cls.length ≤ 6
 cls : ∀ c ∈ R.cls,(1 ≤ c.id ∧ c.id ≤ 9) ∧ enKey c.key = true ∧ (1 ≤ c.st ∧ c.st ≤ 3) ∧ c.got.size ≤ 400 ∧ (0 ≤ c.fe ∧ c.fe ≤ R.fes.length) ∧ (0 ≤ c.fr ∧ c.fr ≤ R.now) ∧ 0 ≤ c.ag
 cup : R.cls.Pairwise fun x y => x.id < y.id
theorem getD_of {α : Type} {L : List α} {i : Nat} {d : α} (h : i < L.length) : L.getD i d = L[i] := by simp [List.getD,List.getElem?_eq_getElem h]
theorem pw_of_steps {α : Type} {r : α → α → Prop} (ht : ∀ a b c,r a b → r b c → r a c) : ∀ {L : List α},(∀ i (h : i + 1 < L.length),r (L[i]'(by omega)) L[i + 1]) → L.Pairwise r
 | [],_ => .nil
 | [a],_ => by simp
 | a :: b :: l,h => by
  have ih : (b :: l).Pairwise r := pw_of_steps ht (fun i hi => h (i + 1) (by simp at hi ⊢; omega))
  have h0 : r a b := h 0 (by simp)
  refine List.pairwise_cons.2 ⟨fun x hx => ?_,ih⟩
  rcases List.mem_cons.1 hx with rfl | hx
  ·exact h0
  ·exact ht _ _ _ h0 ((List.pairwise_cons.1 ih).1 x hx)
theorem pw_steps {α : Type} {r : α → α → Prop} {L : List α} (h : L.Pairwise r) (i j : Nat) (hij : i < j) (hj : j < L.length) : r (L[i]'(by omega)) L[j] := List.pairwise_iff_getElem.1 h i j (by omega) hj hij
theorem ents_iff {L : List En} {P : Pol} : entsOkX L P = true ↔ L.length = P.win.length + P.main.length ∧ (∀ e ∈ L,enOk e = true) ∧ UpK L ∧ ∀ e ∈ L,hasP P e.key = true := by
 unfold entsOkX
 rw [Bool.and_eq_true,decide_eq_true_eq,allT_iff]
 refine and_congr Iff.rfl ⟨fun h => ?_, ?_⟩
 ·have h1 : ∀ i (hi : i < L.length),enOk L[i] = true ∧ (∀ (h0 : 0 < i),ltS (L[i - 1]'(by omega)).key L[i].key = true) ∧ hasP P L[i].key = true := fun i hi => by
   have := h i hi
   unfold entF at this
   rw [getD_of hi] at this
   simp only [Bool.and_eq_true,Bool.not_eq_true'] at this
   refine ⟨this.1,fun h0 => ?_,this.2.2⟩
   have h2 := this.2.1
   rw [decide_eq_true h0,Bool.true_and,getD_of (show i - 1 < L.length by omega)] at h2
   simpa using h2
  refine ⟨fun e he => ?_,pw_of_steps (r := fun x y : En => ltS x.key y.key = true) (fun a b c h k => ltS_trans h k) (fun i hi => (h1 (i + 1) hi).2.1 (by omega)),fun e he => ?_⟩
  ·obtain ⟨i,hi,rfl⟩ := List.getElem_of_mem he
   exact (h1 i hi).1
  ·obtain ⟨i,hi,rfl⟩ := List.getElem_of_mem he
   exact (h1 i hi).2.2
 ·rintro ⟨h1,h2,h3⟩ i hi
  unfold entF
  rw [getD_of hi,h1 _ (List.getElem_mem hi),h3 _ (List.getElem_mem hi)]
  by_cases h0 : 0 < i
  ·rw [getD_of (show i - 1 < L.length by omega),show ltS (L[i - 1]'(by omega)).key L[i].key = true from pw_steps h2 (i - 1) i (by omega) hi]
   simp
  ·simp [h0]
theorem fes_iff {now : Int} {L : List Fet} : fesOkX now L = true ↔ L.length ≤ 20 ∧ (∀ f ∈ L,enKey f.key = true ∧ f.tx.size ≤ 400 ∧ (1 ≤ f.st ∧ f.st ≤ 3) ∧ (0 ≤ f.lf ∧ f.lf ≤ 999999) ∧ (0 ≤ f.sto ∧ f.sto ≤ now)) ∧ ∀ i k (hi : i < L.length) (hk : k < L.length),L[i].st = 1 → L[k].st = 1 → L[i].key = L[k].key → i = k := by
 unfold fesOkX
 rw [Bool.and_eq_true,decide_eq_true_eq,allT_iff]
 have hany : ∀ i (hi : i < L.length),(L.take i).any (openP L[i].key) = true ↔ ∃ k, ∃ hk : k < i,(L[k]'(by omega)).key = L[i].key ∧ (L[k]'(by omega)).st = 1 := fun i hi => by
  rw [List.any_eq_true]
  constructor
  ·rintro ⟨x,hx,hp⟩
   obtain ⟨k,hk,rfl⟩ := List.getElem_of_mem hx
   rw [List.length_take] at hk
   rw [List.getElem_take] at hp
   unfold openP at hp
   rw [Bool.and_eq_true,eqS_iff,beq_iff_eq] at hp
   exact ⟨k,by omega,hp⟩
  ·rintro ⟨k,hk,h1,h2⟩
   refine ⟨L[k]'(by omega), ?_, ?_⟩
   ·rw [List.mem_take_iff_getElem]
    exact ⟨k,by omega,rfl⟩
   ·unfold openP
    rw [Bool.and_eq_true,eqS_iff,beq_iff_eq]
    exact ⟨h1,h2⟩
 have h1 : ∀ i (hi : i < L.length),fetF now L i = true ↔ (enKey L[i].key = true ∧ L[i].tx.size ≤ 400 ∧ (1 ≤ L[i].st ∧ L[i].st ≤ 3) ∧ (0 ≤ L[i].lf ∧ L[i].lf ≤ 999999) ∧ (0 ≤ L[i].sto ∧ L[i].sto ≤ now)) ∧ (L[i].st = 1 → ¬ ∃ k, ∃ hk : k < i,(L[k]'(by omega)).key = L[i].key ∧ (L[k]'(by omega)).st = 1) := fun i hi => by
  rw [← hany i hi]
  unfold fetF
  rw [getD_of hi]
  simp only [Bool.and_eq_true,Bool.not_eq_true',inB_iff',decide_eq_true_eq]
  refine and_congr Iff.rfl ?_
  cases (L.take i).any (openP L[i].key)
  ·simp
  ·by_cases hs : L[i].st = 1
   ·simp [hs]
   ·simp [hs]
 refine and_congr Iff.rfl ⟨fun h => ⟨fun f hf => ?_,fun i k hi hk e1 e2 e3 => ?_⟩,fun h i hi => (h1 i hi).2 ⟨h.1 _ (List.getElem_mem hi),fun e ⟨k,hk,e1,e2⟩ => ?_⟩⟩
 ·obtain ⟨i,hi,rfl⟩ := List.getElem_of_mem hf
  exact ((h1 i hi).1 (h i hi)).1
 ·rcases Nat.lt_trichotomy i k with hlt | heq | hgt
  ·exact absurd ⟨i,hlt,e3,e1⟩ (((h1 k hk).1 (h k hk)).2 e2)
  ·exact heq
  ·exact absurd ⟨k,hgt,e3.symm,e2⟩ (((h1 i hi).1 (h i hi)).2 e1)
 ·have := h.2 k i (by omega) hi e2 e e1
  omega
theorem cls_iff {R : Prx} : clsOkX R = true ↔ R.cls.length ≤ 6 ∧ (∀ c ∈ R.cls,(1 ≤ c.id ∧ c.id ≤ 9) ∧ enKey c.key = true ∧ (1 ≤ c.st ∧ c.st ≤ 3) ∧ c.got.size ≤ 400 ∧ (0 ≤ c.fe ∧ c.fe ≤ R.fes.length) ∧ (0 ≤ c.fr ∧ c.fr ≤ R.now) ∧ 0 ≤ c.ag) ∧ R.cls.Pairwise fun x y => x.id < y.id := by
 unfold clsOkX
 rw [Bool.and_eq_true,decide_eq_true_eq,allT_iff]
 generalize R.cls = L
 have h1 : ∀ i (hi : i < L.length),cliF R.now R.fes.length L i = true ↔ ((1 ≤ L[i].id ∧ L[i].id ≤ 9) ∧ enKey L[i].key = true ∧ (1 ≤ L[i].st ∧ L[i].st ≤ 3) ∧ L[i].got.size ≤ 400 ∧ (0 ≤ L[i].fe ∧ L[i].fe ≤ R.fes.length) ∧ (0 ≤ L[i].fr ∧ L[i].fr ≤ R.now) ∧ 0 ≤ L[i].ag) ∧ (∀ (h0 : 0 < i),(L[i - 1]'(by omega)).id < L[i].id) := fun i hi => by
  unfold cliF
  rw [getD_of hi]
  simp only [Bool.and_eq_true,Bool.not_eq_true',inB_iff',decide_eq_true_eq]
  refine and_congr Iff.rfl ?_
  by_cases h0 : 0 < i
  ·rw [getD_of (show i - 1 < L.length by omega)]
   simp [h0]
  ·simp [h0]
 refine and_congr Iff.rfl ⟨fun h => ⟨fun f hf => ?_,pw_of_steps (r := fun x y : Cli => x.id < y.id) (fun a b c h k => Int.lt_trans h k) (fun i hi => ((h1 (i + 1) hi).1 (h (i + 1) hi)).2 (by omega))⟩,fun h i hi => (h1 i hi).2 ⟨h.1 _ (List.getElem_mem hi),fun h0 => pw_steps h.2 (i - 1) i (by omega) hi⟩⟩
 obtain ⟨i,hi,rfl⟩ := List.getElem_of_mem hf
 exact ((h1 i hi).1 (h i hi)).1
theorem okX_iff {R : Prx} : okX R = true ↔ OkX R := by
 unfold okX
 simp only [Bool.and_eq_true,inB_iff',ents_iff,fes_iff,cls_iff]
 constructor
 ·rintro ⟨⟨h1,h2⟩,h3,⟨h4,h5,h6,h7⟩,⟨h8,h9,h10⟩,h11,h12,h13⟩
  exact ⟨h1,h2,h3,h4,h5,h6,h7,h8,h9,h10,h11,h12,h13⟩
 ·rintro ⟨h1,h2,h3,h4,h5,h6,h7,h8,h9,h10,h11,h12,h13⟩
  exact ⟨⟨h1,h2⟩,h3,⟨h4,h5,h6,h7⟩,⟨h8,h9,h10⟩,h11,h12,h13⟩
theorem all_there : ∀ {K M : List ByteArray},K.Nodup → M.Nodup → (∀ z ∈ K,z ∈ M) → K.length = M.length → ∀ z ∈ M,z ∈ K
 | [],M,_,_,_,hl,z,hz => by
  have : M = [] := List.length_eq_zero_iff.1 hl.symm
  rw [this] at hz; simp at hz
 | a :: K,M,hK,hM,hs,hl,z,hz => by
  obtain ⟨h1,h2⟩ := List.nodup_cons.1 hK
  have ha := hs a (by simp)
  have hw := without_length hM ha
  by_cases e : z = a
  ·rw [e]; simp
  ·refine List.mem_cons_of_mem _ (all_there h2 (without_nodup (s := a) hM) (fun y hy => without_mem.2 ⟨hs y (List.mem_cons_of_mem _ hy),fun e => h1 (e ▸ hy)⟩) ?_ z (without_mem.2 ⟨hz,e⟩))
   rw [List.length_cons] at hl
   omega
theorem OkX.has {R : Prx} (h : OkX R) (key : ByteArray) : hasP R.pol key = true ↔ ∃ e ∈ R.ents,e.key = key := by
 obtain ⟨_,_,h3,h4,h5,_,_,_⟩ := okP_iff.1 h.pol
 have hM : (R.pol.win ++ R.pol.main).Nodup := List.nodup_append.2 ⟨h3,h4,fun a ha b hb e => h5 a ha (e ▸ hb)⟩
 have hmem : ∀ z,hasP R.pol z = true ↔ z ∈ R.pol.win ++ R.pol.main := fun z => by
  unfold hasP
  rw [Bool.or_eq_true,inL_iff,inL_iff,List.mem_append]
 have hK : (R.ents.map (·.key)).Nodup := List.pairwise_map.2 (h.up.apart)
 constructor
 ·intro hk
  have := all_there hK hM (fun z hz => by
   obtain ⟨e,he,rfl⟩ := List.mem_map.1 hz
   exact (hmem _).1 (h.sub e he)) (by rw [List.length_map,List.length_append]; exact h.len) key ((hmem key).1 hk)
  obtain ⟨e,he,rfl⟩ := List.mem_map.1 this
  exact ⟨e,he,rfl⟩
 ·rintro ⟨e,he,rfl⟩
  exact h.sub e he
def offE (L : List En) (key : ByteArray) : List En := keepX (fun e : En => eqS e.key key) L
end Go.Proofs.YtaahjcljanckaaaGreatDoor
