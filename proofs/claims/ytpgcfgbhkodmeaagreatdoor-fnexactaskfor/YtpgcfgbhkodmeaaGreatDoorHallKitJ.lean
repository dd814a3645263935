/- Texts that stand in one: HallKit, RowSet, TchKit, HallMore, CopyMany, DelBase. -/
import Derived.Test.YtpgcfgbhkodmeaaGreatDoorPrxCopyI
import Derived.Test.YtpgcfgbhkodmeaaGreatDoorFetRowsJ
import Derived.Test.YtpgcfgbhkodmeaaGreatDoorPrxBaseJ
import Derived.Test.YtpgcfgbhkodmeaaGreatDoorSumPlainJ
import Derived.Laws.CopyOwn
import Derived.Lib.SliceRun
import Derived.Test.YtpgcfgbhkodmeaaGreatDoorSkStepJ
namespace Go.Proofs.YtpgcfgbhkodmeaaGreatDoor
open Go.RowKit Go.Sort
structure HallAt (w : World) (lo T : Nat) (X : Pc) (R : Prx) : Prop where
 box : NB w T 105 (.int .i64 R.now) X.e X.w X.m X.k (.int .i64 R.pol.sk.added) X.f X.c (.int .i64 R.hits)
 own : PxOwn w lo w.heap.size X R
 le : lo ≤ T
set_option maxRecDepth 100000 in
set_option maxHeartbeats 4000000 in
theorem holdProxy_any (w : World) (X : Pc) (R : Prx) (hA : PxAt w X R w.heap.size) (hsz : PxSz R) :
  Calls Tryz.prog 55 #[.agg #[.int .i64 R.now,X.e,X.w,X.m,X.k,.int .i64 R.pol.sk.added,X.f,X.c,.int .i64 R.hits]] w fun e w' => ∃ (T : Nat) (Y : Pc),e = .returned (.pointer (some ⟨T, 0,none⟩)) ∧ HallAt w' w.heap.size T Y R ∧ Below w.heap.size w w' := by
 obtain ⟨w1,hw1⟩ : ∃ x,w.alloc (.cells #[.int .i64 R.now,X.e,X.w,X.m,X.k,.int .i64 R.pol.sk.added,X.f,X.c,.int .i64 R.hits] 48) = x := ⟨_,rfl⟩
 have hb1 : Below w.heap.size w w1 := by rw [← hw1]; exact (Below.refl _ _).alloc (Nat.le_refl _) _
 have hB : NB w1 w.heap.size 48 (.int .i64 R.now) X.e X.w X.m X.k (.int .i64 R.pol.sk.added) X.f X.c (.int .i64 R.hits) := by rw [← hw1]; exact NB.new _ _ _ _ _ _ _ _ _ _ _
 have c1 := proxyCopy_any w1 X R (hA.on hb1) hsz
 obtain ⟨b0,b1,b2,b3,b4,b5,b6,b7,b8⟩ := hB.cells
 have HW : Hid (w.alloc (.cells #[.int .i64 R.now,X.e,X.w,X.m,X.k,.int .i64 R.pol.sk.added,X.f,X.c,.int .i64 R.hits] 48) = w1) := hw1
 rw [← hw1] at b0 b1 b2 b3 b4 b5 b6 b7 b8
 clear hw1 hA hB
 go_enter Tryz.func55,Tryz.ntmps55
 go_wp2_with fail
 rw [HW.out] at b0 b1 b2 b3 b4 b5 b6 b7 b8 ⊢
 refine c1.mono ?_
 rintro e w2 ⟨Y,he,ho,hb2⟩
 obtain ⟨e0,e1,x0,x1,m0,m1,k0,k1,f0,f1,c0,c1',rfl⟩ := ho.slices
 dsimp only at he
 subst he
 have hb3 : Below w2.heap.size w2 (w2.alloc (.cells #[.int .i64 R.now,.slice e0 R.ents.length e1,.slice x0 R.pol.win.length x1,.slice m0 R.pol.main.length m1,.slice k0 R.pol.sk.rows.length k1,.int .i64 R.pol.sk.added,.slice f0 R.fes.length f1,.slice c0 R.cls.length c1',.int .i64 R.hits] 105)) := (Below.refl _ _).alloc (Nat.le_refl _) _
 have HF : Hid (HallAt (w2.alloc (.cells #[.int .i64 R.now,.slice e0 R.ents.length e1,.slice x0 R.pol.win.length x1,.slice m0 R.pol.main.length m1,.slice k0 R.pol.sk.rows.length k1,.int .i64 R.pol.sk.added,.slice f0 R.fes.length f1,.slice c0 R.cls.length c1',.int .i64 R.hits] 105)) w.heap.size w2.heap.size ⟨.slice e0 R.ents.length e1,.slice x0 R.pol.win.length x1,.slice m0 R.pol.main.length m1,.slice k0 R.pol.sk.rows.length k1,.slice f0 R.fes.length f1,.slice c0 R.cls.length c1'⟩ R ∧ Below w.heap.size w (w2.alloc (.cells #[.int .i64 R.now,.slice e0 R.ents.length e1,.slice x0 R.pol.win.length x1,.slice m0 R.pol.main.length m1,.slice k0 R.pol.sk.rows.length k1,.int .i64 R.pol.sk.added,.slice f0 R.fes.length f1,.slice c0 R.cls.length c1',.int .i64 R.hits] 105))) :=
  ⟨⟨NB.new _ _ _ _ _ _ _ _ _ _ _,((ho.mono hb1.size (Nat.le_refl _)).below hb3 (Nat.le_refl _)).up,Nat.le_trans hb1.size hb2.size⟩,(hb1.trans (hb2.mono hb1.size)).alloc (Nat.le_trans hb1.size hb2.size) _⟩
 clear ho hb2 hb3 c1 b0 b1 b2 b3 b4 b5 b6 b7 b8
 go_wp2_with fail
 go_ret
 exact ⟨_,_,rfl,HF.out.1,HF.out.2⟩
end Go.Proofs.YtpgcfgbhkodmeaaGreatDoor
namespace Go.Proofs.YtpgcfgbhkodmeaaGreatDoor
open Go.RowKit
end Go.Proofs.YtpgcfgbhkodmeaaGreatDoor
namespace Go.Proofs.YtpgcfgbhkodmeaaGreatDoor
open Go.RowKit Go.Sort
theorem grown_tch {w w' : World} {v : Value} (ht : Tch (fun b => v.ownBlock = some b) w w') : w.grownBy w' v.ownBlock := ⟨ht.1.os,ht.1.tape,ht.1.output,ht.1.size,fun k hk hn => ht.2 k hk (fun e => hn e.symm)⟩
theorem tch_setV {w w' : World} {v : Value} {G i : Nat} {u : Value} (hv : v.ownBlock = some G) (ht : Tch (fun b => v.ownBlock = some b) w w') : Tch (fun b => v.ownBlock = some b) w (w'.setCell ⟨G,i,none⟩ u) :=
 ⟨ht.1.setCell (Nat.zero_le _) _,fun k hk hn => by rw [Below.heap_setCell _ _ _ _ (fun e => hn (by rw [show k = G from e]; exact hv))]; exact ht.2 k hk hn⟩
theorem OwnFet.cellP {w : World} {base G n c : Nat} {e : TypeId} {L : List Fet} (h : OwnFet w base e (.slice (some ⟨G, 0,none⟩) n c) L) (j : Nat) (hj : j < L.length) : w.cell? ⟨G,j * 5,none⟩ = some (.string L[j].key) ∧ w.cell? ⟨G,j * 5 + 1,none⟩ = some (.string L[j].tx) ∧ w.cell? ⟨G,j * 5 + 2,none⟩ = some (.int .i64 L[j].st) ∧ w.cell? ⟨G,j * 5 + 3,none⟩ = some (.int .i64 L[j].lf) ∧ w.cell? ⟨G,j * 5 + 4,none⟩ = some (.int .i64 L[j].sto) := by
 obtain ⟨a,cap,e1,hA⟩ := h.at
 cases e1
 obtain ⟨g,o,e2,_,h1⟩ := hA j hj
 cases e2
 simpa using h1
theorem OwnFet.thaw {w : World} {base G c : Nat} {e : TypeId} {L : List Fet} (h : OwnFet w base e (.slice (some ⟨G, 0,none⟩) L.length c) L) (i : Nat) : w.frozen? ⟨G,i,none⟩ = false := World.ownsRow.frozenAt h i
theorem OwnCli.thaw {w : World} {base G c : Nat} {e : TypeId} {L : List Cli} (h : OwnCli w base e (.slice (some ⟨G, 0,none⟩) L.length c) L) (i : Nat) : w.frozen? ⟨G,i,none⟩ = false := World.ownsRow.frozenAt h i
def Fet.done (f : Fet) (lf sto : Int) : Fet := ⟨f.key,f.tx,f.st,lf,sto⟩
theorem HallAt.on {w w' : World} {lo T : Nat} {X : Pc} {R : Prx} (H : HallAt w lo T X R) (hb : Below w.heap.size w w') : HallAt w' lo T X R :=
 ⟨H.box.on hb,(H.own.below hb (Nat.le_refl _)).up,H.le⟩
theorem HallAt.lt {w : World} {lo T : Nat} {X : Pc} {R : Prx} (H : HallAt w lo T X R) : lo ≤ w.heap.size := Nat.le_trans H.le (Nat.le_of_lt H.box.lt)
theorem HallAt.far {w : World} {lo T : Nat} {X : Pc} {R : Prx} (H : HallAt w lo T X R) {v : Value} {e : TypeId} (hty : ∀ k,v.ownBlock = some k → ∃ cs,w.heap[k]? = some (.cells cs e (0, 0))) (hne : 105 ≠ e) : v.ownBlock ≠ some T := fun h => by
 obtain ⟨c,hc⟩ := hty T h
 have h2 : w.heap[T]? = _ := H.box
 rw [h2] at hc
 simp only [Option.some.injEq,Obj.cells.injEq] at hc
 exact hne hc.2.1
end Go.Proofs.YtpgcfgbhkodmeaaGreatDoor
namespace Go.Proofs.YtpgcfgbhkodmeaaGreatDoor
open Go.RowKit
theorem run_copy_rowN {P : Program} (w : World) (dT sT ty elem : TypeId) (g o dLen dCap : Nat) (a : Addr) (sLen sCap : Nat) (cur : Array Value) (t : TypeId) (cs : List Value) (k : Nat)
  (hu : P.underlying dT = some (.slice elem)) (hs : (P.info? elem).map (·.size) = some k)
  (hg : w.heap[g]? = some (.cells cur t (0, 0))) (hn : cs.length = Nat.min sLen dLen * k)
  (hsrc : ∀ j v,cs[j]? = some v → w.cell? (a.add j) = some v) (hfit : o + cs.length ≤ cur.size) (h1 : ∀ v ∈ cs,v.oneCell' = true) :
  (Builtin.copy_ #[dT,sT] ty #[.slice (some ⟨g,o,none⟩) dLen dCap,.slice (some a) sLen sCap]).run P w =
   .ok (goInt (Nat.min sLen dLen)) (w.setRow g (cur.toList.take o ++ cs ++ cur.toList.drop (o + cs.length)).toArray) := by
 have hl := run_loadCells_list (P := P) w a cs hsrc
 have hst := run_storeCells_at P g o t cs 0 cur w hg (by simpa using hfit) h1
 cases hq : P.info? elem with
 | none => simp [hq] at hs
 | some i =>
  have hi : i.size = k := by simpa [hq] using hs
  simp [Builtin.copy_,run_underlying hu,Builtin.lenOf,Builtin.firstCells,sizeOf,typeInfo,hq,hi, ← hn,hl,hst]
theorem step_copy_spliceN {P : Program} {ops : Array Oper} {o : Oper} {a : Act} {w : World} {K : Act → World → Prop} {Q : Exit → Act → World → Prop} {E : Prop} (hgd : o.guard = none) (d s : Operand) (dT sT : TypeId)
  (ho : o.op = .call { callee := .builtin .copy,args := #[d,s],argTypes := #[dT,sT] }) (elem : TypeId) (k : Nat) (hu : P.underlying dT = some (.slice elem)) (hsz : (P.info? elem).map (·.size) = some k)
  (dLen dCap sLen sCap : Nat) (g off : Nat) (ad : Addr) (hd : a.eval d = .slice (some ⟨g,off,none⟩) dLen dCap) (hs : a.eval s = .slice (some ad) sLen sCap)
  (cur : List Value) (t : TypeId) (hg : w.heap[g]? = some (.cells cur.toArray t (0, 0))) (cs : List Value) (hn : cs.length = Nat.min sLen dLen * k)
  (hsrc : ∀ j v,cs[j]? = some v → w.cell? (ad.add j) = some v)
  (hfit : off + cs.length ≤ cur.length) (h1 : ∀ v ∈ cs,v.oneCell' = true) (B : Nat) (w0 : World) (hb : Below B w0 w) (hBg : B ≤ g)
  (h : ∀ w',Hid (w'.heap[g]? = some (.cells (splice cur off cs).toArray t (0, 0)) ∧ ∀ j,j ≠ g → w'.heap[j]? = w.heap[j]?) → Below B w0 w' → K (a.put o.dst (goInt (Nat.min sLen dLen))) w') :
  if Region.wanted o (yielded ops a.tmps) = true then Oper.wp P o a w K Q else E := by
 have hw : Region.wanted o (yielded ops a.tmps) = true := by simp [Region.wanted,hgd]
 rw [if_pos hw]
 have hrun := run_copy_rowN (P := P) w dT sT o.type elem g off dLen dCap ad sLen sCap cur.toArray t cs k hu hsz hg hn hsrc (by simpa using hfit) h1
 unfold Oper.wp
 simp [execOp,ho,resolve,invoke,builtin,hd,hs,hrun,Result.andThen]
 exact h _ ⟨show _ = _ by simpa [splice] using setRow_heap w g _ _ t _ hg,fun j hj => setRow_other w g j _ hj⟩ (below_setRow hb hBg _)
theorem wpList_copy_spliceN {P : Program} {ops : Array Oper} {rest : List Oper} {o : Oper} {a : Act} {w : World} {Q : Exit → Act → World → Prop} (hgd : o.guard = none) (d s : Operand) (dT sT : TypeId)
  (ho : o.op = .call { callee := .builtin .copy,args := #[d,s],argTypes := #[dT,sT] }) (elem : TypeId) (k : Nat) (hu : P.underlying dT = some (.slice elem)) (hsz : (P.info? elem).map (·.size) = some k)
  (dLen dCap sLen sCap : Nat) (g off : Nat) (ad : Addr) (hd : a.eval d = .slice (some ⟨g,off,none⟩) dLen dCap) (hs : a.eval s = .slice (some ad) sLen sCap)
  (cur : List Value) (t : TypeId) (hg : w.heap[g]? = some (.cells cur.toArray t (0, 0))) (cs : List Value) (hn : cs.length = Nat.min sLen dLen * k)
  (hsrc : ∀ j v,cs[j]? = some v → w.cell? (ad.add j) = some v)
  (hfit : off + cs.length ≤ cur.length) (h1 : ∀ v ∈ cs,v.oneCell' = true) (B : Nat) (w0 : World) (hb : Below B w0 w) (hBg : B ≤ g)
  (h : ∀ w',Hid (w'.heap[g]? = some (.cells (splice cur off cs).toArray t (0, 0)) ∧ ∀ j,j ≠ g → w'.heap[j]? = w.heap[j]?) → Below B w0 w' → wpList P ops Q rest (a.put o.dst (goInt (Nat.min sLen dLen))) w') :
  wpList P ops Q (o :: rest) a w := by
 refine wpList_plain hgd fun K hK => ?_
 have hrun := run_copy_rowN (P := P) w dT sT o.type elem g off dLen dCap ad sLen sCap cur.toArray t cs k hu hsz hg hn hsrc (by simpa using hfit) h1
 unfold Oper.wp
 simp [execOp,ho,resolve,invoke,builtin,hd,hs,hrun,Result.andThen]
 exact hK _ _ (h _ ⟨show _ = _ by simpa [splice] using setRow_heap w g _ _ t _ hg,fun j hj => setRow_other w g j _ hj⟩ (below_setRow hb hBg _))
end Go.Proofs.YtpgcfgbhkodmeaaGreatDoor
namespace Go.Proofs.YtpgcfgbhkodmeaaGreatDoor
open Go.RowKit Go.Sort
def idxX {α : Type} (p : α → Bool) (L : List α) : Int := match L.findIdx? p with | some i => (i : Int) | none => -1
theorem idxX_hit {α : Type} {p : α → Bool} {L : List α} {k : Nat} (hk : k < L.length) (h : p L[k] = true) (hno : ∀ j (hj : j < k),p (L[j]'(by omega)) = false) : idxX p L = k := by
 have : L.findIdx? p = some k := by
  rw [List.findIdx?_eq_some_iff_getElem]
  exact ⟨hk,h,fun j hj => by simp [hno j hj]⟩
 simp [idxX,this]
theorem idxX_miss {α : Type} {p : α → Bool} {L : List α} (h : ∀ x ∈ L,p x = false) : idxX p L = -1 := by
 have : L.findIdx? p = none := by
  rw [List.findIdx?_eq_none_iff]
  exact h
 simp [idxX,this]
theorem idxX_cases {α : Type} (p : α → Bool) (L : List α) : (∃ (k : Nat) (hk : k < L.length),idxX p L = k ∧ p L[k] = true ∧ ∀ j (hj : j < k),p (L[j]'(by omega)) = false) ∨ (idxX p L = -1 ∧ ∀ x ∈ L,p x = false) := by
 cases h : L.findIdx? p with
 | none =>
  rw [List.findIdx?_eq_none_iff] at h
  exact .inr ⟨idxX_miss h,h⟩
 | some k =>
  have h0 := h
  rw [List.findIdx?_eq_some_iff_getElem] at h
  obtain ⟨hk,h1,h2⟩ := h
  exact .inl ⟨k,hk,by simp [idxX,h0],h1,fun j hj => by simpa using h2 j hj⟩
def keepX {α : Type} (p : α → Bool) (L : List α) : List α := L.filter fun x => !p x
theorem keepX_take {α : Type} {p : α → Bool} {L : List α} {k : Nat} (hk : k < L.length) : keepX p (L.take (k + 1)) = keepX p (L.take k) ++ if p L[k] = true then [] else [L[k]] := by
 unfold keepX
 rw [List.take_succ_eq_append_getElem hk,List.filter_append]
 cases h : p L[k] <;> simp [h]
theorem keepX_none {α : Type} {p : α → Bool} {L : List α} (h : ∀ x ∈ L,p x = false) : keepX p L = L := List.filter_eq_self.2 fun x hx => by rw [h x hx]; rfl
theorem keepX_step {α : Type} {p : α → Bool} {L : List α} {k : Nat} (hk : k < L.length) (hx : p L[k] = true) (hno : ∀ j (hj : j < k),p (L[j]'(by omega)) = false) : keepX p (L.take (k + 1)) = L.take k := by
 rw [keepX_take hk,if_pos hx,List.append_nil]
 refine keepX_none fun x hx => ?_
 obtain ⟨j,hj,rfl⟩ := List.getElem_of_mem hx
 rw [List.length_take] at hj
 rw [List.getElem_take]
 exact hno j (by omega)
theorem run_clear_x {P : Program} (w : World) (t e ty : TypeId) (z : Value) (ht : P.underlying t = some (.slice e)) (hv : ∀ w,(zeroValue e).run P w = .ok z w) (n : Nat) (hn : 0 < n) (h1 : ∀ v ∈ (Builtin.zeroCells z.cells n).toList,v.oneCell' = true) (g o c : Nat)
  (cur : List Value) (tt : TypeId) (hg : w.heap[g]? = some (.cells cur.toArray tt (0, 0))) (hfit : o + (Builtin.zeroCells z.cells n).toList.length ≤ cur.length) :
  (Builtin.clear_ #[t] ty #[.slice (some ⟨g,o,none⟩) n c]).run P w = .ok (.tuple #[]) (w.setRow g (splice cur o (Builtin.zeroCells z.cells n).toList).toArray) := by
 have hst := run_storeCells_at P g o tt (Builtin.zeroCells z.cells n).toList 0 cur.toArray w hg (by simpa using hfit) h1
 simp only [Nat.add_zero] at hst
 obtain ⟨m,rfl⟩ : ∃ m,n = m + 1 := ⟨n - 1,by omega⟩
 simp [Builtin.clear_,run_underlying ht,hv,hst,splice]
end Go.Proofs.YtpgcfgbhkodmeaaGreatDoor
