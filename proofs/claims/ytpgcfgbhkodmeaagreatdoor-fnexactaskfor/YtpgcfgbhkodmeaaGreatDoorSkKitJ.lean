/- Texts that stand in one: SkKit, MarkInts, SkLaw. -/
import Derived.Test.YtpgcfgbhkodmeaaGreatDoorSumPlainJ
import Derived.Lib.QuietBelow
import Derived.BigQuiet
namespace Go.Proofs.YtpgcfgbhkodmeaaGreatDoor
open Go.RowKit
def SSAt (w : World) (a : Option Addr) (LL : List (List Int)) (B : Nat) : Prop :=
 ∀ j (hj : j < LL.length), ∃ g off ai ci,a = some ⟨g,off,none⟩ ∧ g < B ∧ w.cell? ⟨g,off + j,none⟩ = some (.slice ai LL[j].length ci) ∧ IAt w ai LL[j] B
theorem SSAt.below {w w' : World} {a : Option Addr} {LL : List (List Int)} {B B' : Nat} (h : SSAt w a LL B) (hb : Below B' w w') (hB : B ≤ B') : SSAt w' a LL B := by
 intro j hj
 obtain ⟨g,off,ai,ci,ha,hg,h1,h2⟩ := h j hj
 exact ⟨g,off,ai,ci,ha,hg,(hb.cell (Nat.lt_of_lt_of_le hg hB)).trans h1,h2.below hb hB⟩
theorem SSAt.mono {w : World} {a : Option Addr} {LL : List (List Int)} {B B' : Nat} (h : SSAt w a LL B) (hB : B ≤ B') : SSAt w a LL B' := by
 intro j hj
 obtain ⟨g,off,ai,ci,ha,hg,h1,h2⟩ := h j hj
 exact ⟨g,off,ai,ci,ha,Nat.lt_of_lt_of_le hg hB,h1,h2.mono hB⟩
theorem SSAt.on {w w' : World} {a : Option Addr} {LL : List (List Int)} (h : SSAt w a LL w.heap.size) (hb : Below w.heap.size w w') : SSAt w' a LL w'.heap.size := (h.below hb (Nat.le_refl _)).mono hb.size
def OwnSS (w : World) (lo hi : Nat) (v : Value) (LL : List (List Int)) : Prop :=
 ∃ vs : List Value,OwnV w lo 36 v vs ∧ (∀ k,v.ownBlock = some k → k < hi) ∧ vs.length = LL.length ∧
  (∀ (i : Nat) (u : Value) (l : List Int),vs[i]? = some u → LL[i]? = some l → OwnV w lo 3 u (ints l) ∧ ∀ k,u.ownBlock = some k → k < hi) ∧
  (∀ (i j : Nat) (u u' : Value) (k : Nat),vs[i]? = some u → vs[j]? = some u' → u.ownBlock = some k → u'.ownBlock = some k → i = j)
theorem OwnSS.mono {w : World} {lo hi lo' hi' : Nat} {v : Value} {LL : List (List Int)} (h : OwnSS w lo hi v LL) (h1 : lo' ≤ lo) (h2 : hi ≤ hi') : OwnSS w lo' hi' v LL := by
 obtain ⟨vs,hv,hb,hl,hr,hd⟩ := h
 exact ⟨vs,hv.mono h1,fun k hk => Nat.lt_of_lt_of_le (hb k hk) h2,hl,fun i u l hu hll => ⟨(hr i u l hu hll).1.mono h1,fun k hk => Nat.lt_of_lt_of_le ((hr i u l hu hll).2 k hk) h2⟩,hd⟩
theorem OwnSS.up {w : World} {lo hi : Nat} {v : Value} {LL : List (List Int)} (h : OwnSS w lo hi v LL) : OwnSS w lo w.heap.size v LL := by
 obtain ⟨vs,hv,hb,hl,hr,hd⟩ := h
 exact ⟨vs,hv,fun k hk => (hv.lt k hk).2,hl,fun i u l hu hll => ⟨(hr i u l hu hll).1,fun k hk => ((hr i u l hu hll).1.lt k hk).2⟩,hd⟩
theorem OwnSS.kept {w w' : World} {lo hi : Nat} {v : Value} {LL : List (List Int)} (h : OwnSS w lo hi v LL) (hk : ∀ k,lo ≤ k → k < hi → k < w.heap.size → (∀ c,w.heap[k]? = some c → (∃ cs,c = .cells cs 36 (0, 0)) ∨ (∃ cs,c = .cells cs 3 (0, 0))) → w'.heap[k]? = w.heap[k]?) : OwnSS w' lo hi v LL := by
 obtain ⟨vs,hv,hb,hl,hr,hd⟩ := h
 have ty : ∀ (e : TypeId) (u : Value) (xs : List Value),OwnV w lo e u xs → ∀ k,u.ownBlock = some k → ∃ cs,w.heap[k]? = some (.cells cs e (0, 0)) := by
  intro e u xs ho k hk
  rcases ho.2 with ⟨rfl,_⟩ | ⟨g,cap,cur,rfl,_,hg,_⟩
  ·simp [Value.ownBlock] at hk
  ·simp [Value.ownBlock] at hk
   subst hk
   exact ⟨_,hg⟩
 refine ⟨vs,hv.kept fun k hk' => hk k (hv.lt k hk').1 (hb k hk') (hv.lt k hk').2 (fun c hc => ?_),hb,hl,fun i u l hu hll => ?_,hd⟩
 ·obtain ⟨cs,e⟩ := ty _ _ _ hv k hk'
  rw [e] at hc
  exact .inl ⟨cs,(Option.some.inj hc).symm⟩
 ·obtain ⟨ho,hh⟩ := hr i u l hu hll
  refine ⟨ho.kept fun k hk' => hk k (ho.lt k hk').1 (hh k hk') (ho.lt k hk').2 (fun c hc => ?_),hh⟩
  obtain ⟨cs,e⟩ := ty _ _ _ ho k hk'
  rw [e] at hc
  exact .inr ⟨cs,(Option.some.inj hc).symm⟩
theorem OwnSS.below {w w' : World} {B lo hi : Nat} {v : Value} {LL : List (List Int)} (h : OwnSS w lo hi v LL) (hb : Below B w w') (hB : w.heap.size ≤ B) : OwnSS w' lo hi v LL := h.kept fun k _ _ hk _ => hb.block k (Nat.lt_of_lt_of_le hk hB)
theorem OwnSS.tch {S : Nat → Prop} {w w' : World} {lo hi : Nat} {v : Value} {LL : List (List Int)} (h : OwnSS w lo hi v LL) (ht : Tch S w w') (hn : ∀ k,S k → k < lo ∨ hi ≤ k) : OwnSS w' lo hi v LL :=
 h.kept fun k h1 h2 hk _ => ht.2 k hk (fun e => by have := hn k e; omega)
theorem OwnSS.at {w : World} {lo hi : Nat} {v : Value} {LL : List (List Int)} (h : OwnSS w lo hi v LL) : ∃ a cap,v = .slice a LL.length cap ∧ SSAt w a LL w.heap.size := by
 obtain ⟨vs,hv,_,hl,hr,_⟩ := h
 obtain ⟨a,cap,e,hc⟩ := hv.shape
 rw [hl] at e
 refine ⟨a,cap,e,fun j hj => ?_⟩
 obtain ⟨g,ha,hcell,_,_,hg⟩ := hc j (by omega)
 have ho := (hr j vs[j] LL[j] (List.getElem?_eq_getElem _) (List.getElem?_eq_getElem _)).1
 obtain ⟨ai,ci,e2,hI⟩ := ho.ints
 rw [e2] at hcell
 exact ⟨g, 0,ai,ci,ha,hg,by simpa using hcell,hI⟩
theorem OwnSS.nil (w : World) (lo hi : Nat) : OwnSS w lo hi (.slice none 0 0) [] := ⟨[],OwnV.nil _ _ _,fun k hk => by simp [Value.ownBlock] at hk,rfl,fun i u l hu => by simp at hu,fun i j u u' k hu => by simp at hu⟩
theorem OwnSS.row {w : World} {lo hi : Nat} {v : Value} {LL : List (List Int)} (h : OwnSS w lo hi v LL) (i : Nat) (hi' : i < LL.length) :
  ∃ g cap u,v = .slice (some ⟨g, 0,none⟩) LL.length cap ∧ lo ≤ g ∧ g < w.heap.size ∧ w.cell? ⟨g,i,none⟩ = some u ∧ OwnV w lo 3 u (ints LL[i]) ∧ (∀ k,u.ownBlock = some k → lo ≤ k ∧ k < hi) ∧
   ∀ w' m,w.grownBy w' u.ownBlock → OwnV w' lo 3 u (ints m) → OwnSS w' lo hi v (LL.set i m) := by
 obtain ⟨vs,hv,hb,hl,hr,hd⟩ := h
 obtain ⟨a,cap,e,hc⟩ := hv.shape
 obtain ⟨g,ha,hcell,_,hlo,hg⟩ := hc i (by omega)
 rw [hl,ha] at e
 have hu : vs[i]? = some vs[i] := List.getElem?_eq_getElem (by omega)
 obtain ⟨ho,hh⟩ := hr i vs[i] LL[i] hu (List.getElem?_eq_getElem _)
 refine ⟨g,cap,vs[i],e,hlo,hg,hcell,ho,fun k hk => ⟨(ho.lt k hk).1,hh k hk⟩,fun w' m hgr hm => ⟨vs, ?_,hb,by rw [List.length_set]; exact hl,fun j u l hj hll => ?_,hd⟩⟩
 ·refine hv.grown hgr fun k hk e2 => ?_
  rcases ho.2 with ⟨e3,_⟩ | ⟨g3,cap3,cur3,e3,_,hg3,_⟩
  ·rw [e3] at e2; simp [Value.ownBlock] at e2
  ·rcases hv.2 with ⟨e4,_⟩ | ⟨g4,cap4,cur4,e4,_,hg4,_⟩
   ·rw [e4] at hk; simp [Value.ownBlock] at hk
   ·rw [e3] at e2
    rw [e4] at hk
    simp [Value.ownBlock] at e2 hk
    subst e2
    subst hk
    have := hg3.symm.trans hg4
    simp at this
 ·by_cases hij : i = j
  ·subst hij
   rw [hu] at hj
   cases hj
   rw [List.getElem?_set_self hi'] at hll
   cases hll
   exact ⟨hm,hh⟩
  ·rw [List.getElem?_set_ne hij] at hll
   obtain ⟨h1,h2⟩ := hr j u l hj hll
   exact ⟨h1.grown hgr fun k hk e2 => hij (hd i j vs[i] u k hu hj e2 hk),h2⟩
theorem OwnSS.put {w : World} {lo hi : Nat} {v u : Value} {LL : List (List Int)} {l : List Int} (h : OwnSS w lo hi v LL) (hu : OwnV w hi 3 u (ints l)) (hlh : lo ≤ hi) (k : Nat) (hk : k < LL.length) :
  ∃ g cap x,v = .slice (some ⟨g, 0,none⟩) LL.length cap ∧ w.cell? ⟨g,k,none⟩ = some x ∧ w.frozen? ⟨g,k,none⟩ = false ∧ lo ≤ g ∧ g < hi ∧ OwnSS (w.setCell ⟨g,k,none⟩ u) lo w.heap.size v (LL.set k l) := by
 obtain ⟨vs,hv,hb,hl,hr,hd⟩ := h
 obtain ⟨a,cap,e,hc⟩ := hv.shape
 obtain ⟨g,ha,hcell,hfr,hlo,hg⟩ := hc k (by omega)
 rw [ha] at e
 have hgh : g < hi := hb g (by rw [e]; rfl)
 rw [e] at hv
 have hst := hv.stored rfl k u
 have e' := e
 rw [hl] at e'
 have kp : ∀ (x : Value) (xs : List Value) (b : Nat) ,OwnV w b 3 x xs → OwnV (w.setCell ⟨g,k,none⟩ u) b 3 x xs := by
  intro x xs b ho
  refine ho.grown hst.2 fun j hj e2 => ?_
  simp at e2
  subst e2
  rcases ho.2 with ⟨e3,_⟩ | ⟨g3,cap3,cur3,e3,_,hg3,_⟩
  ·rw [e3] at hj; simp [Value.ownBlock] at hj
  ·rcases hv.2 with ⟨e4,_⟩ | ⟨g4,cap4,cur4,e4,_,hg4,_⟩
   ·simp at e4
   ·rw [e3] at hj
    simp at e4
    simp [Value.ownBlock] at hj
    obtain ⟨rfl,_⟩ := e4
    subst hj
    have := hg3.symm.trans hg4
    simp at this
 refine ⟨g,cap,vs[k]'(by omega),e',hcell,hfr,hlo,hgh,vs.set k u, ?_,fun j hj => ?_,by simp [hl],fun i x m hx hm => ?_,fun i j x y q hx hy h1 h2 => ?_⟩
 ·rw [e]; exact hst.1
 ·have := hst.1.lt j (by rw [e] at hj; exact hj)
  simpa using this.2
 ·by_cases hik : k = i
  ·subst hik
   rw [List.getElem?_set_self (by omega)] at hx hm
   cases hx
   cases hm
   have := kp u (ints l) hi hu
   exact ⟨this.mono hlh,fun j hj => by simpa using (this.lt j hj).2⟩
  ·rw [List.getElem?_set_ne hik] at hx hm
   have := kp x (ints m) lo (hr i x m hx hm).1
   exact ⟨this,fun j hj => by simpa using (this.lt j hj).2⟩
 ·by_cases hik : k = i
  ·by_cases hjk : k = j
   ·omega
   ·exfalso
    subst hik
    rw [List.getElem?_set_self (by omega)] at hx
    rw [List.getElem?_set_ne hjk] at hy
    cases hx
    have a1 := (hu.lt q h1).1
    have hjl : j < LL.length := by have := (List.getElem?_eq_some_iff.1 hy).1; omega
    have a2 := (hr j y LL[j] hy (List.getElem?_eq_getElem hjl)).2 q h2
    omega
  ·by_cases hjk : k = j
   ·exfalso
    subst hjk
    rw [List.getElem?_set_self (by omega)] at hy
    rw [List.getElem?_set_ne hik] at hx
    cases hy
    have a1 := (hu.lt q h2).1
    have hil : i < LL.length := by have := (List.getElem?_eq_some_iff.1 hx).1; omega
    have a2 := (hr i x LL[i] hx (List.getElem?_eq_getElem hil)).2 q h1
    omega
   ·rw [List.getElem?_set_ne hik] at hx
    rw [List.getElem?_set_ne hjk] at hy
    exact hd i j x y q hx hy h1 h2
theorem OwnSS.snoc {w' : World} {lo hi : Nat} {v' u : Value} {LL : List (List Int)} {l : List Int} {vs : List Value} (hl : vs.length = LL.length)
  (hr : ∀ (i : Nat) (u : Value) (l : List Int),vs[i]? = some u → LL[i]? = some l → OwnV w' lo 3 u (ints l) ∧ ∀ k,u.ownBlock = some k → k < hi)
  (hd : ∀ (i j : Nat) (u u' : Value) (k : Nat),vs[i]? = some u → vs[j]? = some u' → u.ownBlock = some k → u'.ownBlock = some k → i = j)
  (hv : OwnV w' lo 36 v' (vs ++ [u])) (hu : OwnV w' hi 3 u (ints l)) (hlh : lo ≤ hi) : OwnSS w' lo w'.heap.size v' (LL ++ [l]) := by
 refine ⟨vs ++ [u],hv,fun k hk => (hv.lt k hk).2,by simp [hl],fun i x m hx hm => ?_,fun i j x y q hx hy h1 h2 => ?_⟩
 ·by_cases hi' : i < vs.length
  ·rw [List.getElem?_append_left hi'] at hx
   rw [List.getElem?_append_left (by omega)] at hm
   have := (hr i x m hx hm).1
   exact ⟨this,fun k hk => (this.lt k hk).2⟩
  ·rw [List.getElem?_append_right (by omega)] at hx hm
   obtain ⟨e1,rfl⟩ := List.getElem?_eq_some_iff.1 hx
   obtain ⟨e2,rfl⟩ := List.getElem?_eq_some_iff.1 hm
   simp only [List.length_singleton] at e1
   simp only [List.getElem_singleton]
   exact ⟨hu.mono hlh,fun k hk => (hu.lt k hk).2⟩
 ·by_cases hi' : i < vs.length
  ·by_cases hj' : j < vs.length
   ·rw [List.getElem?_append_left hi'] at hx
    rw [List.getElem?_append_left hj'] at hy
    exact hd i j x y q hx hy h1 h2
   ·exfalso
    rw [List.getElem?_append_left hi'] at hx
    rw [List.getElem?_append_right (by omega)] at hy
    obtain ⟨e1,rfl⟩ := List.getElem?_eq_some_iff.1 hy
    simp only [List.getElem_singleton] at h2
    have a1 := (hu.lt q h2).1
    have a2 := (hr i x LL[i] hx (List.getElem?_eq_getElem (by omega))).2 q h1
    omega
  ·by_cases hj' : j < vs.length
   ·exfalso
    rw [List.getElem?_append_left hj'] at hy
    rw [List.getElem?_append_right (by omega)] at hx
    obtain ⟨e1,rfl⟩ := List.getElem?_eq_some_iff.1 hx
    simp only [List.getElem_singleton] at h1
    have a1 := (hu.lt q h1).1
    have a2 := (hr j y LL[j] hy (List.getElem?_eq_getElem (by omega))).2 q h2
    omega
   ·have := (List.getElem?_eq_some_iff.1 hx).1
    have := (List.getElem?_eq_some_iff.1 hy).1
    simp at *
    omega
def SkBox (w : World) (T : Nat) (v1 v2 : Value) : Prop := w.heap[T]? = some (.cells #[v1,v2] 42 (0, 0))
theorem SkBox.lt {w : World} {T : Nat} {a b : Value} (h : SkBox w T a b) : T < w.heap.size := (Array.getElem?_eq_some_iff.1 h).1
theorem SkBox.new (w : World) (a b : Value) : SkBox (w.alloc (.cells #[a,b] 42)) w.heap.size a b := heap_alloc_new w _
theorem SkBox.kept {w w' : World} {T : Nat} {a b : Value} (h : SkBox w T a b) (hk : w'.heap[T]? = w.heap[T]?) : SkBox w' T a b := hk.trans h
theorem SkBox.on {w w' : World} {T : Nat} {a b : Value} (h : SkBox w T a b) (hb : Below w.heap.size w w') : SkBox w' T a b := h.kept (hb.block T h.lt)
theorem SkBox.thaw {w : World} {T : Nat} {a b : Value} (h : SkBox w T a b) (i : Nat) : w.frozen? ⟨T,i,none⟩ = false := by
 unfold SkBox at h
 simp [World.frozen?,h]
theorem SkBox.cells {w : World} {T : Nat} {a b : Value} (h : SkBox w T a b) : w.cell? ⟨T, 0,none⟩ = some a ∧ w.cell? ⟨T, 1,none⟩ = some b := by
 unfold SkBox at h
 refine ⟨?_, ?_⟩
 ·rw [cell_of_row w T 0 _ _ (0, 0) h]; rfl
 ·rw [cell_of_row w T 1 _ _ (0, 0) h]; rfl
theorem SkBox.set0 {w : World} {T : Nat} {a b : Value} (h : SkBox w T a b) (x : Value) : SkBox (w.setCell ⟨T, 0,none⟩ x) T x b := by
 unfold SkBox at *
 simp only [World.setCell,Array.getElem?_modify,h]
 simp
theorem SkBox.set1 {w : World} {T : Nat} {a b : Value} (h : SkBox w T a b) (x : Value) : SkBox (w.setCell ⟨T, 1,none⟩ x) T a x := by
 unfold SkBox at *
 simp only [World.setCell,Array.getElem?_modify,h]
 simp
theorem SkBox.put {w : World} {T : Nat} {a b : Value} (h : SkBox w T a b) (x y : Value) : SkBox ((w.setCell ⟨T, 0,none⟩ x).setCell ⟨T, 1,none⟩ y) T x y := (h.set0 x).set1 y
theorem put2_other (w : World) (T : Nat) (x y : Value) (k : Nat) (hk : k ≠ T) : ((w.setCell ⟨T, 0,none⟩ x).setCell ⟨T, 1,none⟩ y).heap[k]? = w.heap[k]? := by
 rw [Below.heap_setCell _ _ _ _ (by exact hk),Below.heap_setCell _ _ _ _ (by exact hk)]
theorem Below.put2 {B : Nat} {a w : World} (h : Below B a w) {T : Nat} (hT : B ≤ T) (x y : Value) : Below B a ((w.setCell ⟨T, 0,none⟩ x).setCell ⟨T, 1,none⟩ y) := (h.setCell hT x).setCell hT y
theorem SkBox.far {w : World} {T T' : Nat} {a b : Value} (h : SkBox w T a b) (i : Nat) (x : Value) (hn : T ≠ T') : SkBox (w.setCell ⟨T',i,none⟩ x) T a b := h.kept (Below.heap_setCell _ _ _ _ (by exact hn))
theorem OwnSS.box {w w' : World} {lo hi T : Nat} {a b v : Value} {LL : List (List Int)} (h : OwnSS w lo hi v LL) (hB : SkBox w T a b) (hk : ∀ k,k ≠ T → w'.heap[k]? = w.heap[k]?) : OwnSS w' lo hi v LL :=
 h.kept fun k _ _ _ hty => hk k (fun e => by
  subst e
  rcases hty _ hB with ⟨cs,e⟩ | ⟨cs,e⟩
  ·simp at e
  ·simp at e)
theorem OwnSS.far {w : World} {lo hi T : Nat} {a b v : Value} {LL : List (List Int)} (h : OwnSS w lo hi v LL) (hB : SkBox w T a b) (i : Nat) (x : Value) : OwnSS (w.setCell ⟨T,i,none⟩ x) lo hi v LL := h.box hB fun k hk => Below.heap_setCell _ _ _ _ (by exact hk)
theorem OwnSS.put2 {w : World} {lo hi T : Nat} {a b v : Value} {LL : List (List Int)} (h : OwnSS w lo hi v LL) (hB : SkBox w T a b) (x y : Value) : OwnSS ((w.setCell ⟨T, 0,none⟩ x).setCell ⟨T, 1,none⟩ y) lo hi v LL := h.box hB fun k hk => put2_other w T x y k hk
def SkOwn (w : World) (lo hi : Nat) (v : Value) (S : Sk) : Prop := ∃ v1,v = .agg #[v1,.int .i64 S.added] ∧ OwnSS w lo hi v1 S.rows
theorem SkOwn.at {w : World} {lo hi : Nat} {v : Value} {S : Sk} (h : SkOwn w lo hi v S) : ∃ a c,v = .agg #[.slice a S.rows.length c,.int .i64 S.added] ∧ SSAt w a S.rows w.heap.size := by
 obtain ⟨v1,rfl,h1⟩ := h
 obtain ⟨a,c,rfl,hA⟩ := h1.at
 exact ⟨a,c,rfl,hA⟩
theorem SkOwn.mono {w : World} {lo hi lo' hi' : Nat} {v : Value} {S : Sk} (h : SkOwn w lo hi v S) (h1 : lo' ≤ lo) (h2 : hi ≤ hi') : SkOwn w lo' hi' v S := by
 obtain ⟨v1,rfl,h3⟩ := h
 exact ⟨v1,rfl,h3.mono h1 h2⟩
theorem SkOwn.below {w w' : World} {B lo hi : Nat} {v : Value} {S : Sk} (h : SkOwn w lo hi v S) (hb : Below B w w') (hB : w.heap.size ≤ B) : SkOwn w' lo hi v S := by
 obtain ⟨v1,rfl,h3⟩ := h
 exact ⟨v1,rfl,h3.below hb hB⟩
theorem SkOwn.put2 {w : World} {lo hi T : Nat} {a b v : Value} {S : Sk} (h : SkOwn w lo hi v S) (hB : SkBox w T a b) (x y : Value) : SkOwn ((w.setCell ⟨T, 0,none⟩ x).setCell ⟨T, 1,none⟩ y) lo hi v S := by
 obtain ⟨v1,rfl,h3⟩ := h
 exact ⟨v1,rfl,h3.put2 hB x y⟩
end Go.Proofs.YtpgcfgbhkodmeaaGreatDoor
namespace Go.Proofs.YtpgcfgbhkodmeaaGreatDoor
open Go.RowKit Go.Sort
def Marked (k : Nat) (m : List Int) (n : Nat) : Prop := ∀ i,i < n → m[i]? = some ((k + i : Nat) : Int)
set_option maxHeartbeats 1000000 in
theorem markI_any (w : World) (base : Nat) (v : Value) (l : List Int) (k : Nat) (hown : OwnV w base 3 v (ints l)) (hl : l.length ≤ 1048576) (hk1 : k ≤ 100000000) :
  Calls Tryz.prog 228 #[v,.int .i64 k] w fun e w' => e = .returned (.int .i64 ((k + l.length : Nat) : Int)) ∧ (∃ m,m.length = l.length ∧ Marked k m l.length ∧ OwnV w' base 3 v (ints m)) ∧ w.grownBy w' v.ownBlock := by
 obtain ⟨a,cap,rfl,_⟩ := hown.shape
 rw [ints_length] at hown ⊢
 go_enter Tryz.func228,Tryz.ntmps228
 go_wp2
 go_loopw [1, 5] (fun n i wr => Box (∃ (j : Nat) (m : List Int),Hid (m.length = l.length) ∧ Hid (Marked k m j) ∧ j ≤ l.length ∧ i = .int .i64 j ∧ n = .int .i64 ((k + j : Nat) : Int) ∧ OwnV wr base 3 (.slice a l.length cap) (ints m) ∧ w.grownBy wr (Value.slice a l.length cap).ownBlock))
  (fun _ i _ => l.length - (intOf i).toNat)
 case atStart => exact ⟨⟨0,l,rfl,fun i h => by omega,by omega,rfl,rfl,hown,grownBy_refl _ _⟩⟩
 case round =>
  obtain ⟨j,m,HL,HM,hj,rfl,rfl,hown1,hgr⟩ := hrel.out
  by_cases hlt : j < l.length
  ·have hjm : j < (ints m).length := by rw [ints_length,HL.out]; exact hlt
   obtain ⟨a',cap',hv,hc⟩ := hown1.shape
   obtain ⟨g,hg,hcell,hfr,hbg,hgs⟩ := hc j hjm
   rw [hg] at hv
   have ha : a = some ⟨g, 0,none⟩ := by simp only [Value.slice.injEq] at hv; exact hv.1
   subst ha
   have hst := hown1.stored (by rw [ints_length,HL.out]) j (.int .i64 ((k : Int) + (j : Int)))
   have he : (ints m).set j (.int .i64 ((k : Int) + (j : Int))) = ints (m.set j ((k : Int) + (j : Int))) := by simp [ints,List.map_set]
   rw [he] at hst
   have HX : Hid (OwnV (wr.setCell ⟨g,j,none⟩ (.int .i64 ((k : Int) + (j : Int)))) base 3 (.slice (some ⟨g, 0,none⟩) l.length cap) (ints (m.set j ((k : Int) + (j : Int)))) ∧ w.grownBy (wr.setCell ⟨g,j,none⟩ (.int .i64 ((k : Int) + (j : Int)))) (Value.slice (some ⟨g, 0,none⟩) l.length cap).ownBlock) := ⟨hst.1,grownBy_trans hgr hst.2⟩
   have HN : Hid (Marked k (m.set j ((k : Int) + (j : Int))) (j + 1)) := by
    intro i hi
    by_cases hij : j = i
    ·subst hij
     have hjl : j < m.length := by rw [HL.out]; exact hlt
     simp [hjl]
    ·rw [List.getElem?_set_ne hij]
     exact HM.out i (by omega)
   obtain ⟨u,hu⟩ : ∃ u,(ints m)[j] = u := ⟨_,rfl⟩
   rw [hu] at hcell
   clear hown1 hgr hc hv hg hown hst hrel hu he
   have hi1 : (0 : Int) ≤ (j : Int) := by omega
   have hi2 : (j : Int) < (l.length : Int) := by omega
   go_wp2
   go_roundw
   case rel =>
    try ((repeat apply Exists.intro); refine ⟨?_,rfl⟩)
    exact ⟨⟨j + 1,_,(by show _ = _; rw [List.length_set]; exact HL.out),HN,by omega,by go_num,by go_num,HX.out.1,HX.out.2⟩⟩
   case measure => simp [intOf]; omega
  ·go_wp2
   go_ret
   have hje : j = l.length := by omega
   subst hje
   exact ⟨rfl,⟨m,HL.out,HM.out,hown1⟩,hgr⟩
set_option maxHeartbeats 1000000 in
theorem heldI_any (w : World) (base : Nat) (v : Value) (m : List Int) (n k : Nat) (hn : m.length = n) (hown : OwnV w base 3 v (ints m)) (hM : Marked k m n) (hl : n ≤ 1048576) (hk1 : k ≤ 100000000) :
  Calls Tryz.prog 229 #[v,.int .i64 k] w fun e w' => e = .returned (.int .i64 ((k + n : Nat) : Int)) ∧ w' = w := by
 obtain ⟨a,cap,rfl,hc⟩ := hown.shape
 rw [ints_length,hn]
 go_enter Tryz.func229,Tryz.ntmps229
 go_wp2
 go_loopw [1, 5] (fun m i wr => Box (∃ (j : Nat),j ≤ n ∧ i = .int .i64 j ∧ m = .int .i64 ((k + j : Nat) : Int) ∧ w = wr))
  (fun _ i _ => n - (intOf i).toNat)
 case atStart => exact ⟨⟨0,by omega,rfl,rfl,rfl⟩⟩
 case round =>
  obtain ⟨j,hj,rfl,rfl,rfl⟩ := hrel.out
  by_cases hlt : j < n
  ·have hjm : j < m.length := by omega
   obtain ⟨g,rfl,hcell,_,_,hgs⟩ := hc j (by rw [ints_length]; exact hjm)
   have hmj : m[j] = ((k + j : Nat) : Int) := by
    have := hM j hlt
    rw [List.getElem?_eq_getElem hjm] at this
    exact Option.some.inj this
   rw [ints_at hjm,hmj] at hcell
   simp only [Int.natCast_add] at hcell
   clear hc hown hM hmj hjm hn hrel
   have hi1 : (0 : Int) ≤ (j : Int) := by omega
   have hi2 : (j : Int) < (n : Int) := by omega
   go_wp2
   go_roundw
   case rel =>
    try ((repeat apply Exists.intro); refine ⟨?_,rfl⟩)
    exact ⟨⟨j + 1,by omega,by go_num,by go_num,by first | rfl | trivial⟩⟩
   case measure => simp [intOf]; omega
  ·go_wp2
   go_ret
   exact ⟨ret_int (by omega),rfl⟩
def tot (LL : List (List Int)) (j : Nat) : Nat := ((LL.take j).map List.length).sum
theorem tot_zero (LL : List (List Int)) : tot LL 0 = 0 := by simp [tot]
theorem tot_succ (LL : List (List Int)) (j : Nat) (hj : j < LL.length) : tot LL (j + 1) = tot LL j + LL[j].length := by
 unfold tot
 rw [List.take_succ_eq_append_getElem hj,List.map_append,List.sum_append]
 simp only [List.map_cons,List.map_nil,List.sum_cons,List.sum_nil,Nat.add_zero]
theorem tot_mono (LL : List (List Int)) (j : Nat) : ∀ n,j ≤ n → n ≤ LL.length → tot LL j ≤ tot LL n
 | 0,h,_ => by rw [show j = 0 by omega]; exact Nat.le_refl _
 | n + 1,h,hn => by
  by_cases e : j = n + 1
  ·rw [e]; exact Nat.le_refl _
  ·have := tot_mono LL j n (by omega) (by omega)
   rw [tot_succ LL n (by omega)]
   omega
theorem tot_at (LL : List (List Int)) (j : Nat) (hj : j < LL.length) : tot LL j + LL[j].length ≤ tot LL LL.length := by
 rw [← tot_succ LL j hj]
 exact tot_mono LL (j + 1) _ (by omega) (Nat.le_refl _)
theorem fill_set {α : Type} (LL : List α) (z : α) (k : Nat) (hk : k < LL.length) : (LL.take k ++ List.replicate (LL.length - k) z).set k LL[k] = LL.take (k + 1) ++ List.replicate (LL.length - (k + 1)) z := by
 rw [List.set_append_right _ _ (by rw [List.length_take]; omega),List.length_take,show k - min k LL.length = 0 by omega,show LL.length - k = (LL.length - (k + 1)) + 1 by omega,List.replicate_succ,List.set_cons_zero,List.take_succ_eq_append_getElem hk,List.append_assoc]
 rfl
theorem Tryz.infoIntS : (Tryz.prog.info? 36).map (fun i => (i.zero,i.size,i.bytes)) = some (some (.slice none 0 0), 1, 24) := by kernel_rfl
theorem OwnSS.made {w : World} {lo n : Nat} {v : Value} (h : OwnV w lo 36 v (List.replicate n (.slice none 0 0))) : OwnSS w lo w.heap.size v (List.replicate n []) := by
 refine ⟨_,h,fun k hk => (h.lt k hk).2,by simp,fun i u l hu hl => ?_,fun i j u u' k hu hu' h1 => ?_⟩
 ·obtain ⟨_,rfl⟩ := List.getElem?_eq_some_iff.1 hu
  obtain ⟨_,rfl⟩ := List.getElem?_eq_some_iff.1 hl
  simp only [List.getElem_replicate]
  exact ⟨OwnV.nil _ _ _,fun k hk => by simp [Value.ownBlock] at hk⟩
 ·obtain ⟨_,rfl⟩ := List.getElem?_eq_some_iff.1 hu
  simp [Value.ownBlock] at h1
theorem szIntS_sk (w : World) (a : Option Addr) (cap n : Nat) (left : Int) (h0 : 0 ≤ left) (h1 : left ≤ 1048576) (hm : n ≤ maxLen) :
  Calls Tryz.prog 18 #[.slice a n cap,.int .i64 left] w fun e w' => ∃ r : Int,e = .returned (.int .i64 r) ∧ (r = -1 ∨ 0 ≤ r ∧ r + (n : Int) = left) ∧ w' = w := by
 unfold maxLen at hm
 by_cases hA : left - n < 0
 ·go_enter Tryz.func18,Tryz.ntmps18
  go_wp2
  go_ret
  exact ⟨_,rfl,.inl rfl,rfl⟩
 ·go_enter Tryz.func18,Tryz.ntmps18
  go_wp2
  go_ret
  exact ⟨_,rfl,.inr ⟨by omega,by omega⟩,rfl⟩
set_option maxHeartbeats 2000000 in
theorem toIntSS_any (w : World) (a : Option Addr) (cap : Nat) (LL : List (List Int)) (hA : SSAt w a LL w.heap.size) (hm : LL.length + tot LL LL.length ≤ 1048576) :
  Calls Tryz.prog 170 #[.slice a LL.length cap] w fun e w' => ∃ v,e = .returned v ∧ OwnSS w' w.heap.size w'.heap.size v LL ∧ Below w.heap.size w w' := by
 obtain ⟨i0,hi,hz0,hz1,hz2⟩ := info_parts Tryz.infoIntS
 obtain ⟨w0,hmk,hown0,hgr0⟩ := run_make_full (P := Tryz.prog) w w.heap.size 24 36 i0 (.slice none 0 0) 1 Tryz.underlying24 hi hz0 hz1 .i64 .i64 LL.length (by rw [hz2]; omega) (by unfold maxLen; omega) (Nat.le_refl _)
 have hb0 : Below w.heap.size w w0 := ⟨hgr0.os,hgr0.tape,hgr0.output,hgr0.size,fun j hj => hgr0.block j hj (by simp)⟩
 obtain ⟨G,hG⟩ : ∃ G,w.heap.size = G := ⟨_,rfl⟩
 have hown : OwnSS w0 G w0.heap.size (.slice (some ⟨G, 0,none⟩) LL.length LL.length) (List.replicate LL.length []) := by
  rw [← hG]
  refine OwnSS.made ?_
  have := hown0
  rw [show (Value.slice none 0 0).cells = #[Value.slice none 0 0] from rfl,toList_madeCells_one,Nat.mul_one] at this
  unfold OwnV
  rw [List.length_replicate]
  exact this
 rw [hG] at hmk
 clear hown0 hgr0 hi hz0 hz1 hz2
 go_enter Tryz.func170,Tryz.ntmps170
 go_wp2
 go_loopw [4] (fun i wr => Box (∃ (k : Nat),k ≤ LL.length ∧ i = .int .i64 k ∧ OwnSS wr G wr.heap.size (.slice (some ⟨G, 0,none⟩) LL.length LL.length) (LL.take k ++ List.replicate (LL.length - k) []) ∧ Below w.heap.size w wr))
  (fun i _ => LL.length - (intOf i).toNat)
 case atStart => exact ⟨⟨0,by omega,rfl,by simpa using hown,hb0⟩⟩
 case round =>
  obtain ⟨k,hk,rfl,hown1,hbel⟩ := hrel.out
  by_cases hlt : k < LL.length
  ·obtain ⟨g,off,ai,ci,rfl,hg,hc0,hI⟩ := (hA.below hbel (Nat.le_refl _)) k hlt
   have hlen := tot_at LL k hlt
   have c := toIntS_any wr ai ci LL[k] (hI.mono hbel.size) (by omega)
   have HL : Hid (k < (LL.take k ++ List.replicate (LL.length - k) ([] : List Int)).length) := by show _ < _; simp; omega
   have HF := fill_set LL [] k hlt
   obtain ⟨r,hrr⟩ : ∃ r,LL[k] = r := ⟨_,rfl⟩
   rw [hrr] at hc0 c HF
   have HF' : Hid ((LL.take k ++ List.replicate (LL.length - k) ([] : List Int)).set k r = LL.take (k + 1) ++ List.replicate (LL.length - (k + 1)) []) := HF
   have hGs : G ≤ wr.heap.size := by rw [← hG]; exact hbel.size
   have HA : Hid (OwnSS wr G wr.heap.size (.slice (some ⟨G, 0,none⟩) LL.length LL.length) (LL.take k ++ List.replicate (LL.length - k) [])) := hown1
   clear hrel hA hmk hown hb0 HF hrr hI hlen hown1
   have hi1 : (0 : Int) ≤ (k : Int) := by omega
   have hi2 : (k : Int) < (LL.length : Int) := by omega
   go_wp2_with fail
   refine c.mono ?_
   rintro e w1 ⟨u,rfl,hu,hb1⟩
   obtain ⟨ua,uc,rfl,_⟩ := hu.ints
   obtain ⟨g1,cap1,x,hv,xc,xf,hg1,_,hput⟩ := (HA.out.below hb1 (Nat.le_refl _)).put hu hGs k HL.out
   simp only [Value.slice.injEq,Option.some.injEq,Addr.mk.injEq,and_true] at hv
   obtain ⟨rfl,e1,e2⟩ := hv
   clear e1 e2
   rw [HF'.out] at hput
   have HX : Hid (OwnSS (w1.setCell ⟨G,k,none⟩ (.slice ua r.length uc)) G (w1.setCell ⟨G,k,none⟩ (.slice ua r.length uc)).heap.size (.slice (some ⟨G, 0,none⟩) LL.length LL.length) (LL.take (k + 1) ++ List.replicate (LL.length - (k + 1)) []) ∧ Below w.heap.size w (w1.setCell ⟨G,k,none⟩ (.slice ua r.length uc))) := ⟨by simpa using hput,(hbel.trans (hb1.mono hbel.size)).setCell (show w.heap.size ≤ G by omega) _⟩
   clear c hput hu hb1 HA HL
   go_wp2_with fail
   go_roundw
   case rel =>
    try ((repeat apply Exists.intro); refine ⟨?_,rfl⟩)
    exact ⟨⟨k + 1,by omega,by go_num,HX.out.1,HX.out.2⟩⟩
   case measure => simp [intOf]; omega
  ·go_wp2_with fail
   go_ret
   have hke : k = LL.length := by omega
   subst hke
   simp only [List.take_length,Nat.sub_self,List.replicate_zero,List.append_nil] at hown1
   exact ⟨_,rfl,by rw [hG]; exact hown1,hbel⟩
set_option maxHeartbeats 1000000 in
theorem eqIntSS_same (w : World) (a b : Option Addr) (c1 c2 : Nat) (LL : List (List Int)) (hA : SSAt w a LL w.heap.size) (hB : SSAt w b LL w.heap.size) (hl : LL.length + tot LL LL.length ≤ 1048576) :
  Calls Tryz.prog 189 #[.slice a LL.length c1,.slice b LL.length c2] w fun e w' => e = .returned (.bool true) ∧ Below w.heap.size w w' := by
 go_enter Tryz.func189,Tryz.ntmps189
 go_wp2
 go_loopw [5] (fun i wr => Box (∃ (k : Nat),k ≤ LL.length ∧ i = .int .i64 k ∧ Below w.heap.size w wr))
  (fun i _ => LL.length - (intOf i).toNat)
 case atStart => exact ⟨⟨0,by omega,rfl,Below.refl _ _⟩⟩
 case round =>
  obtain ⟨k,hk,rfl,hbel⟩ := hrel.out
  by_cases hlt : k < LL.length
  ·obtain ⟨g,off,ai,ci,rfl,hg,hc0,hI⟩ := (hA.below hbel (Nat.le_refl _)) k hlt
   obtain ⟨g',off',bi,di,rfl,hg',hd0,hJ⟩ := (hB.below hbel (Nat.le_refl _)) k hlt
   have hlen := tot_at LL k hlt
   have hI' := hI.mono hbel.size
   have hJ' := hJ.mono hbel.size
   obtain ⟨f,hf⟩ : ∃ f,LL[k] = f := ⟨_,rfl⟩
   rw [hf] at hc0 hd0 hI' hJ' hlen
   have k0 := cell_regrown hc0
   have l0 := cell_regrown hd0
   have cV : ∀ d os,Calls Tryz.prog 38 #[.slice ai f.length ci,.slice bi f.length di] (grow (redrawn wr d) os) fun e w'' => e = .returned (.bool true) ∧ ∃ p : Regrown,w'' = grow (redrawn wr p.d) p.os := fun d os => Calls.regrown_of (by have h := below_regrown wr d os; have := eqIntS_same (grow (redrawn wr d) os) ai bi ci di f (hI'.on h) (hJ'.on h) (by omega); simpa using this)
   clear hA hB hrel hc0 hd0 hI hJ hI' hJ' hf hlen
   have hi1 : (0 : Int) ≤ (k : Int) := by omega
   have hi2 : (k : Int) < (LL.length : Int) := by omega
   go_wp2
   refine wp_region_quiet_below (by kernel_rfl) (by kernel_rfl) ?_
   repeat (first | go_big_quiet_step (exact cV _ _) | quiet_step (exact cV _ _))
   refine wpQuiet_nil ?_
   intro _ hw'
   obtain ⟨⟨dq,osq⟩,hw''⟩ := hw'
   subst hw''
   go_wp2
   go_roundw
   case rel =>
    try ((repeat apply Exists.intro); refine ⟨?_,rfl⟩)
    exact ⟨⟨k + 1,by omega,by go_num,hbel.trans ((below_regrown wr dq osq).mono hbel.size)⟩⟩
   case measure => simp [intOf]; omega
  ·go_wp2
   go_ret
   exact ⟨rfl,hbel⟩
def MarkSS (k : Nat) (LL MM : List (List Int)) (j : Nat) : Prop := MM.map List.length = LL.map List.length ∧ ∀ i m,i < j → MM[i]? = some m → Marked (k + tot LL i) m m.length
set_option maxHeartbeats 1000000 in
theorem heldIntSS_any (w : World) (lo hi : Nat) (a : Option Addr) (cap : Nat) (LL MM : List (List Int)) (k : Nat) (hO : OwnSS w lo hi (.slice a LL.length cap) MM) (hM : MarkSS k LL MM LL.length) (hl : LL.length + tot LL LL.length ≤ 1048576) (hk : k ≤ 10000000) :
  Calls Tryz.prog 191 #[.slice a LL.length cap,.int .i64 k] w fun e w' => e = .returned (.int .i64 ((k + tot LL LL.length : Nat) : Int)) ∧ w' = w := by
 have hML : MM.length = LL.length := by have := congrArg List.length hM.1; simpa using this
 go_enter Tryz.func191,Tryz.ntmps191
 go_wp2
 go_loopw [1, 5] (fun n i wr => Box (∃ (j : Nat),j ≤ LL.length ∧ i = .int .i64 j ∧ n = .int .i64 ((k + tot LL j : Nat) : Int) ∧ w = wr))
  (fun _ i _ => LL.length - (intOf i).toNat)
 case atStart => exact ⟨⟨0,by omega,rfl,by rw [tot_zero]; rfl,rfl⟩⟩
 case round =>
  obtain ⟨j,hj,rfl,rfl,rfl⟩ := hrel.out
  by_cases hlt : j < LL.length
  ·have hjm : j < MM.length := by omega
   have hlj : MM[j].length = LL[j].length := by
    have := congrArg (·[j]?) hM.1
    simp only [List.getElem?_map,List.getElem?_eq_getElem hjm,List.getElem?_eq_getElem hlt,Option.map_some,Option.some.injEq] at this
    exact this
   obtain ⟨g,cap',u,hv,_,hgs,hc,ho,_,_⟩ := hO.row j hjm
   simp only [Value.slice.injEq] at hv
   obtain ⟨rfl,e1,e2⟩ := hv
   clear e1 e2
   have hta := tot_at LL j hlt
   have HT : Hid (tot LL (j + 1) = tot LL j + LL[j].length) := tot_succ LL j hlt
   have c := heldI_any w lo u MM[j] MM[j].length (k + tot LL j) rfl ho (hM.2 j MM[j] hlt (List.getElem?_eq_getElem hjm)) (by omega) (by omega)
   rw [hlj] at c
   obtain ⟨r,hr⟩ : ∃ r,LL[j].length = r := ⟨_,rfl⟩
   rw [hr] at c HT hta
   obtain ⟨K,hK⟩ : ∃ K,k + tot LL j = K := ⟨_,rfl⟩
   rw [hK] at c ⊢
   have HE : Hid ((K : Int) + (r : Int) = ((k + tot LL (j + 1) : Nat) : Int)) := by show _ = _; rw [HT.out, ← hK]; omega
   have hKr : ¬ (((K + r : Nat) : Int) < 0) := by omega
   clear hrel hO hM ho hlj hML hr hK hta hjm HT
   have hi1 : (0 : Int) ≤ (j : Int) := by omega
   have hi2 : (j : Int) < (LL.length : Int) := by omega
   go_wp2_with fail
   refine c.mono ?_
   rintro e w1 ⟨rfl,rfl⟩
   go_wp2_with fail
   go_roundw
   case rel =>
    try ((repeat apply Exists.intro); refine ⟨?_,rfl⟩)
    exact ⟨⟨j + 1,by omega,by go_num,by rw [HE.out],by first | rfl | trivial⟩⟩
   case measure => simp [intOf]; omega
  ·go_wp2_with fail
   go_ret
   have hje : j = LL.length := by omega
   subst hje
   exact ⟨rfl,rfl⟩
end Go.Proofs.YtpgcfgbhkodmeaaGreatDoor
