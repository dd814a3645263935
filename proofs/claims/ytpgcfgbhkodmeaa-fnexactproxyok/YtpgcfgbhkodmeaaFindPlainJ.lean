/- Texts that stand in one: FindPlain, CopyMany. -/
import Derived.Test.YtpgcfgbhkodmeaaEntPlainJ
import Derived.Test.YtpgcfgbhkodmeaaDiskPlainJ
import Derived.Laws.CopyOwn
import Derived.Lib.SliceRun
namespace Go.Proofs.Ytpgcfgbhkodmeaa
open Go.RowKit
/-- The entries among texts. -/
def entsOf (xs : List ByteArray) : List En := xs.filterMap fun x => if reOk x = true then some (reE x) else none
theorem ents_yes {x : ByteArray} (xs : List ByteArray) (h : reOk x = true) : entsOf (xs ++ [x]) = entsOf xs ++ [reE x] := by simp [entsOf, h]
theorem ents_no {x : ByteArray} (xs : List ByteArray) (h : reOk x = false) : entsOf (xs ++ [x]) = entsOf xs := by simp [entsOf, h]
theorem ents_len (xs : List ByteArray) : (entsOf xs).length ≤ xs.length := List.length_filterMap_le _ _
/-- An entry in its place. -/
def insE (L : List En) (e : En) : List En := (L.filter fun x => ltS x.key e.key) ++ e :: (L.filter fun x => ltS e.key x.key)
def findE (es : List En) : List En := es.foldl insE []
theorem findE_snoc (es : List En) (e : En) : findE (es ++ [e]) = insE (findE es) e := by simp [findE]
/-- A later one takes the place of one of its key. -/
def posE (L : List En) (k : ByteArray) : Option Nat := L.findIdx? fun x => decide (x.key = k)
def updE (L : List En) (e : En) : List En := match posE L e.key with | some j => L.set j e | none => L ++ [e]
def lastE (es : List En) : List En := es.foldl updE []
theorem lastE_snoc (es : List En) (e : En) : lastE (es ++ [e]) = updE (lastE es) e := by simp [lastE]

def UpK (L : List En) : Prop := L.Pairwise fun x y => ltS x.key y.key = true
def ApartK (L : List En) : Prop := L.Pairwise fun x y => x.key ≠ y.key
theorem UpK.apart {L : List En} (h : UpK L) : ApartK L := h.imp fun {x y} hxy e => by rw [e, ltS_irr] at hxy; cases hxy
theorem mem_insE {L : List En} {e x : En} : x ∈ insE L e ↔ x = e ∨ (x ∈ L ∧ x.key ≠ e.key) := by
  unfold insE
  simp only [List.mem_append, List.mem_cons, List.mem_filter]
  constructor
  · rintro (⟨h1, h2⟩ | h | ⟨h1, h2⟩)
    · exact .inr ⟨h1, fun e => by rw [e, ltS_irr] at h2; cases h2⟩
    · exact .inl h
    · exact .inr ⟨h1, fun e => by rw [e, ltS_irr] at h2; cases h2⟩
  · rintro (h | ⟨h1, h2⟩)
    · exact .inr (.inl h)
    · rcases ltS_total h2 with h | h
      · exact .inl ⟨h1, h⟩
      · exact .inr (.inr ⟨h1, h⟩)
theorem insE_up {L : List En} (h : UpK L) (e : En) : UpK (insE L e) := by
  unfold UpK insE
  rw [List.pairwise_append]
  refine ⟨h.filter _, ?_, ?_⟩
  · rw [List.pairwise_cons]
    exact ⟨fun x hx => (List.mem_filter.1 hx).2, h.filter _⟩
  · intro x hx y hy
    have hx2 := (List.mem_filter.1 hx).2
    rcases List.mem_cons.1 hy with rfl | hy
    · exact hx2
    · exact ltS_trans hx2 (List.mem_filter.1 hy).2
theorem findE_up (es : List En) : UpK (findE es) := by
  have go : ∀ (es L : List En), UpK L → UpK (es.foldl insE L) := by
    intro es
    induction es with
    | nil => intro L h; exact h
    | cons e es ih => intro L h; exact ih _ (insE_up h e)
  exact go es [] List.Pairwise.nil
theorem posE_some {L : List En} {k : ByteArray} {j : Nat} (h : posE L k = some j) : ∃ hj : j < L.length, L[j].key = k := by
  unfold posE at h
  rw [List.findIdx?_eq_some_iff_getElem] at h
  obtain ⟨hj, h1, _⟩ := h
  exact ⟨hj, by simpa using h1⟩
theorem posE_none {L : List En} {k : ByteArray} (h : posE L k = none) : ∀ x ∈ L, x.key ≠ k := by
  unfold posE at h
  rw [List.findIdx?_eq_none_iff] at h
  intro x hx
  simpa using h x hx
theorem apart_at {L : List En} (h : ApartK L) {i j : Nat} (hi : i < L.length) (hj : j < L.length) (he : L[i].key = L[j].key) : i = j := by
  rcases Nat.lt_trichotomy i j with hlt | heq | hlt
  · exact absurd he (List.pairwise_iff_getElem.1 h i j hi hj hlt)
  · exact heq
  · exact absurd he.symm (List.pairwise_iff_getElem.1 h j i hj hi hlt)
theorem mem_updE {L : List En} (h : ApartK L) {e x : En} : x ∈ updE L e ↔ x = e ∨ (x ∈ L ∧ x.key ≠ e.key) := by
  unfold updE
  cases hp : posE L e.key with
  | none =>
    have hn := posE_none hp
    simp only [List.mem_append, List.mem_singleton]
    constructor
    · rintro (h | h)
      · exact .inr ⟨h, hn x h⟩
      · exact .inl h
    · rintro (h | ⟨h, _⟩)
      · exact .inr h
      · exact .inl h
  | some j =>
    obtain ⟨hj, hk⟩ := posE_some hp
    show x ∈ L.set j e ↔ _
    constructor
    · intro hm
      obtain ⟨i, hi, hx⟩ := List.getElem_of_mem hm
      rw [List.length_set] at hi
      rw [List.getElem_set] at hx
      split at hx
      · exact .inl hx.symm
      · rename_i hne
        refine .inr ⟨by rw [← hx]; exact List.getElem_mem hi, fun he => hne ?_⟩
        rw [← hx] at he
        exact (apart_at h hj hi (by rw [hk, he]))
    · rintro (rfl | ⟨hm, hne⟩)
      · exact List.mem_set hj _
      · obtain ⟨i, hi, hx⟩ := List.getElem_of_mem hm
        have hij : j ≠ i := by rintro rfl; exact hne (by rw [← hx, hk])
        have : (L.set j e)[i]'(by rw [List.length_set]; exact hi) = x := by rw [List.getElem_set_ne hij]; exact hx
        rw [← this]
        exact List.getElem_mem _
theorem updE_apart {L : List En} (h : ApartK L) (e : En) : ApartK (updE L e) := by
  unfold updE
  cases hp : posE L e.key with
  | none =>
    have hn := posE_none hp
    show ApartK (L ++ [e])
    unfold ApartK
    rw [List.pairwise_append]
    exact ⟨h, by simp, fun x hx y hy => by rw [List.mem_singleton.1 hy]; exact hn x hx⟩
  | some j =>
    obtain ⟨hj, hk⟩ := posE_some hp
    show ApartK (L.set j e)
    unfold ApartK
    rw [List.pairwise_iff_getElem]
    intro i l hi hl hil
    rw [List.length_set] at hi hl
    have hb := List.pairwise_iff_getElem.1 h i l hi hl hil
    rw [List.getElem_set, List.getElem_set]
    split
    · split
      · omega
      · rename_i h1 h2
        subst h1
        rw [← hk]; exact hb
    · split
      · rename_i h1 h2
        subst h2
        rw [← hk]; exact hb
      · exact hb
theorem lastE_apart (es : List En) : ApartK (lastE es) := by
  have go : ∀ (es L : List En), ApartK L → ApartK (es.foldl updE L) := by
    intro es
    induction es with
    | nil => intro L h; exact h
    | cons e es ih => intro L h; exact ih _ (updE_apart h e)
  exact go es [] List.Pairwise.nil
theorem last_find (es : List En) : ∀ x, x ∈ lastE es ↔ x ∈ findE es := by
  have go : ∀ (es L M : List En), ApartK L → (∀ x, x ∈ L ↔ x ∈ M) → ∀ x, x ∈ es.foldl updE L ↔ x ∈ es.foldl insE M := by
    intro es
    induction es with
    | nil => intro L M _ h; exact h
    | cons e es ih =>
      intro L M hL h
      refine ih _ _ (updE_apart hL e) fun x => ?_
      rw [mem_updE hL, mem_insE, h x]
  exact go es [] [] List.Pairwise.nil fun x => Iff.rfl
/-- Two lists that ascend and have the same entries are one. -/
theorem up_ext : ∀ {L M : List En}, UpK L → UpK M → (∀ x, x ∈ L ↔ x ∈ M) → L = M
  | [], [], _, _, _ => rfl
  | [], y :: M, _, _, h => absurd ((h y).2 (by simp)) (by simp)
  | x :: L, [], _, _, h => absurd ((h x).1 (by simp)) (by simp)
  | x :: L, y :: M, hL, hM, h => by
    obtain ⟨hL1, hL2⟩ := List.pairwise_cons.1 hL
    obtain ⟨hM1, hM2⟩ := List.pairwise_cons.1 hM
    have hxy : x = y := by
      rcases List.mem_cons.1 ((h x).1 (by simp)) with e | hx
      · exact e
      · rcases List.mem_cons.1 ((h y).2 (by simp)) with e | hy
        · exact e.symm
        · have h1 := hL1 y hy
          have h2 := hM1 x hx
          have := ltS_asym h1
          rw [h2] at this
          cases this
    subst hxy
    congr 1
    refine up_ext hL2 hM2 fun z => ?_
    have hz := h z
    simp only [List.mem_cons] at hz
    constructor
    · intro hm
      rcases hz.1 (.inr hm) with e | hm'
      · subst e; have := hL1 z hm; rw [ltS_irr] at this; cases this
      · exact hm'
    · intro hm
      rcases hz.2 (.inr hm) with e | hm'
      · subst e; have := hM1 z hm; rw [ltS_irr] at this; cases this
      · exact hm'
/-- Whatever is sorted of what came last is what is found. -/
theorem sorted_find {es D : List En} (hp : D.Perm (lastE es)) (hs : D.Pairwise fun x y => ltS y.key x.key = false) : D = findE es := by
  have hap : ApartK D := (hp.pairwise_iff (fun {x y} h e => h e.symm)).2 (lastE_apart es)
  have hup : UpK D := by
    refine List.Pairwise.imp₂ ?_ hap hs
    intro x y h1 h2
    rcases ltS_total h1 with h | h
    · exact h
    · rw [h] at h2; cases h2
  exact up_ext hup (findE_up es) fun x => (hp.mem_iff).trans (last_find es x)
theorem insE_len (L : List En) (e : En) : (insE L e).length ≤ L.length + 1 := by
  have hd : ∀ L : List En, (L.filter fun x => ltS x.key e.key).length + (L.filter fun x => ltS e.key x.key).length ≤ L.length := by
    intro L
    induction L with
    | nil => simp
    | cons x L ih =>
      simp only [List.filter_cons, List.length_cons]
      cases h1 : ltS x.key e.key
      · cases h2 : ltS e.key x.key <;> simp <;> omega
      · have h2 := ltS_asym h1
        rw [h2]
        simp
        omega
  have := hd L
  unfold insE
  rw [List.length_append, List.length_cons]
  omega
theorem findE_len (es : List En) : (findE es).length ≤ es.length := by
  have go : ∀ (es L : List En), (es.foldl insE L).length ≤ L.length + es.length := by
    intro es
    induction es with
    | nil => intro L; simp
    | cons e es ih =>
      intro L
      have h1 := ih (insE L e)
      have h2 := insE_len L e
      simp only [List.foldl_cons, List.length_cons]
      omega
  have := go es []
  unfold findE
  simpa using this
theorem updE_len (L : List En) (e : En) : (updE L e).length ≤ L.length + 1 := by
  unfold updE
  cases posE L e.key <;> simp
theorem lastE_len (es : List En) : (lastE es).length ≤ es.length := by
  have go : ∀ (es L : List En), (es.foldl updE L).length ≤ L.length + es.length := by
    intro es
    induction es with
    | nil => intro L; simp
    | cons e es ih =>
      intro L
      have h1 := ih (updE L e)
      have h2 := updE_len L e
      simp only [List.foldl_cons, List.length_cons]
      omega
  have := go es []
  unfold lastE
  simpa using this
end Go.Proofs.Ytpgcfgbhkodmeaa

namespace Go.Proofs.Ytpgcfgbhkodmeaa
open Go.RowKit

theorem run_copy_rowN {P : Program} (w : World) (dT sT ty elem : TypeId) (g o dLen dCap : Nat) (a : Addr) (sLen sCap : Nat) (cur : Array Value) (t : TypeId) (cs : List Value) (k : Nat)
    (hu : P.underlying dT = some (.slice elem)) (hs : (P.info? elem).map (·.size) = some k)
    (hg : w.heap[g]? = some (.cells cur t (0, 0))) (hn : cs.length = Nat.min sLen dLen * k)
    (hsrc : ∀ j v, cs[j]? = some v → w.cell? (a.add j) = some v) (hfit : o + cs.length ≤ cur.size) (h1 : ∀ v ∈ cs, v.oneCell' = true) :
    (Builtin.copy_ #[dT, sT] ty #[.slice (some ⟨g, o, none⟩) dLen dCap, .slice (some a) sLen sCap]).run P w =
      .ok (goInt (Nat.min sLen dLen)) (w.setRow g (cur.toList.take o ++ cs ++ cur.toList.drop (o + cs.length)).toArray) := by
  have hl := run_loadCells_list (P := P) w a cs hsrc
  have hst := run_storeCells_at P g o t cs 0 cur w hg (by simpa using hfit) h1
  cases hq : P.info? elem with
  | none => simp [hq] at hs
  | some i =>
    have hi : i.size = k := by simpa [hq] using hs
    simp [Builtin.copy_, run_underlying hu, Builtin.lenOf, Builtin.firstCells, sizeOf, typeInfo, hq, hi, ← hn, hl, hst]

/-- 'copy(dst, src)' into a row that is known whole, as one step of a region that draws its order. -/
theorem step_copy_spliceN {P : Program} {ops : Array Oper} {o : Oper} {a : Act} {w : World} {K : Act → World → Prop} {Q : Exit → Act → World → Prop} {E : Prop} (hgd : o.guard = none) (d s : Operand) (dT sT : TypeId)
    (ho : o.op = .call { callee := .builtin .copy, args := #[d, s], argTypes := #[dT, sT] }) (elem : TypeId) (k : Nat) (hu : P.underlying dT = some (.slice elem)) (hsz : (P.info? elem).map (·.size) = some k)
    (dLen dCap sLen sCap : Nat) (g off : Nat) (ad : Addr) (hd : a.eval d = .slice (some ⟨g, off, none⟩) dLen dCap) (hs : a.eval s = .slice (some ad) sLen sCap)
    (cur : List Value) (t : TypeId) (hg : w.heap[g]? = some (.cells cur.toArray t (0, 0))) (cs : List Value) (hn : cs.length = Nat.min sLen dLen * k)
    (hsrc : ∀ j v, cs[j]? = some v → w.cell? (ad.add j) = some v)
    (hfit : off + cs.length ≤ cur.length) (h1 : ∀ v ∈ cs, v.oneCell' = true) (B : Nat) (w0 : World) (hb : Below B w0 w) (hBg : B ≤ g)
    (h : ∀ w', Hid (w'.heap[g]? = some (.cells (splice cur off cs).toArray t (0, 0)) ∧ ∀ j, j ≠ g → w'.heap[j]? = w.heap[j]?) → Below B w0 w' → K (a.put o.dst (goInt (Nat.min sLen dLen))) w') :
    if Region.wanted o (yielded ops a.tmps) = true then Oper.wp P o a w K Q else E := by
  have hw : Region.wanted o (yielded ops a.tmps) = true := by simp [Region.wanted, hgd]
  rw [if_pos hw]
  have hrun := run_copy_rowN (P := P) w dT sT o.type elem g off dLen dCap ad sLen sCap cur.toArray t cs k hu hsz hg hn hsrc (by simpa using hfit) h1
  unfold Oper.wp
  simp [execOp, ho, resolve, invoke, builtin, hd, hs, hrun, Result.andThen]
  exact h _ ⟨show _ = _ by simpa [splice] using setRow_heap w g _ _ t _ hg, fun j hj => setRow_other w g j _ hj⟩ (below_setRow hb hBg _)
theorem wpList_copy_spliceN {P : Program} {ops : Array Oper} {rest : List Oper} {o : Oper} {a : Act} {w : World} {Q : Exit → Act → World → Prop} (hgd : o.guard = none) (d s : Operand) (dT sT : TypeId)
    (ho : o.op = .call { callee := .builtin .copy, args := #[d, s], argTypes := #[dT, sT] }) (elem : TypeId) (k : Nat) (hu : P.underlying dT = some (.slice elem)) (hsz : (P.info? elem).map (·.size) = some k)
    (dLen dCap sLen sCap : Nat) (g off : Nat) (ad : Addr) (hd : a.eval d = .slice (some ⟨g, off, none⟩) dLen dCap) (hs : a.eval s = .slice (some ad) sLen sCap)
    (cur : List Value) (t : TypeId) (hg : w.heap[g]? = some (.cells cur.toArray t (0, 0))) (cs : List Value) (hn : cs.length = Nat.min sLen dLen * k)
    (hsrc : ∀ j v, cs[j]? = some v → w.cell? (ad.add j) = some v)
    (hfit : off + cs.length ≤ cur.length) (h1 : ∀ v ∈ cs, v.oneCell' = true) (B : Nat) (w0 : World) (hb : Below B w0 w) (hBg : B ≤ g)
    (h : ∀ w', Hid (w'.heap[g]? = some (.cells (splice cur off cs).toArray t (0, 0)) ∧ ∀ j, j ≠ g → w'.heap[j]? = w.heap[j]?) → Below B w0 w' → wpList P ops Q rest (a.put o.dst (goInt (Nat.min sLen dLen))) w') :
    wpList P ops Q (o :: rest) a w := by
  refine wpList_plain hgd fun K hK => ?_
  have hrun := run_copy_rowN (P := P) w dT sT o.type elem g off dLen dCap ad sLen sCap cur.toArray t cs k hu hsz hg hn hsrc (by simpa using hfit) h1
  unfold Oper.wp
  simp [execOp, ho, resolve, invoke, builtin, hd, hs, hrun, Result.andThen]
  exact hK _ _ (h _ ⟨show _ = _ by simpa [splice] using setRow_heap w g _ _ t _ hg, fun j hj => setRow_other w g j _ hj⟩ (below_setRow hb hBg _))
/-- A row that is known whole, written from a place on. -/
theorem setCells_row (g : Nat) (t : TypeId) : ∀ (vs : List Value) (o : Nat) (cur : List Value) (w : World), w.heap[g]? = some (.cells cur.toArray t (0, 0)) → o + vs.length ≤ cur.length →
    (w.setCells g o vs).heap[g]? = some (.cells (splice cur o vs).toArray t (0, 0))
  | [], o, cur, w, hg, _ => by simpa [World.setCells, splice] using hg
  | v :: rest, o, cur, w, hg, hl => by
    simp only [World.setCells]
    have hl' : o + 1 + rest.length ≤ cur.length := by simp at hl; omega
    have h1 : (w.setCell ⟨g, o, none⟩ v).heap[g]? = some (.cells (cur.set o v).toArray t (0, 0)) := by
      rw [setCell_eq_setRow w g o cur.toArray t (0, 0) v hg, setRow_heap w g _ _ t _ hg]
      simp
    rw [setCells_row g t rest (o + 1) (cur.set o v) _ h1 (by simpa using hl')]
    have e := list_seg_step cur o v rest (by omega)
    simp only [splice]
    rw [show o + (v :: rest).length = o + (rest.length + 1) by simp, ← List.append_assoc, ← List.append_assoc, e]
theorem setCells_apart (g : Nat) : ∀ (vs : List Value) (o : Nat) (w : World) (j : Nat), j ≠ g → (w.setCells g o vs).heap[j]? = w.heap[j]?
  | [], _, _, _, _ => rfl
  | v :: rest, o, w, j, hj => by
    simp only [World.setCells]
    rw [setCells_apart g rest (o + 1) _ j hj]
    exact heap_setCell_other w ⟨g, o, none⟩ j v hj
/-- 'clear(s)' of one element of several cells. -/
theorem run_clear_one {P : Program} (w : World) (t e ty : TypeId) (z : Value) (ht : P.underlying t = some (.slice e)) (hv : ∀ w, (zeroValue e).run P w = .ok z w) (h1 : ∀ v ∈ z.cells.toList, v.oneCell' = true) (g o c : Nat)
    (cur : List Value) (tt : TypeId) (hg : w.heap[g]? = some (.cells cur.toArray tt (0, 0))) (hfit : o + z.cells.size ≤ cur.length) :
    (Builtin.clear_ #[t] ty #[.slice (some ⟨g, o, none⟩) 1 c]).run P w = .ok (.tuple #[]) (w.setRow g (splice cur o z.cells.toList).toArray) := by
  have hzc : (Builtin.zeroCells z.cells 1).toList = z.cells.toList := by
    simp only [Builtin.zeroCells, Nat.one_mul]
    apply List.ext_getElem
    · simp
    · intro i h1 h2
      have h3 : i < z.cells.size := by simpa using h2
      simp [Nat.mod_eq_of_lt h3, h3]
  have hst := run_storeCells_at P g o tt z.cells.toList 0 cur.toArray w hg (by simpa using hfit) h1
  simp only [Nat.add_zero] at hst
  simp [Builtin.clear_, run_underlying ht, hv, hzc, hst, splice]
end Go.Proofs.Ytpgcfgbhkodmeaa
