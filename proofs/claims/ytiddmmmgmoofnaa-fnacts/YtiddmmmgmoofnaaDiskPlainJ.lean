/- Texts that stand in one: DiskPlain, AtPlain, KeptPlain, ActPlain, FolderPlain, DoPlain, ActsPlain, LosePlain, KeepPlain. -/
import Derived.Test.YtiddmmmgmoofnaaFiles
import Derived.Maps.Own
import Derived.Maps.OwnSet
import Derived.Maps.Ext
import Derived.Sort.Walk0
import Derived.Sort.KeysCollected
namespace Go.Proofs.Ytiddmmmgmoofnaa
open Go.RowKit

def nOk (s : ByteArray) : Bool := decide (1 ≤ s.size ∧ s.size ≤ 8)
def fOk (f : Fil) : Bool := nOk f.nm && (decide (f.tx.size ≤ 20000) && decide (0 ≤ f.kp ∧ f.kp ≤ f.tx.size))
def ltS (a b : ByteArray) : Bool := Op.bytesLess a.toList b.toList

/-- The file at k is right, and stands behind the one ahead of it. -/
def rOk (L : List Fil) : Nat → Bool
  | 0 => match L[0]? with | some f => fOk f | none => false
  | m + 1 => match L[m + 1]?, L[m]? with | some f, some p => fOk f && ltS p.nm f.nm | _, _ => false
def okTo (L : List Fil) : Nat → Bool
  | 0 => true
  | k + 1 => okTo L k && rOk L k
def dOk (L : List Fil) : Bool := decide (L.length ≤ 30) && okTo L L.length

theorem rOk_zero {L : List Fil} {f : Fil} (h : 0 < L.length) (hf : L[0] = f) : rOk L 0 = fOk f := by
  simp [rOk, List.getElem?_eq_getElem h, hf]
theorem rOk_succ {L : List Fil} {f p : Fil} {m : Nat} (h : m + 1 < L.length) (hf : L[m + 1] = f) (hp : L[m] = p) : rOk L (m + 1) = (fOk f && ltS p.nm f.nm) := by
  simp [rOk, List.getElem?_eq_getElem h, List.getElem?_eq_getElem (show m < L.length by omega), hf, hp]
theorem okTo_false {L : List Fil} {k : Nat} (h : rOk L k = false) : ∀ n, k < n → okTo L n = false
  | 0, hn => by omega
  | n + 1, hn => by
    by_cases e : k = n
    · subst e; simp [okTo, h]
    · simp [okTo, okTo_false h n (by omega)]
theorem dOk_false {L : List Fil} {k : Nat} (h : rOk L k = false) (hk : k < L.length) : dOk L = false := by simp [dOk, okTo_false h _ hk]
theorem dOk_true {L : List Fil} (hl : L.length ≤ 30) (h : okTo L L.length = true) : dOk L = true := by simp [dOk, hl, h]
theorem dOk_long {L : List Fil} (hl : ¬ L.length ≤ 30) : dOk L = false := by simp [dOk, hl]
theorem okTo_succ {L : List Fil} {k : Nat} (h : okTo L k = true) (hr : rOk L k = true) : okTo L (k + 1) = true := by simp [okTo, h, hr]
end Go.Proofs.Ytiddmmmgmoofnaa

namespace Go.Proofs.Ytiddmmmgmoofnaa
open Go.RowKit

def eqS (a b : ByteArray) : Bool := a.toList == b.toList
def pos (L : List Fil) (nm : ByteArray) : Option Nat := L.findIdx? fun f => eqS f.nm nm
/-- The place as the program tells it. -/
def posV (o : Option Nat) : Int := match o with | some k => (k : Int) | none => -1
def fileAt (L : List Fil) (nm : ByteArray) : ByteArray × Bool := match L.find? (fun f => eqS f.nm nm) with | some f => (f.tx, true) | none => (⟨#[]⟩, false)

/-- None of the first k bears the name. -/
def NoneTo (L : List Fil) (nm : ByteArray) (k : Nat) : Prop := ∀ j (h : j < L.length), j < k → eqS L[j].nm nm = false
theorem NoneTo.zero (L : List Fil) (nm : ByteArray) : NoneTo L nm 0 := fun j _ h => by omega
theorem NoneTo.succ {L : List Fil} {nm : ByteArray} {k : Nat} (h : NoneTo L nm k) (hk : k < L.length) {f : Fil} (hf : L[k] = f) (he : eqS f.nm nm = false) : NoneTo L nm (k + 1) := by
  intro j hj hlt
  by_cases e : j = k
  · subst e; rw [hf]; exact he
  · exact h j hj (by omega)
theorem pos_some {L : List Fil} {nm : ByteArray} {k : Nat} (h : NoneTo L nm k) (hk : k < L.length) {f : Fil} (hf : L[k] = f) (he : eqS f.nm nm = true) : pos L nm = some k := by
  unfold pos
  rw [List.findIdx?_eq_some_iff_getElem]
  exact ⟨hk, by rw [hf]; exact he, fun j hj => by simpa using h j (by omega) hj⟩
theorem pos_none {L : List Fil} {nm : ByteArray} (h : NoneTo L nm L.length) : pos L nm = none := by
  unfold pos
  rw [List.findIdx?_eq_none_iff]
  intro f hf
  obtain ⟨j, hj, rfl⟩ := List.getElem_of_mem hf
  exact h j hj hj
theorem fileAt_some {L : List Fil} {nm : ByteArray} {k : Nat} (h : NoneTo L nm k) (hk : k < L.length) {f : Fil} (hf : L[k] = f) (he : eqS f.nm nm = true) : fileAt L nm = (f.tx, true) := by
  unfold fileAt
  have : L.find? (fun f => eqS f.nm nm) = some f := by
    rw [List.find?_eq_some_iff_getElem]
    exact ⟨he, k, hk, hf, fun j hj => by simpa using h j (by omega) hj⟩
  rw [this]
theorem fileAt_none {L : List Fil} {nm : ByteArray} (h : NoneTo L nm L.length) : fileAt L nm = (⟨#[]⟩, false) := by
  unfold fileAt
  have : L.find? (fun f => eqS f.nm nm) = none := by
    rw [List.find?_eq_none]
    intro f hf
    obtain ⟨j, hj, rfl⟩ := List.getElem_of_mem hf
    simp [h j hj hj]
  rw [this]
/-- What a place says of the file there. -/
theorem pos_at {L : List Fil} {nm : ByteArray} {k : Nat} (h : pos L nm = some k) : ∃ hk : k < L.length, eqS L[k].nm nm = true ∧ fileAt L nm = (L[k].tx, true) := by
  unfold pos at h
  rw [List.findIdx?_eq_some_iff_getElem] at h
  obtain ⟨hk, he, hn⟩ := h
  exact ⟨hk, he, fileAt_some (fun j hj hlt => by simpa using hn j hlt) hk rfl he⟩
theorem pos_not {L : List Fil} {nm : ByteArray} (h : pos L nm = none) : fileAt L nm = (⟨#[]⟩, false) := by
  unfold pos at h
  rw [List.findIdx?_eq_none_iff] at h
  exact fileAt_none fun j hj _ => h _ (List.getElem_mem hj)
end Go.Proofs.Ytiddmmmgmoofnaa

namespace Go.Proofs.Ytiddmmmgmoofnaa
open Go.RowKit

theorem okTo_at {L : List Fil} : ∀ {n j : Nat}, okTo L n = true → j < n → rOk L j = true
  | 0, j, _, h => by omega
  | n + 1, j, hk, h => by
    simp only [okTo, Bool.and_eq_true] at hk
    by_cases e : j = n
    · subst e; exact hk.2
    · exact okTo_at hk.1 (by omega)
theorem rOk_fOk {L : List Fil} {j : Nat} (hj : j < L.length) (h : rOk L j = true) : fOk L[j] = true := by
  cases j with
  | zero => rw [rOk_zero hj rfl] at h; exact h
  | succ m => rw [rOk_succ hj rfl rfl, Bool.and_eq_true] at h; exact h.1
theorem dOk_at {L : List Fil} (h : dOk L = true) {j : Nat} (hj : j < L.length) : fOk L[j] = true := by
  simp only [dOk, Bool.and_eq_true] at h
  exact rOk_fOk hj (okTo_at h.2 hj)
theorem dOk_len {L : List Fil} (h : dOk L = true) : L.length ≤ 30 := by
  simp only [dOk, Bool.and_eq_true, decide_eq_true_eq] at h
  exact h.1
theorem fOk_kp {f : Fil} (h : fOk f = true) : 0 ≤ f.kp ∧ f.kp ≤ f.tx.size := by
  simp only [fOk, Bool.and_eq_true, decide_eq_true_eq] at h
  exact h.2.2
theorem fOk_tx {f : Fil} (h : fOk f = true) : f.tx.size ≤ 20000 := by
  simp only [fOk, Bool.and_eq_true, decide_eq_true_eq] at h
  exact h.2.1
theorem fOk_nm {f : Fil} (h : fOk f = true) : 1 ≤ f.nm.size ∧ f.nm.size ≤ 8 := by
  simp only [fOk, nOk, Bool.and_eq_true, decide_eq_true_eq] at h
  exact h.1

def wholeF (f : Fil) : Bool := decide (f.kp = f.tx.size)
def aK (L : List Fil) : Bool := dOk L && L.all wholeF
def KeptTo (L : List Fil) (k : Nat) : Prop := ∀ j (h : j < L.length), j < k → wholeF L[j] = true
theorem KeptTo.zero (L : List Fil) : KeptTo L 0 := fun j _ h => by omega
theorem KeptTo.succ {L : List Fil} {k : Nat} (h : KeptTo L k) (hk : k < L.length) {f : Fil} (hf : L[k] = f) (he : wholeF f = true) : KeptTo L (k + 1) := by
  intro j hj hlt
  by_cases e : j = k
  · subst e; rw [hf]; exact he
  · exact h j hj (by omega)
theorem aK_true {L : List Fil} (hd : dOk L = true) (h : KeptTo L L.length) : aK L = true := by
  unfold aK
  rw [hd, Bool.true_and, List.all_eq_true]
  intro f hf
  obtain ⟨j, hj, rfl⟩ := List.getElem_of_mem hf
  exact h j hj hj
theorem aK_false {L : List Fil} {k : Nat} (hk : k < L.length) {f : Fil} (hf : L[k] = f) (he : wholeF f = false) : aK L = false := by
  unfold aK
  have : L.all wholeF = false := by
    rw [List.all_eq_false]
    exact ⟨f, by rw [← hf]; exact List.getElem_mem hk, by simp [he]⟩
  rw [this, Bool.and_false]
theorem aK_bad {L : List Fil} (hd : dOk L = false) : aK L = false := by simp [aK, hd]
end Go.Proofs.Ytiddmmmgmoofnaa

namespace Go.Proofs.Ytiddmmmgmoofnaa
open Go.RowKit

/-- The files whose names are not nm. -/
def woL (L : List Fil) (nm : ByteArray) : List Fil := L.filter fun f => !eqS f.nm nm
/-- A file put in its place. -/
def putL (L : List Fil) (f : Fil) : List Fil := (L.filter fun g => ltS g.nm f.nm) ++ [f] ++ (L.filter fun g => !(ltS g.nm f.nm || eqS g.nm f.nm))

theorem filter_take_on {L : List Fil} {p : Fil → Bool} {k : Nat} (hk : k < L.length) {f : Fil} (hf : L[k] = f) (hp : p f = true) : (L.take (k + 1)).filter p = (L.take k).filter p ++ [f] := by
  rw [List.take_succ_eq_append_getElem hk, List.filter_append, hf]; simp [hp]
theorem filter_take_off {L : List Fil} {p : Fil → Bool} {k : Nat} (hk : k < L.length) {f : Fil} (hf : L[k] = f) (hp : p f = false) : (L.take (k + 1)).filter p = (L.take k).filter p := by
  rw [List.take_succ_eq_append_getElem hk, List.filter_append, hf]; simp [hp]
theorem filter_take_len (L : List Fil) (p : Fil → Bool) (k : Nat) : ((L.take k).filter p).length ≤ k := Nat.le_trans (List.length_filter_le _ _) (by rw [List.length_take]; omega)
theorem woL_len (L : List Fil) (nm : ByteArray) : (woL L nm).length ≤ L.length := List.length_filter_le _ _
end Go.Proofs.Ytiddmmmgmoofnaa

namespace Go.Proofs.Ytiddmmmgmoofnaa
open Go.RowKit

theorem toList_data' (a : ByteArray) : a.toList = a.data.toList := ByteArray.toList_eq a
theorem before_less : ∀ (x y : List UInt8), bytesBefore x y = Op.bytesLess x y
  | [], [] => by simp [bytesBefore, Op.bytesLess]
  | _ :: _, [] => by simp [bytesBefore, Op.bytesLess]
  | [], _ :: _ => by simp [bytesBefore, Op.bytesLess]
  | a :: x, b :: y => by simp [bytesBefore, Op.bytesLess, before_less x y]
theorem before_lt (a b : ByteArray) : (Lit.string a.data.toList).before (.string b.data.toList) = ltS a b := by
  simp only [Lit.before, ltS, before_less, toList_data']
theorem same_eq (a b : ByteArray) : (Lit.string a.data.toList).sameKey (.string b.data.toList) = eqS a b := by
  simp only [Lit.sameKey, eqS, toList_data']
theorem eqS_iff {a b : ByteArray} : eqS a b = true ↔ a = b := by
  unfold eqS
  rw [beq_iff_eq, toList_data', toList_data']
  constructor
  · intro h; cases a; cases b; simp at h; simp [h]
  · rintro rfl; rfl
theorem eqS_ne {a b : ByteArray} : eqS a b = false ↔ a ≠ b := by rw [← Bool.not_eq_true, eqS_iff]
theorem eqS_refl (a : ByteArray) : eqS a a = true := eqS_iff.2 rfl
theorem ltS_irr (a : ByteArray) : ltS a a = false := by rw [← before_lt]; exact WideAt.bytes_irrefl _
theorem ltS_trans {a b c : ByteArray} (h : ltS a b = true) (k : ltS b c = true) : ltS a c = true := by
  rw [← before_lt] at *
  exact WideShapes.bytes_trans _ _ _ h k
theorem ltS_total {a b : ByteArray} (h : a ≠ b) : ltS a b = true ∨ ltS b a = true := by
  rw [← before_lt, ← before_lt]
  exact WideAt.bytes_total _ _ (fun e => h (by cases a; cases b; simp at e; simp [e]))
theorem ltS_asym {a b : ByteArray} (h : ltS a b = true) : ltS b a = false := by
  cases k : ltS b a with
  | false => rfl
  | true => have := ltS_trans h k; rw [ltS_irr] at this; cases this
theorem ltS_ne {a b : ByteArray} (h : ltS a b = true) : eqS a b = false := by
  rw [eqS_ne]; rintro rfl; rw [ltS_irr] at h; cases h
/-- Neither less nor alike: it stands behind. -/
theorem gtS_iff {a b : ByteArray} : (!(ltS a b || eqS a b)) = ltS b a := by
  by_cases e : a = b
  · subst e; simp [eqS_refl, ltS_irr]
  · have he : eqS a b = false := eqS_ne.2 e
    rcases ltS_total e with h | h
    · simp [h, ltS_asym h]
    · simp [h, he, ltS_asym h]

/-- A right list of files rises. -/
def Rise (L : List Fil) : Prop := L.Pairwise fun p q => ltS p.nm q.nm = true
theorem dOk_rise {L : List Fil} (h : dOk L = true) : Rise L := by
  unfold Rise
  have hstep : ∀ m (hm : m + 1 < L.length), ltS L[m].nm L[m + 1].nm = true := by
    intro m hm
    simp only [dOk, Bool.and_eq_true] at h
    have := okTo_at h.2 hm
    rw [rOk_succ hm rfl rfl, Bool.and_eq_true] at this
    exact this.2
  have hall : ∀ j i, (hij : i < j) → (hj : j < L.length) → ltS (L[i]'(by omega)).nm L[j].nm = true := by
    intro j
    induction j with
    | zero => intro i hij; omega
    | succ j ih =>
      intro i hij hj
      by_cases e : i = j
      · subst e; exact hstep i hj
      · exact ltS_trans (ih i (by omega) (by omega)) (hstep j hj)
  rw [List.pairwise_iff_getElem]
  intro i j hi hj hij
  exact hall j i hij hj
theorem rise_dOk {L : List Fil} (hl : L.length ≤ 30) (hr : Rise L) (hf : ∀ f ∈ L, fOk f = true) : dOk L = true := by
  refine dOk_true hl ?_
  have : ∀ n, n ≤ L.length → okTo L n = true := by
    intro n
    induction n with
    | zero => intro _; rfl
    | succ n ih =>
      intro hn
      refine okTo_succ (ih (by omega)) ?_
      cases n with
      | zero => rw [rOk_zero (by omega) rfl]; exact hf _ (List.getElem_mem _)
      | succ m =>
        rw [rOk_succ (by omega) rfl rfl, Bool.and_eq_true]
        refine ⟨hf _ (List.getElem_mem _), ?_⟩
        exact (List.pairwise_iff_getElem.1 hr) m (m + 1) (by omega) (by omega) (by omega)
  exact this _ (Nat.le_refl _)

/-- The files of a map with their blocks, in the order of their names. -/
def entD (p : Fil × Nat) : Lit × DataW Unit := (.string p.1.nm.data.toList, .lit (.int .i64 (p.2 : Int)))
def mOf (M : List (Fil × Nat)) : DataW Unit := .map (M.map entD)
def putM (M : List (Fil × Nat)) (p : Fil × Nat) : List (Fil × Nat) := (M.filter fun q => ltS q.1.nm p.1.nm) ++ [p] ++ (M.filter fun q => !(ltS q.1.nm p.1.nm || eqS q.1.nm p.1.nm))
def woM (M : List (Fil × Nat)) (nm : ByteArray) : List (Fil × Nat) := M.filter fun q => !eqS q.1.nm nm
def edM (M : List (Fil × Nat)) (f : Fil) : List (Fil × Nat) := M.map fun q => if eqS q.1.nm f.nm then (f, q.2) else q
theorem putM_fst (M : List (Fil × Nat)) (p : Fil × Nat) : (putM M p).map (·.1) = putL (M.map (·.1)) p.1 := by
  simp [putM, putL, List.filter_map, Function.comp_def]
theorem woM_fst (M : List (Fil × Nat)) (nm : ByteArray) : (woM M nm).map (·.1) = woL (M.map (·.1)) nm := by
  simp [woM, woL, List.filter_map, Function.comp_def]

theorem ins_filter {x : Lit × DataW Unit} : ∀ (l : List (Lit × DataW Unit)), (∀ p ∈ l, ∀ q ∈ l, x.1.before p.1 = true → p.1.before q.1 = true → x.1.before q.1 = true) → l.Pairwise (fun p q => p.1.before q.1 = true) →
    (∀ p ∈ l, p.1.before x.1 = !x.1.before p.1) → DataW.insert x l = (l.filter fun p => p.1.before x.1) ++ [x] ++ (l.filter fun p => x.1.before p.1)
  | [], _, _, _ => by simp [DataW.insert]
  | y :: r, ht, hs, hx => by
    have hy := hx y (by simp)
    rw [List.pairwise_cons] at hs
    cases hb : x.1.before y.1 with
    | true =>
      rw [hb] at hy
      have hall : ∀ p ∈ r, x.1.before p.1 = true := fun p hp => ht y (by simp) p (by simp [hp]) hb (hs.1 p hp)
      have h1 : r.filter (fun p => p.1.before x.1) = [] := by
        rw [List.filter_eq_nil_iff]
        intro p hp
        rw [hx p (by simp [hp]), hall p hp]
        simp
      have h2 : r.filter (fun p => x.1.before p.1) = r := List.filter_eq_self.2 hall
      simp [DataW.insert, hb, hy, h1, h2]
    | false =>
      rw [hb] at hy
      have ih := ins_filter r (fun p hp q hq => ht p (by simp [hp]) q (by simp [hq])) hs.2 (fun p hp => hx p (by simp [hp]))
      simp [DataW.insert, hb, hy, ih]

/-- A map's entries rise. -/
def RiseM (M : List (Fil × Nat)) : Prop := M.Pairwise fun p q => ltS p.1.nm q.1.nm = true
theorem riseM_fst {M : List (Fil × Nat)} : RiseM M ↔ Rise (M.map (·.1)) := by simp [RiseM, Rise, List.pairwise_map]
theorem riseM_of_canon {M : List (Fil × Nat)} (h : Maps.Canon (mOf M)) : RiseM M := by
  obtain ⟨es, he, hp, _⟩ := h
  simp only [mOf, DataW.map.injEq] at he
  rw [← he, List.pairwise_map] at hp
  refine hp.imp ?_
  intro p q hpq
  rw [← before_lt]
  exact hpq

theorem mOf_put {M : List (Fil × Nat)} (h : RiseM M) (f : Fil) (g : Nat) : (mOf M).put (.string f.nm.data.toList) (.lit (.int .i64 (g : Int))) = mOf (putM M (f, g)) := by
  have hs : ∀ p : Fil × Nat, (entD p).1.sameKey (.string f.nm.data.toList) = eqS p.1.nm f.nm := fun p => same_eq _ _
  have e1 : (M.map entD).filter (fun p => !p.1.sameKey (.string f.nm.data.toList)) = (M.filter fun q => !eqS q.1.nm f.nm).map entD := by
    rw [List.filter_map]
    congr 1
    refine List.filter_congr fun p _ => ?_
    simp [hs]
  unfold mOf DataW.put
  simp only
  rw [e1, ins_filter]
  · unfold putM
    simp only [DataW.map.injEq, List.map_append, List.map_cons, List.map_nil, List.filter_map, List.filter_filter]
    congr 1
    · congr 1
      refine congrArg _ (List.filter_congr fun p _ => ?_)
      simp only [Function.comp]
      rw [show (entD p).1.before (.string f.nm.data.toList) = ltS p.1.nm f.nm from before_lt _ _]
      cases hl : ltS p.1.nm f.nm with
      | false => simp
      | true => simp [ltS_ne hl]
    · refine congrArg _ (List.filter_congr fun p _ => ?_)
      simp only [Function.comp]
      rw [show (Lit.string f.nm.data.toList).before (entD p).1 = ltS f.nm p.1.nm from before_lt _ _, gtS_iff]
      cases hl : ltS f.nm p.1.nm with
      | false => simp
      | true => simp [show eqS p.1.nm f.nm = false from eqS_ne.2 fun e => by rw [e, ltS_irr] at hl; cases hl]
  · intro p hp q hq h1 h2
    obtain ⟨p', _, rfl⟩ := List.mem_map.1 hp
    obtain ⟨q', _, rfl⟩ := List.mem_map.1 hq
    exact WideShapes.bytes_trans _ _ _ h1 h2
  · rw [List.pairwise_map]
    refine (List.Pairwise.filter _ h).imp ?_
    intro p q hpq
    exact (before_lt _ _).trans hpq
  · intro p hp
    obtain ⟨p', hp', rfl⟩ := List.mem_map.1 hp
    have hne := (List.mem_filter.1 hp').2
    have hne' : eqS p'.1.nm f.nm = false := by simpa using hne
    rw [show (entD p').1.before (.string f.nm.data.toList) = ltS p'.1.nm f.nm from before_lt _ _, show (Lit.string f.nm.data.toList).before (entD p').1 = ltS f.nm p'.1.nm from before_lt _ _, ← gtS_iff (a := p'.1.nm) (b := f.nm)]
    simp [hne']
theorem mOf_del (M : List (Fil × Nat)) (nm : ByteArray) : (mOf M).del (.string nm.data.toList) = mOf (woM M nm) := by
  unfold mOf DataW.del woM
  simp only [DataW.map.injEq]
  rw [List.filter_map]
  congr 1
  refine List.filter_congr fun p _ => ?_
  simp only [Function.comp]
  rw [show (entD p).1.sameKey (.string nm.data.toList) = eqS p.1.nm nm from same_eq _ _]
theorem mOf_at (M : List (Fil × Nat)) (nm : ByteArray) (z : DataW Unit) : (mOf M).atKey (.string nm.data.toList) z = match M.find? (fun q => eqS q.1.nm nm) with | some p => .lit (.int .i64 (p.2 : Int)) | none => z := by
  unfold mOf DataW.atKey
  simp only
  rw [List.find?_map]
  have : ((fun p : Lit × DataW Unit => p.1.sameKey (.string nm.data.toList)) ∘ entD) = fun q : Fil × Nat => eqS q.1.nm nm := by
    funext p
    exact same_eq _ _
  rw [this]
  cases M.find? (fun q => eqS q.1.nm nm) <;> rfl
theorem mOf_edit (M : List (Fil × Nat)) (f : Fil) : mOf (edM M f) = mOf M := by
  unfold mOf edM
  simp only [DataW.map.injEq, List.map_map]
  refine List.map_congr_left fun p _ => ?_
  simp only [Function.comp]
  split
  · rename_i h
    rw [eqS_iff] at h
    simp [entD, h]
  · rfl
theorem mOf_size (M : List (Fil × Nat)) : Maps.size (mOf M) = M.length := by simp [mOf, Maps.size]
end Go.Proofs.Ytiddmmmgmoofnaa

namespace Go.Proofs.Ytiddmmmgmoofnaa
open Go.RowKit

structure Ac where
  kd : Int
  nm : ByteArray
  tx : ByteArray
  to : ByteArray
def Ac.val (a : Ac) : Value := .agg #[.int .i64 a.kd, .string a.nm, .string a.tx, .string a.to]

def isE (s : ByteArray) : Bool := s.toList.isEmpty
/-- A file of a name that is not there. -/
def newL (L : List Fil) (nm tx : ByteArray) : Option (List Fil) := if L.length ≠ 30 ∧ nOk nm = true ∧ tx.size ≤ 20000 then some (putL L ⟨nm, tx, 0⟩) else none
/-- A text behind a file's own. -/
def addL (L : List Fil) (f : Fil) (tx : ByteArray) : Option (List Fil) := if tx.size + f.tx.size ≤ 20000 then some (putL L ⟨f.nm, f.tx ++ tx, f.kp⟩) else none
/-- A file under another name. -/
def moveL (L : List Fil) (f : Fil) (to : ByteArray) : Option (List Fil) := if eqS to f.nm = false ∧ nOk to = true ∧ wholeF f = true then some (putL (woL L f.nm) ⟨to, f.tx, f.kp⟩) else none
/-- What an act leaves of files, if it may be done. -/
def doL (L : List Fil) (a : Ac) : Option (List Fil) :=
  if (isE a.tx = false ∧ a.kd ≠ 1) ∨ (isE a.to = false ∧ a.kd ≠ 3) then none
  else match L.find? (fun f => eqS f.nm a.nm) with
  | none => if a.kd = 1 then newL L a.nm a.tx else none
  | some f =>
    if a.kd = 1 then addL L f a.tx
    else if a.kd = 2 then some (putL L ⟨f.nm, f.tx, f.tx.size⟩)
    else if a.kd = 3 then moveL L f a.to
    else if a.kd = 4 then some (woL L f.nm)
    else none

/-- A file changed in its place is a file put in its place. -/
theorem edM_fst {M : List (Fil × Nat)} (hr : RiseM M) {f' : Fil} {p : Fil × Nat} (hp : p ∈ M) (hn : p.1.nm = f'.nm) : (edM M f').map (·.1) = putL (M.map (·.1)) f' := by
  have key : ∀ (L : List Fil), Rise L → (∃ f ∈ L, f.nm = f'.nm) → L.map (fun q => if eqS q.nm f'.nm then f' else q) = putL L f' := by
    intro L hL
    induction L with
    | nil => rintro ⟨f, hf, _⟩; simp at hf
    | cons q L ih =>
      rintro ⟨f, hf, hfn⟩
      unfold Rise at hL
      rw [List.pairwise_cons] at hL
      by_cases e : q.nm = f'.nm
      · have hq : ∀ r ∈ L, ltS f'.nm r.nm = true := fun r hr => e ▸ hL.1 r hr
        have h1 : L.filter (fun g => ltS g.nm f'.nm) = [] := by
          rw [List.filter_eq_nil_iff]
          intro r hr
          simp [ltS_asym (hq r hr)]
        have h2 : L.filter (fun g => !(ltS g.nm f'.nm || eqS g.nm f'.nm)) = L := by
          rw [List.filter_eq_self]
          intro r hr
          rw [gtS_iff]
          exact hq r hr
        have h3 : L.map (fun q => if eqS q.nm f'.nm then f' else q) = L := by
          conv => rhs; rw [← List.map_id L]
          refine List.map_congr_left fun r hr => ?_
          rw [if_neg]
          · rfl
          · rw [Bool.not_eq_true, eqS_ne]
            intro h
            have := hq r hr
            rw [h, ltS_irr] at this
            cases this
        simp only [List.map_cons, e, eqS_refl, if_true, h3, putL, List.filter_cons, ltS_irr, Bool.false_eq_true, if_false, h1, h2]
        simp
      · have hf2 : f ∈ L := by
          rcases List.mem_cons.1 hf with rfl | h
          · exact absurd hfn e
          · exact h
        have hlt : ltS q.nm f'.nm = true := hfn ▸ hL.1 f hf2
        have ih' := ih hL.2 ⟨f, hf2, hfn⟩
        have he : eqS q.nm f'.nm = false := eqS_ne.2 e
        simp only [List.map_cons, he, Bool.false_eq_true, if_false, ih', putL, List.filter_cons, hlt, if_true, Bool.true_or, Bool.not_true]
        simp
  rw [← key _ (riseM_fst.1 hr) ⟨p.1, List.mem_map.2 ⟨p, hp, rfl⟩, hn⟩]
  unfold edM
  rw [List.map_map, List.map_map]
  refine List.map_congr_left fun q _ => ?_
  simp only [Function.comp]
  split <;> rfl
end Go.Proofs.Ytiddmmmgmoofnaa

namespace Go.Proofs.Ytiddmmmgmoofnaa
open Go.RowKit

theorem mem_putL {L : List Fil} {f g : Fil} : g ∈ putL L f ↔ g = f ∨ (g ∈ L ∧ eqS g.nm f.nm = false) := by
  unfold putL
  simp only [List.mem_append, List.mem_filter, List.mem_singleton]
  constructor
  · rintro ((⟨h1, h2⟩ | h) | ⟨h1, h2⟩)
    · exact .inr ⟨h1, ltS_ne h2⟩
    · exact .inl h
    · exact .inr ⟨h1, by simp at h2; exact h2.2⟩
  · rintro (h | ⟨h1, h2⟩)
    · exact .inl (.inr h)
    · cases hl : ltS g.nm f.nm with
      | true => exact .inl (.inl ⟨h1, rfl⟩)
      | false => exact .inr ⟨h1, by simp [h2]⟩
theorem putL_len (L : List Fil) (f : Fil) : (putL L f).length ≤ L.length + 1 := by
  have : ∀ L : List Fil, (L.filter fun g => ltS g.nm f.nm).length + (L.filter fun g => !(ltS g.nm f.nm || eqS g.nm f.nm)).length ≤ L.length := by
    intro L
    induction L with
    | nil => simp
    | cons g L ih =>
      simp only [List.filter_cons, List.length_cons]
      cases h1 : ltS g.nm f.nm <;> cases h2 : eqS g.nm f.nm <;> simp at ih ⊢ <;> omega
  have := this L
  simp only [putL, List.length_append, List.length_singleton]
  omega
theorem putL_len_new {L : List Fil} {f : Fil} (h : ∀ g ∈ L, eqS g.nm f.nm = false) : (putL L f).length = L.length + 1 := by
  have : ∀ L : List Fil, (∀ g ∈ L, eqS g.nm f.nm = false) → (L.filter fun g => ltS g.nm f.nm).length + (L.filter fun g => !(ltS g.nm f.nm || eqS g.nm f.nm)).length = L.length := by
    intro L hL
    induction L with
    | nil => simp
    | cons g L ih =>
      have h2 := hL g (by simp)
      have ih' := ih (fun r hr => hL r (by simp [hr]))
      simp only [List.filter_cons, List.length_cons, h2]
      cases h1 : ltS g.nm f.nm <;> simp at ih' ⊢ <;> omega
  have := this L h
  simp only [putL, List.length_append, List.length_singleton]
  omega
theorem rise_putL {L : List Fil} (h : Rise L) (f : Fil) : Rise (putL L f) := by
  unfold Rise putL at *
  rw [List.append_assoc, List.pairwise_append]
  refine ⟨h.filter _, ?_, ?_⟩
  · rw [List.singleton_append, List.pairwise_cons]
    refine ⟨fun g hg => ?_, h.filter _⟩
    have := (List.mem_filter.1 hg).2
    rw [gtS_iff] at this
    exact this
  · intro g hg r hr
    have h1 := (List.mem_filter.1 hg).2
    rw [List.singleton_append, List.mem_cons] at hr
    rcases hr with rfl | hr
    · exact h1
    · have h2 := (List.mem_filter.1 hr).2
      rw [gtS_iff] at h2
      exact ltS_trans h1 h2
theorem dOk_all {L : List Fil} (h : dOk L = true) : ∀ f ∈ L, fOk f = true := by
  intro f hf
  obtain ⟨j, hj, rfl⟩ := List.getElem_of_mem hf
  exact dOk_at h hj
theorem dOk_put {L : List Fil} {f : Fil} (h : dOk L = true) (hf : fOk f = true) (hl : (putL L f).length ≤ 30) : dOk (putL L f) = true := by
  refine rise_dOk hl (rise_putL (dOk_rise h) f) ?_
  intro g hg
  rcases mem_putL.1 hg with rfl | ⟨hg, _⟩
  · exact hf
  · exact dOk_all h g hg
theorem dOk_put_bad {L : List Fil} {f : Fil} (hf : fOk f = false) : dOk (putL L f) = false := by
  cases h : dOk (putL L f) with
  | false => rfl
  | true =>
    have := dOk_all h f (mem_putL.2 (.inl rfl))
    rw [hf] at this
    cases this
theorem dOk_wo {L : List Fil} (h : dOk L = true) (nm : ByteArray) : dOk (woL L nm) = true := by
  refine rise_dOk (Nat.le_trans (woL_len L nm) (dOk_len h)) ((dOk_rise h).filter _) ?_
  intro g hg
  exact dOk_all h g (List.mem_filter.1 hg).1
theorem putL_edit {L : List Fil} {f' : Fil} (hL : Rise L) (h : ∃ f ∈ L, f.nm = f'.nm) : (putL L f').length = L.length := by
  obtain ⟨f, hf, hn⟩ := h
  have hr : RiseM (L.map fun f => (f, 0)) := by
    unfold RiseM
    rw [List.pairwise_map]
    exact hL
  have := edM_fst hr (p := (f, 0)) (List.mem_map.2 ⟨f, hf, rfl⟩) hn
  rw [List.map_map, show ((fun x : Fil × Nat => x.1) ∘ fun f => (f, 0)) = id from rfl, List.map_id] at this
  rw [← this]
  simp [edM]
theorem wo_len_lt {L : List Fil} {f : Fil} (hf : f ∈ L) : (woL L f.nm).length + 1 ≤ L.length := by
  have : (woL L f.nm).length < L.length := by
    unfold woL
    rw [List.length_filter_lt_length_iff_exists]
    exact ⟨f, hf, by simp [eqS_refl]⟩
  omega

/-- What an act leaves of a disk. -/
def ac (L : List Fil) (a : Ac) : Option (List Fil) := if dOk L = true then doL L a else none

theorem doL_dOk {L X : List Fil} {a : Ac} (hd : dOk L = true) (h : doL L a = some X) : dOk X = true := by
  unfold doL at h
  split at h
  · cases h
  · cases hf : L.find? (fun f => eqS f.nm a.nm) with
    | none =>
      rw [hf] at h
      simp only at h
      split at h
      · unfold newL at h
        split at h
        · rename_i hk hc
          cases h
          have hl := dOk_len hd
          refine dOk_put hd ?_ (Nat.le_trans (putL_len _ _) (by omega))
          simp only [fOk, hc.2.1, Bool.true_and, Bool.and_eq_true, decide_eq_true_eq]
          omega
        · cases h
      · cases h
    | some f =>
      have hm := List.mem_of_find?_eq_some hf
      have hnm : f.nm = a.nm := eqS_iff.1 (by simpa using List.find?_some hf)
      have hfo := dOk_all hd f hm
      have hl := dOk_len hd
      rw [hf] at h
      simp only at h
      have hk := fOk_kp hfo
      have ht := fOk_tx hfo
      have hn : nOk f.nm = true := by simp only [fOk, Bool.and_eq_true] at hfo; exact hfo.1
      split at h
      · unfold addL at h
        split at h
        · rename_i hc
          cases h
          refine dOk_put hd ?_ (Nat.le_trans (Nat.le_of_eq (putL_edit (dOk_rise hd) ⟨f, hm, rfl⟩)) hl)
          simp only [fOk, hn, Bool.true_and, Bool.and_eq_true, decide_eq_true_eq, ByteArray.size_append]
          omega
        · cases h
      · split at h
        · cases h
          refine dOk_put hd ?_ (Nat.le_trans (Nat.le_of_eq (putL_edit (dOk_rise hd) ⟨f, hm, rfl⟩)) hl)
          simp only [fOk, hn, Bool.true_and, Bool.and_eq_true, decide_eq_true_eq]
          omega
        · split at h
          · unfold moveL at h
            split at h
            · rename_i hc
              cases h
              refine dOk_put (dOk_wo hd _) ?_ (Nat.le_trans (putL_len _ _) (Nat.le_trans (wo_len_lt hm) hl))
              simp only [fOk, hc.2.1, Bool.true_and, Bool.and_eq_true, decide_eq_true_eq]
              omega
            · cases h
          · split at h
            · cases h
              exact dOk_wo hd _
            · cases h
theorem ac_dOk {L X : List Fil} {a : Ac} (h : ac L a = some X) : dOk X = true := by
  unfold ac at h
  split at h
  · rename_i hd
    exact doL_dOk hd h
  · cases h

/-- The act as the other text tells it: what it makes of a right disk, ahead of the look whether that is right. -/
def spO (L : List Fil) (a : Ac) : Option (List Fil) :=
  if a.kd = 1 then some (putL L (match L.find? (fun f => eqS f.nm a.nm) with | some f => ⟨f.nm, f.tx ++ a.tx, f.kp⟩ | none => ⟨a.nm, ⟨#[]⟩ ++ a.tx, 0⟩))
  else match L.find? (fun f => eqS f.nm a.nm) with
  | none => none
  | some f =>
    if a.kd = 2 then some (putL L ⟨f.nm, f.tx, f.tx.size⟩)
    else if a.kd = 3 then (if f.kp < f.tx.size ∨ eqS a.to a.nm = true ∨ nOk a.to = false then none else some (putL (woL L a.nm) ⟨a.to, f.tx, f.kp⟩))
    else if a.kd = 4 then some (woL L a.nm)
    else none
def spA (L : List Fil) (a : Ac) : Option (List Fil) :=
  if dOk L = true ∧ nOk a.nm = true ∧ ¬ (a.kd ≠ 3 ∧ isE a.to = false) ∧ ¬ (a.kd ≠ 1 ∧ isE a.tx = false) then (match spO L a with | some X => if dOk X = true then some X else none | none => none) else none

theorem empty_append (s : ByteArray) : (⟨#[]⟩ : ByteArray) ++ s = s := by
  cases s
  rw [ByteArray.mk_append_mk]
  simp
theorem spA_ac (L : List Fil) (a : Ac) : spA L a = ac L a := by
  unfold spA ac
  by_cases hd : dOk L = true
  · rw [if_pos hd]
    by_cases hb : (isE a.tx = false ∧ a.kd ≠ 1) ∨ (isE a.to = false ∧ a.kd ≠ 3)
    · rw [if_neg (by rintro ⟨_, _, h3, h4⟩; rcases hb with h | h; exact h4 ⟨h.2, h.1⟩; exact h3 ⟨h.2, h.1⟩)]
      unfold doL
      rw [if_pos hb]
    · cases hn : nOk a.nm with
      | false =>
        rw [if_neg (by simp)]
        have hf : L.find? (fun f => eqS f.nm a.nm) = none := by
          rw [List.find?_eq_none]
          intro f hf he
          have hfo := dOk_all hd f hf
          simp only [fOk, Bool.and_eq_true] at hfo
          have he' : f.nm = a.nm := eqS_iff.1 (by simpa using he)
          rw [he', hn] at hfo
          cases hfo.1
        unfold doL
        rw [if_neg hb, hf]
        simp only
        split
        · unfold newL
          rw [if_neg (by simp [hn])]
        · rfl
      | true =>
        rw [if_pos ⟨hd, rfl, fun h => hb (.inr ⟨h.2, h.1⟩), fun h => hb (.inl ⟨h.2, h.1⟩)⟩]
        have hl := dOk_len hd
        unfold spO
        cases hD : doL L a with
        | some X =>
          have hX := doL_dOk hd hD
          have hD0 := hD
          unfold doL at hD
          rw [if_neg hb] at hD
          cases hf : L.find? (fun f => eqS f.nm a.nm) with
          | none =>
            rw [hf] at hD
            simp only at hD ⊢
            split at hD
            · rename_i hk
              unfold newL at hD
              split at hD
              · cases hD
                rw [if_pos hk, empty_append]
                simp only
                rw [if_pos hX]
              · cases hD
            · cases hD
          | some f =>
            have hnm : f.nm = a.nm := eqS_iff.1 (by simpa using List.find?_some hf)
            rw [hf] at hD
            simp only at hD ⊢
            by_cases k1 : a.kd = 1
            · rw [if_pos k1] at hD ⊢
              unfold addL at hD
              split at hD
              · cases hD
                simp only
                rw [if_pos hX]
              · cases hD
            · rw [if_neg k1] at hD ⊢
              by_cases k2 : a.kd = 2
              · rw [if_pos k2] at hD ⊢
                cases hD
                simp only
                rw [if_pos hX]
              · rw [if_neg k2] at hD ⊢
                by_cases k3 : a.kd = 3
                · rw [if_pos k3] at hD ⊢
                  unfold moveL at hD
                  split at hD
                  · rename_i hc
                    cases hD
                    have hw : f.kp = f.tx.size := by simpa [wholeF] using hc.2.2
                    rw [hnm] at hc hX ⊢
                    rw [if_neg (by simp [hc.1, hc.2.1, hw])]
                    simp only
                    rw [if_pos hX]
                  · cases hD
                · rw [if_neg k3] at hD ⊢
                  by_cases k4 : a.kd = 4
                  · rw [if_pos k4] at hD ⊢
                    cases hD
                    rw [hnm] at hX ⊢
                    simp only
                    rw [if_pos hX]
                  · rw [if_neg k4] at hD
                    cases hD
        | none =>
          unfold doL at hD
          rw [if_neg hb] at hD
          cases hf : L.find? (fun f => eqS f.nm a.nm) with
          | none =>
            rw [hf] at hD
            simp only at hD ⊢
            by_cases k1 : a.kd = 1
            · rw [if_pos k1] at hD ⊢
              unfold newL at hD
              split at hD
              · cases hD
              · rename_i hc
                have hall : ∀ g ∈ L, eqS g.nm a.nm = false := fun g hg => by simpa using (List.find?_eq_none.1 hf) g hg
                have hX : dOk (putL L ⟨a.nm, a.tx, 0⟩) = false := by
                  by_cases ht : a.tx.size ≤ 20000
                  · have : L.length = 30 := by
                      refine Classical.byContradiction fun h => hc ⟨h, hn, ht⟩
                    exact dOk_long (by rw [putL_len_new hall]; omega)
                  · refine dOk_put_bad ?_
                    simp [fOk, ht]
                rw [empty_append]
                simp only
                rw [if_neg (by rw [hX]; decide)]
            · rw [if_neg k1]
          | some f =>
            have hnm : f.nm = a.nm := eqS_iff.1 (by simpa using List.find?_some hf)
            have hm := List.mem_of_find?_eq_some hf
            have hfo := dOk_all hd f hm
            have hkp := fOk_kp hfo
            rw [hf] at hD
            simp only at hD ⊢
            by_cases k1 : a.kd = 1
            · rw [if_pos k1] at hD ⊢
              unfold addL at hD
              split at hD
              · cases hD
              · rename_i hc
                simp only
                rw [if_neg]
                rw [dOk_put_bad (by simp [fOk, ByteArray.size_append]; omega)]
                decide
            · rw [if_neg k1] at hD ⊢
              by_cases k2 : a.kd = 2
              · rw [if_pos k2] at hD; cases hD
              · rw [if_neg k2] at hD ⊢
                by_cases k3 : a.kd = 3
                · rw [if_pos k3] at hD ⊢
                  unfold moveL at hD
                  split at hD
                  · cases hD
                  · rename_i hc
                    rw [if_pos]
                    refine Classical.byContradiction fun h => hc ?_
                    simp only [not_or] at h
                    refine ⟨by rw [hnm]; simpa using h.2.1, by simpa using h.2.2, ?_⟩
                    simp only [wholeF, decide_eq_true_eq]
                    omega
                · rw [if_neg k3] at hD ⊢
                  by_cases k4 : a.kd = 4
                  · rw [if_pos k4] at hD; cases hD
                  · rw [if_neg k4]
  · rw [if_neg hd, if_neg (by simp [hd])]
end Go.Proofs.Ytiddmmmgmoofnaa

namespace Go.Proofs.Ytiddmmmgmoofnaa
open Go.RowKit

def lossN (f : Fil) (t : Int) : Int := if (if (f.tx.size : Int) < t then (f.tx.size : Int) else t) < f.kp then f.kp else (if (f.tx.size : Int) < t then (f.tx.size : Int) else t)
def cutF (f : Fil) (t : Int) : Fil := ⟨f.nm, f.tx.extract 0 (lossN f t).toNat, lossN f t⟩
def toldAt (left : List Int) (k : Nat) : Int := match left[k]? with | some t => t | none => 0
def loseTo (L : List Fil) (left : List Int) (k : Nat) : List Fil := (List.range k).map fun i => cutF (L.getD i zfil) (toldAt left i)
def loseL (L : List Fil) (left : List Int) : List Fil := if dOk L = true then loseTo L left L.length else []
theorem loseTo_length (L : List Fil) (left : List Int) (k : Nat) : (loseTo L left k).length = k := by simp [loseTo]
theorem loseTo_succ {L : List Fil} {left : List Int} {k : Nat} (hk : k < L.length) {f : Fil} (hf : L[k] = f) : loseTo L left (k + 1) = loseTo L left k ++ [cutF f (toldAt left k)] := by
  simp [loseTo, List.range_succ, List.getD, List.getElem?_eq_getElem hk, hf]
theorem toldAt_in {left : List Int} {k : Nat} (h : k < left.length) : toldAt left k = left[k] := by simp [toldAt, List.getElem?_eq_getElem h]
theorem toldAt_out {left : List Int} {k : Nat} (h : ¬ k < left.length) : toldAt left k = 0 := by simp [toldAt, List.getElem?_eq_none (by omega : left.length ≤ k)]
theorem lossN_in {f : Fil} (h : fOk f = true) (t : Int) : 0 ≤ lossN f t ∧ f.kp ≤ lossN f t ∧ lossN f t ≤ f.tx.size := by
  have := fOk_kp h
  unfold lossN
  split <;> split <;> omega
end Go.Proofs.Ytiddmmmgmoofnaa

namespace Go.Proofs.Ytiddmmmgmoofnaa
open Go.RowKit

theorem loseL_len {L : List Fil} (h : dOk L = true) (left : List Int) : (loseL L left).length = L.length := by
  unfold loseL; rw [if_pos h, loseTo_length]
theorem loseL_at {L : List Fil} (h : dOk L = true) (left : List Int) {j : Nat} (hj : j < L.length) (hj' : j < (loseL L left).length) : (loseL L left)[j] = cutF L[j] (toldAt left j) := by
  have e : loseL L left = loseTo L left L.length := by unfold loseL; rw [if_pos h]
  simp only [e, loseTo, List.getElem_map, List.getElem_range]
  simp [List.getD, List.getElem?_eq_getElem hj]
theorem cut_size {f : Fil} (h : fOk f = true) (t : Int) : ((cutF f t).tx.size : Int) = lossN f t := by
  have := lossN_in h t
  simp only [cutF, ByteArray.size_extract]
  omega
theorem cut_ok {f : Fil} (h : fOk f = true) (t : Int) : fOk (cutF f t) = true := by
  have h1 := lossN_in h t
  have h2 := cut_size h t
  have h3 := fOk_nm h
  have h4 := fOk_tx h
  have h5 : (cutF f t).nm = f.nm := rfl
  have h6 : (cutF f t).kp = lossN f t := rfl
  simp only [fOk, nOk, Bool.and_eq_true, decide_eq_true_eq, h5, h6]
  omega
theorem cut_whole {f : Fil} (h : fOk f = true) (t : Int) : wholeF (cutF f t) = true := by
  have h2 := cut_size h t
  have h6 : (cutF f t).kp = lossN f t := rfl
  simp only [wholeF, decide_eq_true_eq, h6]
  omega
theorem cut_again {f : Fil} (h : fOk f = true) (hw : wholeF f = true) : cutF f 0 = f := by
  have h1 := fOk_kp h
  simp only [wholeF, decide_eq_true_eq] at hw
  have e : lossN f 0 = f.kp := by unfold lossN; split <;> split <;> omega
  unfold cutF
  rw [e]
  have : f.tx.extract 0 f.kp.toNat = f.tx := by
    rw [show f.kp.toNat = f.tx.size by omega]; simp
  rw [this]
theorem lose_rise {L : List Fil} (h : dOk L = true) (left : List Int) : Rise (loseL L left) := by
  have hr := dOk_rise h
  unfold Rise at *
  rw [List.pairwise_iff_getElem] at *
  intro i j hi hj hij
  have hl := loseL_len h left
  rw [loseL_at h left (by omega) hi, loseL_at h left (by omega) hj]
  exact hr i j (by omega) (by omega) hij
theorem lose_all {L : List Fil} (h : dOk L = true) (left : List Int) : ∀ f ∈ loseL L left, fOk f = true ∧ wholeF f = true := by
  intro f hf
  obtain ⟨j, hj, rfl⟩ := List.getElem_of_mem hf
  have hl := loseL_len h left
  rw [loseL_at h left (by omega) hj]
  exact ⟨cut_ok (dOk_at h (by omega)) _, cut_whole (dOk_at h (by omega)) _⟩
theorem lose_dOk {L : List Fil} (h : dOk L = true) (left : List Int) : dOk (loseL L left) = true :=
  rise_dOk (by rw [loseL_len h left]; exact dOk_len h) (lose_rise h left) fun f hf => (lose_all h left f hf).1
theorem lose_aK {L : List Fil} (h : dOk L = true) (left : List Int) : aK (loseL L left) = true := by
  unfold aK
  rw [lose_dOk h left, Bool.true_and, List.all_eq_true]
  exact fun f hf => (lose_all h left f hf).2
theorem lose_again {L : List Fil} (h : dOk L = true) (left : List Int) : loseL (loseL L left) [] = loseL L left := by
  have hd := lose_dOk h left
  have hl := loseL_len hd []
  refine List.ext_getElem hl fun j h1 h2 => ?_
  rw [loseL_at hd [] h2 h1]
  have ha := lose_all h left _ (List.getElem_mem h2)
  have : toldAt [] j = 0 := by simp [toldAt]
  rw [this]
  exact cut_again ha.1 ha.2

/-- One text begins another. -/
def Begins (a b : ByteArray) : Prop := a.size ≤ b.size ∧ b.extract 0 a.size = a
theorem cut_begins {f : Fil} (h : fOk f = true) (t : Int) : Begins (cutF f t).tx f.tx ∧ Begins (f.tx.extract 0 f.kp.toNat) (cutF f t).tx := by
  have h1 := lossN_in h t
  have h2 := cut_size h t
  have h3 := fOk_kp h
  have e : (f.tx.extract 0 f.kp.toNat).size = f.kp.toNat := by rw [ByteArray.size_extract]; omega
  refine ⟨⟨by omega, ?_⟩, ⟨by omega, ?_⟩⟩
  · have : (cutF f t).tx.size = (lossN f t).toNat := by omega
    rw [this]; rfl
  · rw [e]
    show (f.tx.extract 0 (lossN f t).toNat).extract 0 f.kp.toNat = _
    rw [ByteArray.extract_extract]
    congr 1
    omega
theorem wgt_small : ∀ {L : List Fil}, (∀ f ∈ L, fOk f = true) → wgt L ≤ L.length * 20008
  | [], _ => by simp [wgt]
  | f :: L, h => by
    have ih := wgt_small (L := L) fun g hg => h g (List.mem_cons_of_mem _ hg)
    have h1 := fOk_nm (h f (List.mem_cons_self ..))
    have h2 := fOk_tx (h f (List.mem_cons_self ..))
    simp only [wgt, List.length_cons]
    omega
theorem dOk_wgtK {L : List Fil} (h : dOk L = true) : L.length + wgt L ≤ 1048576 := by
  have h1 := wgt_small (dOk_all h)
  have h2 := dOk_len h
  have : L.length * 20008 ≤ 30 * 20008 := Nat.mul_le_mul_right _ h2
  omega
end Go.Proofs.Ytiddmmmgmoofnaa
