/- Texts that stand in one: DiskPlain, AtPlain, KeptPlain, ActPlain, FolderPlain. -/
import Derived.Test.YtpgcfgbhkodmeaaFiles
import Derived.Maps.Own
import Derived.Maps.OwnSet
import Derived.Maps.Ext
import Derived.Sort.Walk0
import Derived.Sort.KeysCollected
namespace Go.Proofs.Ytpgcfgbhkodmeaa
open Go.RowKit

def nOk (s : ByteArray) : Bool := decide (1 ≤ s.size ∧ s.size ≤ 8)
def fOk (f : Fil) : Bool := nOk f.nm && (decide (f.tx.size ≤ 20000) && decide (0 ≤ f.kp ∧ f.kp ≤ f.tx.size))
def ltS (a b : ByteArray) : Bool := Op.bytesLess a.toList b.toList

/-- The file at k is right, and stands behind the one ahead of it. -/
def rOk (L : List Fil) : Nat → Bool
  | 0 => match L[0]? with | some f => fOk f | none => false
  | m + 1 => match L[m + 1]?, L[m]? with | some f, some p => fOk f && ltS p.nm f.nm | _, _ => false
def okTo (L : List Fil) : Nat → Bool
  | 0 => true
  | k + 1 => okTo L k && rOk L k
def dOk (L : List Fil) : Bool := decide (L.length ≤ 30) && okTo L L.length

theorem rOk_zero {L : List Fil} {f : Fil} (h : 0 < L.length) (hf : L[0] = f) : rOk L 0 = fOk f := by
  simp [rOk, List.getElem?_eq_getElem h, hf]
theorem rOk_succ {L : List Fil} {f p : Fil} {m : Nat} (h : m + 1 < L.length) (hf : L[m + 1] = f) (hp : L[m] = p) : rOk L (m + 1) = (fOk f && ltS p.nm f.nm) := by
  simp [rOk, List.getElem?_eq_getElem h, List.getElem?_eq_getElem (show m < L.length by omega), hf, hp]
theorem okTo_false {L : List Fil} {k : Nat} (h : rOk L k = false) : ∀ n, k < n → okTo L n = false
  | 0, hn => by omega
  | n + 1, hn => by
    by_cases e : k = n
    · subst e; simp [okTo, h]
    · simp [okTo, okTo_false h n (by omega)]
theorem dOk_false {L : List Fil} {k : Nat} (h : rOk L k = false) (hk : k < L.length) : dOk L = false := by simp [dOk, okTo_false h _ hk]
theorem dOk_true {L : List Fil} (hl : L.length ≤ 30) (h : okTo L L.length = true) : dOk L = true := by simp [dOk, hl, h]
theorem dOk_long {L : List Fil} (hl : ¬ L.length ≤ 30) : dOk L = false := by simp [dOk, hl]
theorem okTo_succ {L : List Fil} {k : Nat} (h : okTo L k = true) (hr : rOk L k = true) : okTo L (k + 1) = true := by simp [okTo, h, hr]
end Go.Proofs.Ytpgcfgbhkodmeaa

namespace Go.Proofs.Ytpgcfgbhkodmeaa
open Go.RowKit

def eqS (a b : ByteArray) : Bool := a.toList == b.toList
def pos (L : List Fil) (nm : ByteArray) : Option Nat := L.findIdx? fun f => eqS f.nm nm
/-- The place as the program tells it. -/
def posV (o : Option Nat) : Int := match o with | some k => (k : Int) | none => -1
def fileAt (L : List Fil) (nm : ByteArray) : ByteArray × Bool := match L.find? (fun f => eqS f.nm nm) with | some f => (f.tx, true) | none => (⟨#[]⟩, false)

/-- None of the first k bears the name. -/
def NoneTo (L : List Fil) (nm : ByteArray) (k : Nat) : Prop := ∀ j (h : j < L.length), j < k → eqS L[j].nm nm = false
theorem NoneTo.zero (L : List Fil) (nm : ByteArray) : NoneTo L nm 0 := fun j _ h => by omega
theorem NoneTo.succ {L : List Fil} {nm : ByteArray} {k : Nat} (h : NoneTo L nm k) (hk : k < L.length) {f : Fil} (hf : L[k] = f) (he : eqS f.nm nm = false) : NoneTo L nm (k + 1) := by
  intro j hj hlt
  by_cases e : j = k
  · subst e; rw [hf]; exact he
  · exact h j hj (by omega)
theorem pos_some {L : List Fil} {nm : ByteArray} {k : Nat} (h : NoneTo L nm k) (hk : k < L.length) {f : Fil} (hf : L[k] = f) (he : eqS f.nm nm = true) : pos L nm = some k := by
  unfold pos
  rw [List.findIdx?_eq_some_iff_getElem]
  exact ⟨hk, by rw [hf]; exact he, fun j hj => by simpa using h j (by omega) hj⟩
theorem pos_none {L : List Fil} {nm : ByteArray} (h : NoneTo L nm L.length) : pos L nm = none := by
  unfold pos
  rw [List.findIdx?_eq_none_iff]
  intro f hf
  obtain ⟨j, hj, rfl⟩ := List.getElem_of_mem hf
  exact h j hj hj
theorem fileAt_some {L : List Fil} {nm : ByteArray} {k : Nat} (h : NoneTo L nm k) (hk : k < L.length) {f : Fil} (hf : L[k] = f) (he : eqS f.nm nm = true) : fileAt L nm = (f.tx, true) := by
  unfold fileAt
  have : L.find? (fun f => eqS f.nm nm) = some f := by
    rw [List.find?_eq_some_iff_getElem]
    exact ⟨he, k, hk, hf, fun j hj => by simpa using h j (by omega) hj⟩
  rw [this]
theorem fileAt_none {L : List Fil} {nm : ByteArray} (h : NoneTo L nm L.length) : fileAt L nm = (⟨#[]⟩, false) := by
  unfold fileAt
  have : L.find? (fun f => eqS f.nm nm) = none := by
    rw [List.find?_eq_none]
    intro f hf
    obtain ⟨j, hj, rfl⟩ := List.getElem_of_mem hf
    simp [h j hj hj]
  rw [this]
/-- What a place says of the file there. -/
theorem pos_at {L : List Fil} {nm : ByteArray} {k : Nat} (h : pos L nm = some k) : ∃ hk : k < L.length, eqS L[k].nm nm = true ∧ fileAt L nm = (L[k].tx, true) := by
  unfold pos at h
  rw [List.findIdx?_eq_some_iff_getElem] at h
  obtain ⟨hk, he, hn⟩ := h
  exact ⟨hk, he, fileAt_some (fun j hj hlt => by simpa using hn j hlt) hk rfl he⟩
theorem pos_not {L : List Fil} {nm : ByteArray} (h : pos L nm = none) : fileAt L nm = (⟨#[]⟩, false) := by
  unfold pos at h
  rw [List.findIdx?_eq_none_iff] at h
  exact fileAt_none fun j hj _ => h _ (List.getElem_mem hj)
end Go.Proofs.Ytpgcfgbhkodmeaa

namespace Go.Proofs.Ytpgcfgbhkodmeaa
open Go.RowKit

theorem okTo_at {L : List Fil} : ∀ {n j : Nat}, okTo L n = true → j < n → rOk L j = true
  | 0, j, _, h => by omega
  | n + 1, j, hk, h => by
    simp only [okTo, Bool.and_eq_true] at hk
    by_cases e : j = n
    · subst e; exact hk.2
    · exact okTo_at hk.1 (by omega)
theorem rOk_fOk {L : List Fil} {j : Nat} (hj : j < L.length) (h : rOk L j = true) : fOk L[j] = true := by
  cases j with
  | zero => rw [rOk_zero hj rfl] at h; exact h
  | succ m => rw [rOk_succ hj rfl rfl, Bool.and_eq_true] at h; exact h.1
theorem dOk_at {L : List Fil} (h : dOk L = true) {j : Nat} (hj : j < L.length) : fOk L[j] = true := by
  simp only [dOk, Bool.and_eq_true] at h
  exact rOk_fOk hj (okTo_at h.2 hj)
theorem dOk_len {L : List Fil} (h : dOk L = true) : L.length ≤ 30 := by
  simp only [dOk, Bool.and_eq_true, decide_eq_true_eq] at h
  exact h.1
theorem fOk_kp {f : Fil} (h : fOk f = true) : 0 ≤ f.kp ∧ f.kp ≤ f.tx.size := by
  simp only [fOk, Bool.and_eq_true, decide_eq_true_eq] at h
  exact h.2.2
theorem fOk_tx {f : Fil} (h : fOk f = true) : f.tx.size ≤ 20000 := by
  simp only [fOk, Bool.and_eq_true, decide_eq_true_eq] at h
  exact h.2.1
theorem fOk_nm {f : Fil} (h : fOk f = true) : 1 ≤ f.nm.size ∧ f.nm.size ≤ 8 := by
  simp only [fOk, nOk, Bool.and_eq_true, decide_eq_true_eq] at h
  exact h.1

def wholeF (f : Fil) : Bool := decide (f.kp = f.tx.size)
def aK (L : List Fil) : Bool := dOk L && L.all wholeF
def KeptTo (L : List Fil) (k : Nat) : Prop := ∀ j (h : j < L.length), j < k → wholeF L[j] = true
theorem KeptTo.zero (L : List Fil) : KeptTo L 0 := fun j _ h => by omega
theorem KeptTo.succ {L : List Fil} {k : Nat} (h : KeptTo L k) (hk : k < L.length) {f : Fil} (hf : L[k] = f) (he : wholeF f = true) : KeptTo L (k + 1) := by
  intro j hj hlt
  by_cases e : j = k
  · subst e; rw [hf]; exact he
  · exact h j hj (by omega)
theorem aK_true {L : List Fil} (hd : dOk L = true) (h : KeptTo L L.length) : aK L = true := by
  unfold aK
  rw [hd, Bool.true_and, List.all_eq_true]
  intro f hf
  obtain ⟨j, hj, rfl⟩ := List.getElem_of_mem hf
  exact h j hj hj
theorem aK_false {L : List Fil} {k : Nat} (hk : k < L.length) {f : Fil} (hf : L[k] = f) (he : wholeF f = false) : aK L = false := by
  unfold aK
  have : L.all wholeF = false := by
    rw [List.all_eq_false]
    exact ⟨f, by rw [← hf]; exact List.getElem_mem hk, by simp [he]⟩
  rw [this, Bool.and_false]
theorem aK_bad {L : List Fil} (hd : dOk L = false) : aK L = false := by simp [aK, hd]
end Go.Proofs.Ytpgcfgbhkodmeaa

namespace Go.Proofs.Ytpgcfgbhkodmeaa
open Go.RowKit

/-- The files whose names are not nm. -/
def woL (L : List Fil) (nm : ByteArray) : List Fil := L.filter fun f => !eqS f.nm nm
/-- A file put in its place. -/
def putL (L : List Fil) (f : Fil) : List Fil := (L.filter fun g => ltS g.nm f.nm) ++ [f] ++ (L.filter fun g => !(ltS g.nm f.nm || eqS g.nm f.nm))

theorem filter_take_on {L : List Fil} {p : Fil → Bool} {k : Nat} (hk : k < L.length) {f : Fil} (hf : L[k] = f) (hp : p f = true) : (L.take (k + 1)).filter p = (L.take k).filter p ++ [f] := by
  rw [List.take_succ_eq_append_getElem hk, List.filter_append, hf]; simp [hp]
theorem filter_take_off {L : List Fil} {p : Fil → Bool} {k : Nat} (hk : k < L.length) {f : Fil} (hf : L[k] = f) (hp : p f = false) : (L.take (k + 1)).filter p = (L.take k).filter p := by
  rw [List.take_succ_eq_append_getElem hk, List.filter_append, hf]; simp [hp]
theorem filter_take_len (L : List Fil) (p : Fil → Bool) (k : Nat) : ((L.take k).filter p).length ≤ k := Nat.le_trans (List.length_filter_le _ _) (by rw [List.length_take]; omega)
theorem woL_len (L : List Fil) (nm : ByteArray) : (woL L nm).length ≤ L.length := List.length_filter_le _ _
end Go.Proofs.Ytpgcfgbhkodmeaa

namespace Go.Proofs.Ytpgcfgbhkodmeaa
open Go.RowKit

theorem toList_data' (a : ByteArray) : a.toList = a.data.toList := ByteArray.toList_eq a
theorem before_less : ∀ (x y : List UInt8), bytesBefore x y = Op.bytesLess x y
  | [], [] => by simp [bytesBefore, Op.bytesLess]
  | _ :: _, [] => by simp [bytesBefore, Op.bytesLess]
  | [], _ :: _ => by simp [bytesBefore, Op.bytesLess]
  | a :: x, b :: y => by simp [bytesBefore, Op.bytesLess, before_less x y]
theorem before_lt (a b : ByteArray) : (Lit.string a.data.toList).before (.string b.data.toList) = ltS a b := by
  simp only [Lit.before, ltS, before_less, toList_data']
theorem same_eq (a b : ByteArray) : (Lit.string a.data.toList).sameKey (.string b.data.toList) = eqS a b := by
  simp only [Lit.sameKey, eqS, toList_data']
theorem eqS_iff {a b : ByteArray} : eqS a b = true ↔ a = b := by
  unfold eqS
  rw [beq_iff_eq, toList_data', toList_data']
  constructor
  · intro h; cases a; cases b; simp at h; simp [h]
  · rintro rfl; rfl
theorem eqS_ne {a b : ByteArray} : eqS a b = false ↔ a ≠ b := by rw [← Bool.not_eq_true, eqS_iff]
theorem eqS_refl (a : ByteArray) : eqS a a = true := eqS_iff.2 rfl
theorem ltS_irr (a : ByteArray) : ltS a a = false := by rw [← before_lt]; exact WideAt.bytes_irrefl _
theorem ltS_trans {a b c : ByteArray} (h : ltS a b = true) (k : ltS b c = true) : ltS a c = true := by
  rw [← before_lt] at *
  exact WideShapes.bytes_trans _ _ _ h k
theorem ltS_total {a b : ByteArray} (h : a ≠ b) : ltS a b = true ∨ ltS b a = true := by
  rw [← before_lt, ← before_lt]
  exact WideAt.bytes_total _ _ (fun e => h (by cases a; cases b; simp at e; simp [e]))
theorem ltS_asym {a b : ByteArray} (h : ltS a b = true) : ltS b a = false := by
  cases k : ltS b a with
  | false => rfl
  | true => have := ltS_trans h k; rw [ltS_irr] at this; cases this
theorem ltS_ne {a b : ByteArray} (h : ltS a b = true) : eqS a b = false := by
  rw [eqS_ne]; rintro rfl; rw [ltS_irr] at h; cases h
/-- Neither less nor alike: it stands behind. -/
theorem gtS_iff {a b : ByteArray} : (!(ltS a b || eqS a b)) = ltS b a := by
  by_cases e : a = b
  · subst e; simp [eqS_refl, ltS_irr]
  · have he : eqS a b = false := eqS_ne.2 e
    rcases ltS_total e with h | h
    · simp [h, ltS_asym h]
    · simp [h, he, ltS_asym h]

/-- A right list of files rises. -/
def Rise (L : List Fil) : Prop := L.Pairwise fun p q => ltS p.nm q.nm = true
theorem dOk_rise {L : List Fil} (h : dOk L = true) : Rise L := by
  unfold Rise
  have hstep : ∀ m (hm : m + 1 < L.length), ltS L[m].nm L[m + 1].nm = true := by
    intro m hm
    simp only [dOk, Bool.and_eq_true] at h
    have := okTo_at h.2 hm
    rw [rOk_succ hm rfl rfl, Bool.and_eq_true] at this
    exact this.2
  have hall : ∀ j i, (hij : i < j) → (hj : j < L.length) → ltS (L[i]'(by omega)).nm L[j].nm = true := by
    intro j
    induction j with
    | zero => intro i hij; omega
    | succ j ih =>
      intro i hij hj
      by_cases e : i = j
      · subst e; exact hstep i hj
      · exact ltS_trans (ih i (by omega) (by omega)) (hstep j hj)
  rw [List.pairwise_iff_getElem]
  intro i j hi hj hij
  exact hall j i hij hj
theorem rise_dOk {L : List Fil} (hl : L.length ≤ 30) (hr : Rise L) (hf : ∀ f ∈ L, fOk f = true) : dOk L = true := by
  refine dOk_true hl ?_
  have : ∀ n, n ≤ L.length → okTo L n = true := by
    intro n
    induction n with
    | zero => intro _; rfl
    | succ n ih =>
      intro hn
      refine okTo_succ (ih (by omega)) ?_
      cases n with
      | zero => rw [rOk_zero (by omega) rfl]; exact hf _ (List.getElem_mem _)
      | succ m =>
        rw [rOk_succ (by omega) rfl rfl, Bool.and_eq_true]
        refine ⟨hf _ (List.getElem_mem _), ?_⟩
        exact (List.pairwise_iff_getElem.1 hr) m (m + 1) (by omega) (by omega) (by omega)
  exact this _ (Nat.le_refl _)

/-- The files of a map with their blocks, in the order of their names. -/
def entD (p : Fil × Nat) : Lit × DataW Unit := (.string p.1.nm.data.toList, .lit (.int .i64 (p.2 : Int)))
def mOf (M : List (Fil × Nat)) : DataW Unit := .map (M.map entD)
def putMF (M : List (Fil × Nat)) (p : Fil × Nat) : List (Fil × Nat) := (M.filter fun q => ltS q.1.nm p.1.nm) ++ [p] ++ (M.filter fun q => !(ltS q.1.nm p.1.nm || eqS q.1.nm p.1.nm))
def woM (M : List (Fil × Nat)) (nm : ByteArray) : List (Fil × Nat) := M.filter fun q => !eqS q.1.nm nm
def edM (M : List (Fil × Nat)) (f : Fil) : List (Fil × Nat) := M.map fun q => if eqS q.1.nm f.nm then (f, q.2) else q
theorem putM_fst (M : List (Fil × Nat)) (p : Fil × Nat) : (putMF M p).map (·.1) = putL (M.map (·.1)) p.1 := by
  simp [putMF, putL, List.filter_map, Function.comp_def]
theorem woM_fst (M : List (Fil × Nat)) (nm : ByteArray) : (woM M nm).map (·.1) = woL (M.map (·.1)) nm := by
  simp [woM, woL, List.filter_map, Function.comp_def]

theorem ins_filter {x : Lit × DataW Unit} : ∀ (l : List (Lit × DataW Unit)), (∀ p ∈ l, ∀ q ∈ l, x.1.before p.1 = true → p.1.before q.1 = true → x.1.before q.1 = true) → l.Pairwise (fun p q => p.1.before q.1 = true) →
    (∀ p ∈ l, p.1.before x.1 = !x.1.before p.1) → DataW.insert x l = (l.filter fun p => p.1.before x.1) ++ [x] ++ (l.filter fun p => x.1.before p.1)
  | [], _, _, _ => by simp [DataW.insert]
  | y :: r, ht, hs, hx => by
    have hy := hx y (by simp)
    rw [List.pairwise_cons] at hs
    cases hb : x.1.before y.1 with
    | true =>
      rw [hb] at hy
      have hall : ∀ p ∈ r, x.1.before p.1 = true := fun p hp => ht y (by simp) p (by simp [hp]) hb (hs.1 p hp)
      have h1 : r.filter (fun p => p.1.before x.1) = [] := by
        rw [List.filter_eq_nil_iff]
        intro p hp
        rw [hx p (by simp [hp]), hall p hp]
        simp
      have h2 : r.filter (fun p => x.1.before p.1) = r := List.filter_eq_self.2 hall
      simp [DataW.insert, hb, hy, h1, h2]
    | false =>
      rw [hb] at hy
      have ih := ins_filter r (fun p hp q hq => ht p (by simp [hp]) q (by simp [hq])) hs.2 (fun p hp => hx p (by simp [hp]))
      simp [DataW.insert, hb, hy, ih]

/-- A map's entries rise. -/
def RiseM (M : List (Fil × Nat)) : Prop := M.Pairwise fun p q => ltS p.1.nm q.1.nm = true
theorem riseM_fst {M : List (Fil × Nat)} : RiseM M ↔ Rise (M.map (·.1)) := by simp [RiseM, Rise, List.pairwise_map]
theorem riseM_of_canon {M : List (Fil × Nat)} (h : Maps.Canon (mOf M)) : RiseM M := by
  obtain ⟨es, he, hp, _⟩ := h
  simp only [mOf, DataW.map.injEq] at he
  rw [← he, List.pairwise_map] at hp
  refine hp.imp ?_
  intro p q hpq
  rw [← before_lt]
  exact hpq

theorem mOf_put {M : List (Fil × Nat)} (h : RiseM M) (f : Fil) (g : Nat) : (mOf M).put (.string f.nm.data.toList) (.lit (.int .i64 (g : Int))) = mOf (putMF M (f, g)) := by
  have hs : ∀ p : Fil × Nat, (entD p).1.sameKey (.string f.nm.data.toList) = eqS p.1.nm f.nm := fun p => same_eq _ _
  have e1 : (M.map entD).filter (fun p => !p.1.sameKey (.string f.nm.data.toList)) = (M.filter fun q => !eqS q.1.nm f.nm).map entD := by
    rw [List.filter_map]
    congr 1
    refine List.filter_congr fun p _ => ?_
    simp [hs]
  unfold mOf DataW.put
  simp only
  rw [e1, ins_filter]
  · unfold putMF
    simp only [DataW.map.injEq, List.map_append, List.map_cons, List.map_nil, List.filter_map, List.filter_filter]
    congr 1
    · congr 1
      refine congrArg _ (List.filter_congr fun p _ => ?_)
      simp only [Function.comp]
      rw [show (entD p).1.before (.string f.nm.data.toList) = ltS p.1.nm f.nm from before_lt _ _]
      cases hl : ltS p.1.nm f.nm with
      | false => simp
      | true => simp [ltS_ne hl]
    · refine congrArg _ (List.filter_congr fun p _ => ?_)
      simp only [Function.comp]
      rw [show (Lit.string f.nm.data.toList).before (entD p).1 = ltS f.nm p.1.nm from before_lt _ _, gtS_iff]
      cases hl : ltS f.nm p.1.nm with
      | false => simp
      | true => simp [show eqS p.1.nm f.nm = false from eqS_ne.2 fun e => by rw [e, ltS_irr] at hl; cases hl]
  · intro p hp q hq h1 h2
    obtain ⟨p', _, rfl⟩ := List.mem_map.1 hp
    obtain ⟨q', _, rfl⟩ := List.mem_map.1 hq
    exact WideShapes.bytes_trans _ _ _ h1 h2
  · rw [List.pairwise_map]
    refine (List.Pairwise.filter _ h).imp ?_
    intro p q hpq
    exact (before_lt _ _).trans hpq
  · intro p hp
    obtain ⟨p', hp', rfl⟩ := List.mem_map.1 hp
    have hne := (List.mem_filter.1 hp').2
    have hne' : eqS p'.1.nm f.nm = false := by simpa using hne
    rw [show (entD p').1.before (.string f.nm.data.toList) = ltS p'.1.nm f.nm from before_lt _ _, show (Lit.string f.nm.data.toList).before (entD p').1 = ltS f.nm p'.1.nm from before_lt _ _, ← gtS_iff (a := p'.1.nm) (b := f.nm)]
    simp [hne']
theorem mOf_del (M : List (Fil × Nat)) (nm : ByteArray) : (mOf M).del (.string nm.data.toList) = mOf (woM M nm) := by
  unfold mOf DataW.del woM
  simp only [DataW.map.injEq]
  rw [List.filter_map]
  congr 1
  refine List.filter_congr fun p _ => ?_
  simp only [Function.comp]
  rw [show (entD p).1.sameKey (.string nm.data.toList) = eqS p.1.nm nm from same_eq _ _]
theorem mOf_at (M : List (Fil × Nat)) (nm : ByteArray) (z : DataW Unit) : (mOf M).atKey (.string nm.data.toList) z = match M.find? (fun q => eqS q.1.nm nm) with | some p => .lit (.int .i64 (p.2 : Int)) | none => z := by
  unfold mOf DataW.atKey
  simp only
  rw [List.find?_map]
  have : ((fun p : Lit × DataW Unit => p.1.sameKey (.string nm.data.toList)) ∘ entD) = fun q : Fil × Nat => eqS q.1.nm nm := by
    funext p
    exact same_eq _ _
  rw [this]
  cases M.find? (fun q => eqS q.1.nm nm) <;> rfl
theorem mOf_edit (M : List (Fil × Nat)) (f : Fil) : mOf (edM M f) = mOf M := by
  unfold mOf edM
  simp only [DataW.map.injEq, List.map_map]
  refine List.map_congr_left fun p _ => ?_
  simp only [Function.comp]
  split
  · rename_i h
    rw [eqS_iff] at h
    simp [entD, h]
  · rfl
theorem mOf_size (M : List (Fil × Nat)) : Maps.size (mOf M) = M.length := by simp [mOf, Maps.size]
end Go.Proofs.Ytpgcfgbhkodmeaa
