/- Texts that stand in one: EntPlain, EnLaw. -/
import Derived.Test.YtcaakommnglnbaaGreatDoorReadPlainJ
import Derived.Test.YtcaakommnglnbaaGreatDoorBaseJ
namespace Go.Proofs.YtcaakommnglnbaaGreatDoor
open Go.RowKit

/-- A number that is read stands there as it is written. -/
theorem rvF_canonE {t : List UInt8} {a : Nat} : ∀ {f k n e : Nat}, k + f ≤ 5 → (∀ c ∈ (t.drop a).take k, 128 ≤ c.toNat) → rvF t a f k = some (n, e) → a < e ∧ (t.drop a).take (e - a) = varF 8 n
  | 0, k, n, e, _, _, h => by simp [rvF] at h
  | f + 1, k, n, e, hf, hall, h => by
    by_cases hl : a + k < t.length
    · by_cases hb : t[a + k].toNat < 128
      · by_cases hn : 1000000000 < dec ((t.drop a).take (k + 1)) ∨ (t[a + k] = 0 ∧ 0 < k)
        · rw [rvF_no hl hb hn] at h; cases h
        · rw [rvF_yes hl hb hn] at h
          cases h
          refine ⟨by omega, ?_⟩
          rw [show a + k + 1 - a = k + 1 by omega, take_more hl]
          refine ((varF_iff _ _ 8 hall hb (Nat.le_trans (List.length_take_le _ _) (by omega))).2 ?_).symm
          rintro ⟨h0, hne⟩
          refine hn (.inr ⟨h0, ?_⟩)
          rcases Nat.eq_zero_or_pos k with rfl | hk
          · simp at hne
          · exact hk
      · rw [rvF_on hl (by omega)] at h
        refine rvF_canonE (by omega) ?_ h
        intro c hc
        rw [take_more hl, List.mem_append] at hc
        rcases hc with hc | hc
        · exact hall c hc
        · simp at hc; subst hc; omega
    · rw [rvF_end (.inl (by omega))] at h; cases h

theorem rv_canonE {s : ByteArray} {a n e : Nat} (ha : a ≤ s.size) (h : rv s.data.toList (a : Int) = some (n, e)) : a < e ∧ e ≤ s.size ∧ n ≤ 1000000000 ∧ (s.data.toList.drop a).take (e - a) = varF 8 n := by
  rw [rv_in ha] at h
  have h1 := rvF_canonE (by omega) (by simp) h
  have h2 := rvF_bound h
  exact ⟨h1.1, by simpa using h2.1, h2.2, h1.2⟩

theorem toList_injE {a b : ByteArray} : a = b ↔ a.data.toList = b.data.toList := by
  constructor
  · rintro rfl; rfl
  · intro h; cases a; cases b; simp at h; simp [h]

theorem size_zeroE {s : ByteArray} (h : s.size = 0) : s = ⟨#[]⟩ := by
  cases s with | mk d => simp [ByteArray.size] at h; simp [h]
theorem not_emptyE {s : ByteArray} (h : 1 ≤ s.size) : s.toList.isEmpty = false := by
  rw [ByteArray.toList_eq]
  cases s with | mk d =>
  cases hd : d.toList with
  | nil => simp [ByteArray.size] at h; have : d = #[] := by simpa using hd
           subst this; simp at h
  | cons => simp
theorem extract_toListE (s : ByteArray) (i j : Nat) : (s.extract i j).data.toList = (s.data.toList.drop i).take (j - i) := by
  simp only [ByteArray.data_extract, Array.toList_extract, List.extract_eq_take_drop]

theorem size_listE (s : ByteArray) : s.data.toList.length = s.size := by rw [Array.length_toList]; rfl
structure En where
  key : ByteArray
  st : Int
  lf : Int
  bd : ByteArray
def zen : En := ⟨⟨#[]⟩, 0, 0, ⟨#[]⟩⟩
theorem En.ext' {x y : En} (h1 : x.key = y.key) (h2 : x.st = y.st) (h3 : x.lf = y.lf) (h4 : x.bd = y.bd) : x = y := by
  obtain ⟨a, b, c, d⟩ := x
  obtain ⟨a', b', c', d'⟩ := y
  dsimp only at *
  subst h1 h2 h3 h4
  rfl

def enKey (s : ByteArray) : Bool := decide (1 ≤ s.size ∧ s.size ≤ 30)
/-- What EntryOk answers. -/
def enOk (E : En) : Bool := enKey E.key && (inB E.st 0 1000000000 && (inB E.lf 1 999999 && decide (E.bd.size ≤ 400)))
theorem enOk_iff {E : En} : enOk E = true ↔ (1 ≤ E.key.size ∧ E.key.size ≤ 30) ∧ (0 ≤ E.st ∧ E.st ≤ 1000000000) ∧ (1 ≤ E.lf ∧ E.lf ≤ 999999) ∧ E.bd.size ≤ 400 := by
  simp [enOk, enKey, inB]
/-- The text of a right entry. -/
def enAll (E : En) : ByteArray := ⟨(varF 8 E.key.size).toArray⟩ ++ E.key ++ ⟨(varF 8 E.st.toNat).toArray⟩ ++ ⟨(varF 8 E.lf.toNat).toArray⟩ ++ E.bd
/-- What EntryText answers. -/
def enText (E : En) : ByteArray := if enOk E = true then enAll E else ⟨#[]⟩
theorem enText_in {E : En} (h : enOk E = true) : enText E = enAll E := if_pos h
theorem enText_out {E : En} (h : enOk E = false) : enText E = ⟨#[]⟩ := by unfold enText; rw [h]; rfl
theorem enAll_list (E : En) : (enAll E).data.toList = varF 8 E.key.size ++ (E.key.data.toList ++ (varF 8 E.st.toNat ++ (varF 8 E.lf.toNat ++ E.bd.data.toList))) := by
  simp [enAll]
theorem varF_pos (f m : Nat) : 1 ≤ (varF f m).length := by
  cases f with
  | zero => simp [varF]
  | succ f => unfold varF; split <;> simp
theorem enAll_size {E : En} (h : enOk E = true) : 1 ≤ (enAll E).size ∧ (enAll E).size ≤ 457 := by
  obtain ⟨h1, h2, h3, h4⟩ := enOk_iff.1 h
  have e : (enAll E).size = (enAll E).data.toList.length := by rw [Array.length_toList]; rfl
  have l1 := varF_length 8 E.key.size
  have l2 := varF_length 8 E.st.toNat
  have l3 := varF_length 8 E.lf.toNat
  have p1 := varF_pos 8 E.key.size
  have s1 : E.key.data.toList.length = E.key.size := by rw [Array.length_toList]; rfl
  have s2 : E.bd.data.toList.length = E.bd.size := by rw [Array.length_toList]; rfl
  rw [e, enAll_list]
  simp only [List.length_append]
  omega
theorem enText_size (E : En) : (enText E).size ≤ 457 := by
  by_cases h : enOk E = true
  · rw [enText_in h]; exact (enAll_size h).2
  · unfold enText; rw [if_neg h]; exact Nat.zero_le 457

/-- What stands behind the key, the moment and the life. -/
def reA (t : ByteArray) : Nat := rsE t 0
def reB (t : ByteArray) : Nat := rvE t.data.toList (reA t)
def reC (t : ByteArray) : Nat := rvE t.data.toList (reB t)
/-- The entry that a text would be. -/
def reE (t : ByteArray) : En := ⟨rsText t 0, rvN t.data.toList (reA t), rvN t.data.toList (reB t), t.extract (reC t) t.size⟩
/-- Its parts are there. -/
def reP (t : ByteArray) : Bool := rsOk t 0 && (rvOk t.data.toList (reA t) && rvOk t.data.toList (reB t))
/-- What ReadEntry answers. -/
def reOk (t : ByteArray) : Bool := reP t && enOk (reE t)
def rdEn (t : ByteArray) : En := if reOk t = true then reE t else zen
theorem rdEn_in {t : ByteArray} (h : reOk t = true) : rdEn t = reE t := if_pos h
theorem rdEn_out {t : ByteArray} (h : reOk t = false) : rdEn t = zen := by unfold rdEn; rw [h]; rfl

theorem rv_split {s : ByteArray} {a : Nat} (ha : a ≤ s.size) (h : rvOk s.data.toList (a : Int) = true) :
    a < rvE s.data.toList (a : Int) ∧ rvE s.data.toList (a : Int) ≤ s.size ∧ s.data.toList.drop a = varF 8 (rvN s.data.toList (a : Int)) ++ s.data.toList.drop (rvE s.data.toList (a : Int)) := by
  unfold rvOk at h
  cases hr : rv s.data.toList (a : Int) with
  | none => rw [hr] at h; simp at h
  | some p =>
    obtain ⟨n, e⟩ := p
    have hn : rvN s.data.toList (a : Int) = n := by simp [rvN, hr]
    have he : rvE s.data.toList (a : Int) = e := by simp [rvE, hr]
    obtain ⟨h1, h2, _, h4⟩ := rv_canonE ha hr
    rw [hn, he]
    refine ⟨h1, h2, ?_⟩
    rw [← h4, show s.data.toList.drop e = (s.data.toList.drop a).drop (e - a) by rw [List.drop_drop]; congr 1; omega]
    exact (List.take_append_drop _ _).symm

/-- What is read is the text of what it reads. -/
theorem re_back {t : ByteArray} (h : reOk t = true) : enAll (reE t) = t := by
  unfold reOk reP at h
  simp only [Bool.and_eq_true] at h
  obtain ⟨⟨h1, h2, h3⟩, h4⟩ := h
  have hs := h1
  unfold rsOk at hs
  simp only [Bool.and_eq_true, decide_eq_true_eq] at hs
  obtain ⟨⟨g1, g2⟩, g3⟩ := hs
  obtain ⟨a1, a2, a3⟩ := rv_split (s := t) (a := 0) (by omega) g1
  rw [show ((0 : Nat) : Int) = 0 from rfl] at a1 a2 a3
  have hA : reA t = rvN t.data.toList 0 + rvE t.data.toList 0 ∨ reA t = rvE t.data.toList 0 + rvN t.data.toList 0 := by
    unfold reA rsE; rw [if_pos h1]; exact .inr rfl
  have hA' : reA t = rvE t.data.toList 0 + rvN t.data.toList 0 := by omega
  have hT : rsText t 0 = t.extract (rvE t.data.toList 0) (rvE t.data.toList 0 + rvN t.data.toList 0) := by unfold rsText; rw [if_pos h1]
  obtain ⟨b1, b2, b3⟩ := rv_split (s := t) (a := reA t) (by omega) h2
  obtain ⟨c1, c2, c3⟩ := rv_split (s := t) (a := reB t) b2 h3
  have hks : (rsText t 0).size = rvN t.data.toList 0 := by rw [hT, ByteArray.size_extract]; omega
  have hkl : (rsText t 0).data.toList = (t.data.toList.drop (rvE t.data.toList 0)).take (rvN t.data.toList 0) := by rw [hT, extract_toListE, Nat.add_sub_cancel_left]
  rw [toList_injE, enAll_list]
  show varF 8 (rsText t 0).size ++ ((rsText t 0).data.toList ++ (varF 8 (rvN t.data.toList (reA t) : Int).toNat ++ (varF 8 (rvN t.data.toList (reB t) : Int).toNat ++ (t.extract (reC t) t.size).data.toList))) = t.data.toList
  rw [hks, hkl, Int.toNat_natCast, Int.toNat_natCast, extract_toListE]
  have hl : t.data.toList.length = t.size := by rw [Array.length_toList]; rfl
  rw [List.take_of_length_le (l := t.data.toList.drop (reC t)) (by rw [List.length_drop]; omega)]
  rw [show t.data.toList.drop (reC t) = t.data.toList.drop (rvE t.data.toList (reB t)) from rfl, ← c3]
  rw [show t.data.toList.drop (reB t) = t.data.toList.drop (rvE t.data.toList (reA t)) from rfl, ← b3, hA', ← List.drop_drop, List.take_append_drop, ← a3, List.drop_zero]

theorem rv_there {t : ByteArray} {a n : Nat} {r : List UInt8} (ha : a ≤ t.size) (hn : n ≤ 1000000000) (h : t.data.toList.drop a = varF 8 n ++ r) :
    rvOk t.data.toList (a : Int) = true ∧ rvN t.data.toList (a : Int) = n ∧ rvE t.data.toList (a : Int) = a + (varF 8 n).length ∧ t.data.toList.drop (a + (varF 8 n).length) = r ∧ a + (varF 8 n).length ≤ t.size := by
  have hr : rv t.data.toList (a : Int) = some (n, a + (varF 8 n).length) := by
    rw [rv_in ha]; exact rvF_varF hn h
  refine ⟨by simp [rvOk, hr], by simp [rvN, hr], by simp [rvE, hr], ?_, ?_⟩
  · rw [← List.drop_drop, h]; exact List.drop_left
  · have hl := congrArg List.length h
    rw [List.length_drop, List.length_append, Array.length_toList] at hl
    have : t.data.size = t.size := rfl
    have := varF_pos 8 n
    omega

/-- A right entry comes back from its text. -/
theorem re_there {E : En} (h : enOk E = true) : reOk (enAll E) = true ∧ reE (enAll E) = E := by
  obtain ⟨h1, h2, h3, h4⟩ := enOk_iff.1 h
  have hl := enAll_list E
  obtain ⟨t, ht⟩ : ∃ t, enAll E = t := ⟨_, rfl⟩
  rw [ht] at hl ⊢
  obtain ⟨a1, a2, a3, a4, a5⟩ := rv_there (t := t) (a := 0) (n := E.key.size) (by omega) (by omega) (by rw [List.drop_zero]; exact hl)
  rw [Nat.zero_add] at a3 a4 a5
  have hks : E.key.data.toList.length = E.key.size := by rw [Array.length_toList]; rfl
  have hb0 : t.data.toList.drop ((varF 8 E.key.size).length + E.key.size) = varF 8 E.st.toNat ++ (varF 8 E.lf.toNat ++ E.bd.data.toList) := by
    rw [← List.drop_drop, a4]; exact List.drop_left' hks
  have hsz : (varF 8 E.key.size).length + E.key.size ≤ t.size := by
    have hx := congrArg List.length a4
    rw [List.length_drop, List.length_append, Array.length_toList (xs := t.data), Array.length_toList (xs := E.key.data)] at hx
    have : t.data.size = t.size := rfl
    have : E.key.data.size = E.key.size := rfl
    omega
  obtain ⟨b1, b2, b3, b4, b5⟩ := rv_there (t := t) (a := (varF 8 E.key.size).length + E.key.size) (n := E.st.toNat) hsz (by omega) hb0
  obtain ⟨c1, c2, c3, c4, c5⟩ := rv_there (t := t) b5 (by omega) b4
  have hrs : rsOk t 0 = true := by
    unfold rsOk
    rw [show ((0 : Nat) : Int) = 0 from rfl] at a1 a2 a3
    rw [a1, a2, a3, decide_eq_true (by omega), decide_eq_true (by omega)]; rfl
  rw [show ((0 : Nat) : Int) = 0 from rfl] at a1 a2 a3
  have hA : reA t = (varF 8 E.key.size).length + E.key.size := by unfold reA rsE; rw [if_pos hrs, a2, a3]
  have hB : reB t = (varF 8 E.key.size).length + E.key.size + (varF 8 E.st.toNat).length := by unfold reB; rw [hA, b3]
  have hC : reC t = (varF 8 E.key.size).length + E.key.size + (varF 8 E.st.toNat).length + (varF 8 E.lf.toNat).length := by unfold reC; rw [hB, c3]
  have hT : rsText t 0 = E.key := by
    unfold rsText
    rw [if_pos hrs, a2, a3, toList_injE, extract_toListE, Nat.add_sub_cancel_left, a4]
    exact List.take_left' hks
  have hE : reE t = E := by
    refine En.ext' hT ?_ ?_ ?_
    · show (rvN t.data.toList (reA t) : Int) = E.st
      rw [hA, b2]; omega
    · show (rvN t.data.toList (reB t) : Int) = E.lf
      rw [hB, c2]; omega
    · show t.extract (reC t) t.size = E.bd
      rw [toList_injE, extract_toListE, hC, c4]
      have hx := congrArg List.length c4
      rw [List.length_drop, Array.length_toList (xs := t.data)] at hx
      have : t.data.size = t.size := rfl
      exact List.take_of_length_le (by omega)
  refine ⟨?_, hE⟩
  unfold reOk reP
  rw [hE, h, hrs, hA, b1, hB, c1]; rfl
end Go.Proofs.YtcaakommnglnbaaGreatDoor

namespace Go.Proofs.YtcaakommnglnbaaGreatDoor
open Go.RowKit

/-- How much an entry weighs. -/
def En.wg (E : En) : Nat := E.key.size + E.bd.size
def En.Sized (E : En) : Prop := (E.key.size ≤ maxLen ∧ E.bd.size ≤ maxLen) ∧ (Lit.int .i64 E.st).wf = true ∧ (Lit.int .i64 E.lf).wf = true

/-- An entry in a variable. -/
def EnB (w : World) (T : Nat) (t : TypeId) (E : En) : Prop := w.heap[T]? = some (.cells #[.string E.key, .int .i64 E.st, .int .i64 E.lf, .string E.bd] t (0, 0))
theorem EnB.lt {w : World} {T : Nat} {t : TypeId} {E : En} (h : EnB w T t E) : T < w.heap.size := (Array.getElem?_eq_some_iff.1 h).1
theorem EnB.on {w w' : World} {T : Nat} {t : TypeId} {E : En} (h : EnB w T t E) (hb : Below w.heap.size w w') : EnB w' T t E := (hb.block T h.lt).trans h
theorem EnB.cells {w : World} {T : Nat} {t : TypeId} {E : En} (h : EnB w T t E) : w.cell? ⟨T, 0, none⟩ = some (.string E.key) ∧ w.cell? ⟨T, 1, none⟩ = some (.int .i64 E.st) ∧ w.cell? ⟨T, 2, none⟩ = some (.int .i64 E.lf) ∧ w.cell? ⟨T, 3, none⟩ = some (.string E.bd) := by
  unfold EnB at h
  exact ⟨by simp [World.cell?, h], by simp [World.cell?, h], by simp [World.cell?, h], by simp [World.cell?, h]⟩
theorem EnB.new (w : World) (t : TypeId) (E : En) : EnB (w.alloc (.cells #[.string E.key, .int .i64 E.st, .int .i64 E.lf, .string E.bd] t)) w.heap.size t E := heap_alloc_new w _

theorem EnB.thaw {w : World} {T : Nat} {t : TypeId} {E : En} (h : EnB w T t E) (i : Nat) : w.frozen? ⟨T, i, none⟩ = false := by unfold EnB at h; simp [World.frozen?, h]
/-- A whole entry stored into a variable. -/
def putE (w : World) (T : Nat) (F : En) : World := (((w.setCell ⟨T, 0, none⟩ (.string F.key)).setCell ⟨T, 1, none⟩ (.int .i64 F.st)).setCell ⟨T, 2, none⟩ (.int .i64 F.lf)).setCell ⟨T, 3, none⟩ (.string F.bd)
theorem EnB.put {w : World} {T : Nat} {t : TypeId} {E : En} (h : EnB w T t E) (F : En) : EnB (putE w T F) T t F := by
  unfold EnB putE at *
  simp only [World.setCell, Array.getElem?_modify, h]
  simp
theorem EnB.set3 {w : World} {T : Nat} {t : TypeId} {E : En} (h : EnB w T t E) (x : ByteArray) : EnB (w.setCell ⟨T, 3, none⟩ (.string x)) T t ⟨E.key, E.st, E.lf, x⟩ := by
  unfold EnB at *
  simp only [World.setCell, Array.getElem?_modify, h]
  simp
theorem EnB.far {w : World} {T T' : Nat} {t : TypeId} {E : En} (h : EnB w T t E) (hn : T ≠ T') (i : Nat) (u : Value) : EnB (w.setCell ⟨T', i, none⟩ u) T t E := by
  unfold EnB at *
  rw [Below.heap_setCell _ _ _ _ (by exact hn)]
  exact h
theorem EnB.farE {w : World} {T T' : Nat} {t : TypeId} {E : En} (h : EnB w T t E) (hn : T ≠ T') (F : En) : EnB (putE w T' F) T t E := (((h.far hn 0 _).far hn 1 _).far hn 2 _).far hn 3 _
theorem below_putE {B : Nat} {a w : World} (h : Below B a w) {T : Nat} (hT : B ≤ T) (F : En) : Below B a (putE w T F) := (((h.setCell hT _).setCell hT _).setCell hT _).setCell hT _
set_option maxHeartbeats 1000000 in
theorem szEntry_any (w : World) (k b : ByteArray) (s l : Int) (left : Int) (h0 : 0 ≤ left) (h1 : left ≤ 1048576) (hn : k.size ≤ maxLen) (ht : b.size ≤ maxLen) :
    Calls Tryz.prog 36 #[.agg #[.string k, .int .i64 s, .int .i64 l, .string b], .int .i64 left] w fun e w' => ∃ r : Int, e = .returned (.int .i64 r) ∧ (r = -1 ∨ 0 ≤ r ∧ r + ((k.size + b.size : Nat) : Int) = left) ∧ Below w.heap.size w w' := by
  unfold maxLen at hn ht
  have hb := (Below.refl w.heap.size w).alloc (Nat.le_refl _) (.cells #[.string k, .int .i64 s, .int .i64 l, .string b] 80)
  by_cases hA : left - k.size < 0
  · go_enter Tryz.func36, Tryz.ntmps36
    go_wp2
    go_ret
    exact ⟨_, rfl, .inl rfl, hb⟩
  · by_cases hB : left - k.size - b.size < 0
    · go_enter Tryz.func36, Tryz.ntmps36
      go_wp2
      go_ret
      exact ⟨_, rfl, .inl rfl, hb⟩
    · go_enter Tryz.func36, Tryz.ntmps36
      go_wp2
      go_ret
      exact ⟨_, rfl, .inr ⟨by omega, by omega⟩, hb⟩
theorem toEntry_any (w : World) (k b : ByteArray) (s l : Int) :
    Calls Tryz.prog 46 #[.agg #[.string k, .int .i64 s, .int .i64 l, .string b]] w fun e w' => e = .returned (.agg #[.string k, .int .i64 s, .int .i64 l, .string b]) ∧ Below w.heap.size w w' := by
  go_enter Tryz.func46, Tryz.ntmps46
  go_wp2
  refine bodyPost_ret (v := .agg #[.string k, .int .i64 s, .int .i64 l, .string b]) (by simp [results, Tryz.results46, go_sem]) rfl ⟨rfl, ?_⟩
  exact (((Below.refl w.heap.size w).alloc (Nat.le_refl _) _).alloc (by simp) _).alloc (by simp; omega) _
theorem eqEntry_same (w : World) (k b : ByteArray) (s l : Int) :
    Calls Tryz.prog 54 #[.agg #[.string k, .int .i64 s, .int .i64 l, .string b], .agg #[.string k, .int .i64 s, .int .i64 l, .string b]] w fun e w' => e = .returned (.bool true) ∧ Below w.heap.size w w' := by
  go_enter Tryz.func54, Tryz.ntmps54
  go_wp2
  go_ret
  exact ⟨rfl, ((Below.refl w.heap.size w).alloc (Nat.le_refl _) _).alloc (by simp) _⟩
end Go.Proofs.YtcaakommnglnbaaGreatDoor
