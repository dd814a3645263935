/- Texts that stand in one: PolStep, CellPlain. -/
import Derived.Test.YtbcjkinalghokafDoorSkStep
import Derived.Test.YtbcjkinalghokafDoorStrsJ
import Derived.Test.YtbcjkinalghokafDoorSumPlainJ
namespace Go.Proofs.YtbcjkinalghokafDoor
open Go.RowKit Go.Sort

/-- An append of all onto an owned row. -/
theorem step_plusO {P : Program} {ops : Array Oper} {o : Oper} {a : Act} {K : Act → World → Prop} {Q : Exit → Act → World → Prop} {E' : Prop} {w : World} (hgd : o.guard = none) (s x : Operand) (t : TypeId)
    (ho : o.op = .call { callee := .builtin .append, args := #[s, x], argTypes := #[t, t] }) (base : Nat) (e : TypeId) (ht : P.underlying t = some (.slice e)) (z : Value) (bytes : Nat)
    (hinfo : (P.info? e).map (fun i => (i.zero, i.size, i.bytes)) = some (some z, 1, bytes)) (hzs : z.cells.size = 1) (hby : bytes ≤ 1000)
    (G m c0 : Nat) (xs : List Value) (hs : a.eval s = .slice (some ⟨G, 0, none⟩) m c0) (hown : OwnV w base e (.slice (some ⟨G, 0, none⟩) m c0) xs) (hm : m = xs.length) (hmb : m ≤ 10000000) (hbase : base ≤ w.heap.size)
    (a0 : Option Addr) (n cap : Nat) (news : List Value) (hx : a.eval x = .slice a0 n cap) (hl : news.length = n) (hnone : a0 = none → n = 0) (hnews : ∀ ad, a0 = some ad → ∀ j u, news[j]? = some u → w.cell? (ad.add j) = some u) (h1 : ∀ u ∈ news, u.oneCell' = true) (hn : n ≤ 10000000)
    (h : ∀ g c w', OwnV w' base e (.slice (some ⟨g, 0, none⟩) (m + n) c) (xs ++ news) → w.grownBy w' (some G) → K (a.put o.dst (.slice (some ⟨g, 0, none⟩) (m + n) c)) w') :
    if Region.wanted o (yielded ops a.tmps) = true then Oper.wp P o a w K Q else E' := by
  obtain ⟨i0, hi, hz0, hz1, hz2⟩ := info_parts hinfo
  by_cases h0 : n = 0
  · subst h0
    have hnil : news = [] := List.length_eq_zero_iff.1 hl
    subst hnil
    have hw : Region.wanted o (yielded ops a.tmps) = true := by simp [Region.wanted, hgd]
    rw [if_pos hw]
    have hmc : m ≤ c0 := by
      rcases hown.2 with ⟨e1, _⟩ | ⟨g, cp, cur, e1, _, _, hle, _⟩
      · cases e1
      · simp only [Value.slice.injEq] at e1
        omega
    have hrun : (Builtin.append_ #[t, t] o.type #[.slice (some ⟨G, 0, none⟩) m c0, .slice a0 0 cap]).run P w = .ok (.slice (some ⟨G, 0, none⟩) m c0) w := by
      cases a0 with
      | none => simp [Builtin.append_, run_underlying ht, sizeOf, typeInfo, hi, Builtin.lenOf, Builtin.firstCells, storeCells, hmc]
      | some ad =>
        have hld := run_loadCells_list (P := P) w ad [] (fun j u hu => by simp at hu)
        simp at hld
        simp [Builtin.append_, run_underlying ht, sizeOf, typeInfo, hi, Builtin.lenOf, Builtin.firstCells, storeCells, hld, hmc]
    unfold Oper.wp
    simp [execOp, ho, resolve, invoke, builtin, hs, hx, hrun, Result.andThen]
    exact h G c0 w (by rw [List.append_nil]; exact hown) (grownBy_refl _ _)
  · obtain ⟨ad, rfl⟩ : ∃ ad, a0 = some ad := by
      cases a0 with
      | none => exact absurd (hnone rfl) h0
      | some ad => exact ⟨ad, rfl⟩
    subst hm
    have hbs : (xs.length + n) * bytes ≤ 140737488355328 := by
      have : (xs.length + n) * bytes ≤ 20000000 * 1000 := Nat.mul_le_mul (by omega) hby
      omega
    refine step_append_lies w hgd s x t ho base e i0 z 1 bytes ht hi hz0 hz1 hz2 hzs (by decide) _ xs.length xs hs hown ad n cap news hx (by omega) (hnews ad rfl) h1 (by omega) (by unfold maxLen; omega) hbs hbase w.heap.size rfl ?_
    intro g c w' ho' hgr _ _
    refine h g c w' ?_ hgr
    unfold OwnV
    rw [List.length_append, hl]
    exact ho'
theorem LAt.srcS {w : World} {a0 : Option Addr} {l : List ByteArray} {B : Nat} (h : LAt w a0 l B) : (a0 = none → l.length = 0) ∧ ∀ ad, a0 = some ad → ∀ j u, (strs l)[j]? = some u → w.cell? (ad.add j) = some u := by
  refine ⟨fun e => ?_, fun ad e j u hu => ?_⟩
  · cases l with
    | nil => rfl
    | cons x r => obtain ⟨g, off, ha, _⟩ := h 0 (by simp); rw [e] at ha; cases ha
  · have hj := (List.getElem?_eq_some_iff.1 hu).1
    rw [strs_length] at hj
    obtain ⟨g, off, ha, _, hc⟩ := h j hj
    rw [e] at ha
    simp only [Option.some.injEq] at ha
    subst ha
    rw [Addr.add_mid, hc]
    simp [strs, List.getElem?_eq_getElem hj] at hu
    rw [hu]
theorem strs_one (l : List ByteArray) : ∀ u ∈ strs l, u.oneCell' = true := by
  intro u hu
  simp only [strs, List.mem_map] at hu
  obtain ⟨b, _, rfl⟩ := hu
  rfl
theorem ownV_of_rowS {w : World} {base : Nat} {v : Value} {l : List ByteArray} (h : w.ownsRow base 9 1 v l.length (strs l)) : OwnV w base 9 v (strs l) := by unfold OwnV; rw [strs_length]; exact h
end Go.Proofs.YtbcjkinalghokafDoor

namespace Go.Proofs.YtbcjkinalghokafDoor
open Go.RowKit

/-- A number that a cell may hold. -/
def nOkC (n : Int) : Bool := decide (0 ≤ n ∧ n ≤ 1000000000)
/-- There is such a place. -/
def inC (l : List Int) (p : Int) : Bool := decide (0 ≤ p ∧ p < l.length)
def ldC (l : List Int) (p : Int) : Int × Bool := if inC l p then (l.getD p.toNat 0, true) else (0, false)
def stC (l : List Int) (p n : Int) : List Int × Bool := if inC l p && nOkC n then (l.set p.toNat n, true) else (l, false)
def swC (l : List Int) (p o n : Int) : List Int × Bool := if inC l p && nOkC n && decide (l.getD p.toNat 0 = o) then (l.set p.toNat n, true) else (l, false)
def adC (l : List Int) (p n : Int) : List Int × Int := if inC l p then (l.set p.toNat ((l.getD p.toNat 0 + n) % 1000000001), l.getD p.toNat 0) else (l, 0)
def okC (l : List Int) : Bool := decide (1 ≤ l.length ∧ l.length ≤ 80) && l.all nOkC

theorem inC_iff {l : List Int} {p : Int} : inC l p = true ↔ 0 ≤ p ∧ p < l.length := by simp [inC]
theorem inC_nat {l : List Int} {p : Nat} (h : p < l.length) : inC l p = true := inC_iff.2 (by omega)
theorem inC_out {l : List Int} {p : Int} (h : p < 0 ∨ (l.length : Int) ≤ p) : inC l p = false := by
  unfold inC; exact decide_eq_false (by omega)
theorem stC_out {l : List Int} {p n : Int} (h : p < 0 ∨ (l.length : Int) ≤ p) : stC l p n = (l, false) := by simp [stC, inC_out h]
theorem swC_out {l : List Int} {p o n : Int} (h : p < 0 ∨ (l.length : Int) ≤ p) : swC l p o n = (l, false) := by simp [swC, inC_out h]
theorem adC_out {l : List Int} {p n : Int} (h : p < 0 ∨ (l.length : Int) ≤ p) : adC l p n = (l, 0) := by simp [adC, inC_out h]
theorem ldC_out {l : List Int} {p : Int} (h : p < 0 ∨ (l.length : Int) ≤ p) : ldC l p = (0, false) := by simp [ldC, inC_out h]
theorem stC_bad {l : List Int} {p n : Int} (h : nOkC n = false) : stC l p n = (l, false) := by simp [stC, h]
theorem swC_bad {l : List Int} {p o n : Int} (h : nOkC n = false) : swC l p o n = (l, false) := by simp [swC, h]
theorem stC_in {l : List Int} {p : Nat} {n : Int} (hp : p < l.length) (h : nOkC n = true) : stC l p n = (l.set p n, true) := by simp [stC, inC_nat hp, h]
theorem swC_miss {l : List Int} {p : Nat} {o n : Int} (h : ¬ l.getD p 0 = o) : swC l p o n = (l, false) := by simp [swC] at *; simp [h]
theorem swC_hit {l : List Int} {p : Nat} {o n : Int} (hp : p < l.length) (hn : nOkC n = true) (h : l.getD p 0 = o) : swC l p o n = (l.set p n, true) := by simp [swC, inC_nat hp, hn] at *; simp [h]
theorem adC_in {l : List Int} {p : Nat} {n : Int} (hp : p < l.length) : adC l p n = (l.set p ((l.getD p 0 + n) % 1000000001), l.getD p 0) := by simp [adC, inC_nat hp]
theorem ldC_in {l : List Int} {p : Nat} (hp : p < l.length) : ldC l p = (l.getD p 0, true) := by simp [ldC, inC_nat hp]

theorem stC_len (l : List Int) (p n : Int) : (stC l p n).1.length = l.length := by unfold stC; split <;> simp
theorem swC_len (l : List Int) (p o n : Int) : (swC l p o n).1.length = l.length := by unfold swC; split <;> simp
theorem adC_len (l : List Int) (p n : Int) : (adC l p n).1.length = l.length := by unfold adC; split <;> simp

theorem range_getD (l : List Int) : (List.range l.length).map (fun j => l.getD j 0) = l := by
  apply List.ext_getElem (by simp)
  intro i h1 h2
  simp [List.getD, h2]
theorem range_set (l : List Int) (p : Nat) (z : Int) : (List.range l.length).map (fun i => if i = p then z else l.getD i 0) = l.set p z := by
  apply List.ext_getElem (by simp)
  intro i h1 h2
  have h3 : i < l.length := by simpa using h2
  by_cases h : p = i
  · subst h; simp
  · have h' : ¬ i = p := fun e => h e.symm
    simp [List.getD, h3, h, h']
theorem okC_short {l : List Int} (h : l.length < 1) : okC l = false := by
  unfold okC; rw [decide_eq_false (by omega)]; rfl
theorem okC_long {l : List Int} (h : 80 < l.length) : okC l = false := by
  unfold okC; rw [decide_eq_false (by omega)]; rfl
theorem okC_bad {l : List Int} {k : Nat} (hk : k < l.length) (h : nOkC l[k] = false) : okC l = false := by
  have : l.all nOkC = false := List.all_eq_false.2 ⟨l[k], List.getElem_mem hk, by simp [h]⟩
  unfold okC; rw [this, Bool.and_false]
theorem okC_true {l : List Int} (h1 : 1 ≤ l.length) (h2 : l.length ≤ 80) (h : l.all nOkC = true) : okC l = true := by
  unfold okC; rw [decide_eq_true ⟨h1, h2⟩, h]; rfl
theorem all_step {l : List Int} {k : Nat} (hk : k < l.length) (h : (l.take k).all nOkC = true) (h2 : nOkC l[k] = true) : (l.take (k + 1)).all nOkC = true := by
  rw [List.take_succ_eq_append_getElem hk, List.all_append, h]
  simp [h2]
theorem tmod_cases (n : Int) : (0 ≤ n ∧ n.tmod 1000000001 = n % 1000000001) ∨ (n < 0 ∧ n.tmod 1000000001 = -((-n) % 1000000001)) := by
  by_cases h : 0 ≤ n
  · exact .inl ⟨h, Int.tmod_eq_emod_of_nonneg h⟩
  · refine .inr ⟨by omega, ?_⟩
    have e : n.tmod 1000000001 = -((-n).tmod 1000000001) := by rw [Int.neg_tmod, Int.neg_neg]
    rw [e, Int.tmod_eq_emod_of_nonneg (by omega)]
theorem round_one (n : Int) : (wrap64 (n.tmod 1000000001 + 1000000001)).tmod 1000000001 = n % 1000000001 := by
  have e : wrap64 (n.tmod 1000000001 + 1000000001) = n.tmod 1000000001 + 1000000001 := by
    rcases tmod_cases n with ⟨_, h⟩ | ⟨_, h⟩ <;> unfold wrap64 <;> omega
  rw [e]
  have h2 : 0 ≤ n.tmod 1000000001 + 1000000001 := by rcases tmod_cases n with ⟨_, h⟩ | ⟨_, h⟩ <;> omega
  rw [Int.tmod_eq_emod_of_nonneg h2]
  rcases tmod_cases n with ⟨_, h⟩ | ⟨_, h⟩ <;> omega
end Go.Proofs.YtbcjkinalghokafDoor
