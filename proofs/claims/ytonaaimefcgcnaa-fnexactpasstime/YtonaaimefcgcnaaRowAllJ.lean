/- Texts that stand in one: RowAll, InvRegion. -/
import Derived.Test.YtonaaimefcgcnaaSkStepJ
import Derived.Deep.AppendLies
import Derived.Deep.RegionHeld3
import Derived.Deep.RegionLaw
namespace Go.Proofs.Ytonaaimefcgcnaa
open Go.RowKit Go.Sort
/-- An append of all onto an empty row without room: a row of its own, or the same. -/
theorem step_allX {P : Program} {ops : Array Oper} {o : Oper} {a : Act} {K : Act → World → Prop} {Q : Exit → Act → World → Prop} {E' : Prop} {w : World} (hgd : o.guard = none) (s x : Operand) (t : TypeId)
    (ho : o.op = .call { callee := .builtin .append, args := #[s, x], argTypes := #[t, t] }) (e : TypeId) (ht : P.underlying t = some (.slice e)) (z : Value) (size bytes : Nat)
    (hinfo : (P.info? e).map (fun i => (i.zero, i.size, i.bytes)) = some (some z, size, bytes)) (hzs : z.cells.size = size) (hsz : 0 < size) (hby : bytes ≤ 1000)
    (G : Nat) (hs : a.eval s = .slice (some ⟨G, 0, none⟩) 0 0) (hG : w.heap[G]? = some (.cells #[] e (0, 0)))
    (a0 : Option Addr) (n cap : Nat) (news : List Value) (hx : a.eval x = .slice a0 n cap) (hl : news.length = n * size) (hnone : a0 = none → n = 0) (hnews : ∀ ad, a0 = some ad → ∀ j u, news[j]? = some u → w.cell? (ad.add j) = some u) (h1 : ∀ u ∈ news, u.oneCell' = true) (hn : n ≤ 1048576)
    (h : ∀ g c w', w'.ownsRow G e size (.slice (some ⟨g, 0, none⟩) n c) n news → Below G w w' → (g = G ∨ w.heap.size ≤ g) → (∀ k, k < w.heap.size → k ≠ G → w'.heap[k]? = w.heap[k]?) → K (a.put o.dst (.slice (some ⟨g, 0, none⟩) n c)) w') :
    if Region.wanted o (yielded ops a.tmps) = true then Oper.wp P o a w K Q else E' := by
  obtain ⟨i0, hi, hz0, hz1, hz2⟩ := info_parts hinfo
  have hGs : G < w.heap.size := (Array.getElem?_eq_some_iff.1 hG).1
  by_cases h0 : n = 0
  · subst h0
    have hnil : news = [] := List.length_eq_zero_iff.1 (by simpa using hl)
    subst hnil
    have hw : Region.wanted o (yielded ops a.tmps) = true := by simp [Region.wanted, hgd]
    rw [if_pos hw]
    have hrun : (Builtin.append_ #[t, t] o.type #[.slice (some ⟨G, 0, none⟩) 0 0, .slice a0 0 cap]).run P w = .ok (.slice (some ⟨G, 0, none⟩) 0 0) w := by
      cases a0 with
      | none => simp [Builtin.append_, run_underlying ht, sizeOf, typeInfo, hi, Builtin.lenOf, Builtin.firstCells, storeCells]
      | some ad =>
        have hld := run_loadCells_list (P := P) w ad [] (fun j u hu => by simp at hu)
        simp at hld
        simp [Builtin.append_, run_underlying ht, sizeOf, typeInfo, hi, Builtin.lenOf, Builtin.firstCells, storeCells, hld]
    unfold Oper.wp
    simp [execOp, ho, resolve, invoke, builtin, hs, hx, hrun, Result.andThen]
    exact h G 0 w ⟨by simp, .inr ⟨G, 0, #[], rfl, Nat.le_refl _, hG, Nat.le_refl _, by simp [maxLen], by simp, by simp⟩⟩ (Below.refl _ _) (.inl rfl) (fun _ _ _ => rfl)
  · obtain ⟨ad, rfl⟩ : ∃ ad, a0 = some ad := by
      cases a0 with
      | none => exact absurd (hnone rfl) h0
      | some ad => exact ⟨ad, rfl⟩
    have hown : w.ownsRow G e size (.slice (some ⟨G, 0, none⟩) 0 0) 0 [] := ⟨by simp, .inr ⟨G, 0, #[], rfl, Nat.le_refl _, hG, Nat.le_refl _, by simp [maxLen], by simp, by simp⟩⟩
    have hbs : (0 + n) * bytes ≤ 140737488355328 := by
      have : (0 + n) * bytes ≤ 1048576 * 1000 := by rw [Nat.zero_add]; exact Nat.mul_le_mul hn hby
      omega
    refine step_append_lies w hgd s x t ho G e i0 z size bytes ht hi hz0 hz1 hz2 hzs hsz _ 0 [] hs hown ad n cap news hx hl (hnews ad rfl) h1 (by omega) (by unfold maxLen; omega) hbs (by omega) w.heap.size rfl ?_
    intro g c w' ho' hgr hg hgl
    rw [Nat.zero_add, List.nil_append] at ho'
    rw [Nat.zero_add]
    refine h g c w' ho' ((Below.refl _ w).grown hgr (by omega) (fun k e => by cases e; exact Nat.le_refl _)) ?_ (fun k hk hne => hgr.block k hk (fun e => hne (by cases e; rfl)))
    rcases hg with hg | hg
    · left; cases hg; rfl
    · right; omega
end Go.Proofs.Ytonaaimefcgcnaa

namespace Go.Proofs.Ytonaaimefcgcnaa

section
variable {P : Program} {ops : Array Oper} {Q : Exit → Act → World → Prop} {md : Region.Mode} {S : World → Prop}
/-- Each operation waits for earlier ones alone. -/
def backB (ops : Array Oper) : Bool := (List.range ops.size).all fun i => match ops[i]? with | some o => o.after.all fun e => decide (e.on < i) | none => true
theorem backB_spec (h : backB ops = true) : ∀ (i : Nat) (o : Oper), ops[i]? = some o → ∀ e ∈ o.after, e.on < i := by
  intro i o ho e he
  have hlt : i < ops.size := (Array.getElem?_eq_some_iff.1 ho).1
  have h1 := (List.all_eq_true.1 h) i (List.mem_range.2 hlt)
  rw [ho] at h1
  have h2 := Array.all_eq_true_iff_forall_mem.1 h1 e he
  simpa using h2
theorem all_listed {s : Array Bool} (hback : ∀ (i : Nat) (o : Oper), ops[i]? = some o → ∀ e ∈ o.after, e.on < i) (h : Region.ready md ops s = []) (hsz : s.size = ops.size) : ∀ k, k < ops.size → s.getD k false = true := by
  intro k
  induction k using Nat.strongRecOn with
  | ind k ih =>
    intro hk
    cases hb : s.getD k false with
    | true => rfl
    | false =>
      exfalso
      have hm : k ∈ Region.ready md ops s := by
        refine mem_ready.2 ⟨?_, ops[k], Array.getElem?_eq_getElem hk, fun e he _ => ih e.on (hback k _ (Array.getElem?_eq_getElem hk) e he) ?_⟩
        · have h' : k < s.size := by omega
          simp [h'] at hb ⊢
          exact hb
        · have := hback k _ (Array.getElem?_eq_getElem hk) e he
          omega
      rw [h] at hm
      cases hm
/-- What holds at the start, and is kept by whichever operation comes up, holds at the end. -/
theorem wpAnyH_inv (I : Array Bool → Act → World → Prop) (hbk : backB ops = true)
    (hsz : ∀ s a w, I s a w → s.size = ops.size) (hS : ∀ s a w, I s a w → S w)
    (hstep : ∀ s a w i, I s a w → i ∈ Region.ready md ops s → wpOp P ops Q i (I (s.setIfInBounds i true)) a w)
    (hend : ∀ s a w, I s a w → (∀ k, k < ops.size → s.getD k false = true) → Q .normal a w) :
    ∀ (m : Nat) (s : Array Bool) (a : Act) (w : World), I s a w → s.toList.count false ≤ m → wpAnyH P md ops Q S m s a w := by
  have hback := backB_spec hbk
  intro m
  induction m with
  | zero =>
    intro s a w hI hc
    have hall : ∀ k, k < ops.size → s.getD k false = true := by
      intro k hk
      have hk' : k < s.size := by rw [hsz s a w hI]; exact hk
      have h0 : s.toList.count false = 0 := by omega
      have hn : false ∉ s.toList := List.count_eq_zero.1 h0
      cases hb : s[k] with
      | true => simp [hk', hb]
      | false => exact absurd (by rw [← hb]; simp) hn
    refine ⟨?_, hend s a w hI hall⟩
    rw [List.eq_nil_iff_forall_not_mem]
    intro i hi
    obtain ⟨h1, o, ho, _⟩ := mem_ready.1 hi
    have hlt : i < ops.size := (Array.getElem?_eq_some_iff.1 ho).1
    have h2 := hall i hlt
    have hk' : i < s.size := by rw [hsz s a w hI]; exact hlt
    simp [hk'] at h1 h2
    rw [h1] at h2
    cases h2
  | succ m ih =>
    intro s a w hI hc
    refine ⟨fun h => hend s a w hI (all_listed hback h (hsz s a w hI)), fun i hi => ?_⟩
    refine wpOp_mono (fun a' w' h' => ⟨hS _ _ _ h', ih _ a' w' h' ?_⟩) (hstep s a w i hI hi)
    obtain ⟨h1, o, ho, _⟩ := mem_ready.1 hi
    have hlt : i < ops.size := (Array.getElem?_eq_some_iff.1 ho).1
    have hk' : i < s.size := by rw [hsz s a w hI]; exact hlt
    have hf : s.toList[i]'(by simpa using hk') = false := by simpa [hk'] using h1
    have hpos : 0 < s.toList.count false := List.count_pos_iff.2 (by rw [← hf]; exact List.getElem_mem _)
    have hset : (s.setIfInBounds i true).toList.count false = s.toList.count false - 1 := by
      rw [Array.toList_setIfInBounds, List.count_set (by simpa using hk')]
      simp [hf]
    omega
theorem wpOp_at {i : Nat} {o : Oper} {K : Act → World → Prop} {a : Act} {w : World} (ho : ops[i]? = some o) (hg : o.guard = none) (h : o.wp P a w K Q) : wpOp P ops Q i K a w := by
  unfold wpOp
  simp only [ho]
  have hw : Region.wanted o (yielded ops a.tmps) = true := by simp [Region.wanted, hg]
  rw [if_pos hw]
  exact .inl h
theorem wpOp_if {i : Nat} {o : Oper} {K : Act → World → Prop} {a : Act} {w : World} (ho : ops[i]? = some o) (hg : o.guard = none) (h : if Region.wanted o (yielded ops a.tmps) = true then Oper.wp P o a w K Q else False) : wpOp P ops Q i K a w := by
  have hw : Region.wanted o (yielded ops a.tmps) = true := by simp [Region.wanted, hg]
  rw [if_pos hw] at h
  exact wpOp_at ho hg h
theorem wpOp_value {i : Nat} {o : Oper} {K : Act → World → Prop} {a : Act} {w w' : World} (v : Value) (ho : ops[i]? = some o) (hg : o.guard = none) (hr : (execOp a.eval o).run P w = .ok (.value v) w') (h : K (a.put o.dst v) w') : wpOp P ops Q i K a w :=
  wpOp_at ho hg (by unfold Oper.wp; rw [hr]; exact h)
theorem wpOp_skip {i : Nat} {o : Oper} {K : Act → World → Prop} {a : Act} {w w' : World} (ho : ops[i]? = some o) (hg : o.guard = none) (hr : (execOp a.eval o).run P w = .ok .skip w') (h : K (a.put o.dst undef) w') : wpOp P ops Q i K a w :=
  wpOp_at ho hg (by unfold Oper.wp; rw [hr]; exact h)
theorem wpOp_enter {i : Nat} {o : Oper} {K : Act → World → Prop} {a : Act} {w : World} (f : FuncId) (args : Array Value) (ho : ops[i]? = some o) (hg : o.guard = none) (hr : (execOp a.eval o).run P w = .ok (.enter f args) w) (h : Calls P f args w fun e w' => ∃ v, e = .returned v ∧ K (a.put o.dst v) w') : wpOp P ops Q i K a w :=
  wpOp_at ho hg (by
    unfold Oper.wp
    rw [hr]
    exact Calls.mono h fun e w' he => by
      obtain ⟨v, rfl, hk⟩ := he
      exact hk)
end
end Go.Proofs.Ytonaaimefcgcnaa
