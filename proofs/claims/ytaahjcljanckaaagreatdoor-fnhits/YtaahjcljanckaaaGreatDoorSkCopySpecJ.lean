/- Texts that stand in one: SkCopySpec, L13Copy, RowAll, InvRegion. -/
import Derived.Test.YtaahjcljanckaaaGreatDoorSkStepJ
import Derived.Test.YtaahjcljanckaaaGreatDoorSumTabJ
import Derived.Test.YtaahjcljanckaaaGreatDoorCellPlainJ
import Derived.Test.YtaahjcljanckaaaGreatDoorCliLawJ
import Derived.Test.YtaahjcljanckaaaGreatDoorPolSzTextJ
import Derived.Deep.RegionHeld3
import Derived.Deep.AppendLies
import Derived.Deep.RegionLaw
namespace Go.Proofs.YtaahjcljanckaaaGreatDoor
open Go.RowKit Go.Sort
end Go.Proofs.YtaahjcljanckaaaGreatDoor
namespace Go.Proofs.YtaahjcljanckaaaGreatDoor
section
variable {P : Program} {ops : Array Oper} {Q : Exit → Act → World → Prop} {md : Region.Mode} {S : World → Prop}
def backB (ops : Array Oper) : Bool := (List.range ops.size).all fun i => match ops[i]? with | some o => o.after.all fun e => decide (e.on < i) | none => true
theorem backB_spec (h : backB ops = true) : ∀ (i : Nat) (o : Oper),ops[i]? = some o → ∀ e ∈ o.after,e.on < i := by
 intro i o ho e he
 have hlt : i < ops.size := (Array.getElem?_eq_some_iff.1 ho).1
 have h1 := (List.all_eq_true.1 h) i (List.mem_range.2 hlt)
 rw [ho] at h1
 have h2 := Array.all_eq_true_iff_forall_mem.1 h1 e he
 simpa using h2
theorem all_listed {s : Array Bool} (hback : ∀ (i : Nat) (o : Oper),ops[i]? = some o → ∀ e ∈ o.after,e.on < i) (h : Region.ready md ops s = []) (hsz : s.size = ops.size) : ∀ k,k < ops.size → s.getD k false = true := by
 intro k
 induction k using Nat.strongRecOn with
 | ind k ih =>
  intro hk
  cases hb : s.getD k false with
  | true => rfl
  | false =>
   exfalso
   have hm : k ∈ Region.ready md ops s := by
    refine mem_ready.2 ⟨?_,ops[k],Array.getElem?_eq_getElem hk,fun e he _ => ih e.on (hback k _ (Array.getElem?_eq_getElem hk) e he) ?_⟩
    ·have h' : k < s.size := by omega
     simp [h'] at hb ⊢
     exact hb
    ·have := hback k _ (Array.getElem?_eq_getElem hk) e he
     omega
   rw [h] at hm
   cases hm
theorem wpAnyH_inv (I : Array Bool → Act → World → Prop) (hbk : backB ops = true)
  (hsz : ∀ s a w,I s a w → s.size = ops.size) (hS : ∀ s a w,I s a w → S w)
  (hstep : ∀ s a w i,I s a w → i ∈ Region.ready md ops s → wpOp P ops Q i (I (s.setIfInBounds i true)) a w)
  (hend : ∀ s a w,I s a w → (∀ k,k < ops.size → s.getD k false = true) → Q .normal a w) :
  ∀ (m : Nat) (s : Array Bool) (a : Act) (w : World),I s a w → s.toList.count false ≤ m → wpAnyH P md ops Q S m s a w := by
 have hback := backB_spec hbk
 intro m
 induction m with
 | zero =>
  intro s a w hI hc
  have hall : ∀ k,k < ops.size → s.getD k false = true := by
   intro k hk
   have hk' : k < s.size := by rw [hsz s a w hI]; exact hk
   have h0 : s.toList.count false = 0 := by omega
   have hn : false ∉ s.toList := List.count_eq_zero.1 h0
   cases hb : s[k] with
   | true => simp [hk',hb]
   | false => exact absurd (by rw [← hb]; simp) hn
  refine ⟨?_,hend s a w hI hall⟩
  rw [List.eq_nil_iff_forall_not_mem]
  intro i hi
  obtain ⟨h1,o,ho,_⟩ := mem_ready.1 hi
  have hlt : i < ops.size := (Array.getElem?_eq_some_iff.1 ho).1
  have h2 := hall i hlt
  have hk' : i < s.size := by rw [hsz s a w hI]; exact hlt
  simp [hk'] at h1 h2
  rw [h1] at h2
  cases h2
 | succ m ih =>
  intro s a w hI hc
  refine ⟨fun h => hend s a w hI (all_listed hback h (hsz s a w hI)),fun i hi => ?_⟩
  refine wpOp_mono (fun a' w' h' => ⟨hS _ _ _ h',ih _ a' w' h' ?_⟩) (hstep s a w i hI hi)
  obtain ⟨h1,o,ho,_⟩ := mem_ready.1 hi
  have hlt : i < ops.size := (Array.getElem?_eq_some_iff.1 ho).1
  have hk' : i < s.size := by rw [hsz s a w hI]; exact hlt
  have hf : s.toList[i]'(by simpa using hk') = false := by simpa [hk'] using h1
  have hpos : 0 < s.toList.count false := List.count_pos_iff.2 (by rw [← hf]; exact List.getElem_mem _)
  have hset : (s.setIfInBounds i true).toList.count false = s.toList.count false - 1 := by
   rw [Array.toList_setIfInBounds,List.count_set (by simpa using hk')]
   simp [hf]
  omega
theorem wpOp_at {i : Nat} {o : Oper} {K : Act → World → Prop} {a : Act} {w : World} (ho : ops[i]? = some o) (hg : o.guard = none) (h : o.wp P a w K Q) : wpOp P ops Q i K a w := by
 unfold wpOp
 simp only [ho]
 have hw : Region.wanted o (yielded ops a.tmps) = true := by simp [Region.wanted,hg]
 rw [if_pos hw]
 exact .inl h
theorem wpOp_if {i : Nat} {o : Oper} {K : Act → World → Prop} {a : Act} {w : World} (ho : ops[i]? = some o) (hg : o.guard = none) (h : if Region.wanted o (yielded ops a.tmps) = true then Oper.wp P o a w K Q else False) : wpOp P ops Q i K a w := by
 have hw : Region.wanted o (yielded ops a.tmps) = true := by simp [Region.wanted,hg]
 rw [if_pos hw] at h
 exact wpOp_at ho hg h
theorem wpOp_value {i : Nat} {o : Oper} {K : Act → World → Prop} {a : Act} {w w' : World} (v : Value) (ho : ops[i]? = some o) (hg : o.guard = none) (hr : (execOp a.eval o).run P w = .ok (.value v) w') (h : K (a.put o.dst v) w') : wpOp P ops Q i K a w :=
 wpOp_at ho hg (by unfold Oper.wp; rw [hr]; exact h)
theorem wpOp_skip {i : Nat} {o : Oper} {K : Act → World → Prop} {a : Act} {w w' : World} (ho : ops[i]? = some o) (hg : o.guard = none) (hr : (execOp a.eval o).run P w = .ok .skip w') (h : K (a.put o.dst undef) w') : wpOp P ops Q i K a w :=
 wpOp_at ho hg (by unfold Oper.wp; rw [hr]; exact h)
theorem wpOp_enter {i : Nat} {o : Oper} {K : Act → World → Prop} {a : Act} {w : World} (f : FuncId) (args : Array Value) (ho : ops[i]? = some o) (hg : o.guard = none) (hr : (execOp a.eval o).run P w = .ok (.enter f args) w) (h : Calls P f args w fun e w' => ∃ v,e = .returned v ∧ K (a.put o.dst v) w') : wpOp P ops Q i K a w :=
 wpOp_at ho hg (by
  unfold Oper.wp
  rw [hr]
  exact Calls.mono h fun e w' he => by
   obtain ⟨v,rfl,hk⟩ := he
   exact hk)
end
end Go.Proofs.YtaahjcljanckaaaGreatDoor
