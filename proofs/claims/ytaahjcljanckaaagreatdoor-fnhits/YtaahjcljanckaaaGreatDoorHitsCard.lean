/- The law FnHits, as its card: whatever the input, the call returns true, and each argument reads behind it as it read before it; the table of the program's own holds what its text lays. -/
import Derived.Test.YtaahjcljanckaaaGreatDoorSumTabJ
import Derived.Test.YtaahjcljanckaaaGreatDoorHitsWalkJ
import Derived.WalkKit
import Derived.ProofKit
import Derived.OpenShut
import Derived.ShutString
import Derived.ChangeOld
import Derived.Carry
import Derived.Below
namespace Go.Proofs.YtaahjcljanckaaaGreatDoor
open Go.ChangeShapes Go.WideShapes Go.ChangeAt Go.RowKit
open Go.ChangeMaps (open_string shut_string)
set_option linter.unusedVariables false
set_option maxRecDepth 100000 in
theorem hits_contract (H : Type) (enc : TypeId × Value → H) (W : World) (base : Nat) (args : Array Value) (ds gs : List (DataW H)) (before : List MemPlace)
  (hval : ∀ (j : Nat) t v,Tryz.f3.params[j]? = some t → args[j]? = some v → Value.okWide Tryz.prog W .any base t v)
  (hW : DataW.Whole enc Tryz.prog Tryz.f3.params.toList Rows.fnHitsSpec.vars false W args.toList ds gs before) (hL : laidMetH Tryz.prog Rows.fnHitsRow.laid W) :
  Calls Tryz.prog 3 args W fun e W' => ∃ v,e = .returned v ∧ Rows.fnHitsSpec.post enc Tryz.prog Tryz.f3 false true false false W args v W' := by
 have hW' := hW
 obtain ⟨p,q,hA0,hV,rfl,hfz,hnd⟩ := hW
 have hA : DataW.TrodAll enc Tryz.prog W 0 (fun _ => true) true Tryz.f3.params.toList args.toList ds p := hA0
 rw [Tryz.params3] at hA hval
 obtain ⟨v0,vs0,d0,ds0,pp0,q0,hargs,rfl,rfl,h0,r0⟩ := trodAll_cons hA
 obtain ⟨rfl,rfl,rfl⟩ := trodAll_nil r0
 obtain rfl : args = #[v0] := by cases args; simp_all
 obtain ⟨g1,t1,cs1,f1,e1,p1,rfl,_,_,_,_,_⟩ := trodVars_one hV
 have k0 := h0
 have lt0 : ∀ x ∈ pp0,x.block < W.heap.size := by obtain ⟨m,hm⟩ := k0; exact DataW.trod_lt m _ _ _ hm
 obtain ⟨a0,len0,cap0,rfl⟩ := okWide_slice Tryz.underlying22 (hval 0 22 v0 rfl rfl)
 obtain ⟨hC0,hM0⟩ : CodeAt W a0 len0 W.heap.size ∧ len0 ≤ maxLen := by
  obtain ⟨fuel,hf⟩ := h0
  exact code_of (by simpa [Value.cells] using hf)
 clear hA0
 refine (hits_walk a0 len0 cap0 W hC0 hM0 (tab_of hL)).mono fun e W' ⟨he,bel⟩ => ?_
 subst he
 exact ⟨_,rfl,_,_,_, [],_,_,hW',trodAll_mk1 (shut_bool Tryz.underlying4 _),(trodAll_cons_mk (Below.trod laidOut (by kernel_rfl) (of_decide_eq_true (by kernel_rfl)) k0 bel lt0) trodAll_mk0),bel.trodVars laidOut varsRows hV,bel.frame _,fun h => by cases h⟩
set_option maxRecDepth 100000 in
theorem hits_laid_met (os : Os) : laidMet Tryz.prog Rows.fnHitsRow.laid (({ World.holding Tryz.prog os ⟨#[],#[], []⟩ with heap := (World.holding Tryz.prog os ⟨#[],#[], []⟩).heap.modify 1 (putCells fourCells) } : World).forCall (fun _ _ => 0) ⟨#[],#[.slice none 0 0], []⟩).memory :=
 laidMet_of_run' 8 (by kernel_rfl) (by kernel_rfl)
theorem hits_reads (os : Os) {H : Type} (enc : TypeId × Value → H) : ∃ places gs,DataW.whole enc Tryz.prog (({ World.holding Tryz.prog os ⟨#[],#[], []⟩ with heap := (World.holding Tryz.prog os ⟨#[],#[], []⟩).heap.modify 1 (putCells fourCells) } : World).forCall (fun _ _ => 0) ⟨#[],#[.slice none 0 0], []⟩).memory Tryz.f3.params.toList Rows.fnHitsSpec.vars false (#[.slice none 0 0] : Array Value).toList 8 = some ([.nil],gs,places) :=
 ⟨MemPlace.row ⟨1, 0,none⟩ 16, [Lib.tabData .u32 (sumTab.map fun (n : Nat) => (n : Int))],by kernel_rfl⟩
set_option maxRecDepth 100000 in
theorem hits_lifted (os : Os) (started : os.Started) (H : Type) (enc : TypeId × Value → H) (F : Stop.Interp) :
  ReturnsInHanded {} Tryz.checked os 3 .any ((OpenSpec.ofChange Rows.fnHitsSpec).preRow enc Tryz.prog Tryz.f3 Rows.fnHitsRow.domain false Rows.fnHitsRow.laid) (((OpenSpec.ofChange Rows.fnHitsSpec).at F).post enc Tryz.prog Tryz.f3 false true false false) := by
 obtain ⟨places,gs,hx⟩ := hits_reads os enc
 refine returnsInHanded_of_row (C := Tryz.checked) (s := OpenSpec.ofChange Rows.fnHitsSpec) card_own started (by kernel_rfl) Tryz.func3
  (witness_row_at (enc := enc) (C := Tryz.checked) false ({ World.holding Tryz.prog os ⟨#[],#[], []⟩ with heap := (World.holding Tryz.prog os ⟨#[],#[], []⟩).heap.modify 1 (putCells fourCells) } : World) #[.slice none 0 0] rfl (by kernel_rfl) (by kernel_rfl) (by kernel_rfl)
   (OpenSpec.preRow_of_cond 8 hx (by kernel_rfl) (fun k hk => by cases hk) (by kernel_rfl) (hits_laid_met os))) ?_
 intro W base args ds gs before hval hW _ _ _ hL _ _
 exact hits_contract H enc W base args ds gs before hval hW hL
theorem hits_said : Rows.FnHitsSaid :=
 OpenClaim.holds_of_cond 3 Tryz.f3 rfl rfl rfl rfl rfl rfl rfl ⟨rfl,rfl,rfl,rfl,rfl⟩ rfl rfl rfl rfl rfl (by kernel_rfl) Tryz.func3 (by kernel_rfl)
  (of_decide_eq_true (by kernel_rfl)) (by unfold Func.isWrapper; first | (rw [if_pos (by decide +kernel)]; kernel_rfl) | (rw [if_neg (by decide +kernel)]; exact ⟨rfl,rfl⟩))
  (fun os started H enc _ F => by rw [OpenClaim.pre_eq_preRow]; exact hits_lifted os started H enc F)
theorem hits_plain (f : FuncId) (fn : Func) (hf : Tryz.pinned.checked.prog.funcNamed "loop.example/g00245/laws.FnHits" = some f) (hfn : Tryz.pinned.checked.prog.funcs[f]? = some fn) :
  true = Tryz.pinned.checked.prog.looks [] ∧ ∀ (j : Nat) t,fn.params[j]? = some t → Tryz.pinned.checked.prog.wantsStandIn t = false := by
 obtain rfl : f = 3 := Option.some.inj ((show Tryz.prog.funcNamed "loop.example/g00245/laws.FnHits" = some 3 by kernel_rfl).symm.trans hf) |>.symm
 obtain rfl : fn = Tryz.f3 := (Option.some.inj (Tryz.func3.symm.trans hfn)).symm
 refine ⟨by kernel_rfl,fun j t ht => ?_⟩
 rw [Tryz.params3] at ht
 obtain rfl : t = 22 := by simpa using Array.mem_of_getElem? ht
 exact (show Tryz.prog.wantsStandIn 22 = false by kernel_rfl)
theorem hits_card : Rows.FnHitsCardSaid :=
 Claim7.holds_tied_plain_at .later [] _ _ _ _ hits_said (fun _ h => by cases h) (by kernel_rfl) (fun _ h => by cases h) fnHits_row_tie rfl ⟨rfl,rfl⟩ (by kernel_rfl) rfl hits_plain (by kernel_rfl)
#print axioms hits_card
end Go.Proofs.YtaahjcljanckaaaGreatDoor
