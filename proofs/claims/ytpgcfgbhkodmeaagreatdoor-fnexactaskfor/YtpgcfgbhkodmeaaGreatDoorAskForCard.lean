/- The law FnExactAskFor, as its card: whatever the input, the call returns true, and each argument reads behind it as it read before it; the table of the program's own holds what its text lays. -/
import Derived.Test.YtpgcfgbhkodmeaaGreatDoorSumTabJ
import Derived.Test.YtpgcfgbhkodmeaaGreatDoorOkWgtJ
import Derived.Test.YtpgcfgbhkodmeaaGreatDoorSketchOfJ
import Derived.WalkKit
import Derived.ProofKit
import Derived.OpenShut
import Derived.ShutString
import Derived.ChangeOld
import Derived.Carry
import Derived.Below
namespace Go.Proofs.YtpgcfgbhkodmeaaGreatDoor
open Go.ChangeShapes Go.WideShapes Go.ChangeAt Go.RowKit
open Go.ChangeMaps (open_string shut_string)
set_option linter.unusedVariables false
set_option maxRecDepth 100000 in
theorem askFor_contract (H : Type) (enc : TypeId × Value → H) (W : World) (base : Nat) (args : Array Value) (ds gs : List (DataW H)) (before : List MemPlace)
  (hval : ∀ (j : Nat) t v,Tryz.f4.params[j]? = some t → args[j]? = some v → Value.okWide Tryz.prog W .any base t v)
  (hW : DataW.Whole enc Tryz.prog Tryz.f4.params.toList Rows.fnExactAskForSpec.vars false W args.toList ds gs before) (hL : laidMetH Tryz.prog Rows.fnExactAskForRow.laid W) :
  Calls Tryz.prog 4 args W fun e W' => ∃ v,e = .returned v ∧ Rows.fnExactAskForSpec.post enc Tryz.prog Tryz.f4 false true false false W args v W' := by
 have hW' := hW
 obtain ⟨p,q,hA0,hV,rfl,hfz,hnd⟩ := hW
 have hA : DataW.TrodAll enc Tryz.prog W 0 (fun _ => true) true Tryz.f4.params.toList args.toList ds p := hA0
 rw [Tryz.params4] at hA hval
 obtain ⟨v0,vs0,d0,ds0,pp0,q0,hargs,rfl,rfl,h0,r0⟩ := trodAll_cons hA
 obtain ⟨v1,vs1,d1,ds1,pp1,q1,rfl,rfl,rfl,h1,r1⟩ := trodAll_cons r0
 obtain ⟨v2,vs2,d2,ds2,pp2,q2,rfl,rfl,rfl,h2,r2⟩ := trodAll_cons r1
 obtain ⟨rfl,rfl,rfl⟩ := trodAll_nil r2
 obtain rfl : args = #[v0,v1,v2] := by cases args; simp_all
 obtain ⟨g1,t1,cs1,f1,e1,p1,rfl,_,_,_,_,_⟩ := trodVars_one hV
 have k0 := h0
 have lt0 : ∀ x ∈ pp0,x.block < W.heap.size := by obtain ⟨m,hm⟩ := k0; exact DataW.trod_lt m _ _ _ hm
 have k1 := h1
 have lt1 : ∀ x ∈ pp1,x.block < W.heap.size := by obtain ⟨m,hm⟩ := k1; exact DataW.trod_lt m _ _ _ hm
 have k2 := h2
 have lt2 : ∀ x ∈ pp2,x.block < W.heap.size := by obtain ⟨m,hm⟩ := k2; exact DataW.trod_lt m _ _ _ hm
 obtain ⟨X0,R0,rfl,hX0,hM0⟩ := proxy_of (hval 0 32 v0 rfl rfl) h0
 obtain ⟨a1,rfl,rfl,rfl,w1⟩ := open_int Tryz.underlying3 (hval 1 3 v1 rfl rfl) h1
 obtain ⟨a2,rfl,rfl,rfl,w2⟩ := open_string Tryz.underlying9 (hval 2 9 v2 rfl rfl) h2
 clear hA0
 refine (askFor_walk X0 R0 a1 a2 W hX0 hM0 w1 w2 (tab_of hL)).mono fun e W' ⟨he,bel⟩ => ?_
 subst he
 exact ⟨_,rfl,_,_,_, [],_,_,hW',trodAll_mk1 (shut_bool Tryz.underlying4 _),(trodAll_cons_mk (Below.trod laidOut (by kernel_rfl) (of_decide_eq_true (by kernel_rfl)) k0 bel lt0) (trodAll_cons_mk (Below.trod laidOut (by kernel_rfl) (of_decide_eq_true (by kernel_rfl)) k1 bel lt1) (trodAll_cons_mk (Below.trod laidOut (by kernel_rfl) (of_decide_eq_true (by kernel_rfl)) k2 bel lt2) trodAll_mk0))),bel.trodVars laidOut varsRows hV,bel.frame _,fun h => by cases h⟩
set_option maxRecDepth 100000 in
theorem askFor_laid_met (os : Os) : laidMet Tryz.prog Rows.fnExactAskForRow.laid (({ World.holding Tryz.prog os ⟨#[],#[], []⟩ with heap := (World.holding Tryz.prog os ⟨#[],#[], []⟩).heap.modify 1 (putCells fourCells) } : World).forCall (fun _ _ => 0) ⟨#[],#[.agg #[.int .i64 0,.slice none 0 0,.slice none 0 0,.slice none 0 0,.slice none 0 0,.int .i64 0,.slice none 0 0,.slice none 0 0,.int .i64 0],.int .i64 0,.string ⟨#[]⟩], []⟩).memory :=
 laidMet_of_run' 8 (by kernel_rfl) (by kernel_rfl)
theorem askFor_reads (os : Os) {H : Type} (enc : TypeId × Value → H) : ∃ places gs,DataW.whole enc Tryz.prog (({ World.holding Tryz.prog os ⟨#[],#[], []⟩ with heap := (World.holding Tryz.prog os ⟨#[],#[], []⟩).heap.modify 1 (putCells fourCells) } : World).forCall (fun _ _ => 0) ⟨#[],#[.agg #[.int .i64 0,.slice none 0 0,.slice none 0 0,.slice none 0 0,.slice none 0 0,.int .i64 0,.slice none 0 0,.slice none 0 0,.int .i64 0],.int .i64 0,.string ⟨#[]⟩], []⟩).memory Tryz.f4.params.toList Rows.fnExactAskForSpec.vars false (#[.agg #[.int .i64 0,.slice none 0 0,.slice none 0 0,.slice none 0 0,.slice none 0 0,.int .i64 0,.slice none 0 0,.slice none 0 0,.int .i64 0],.int .i64 0,.string ⟨#[]⟩] : Array Value).toList 8 = some ([.agg [.lit (.int .i64 0),.nil,.agg [.nil,.nil,.agg [.nil,.lit (.int .i64 0)]],.nil,.nil,.lit (.int .i64 0)],.lit (.int .i64 0),.lit (.string [])],gs,places) :=
 ⟨MemPlace.row ⟨1, 0,none⟩ 16, [Lib.tabData .u32 (sumTab.map fun (n : Nat) => (n : Int))],by kernel_rfl⟩
set_option maxRecDepth 100000 in
theorem askFor_lifted (os : Os) (started : os.Started) (H : Type) (enc : TypeId × Value → H) (F : Stop.Interp) :
  ReturnsInHanded {} Tryz.checked os 4 .any ((OpenSpec.ofChange Rows.fnExactAskForSpec).preRow enc Tryz.prog Tryz.f4 Rows.fnExactAskForRow.domain false Rows.fnExactAskForRow.laid) (((OpenSpec.ofChange Rows.fnExactAskForSpec).at F).post enc Tryz.prog Tryz.f4 false true false false) := by
 obtain ⟨places,gs,hx⟩ := askFor_reads os enc
 refine returnsInHanded_of_row (C := Tryz.checked) (s := OpenSpec.ofChange Rows.fnExactAskForSpec) card_own started (by kernel_rfl) Tryz.func4
  (witness_row_at (enc := enc) (C := Tryz.checked) false ({ World.holding Tryz.prog os ⟨#[],#[], []⟩ with heap := (World.holding Tryz.prog os ⟨#[],#[], []⟩).heap.modify 1 (putCells fourCells) } : World) #[.agg #[.int .i64 0,.slice none 0 0,.slice none 0 0,.slice none 0 0,.slice none 0 0,.int .i64 0,.slice none 0 0,.slice none 0 0,.int .i64 0],.int .i64 0,.string ⟨#[]⟩] rfl (by kernel_rfl) (by kernel_rfl) (by kernel_rfl)
   (OpenSpec.preRow_of_cond 8 hx (by kernel_rfl) (fun k hk => by cases hk) (by kernel_rfl) (askFor_laid_met os))) ?_
 intro W base args ds gs before hval hW _ _ _ hL _ _
 exact askFor_contract H enc W base args ds gs before hval hW hL
theorem askFor_said : Rows.FnExactAskForSaid :=
 OpenClaim.holds_of_cond 4 Tryz.f4 rfl rfl rfl rfl rfl rfl rfl ⟨rfl,rfl,rfl,rfl,rfl⟩ rfl rfl rfl rfl rfl (by kernel_rfl) Tryz.func4 (by kernel_rfl)
  (of_decide_eq_true (by kernel_rfl)) (by unfold Func.isWrapper; first | (rw [if_pos (by decide +kernel)]; kernel_rfl) | (rw [if_neg (by decide +kernel)]; exact ⟨rfl,rfl⟩))
  (fun os started H enc _ F => by rw [OpenClaim.pre_eq_preRow]; exact askFor_lifted os started H enc F)
theorem askFor_plain (f : FuncId) (fn : Func) (hf : Tryz.pinned.checked.prog.funcNamed "loop.example/g00245/laws.FnExactAskFor" = some f) (hfn : Tryz.pinned.checked.prog.funcs[f]? = some fn) :
  false = Tryz.pinned.checked.prog.looks [] ∧ ∀ (j : Nat) t,fn.params[j]? = some t → Tryz.pinned.checked.prog.wantsStandIn t = false := by
 obtain rfl : f = 4 := Option.some.inj ((show Tryz.prog.funcNamed "loop.example/g00245/laws.FnExactAskFor" = some 4 by kernel_rfl).symm.trans hf) |>.symm
 obtain rfl : fn = Tryz.f4 := (Option.some.inj (Tryz.func4.symm.trans hfn)).symm
 refine ⟨by kernel_rfl,fun j t ht => ?_⟩
 rw [Tryz.params4] at ht
 have hm := Array.mem_of_getElem? ht
 obtain rfl | rfl | rfl : t = 32 ∨ t = 3 ∨ t = 9 := by simpa using hm
 ·exact (show Tryz.prog.wantsStandIn 32 = false by kernel_rfl)
 ·exact (show Tryz.prog.wantsStandIn 3 = false by kernel_rfl)
 ·exact (show Tryz.prog.wantsStandIn 9 = false by kernel_rfl)
theorem askFor_card : Rows.FnExactAskForCardSaid :=
 Claim7.holds_tied_plain_at .later [] _ _ _ _ askFor_said (fun _ h => by cases h) (by kernel_rfl) (fun _ h => by cases h) fnExactAskFor_row_tie rfl ⟨rfl,rfl⟩ (by kernel_rfl) rfl askFor_plain (by kernel_rfl)
#print axioms askFor_card
end Go.Proofs.YtpgcfgbhkodmeaaGreatDoor
