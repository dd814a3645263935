/- What may be kept. Plain, no program. -/
import Derived.Test.YtnnaphfeeobeladDoorControlPlain
import Derived.Test.YtnnaphfeeobeladDoorTargetPlainJ
import Derived.Test.YtnnaphfeeobeladDoorStatusPlain
namespace Go.Proofs.YtnnaphfeeobeladDoor
open Go.RowKit
def ccN : ByteArray := ⟨#[99, 97, 99, 104, 101, 45, 99, 111, 110, 116, 114, 111, 108]⟩
def auN : ByteArray := ⟨#[97, 117, 116, 104, 111, 114, 105, 122, 97, 116, 105, 111, 110]⟩
/-- What it hangs on: a target, a status, what is asked, what is told, a secret. -/
def storP (ok right : Bool) (n : Int) (asked told : Ct) (secret : Bool) : Bool := ok && right && decide (n = 200) && !asked.ns && !told.ns && !secret && decide (0 < lifeC told)
def storS (rl : ByteArray) (rL : List (ByteArray × ByteArray)) (sl : ByteArray) (sL : List (ByteArray × ByteArray)) : Bool :=
  storP (targetS rl).2 (statusS sl).2 (statusS sl).1 (controlS (fieldOfS rL ccN).1.data.toList) (controlS (fieldOfS sL ccN).1.data.toList) (fieldOfS rL auN).2
theorem wgtT_mem : ∀ {L : List (ByteArray × ByteArray)} {f : ByteArray × ByteArray}, f ∈ L → f.1.size + f.2.size ≤ wgtT L
  | [], _, h => absurd h List.not_mem_nil
  | g :: L, f, h => by
    unfold wgtT
    rw [List.map_cons, List.sum_cons]
    rcases List.mem_cons.1 h with h | h
    · rw [h]; omega
    · have := wgtT_mem h
      unfold wgtT at this
      omega
theorem fieldOfS_size {line : ByteArray} {L : List (ByteArray × ByteArray)} (nm : ByteArray) (h : HdSz line L) : (fieldOfS L nm).1.size ≤ 1048576 := by
  unfold fieldOfS
  split
  · next f hf =>
    have hm := List.mem_of_find?_eq_some hf
    have : f.1.size + f.2.size ≤ wgtT L := wgtT_mem hm
    unfold HdSz at h
    show f.2.size ≤ _
    omega
  · show (0 : Nat) ≤ _
    omega
theorem statusS_wrong {line : ByteArray} (h : (statusS line).2 = false) : (statusS line).1 = 0 := by
  unfold statusS at *
  split at h
  · cases h
  · next hh => rw [if_neg hh]
/-- As the program asks: no number 200 without a right line, no life where nothing must be kept. -/
theorem storP_short {ok right : Bool} {n : Int} {asked told : Ct} {secret : Bool} (h : right = false → n = 0) : storP ok right n asked told secret = (ok && !secret && !asked.ns && decide (n = 200) && decide (0 < lifeC told)) := by
  have hl : told.ns = true → lifeC told = 0 := fun e => by unfold lifeC; rw [if_pos (Or.inl e)]
  unfold storP
  cases right with
  | false =>
    have := h rfl
    subst this
    simp
  | true =>
    cases ht : told.ns with
    | true => rw [hl ht]; simp
    | false => cases ok <;> cases secret <;> cases asked.ns <;> simp
end Go.Proofs.YtnnaphfeeobeladDoor
