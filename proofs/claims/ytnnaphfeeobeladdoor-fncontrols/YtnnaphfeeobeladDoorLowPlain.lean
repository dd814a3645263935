/- Great letters are taken as small ones. Plain, no program. -/
import Derived.Test.YtnnaphfeeobeladDoorHeadPlain
namespace Go.Proofs.YtnnaphfeeobeladDoor
open Go.RowKit
def lowB (x : UInt8) : UInt8 := if 65 ≤ x.toNat ∧ x.toNat ≤ 90 then UInt8.ofNat (x.toNat + 32) else x
def lowL (l : List UInt8) : List UInt8 := l.map lowB
theorem lowB_great {x : UInt8} (h : 65 ≤ x.toNat ∧ x.toNat ≤ 90) : (lowB x).toNat = x.toNat + 32 := by
  unfold lowB
  rw [if_pos h, UInt8.toNat_ofNat']
  omega
theorem lowB_small {x : UInt8} (h : ¬ (65 ≤ x.toNat ∧ x.toNat ≤ 90)) : lowB x = x := by
  unfold lowB
  rw [if_neg h]
/-- What stands while the first k are taken. -/
def lowTo (l : List UInt8) (k : Nat) : List UInt8 := lowL (l.take k) ++ l.drop k
theorem lowTo_zero (l : List UInt8) : lowTo l 0 = l := by simp [lowTo, lowL]
theorem lowTo_all (l : List UInt8) : lowTo l l.length = lowL l := by simp [lowTo]
theorem lowTo_len (l : List UInt8) (k : Nat) : (lowTo l k).length = l.length := by simp [lowTo, lowL]; omega
theorem lowTo_at (l : List UInt8) (k : Nat) (hk : k < l.length) : (lowTo l k)[k]'(by rw [lowTo_len]; exact hk) = l[k] := by
  unfold lowTo lowL
  rw [List.getElem_append_right (by simp; omega)]
  simp [Nat.min_eq_left (Nat.le_of_lt hk)]
theorem lowTo_succ (l : List UInt8) (k : Nat) (hk : k < l.length) : lowTo l (k + 1) = (lowTo l k).set k (lowB l[k]) := by
  unfold lowTo lowL
  rw [List.set_append_right _ _ (by simp; omega), List.length_map, List.length_take, Nat.min_eq_left (Nat.le_of_lt hk), Nat.sub_self, List.drop_eq_getElem_cons hk, List.set_cons_zero, List.take_succ_eq_append_getElem hk, List.map_append, List.append_assoc]
  rfl
end Go.Proofs.YtnnaphfeeobeladDoor
