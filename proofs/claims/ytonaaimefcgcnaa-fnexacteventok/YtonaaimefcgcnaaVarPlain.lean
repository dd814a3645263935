/- The bytes of a number: the plain reckoning; no program. -/
import Derived.Test.YtonaaimefcgcnaaBytes
namespace Go.Proofs.Ytonaaimefcgcnaa
open Go.RowKit

def varF : Nat → Nat → List UInt8
  | 0, m => [UInt8.ofNat m]
  | f + 1, m => if 127 < m then UInt8.ofNat (m % 128 + 128) :: varF f (m / 128) else [UInt8.ofNat m]

theorem varF_step {f k : Nat} (h : 127 < k) : varF (f + 1) k = UInt8.ofNat (k % 128 + 128) :: varF f (k / 128) := by simp [varF, h]

theorem varF_end {f k : Nat} (h : ¬ 127 < k) : varF f k = [UInt8.ofNat k] := by cases f <;> simp [varF, h]

theorem pow_down {f k : Nat} (h : k < 128 * 128 ^ (f + 1)) : k / 128 < 128 * 128 ^ f := by
  rw [Nat.pow_succ] at h; omega

theorem varF_length : ∀ (f m : Nat), (varF f m).length ≤ f + 1
  | 0, m => by simp [varF]
  | f + 1, m => by
    unfold varF
    split
    · have := varF_length f (m / 128); simp; omega
    · simp

def inB (x a b : Int) : Bool := decide (a ≤ x) && decide (x ≤ b)

theorem inB_yes {x a b : Int} (h1 : a ≤ x) (h2 : x ≤ b) : inB x a b = true := by simp [inB, h1, h2]

theorem inB_no {x a b : Int} (h : ¬ (a ≤ x ∧ x ≤ b)) : inB x a b = false := by simp [inB]; omega

/-- What VarText answers. -/
def vOk (n : Int) : Bool := inB n 0 1000000000

def vText (n : Int) : List UInt8 := if vOk n = true then varF 8 n.toNat else []

theorem vOk_in {m : Nat} (h : m ≤ 1000000000) : vOk (m : Int) = true := inB_yes (by omega) (by omega)

theorem vText_in {m : Nat} (h : m ≤ 1000000000) : vText (m : Int) = varF 8 m := by simp [vText, vOk_in h]

theorem vOk_out {n : Int} (h : ¬ (0 ≤ n ∧ n ≤ 1000000000)) : vOk n = false := inB_no h

theorem vText_out {n : Int} (h : ¬ (0 ≤ n ∧ n ≤ 1000000000)) : vText n = [] := by simp [vText, vOk_out h]

/-- What ShortText answers. -/
def shOk (s : ByteArray) : Bool := decide (s.size ≤ 20000)

def shText (s : ByteArray) : ByteArray := if s.size ≤ 20000 then ⟨(varF 8 s.size).toArray⟩ ++ s else ⟨#[]⟩
end Go.Proofs.Ytonaaimefcgcnaa
