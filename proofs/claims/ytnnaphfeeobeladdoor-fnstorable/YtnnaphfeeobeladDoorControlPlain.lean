/- What is told of keeping. Plain, no program. -/
import Derived.Test.YtnnaphfeeobeladDoorLowPlainJ
import Derived.Test.YtnnaphfeeobeladDoorFigPlainJ
namespace Go.Proofs.YtnnaphfeeobeladDoor
open Go.RowKit
structure Ct where
  ns : Bool
  nc : Bool
  ma : Int
  sh : Int
def ct0 : Ct := ⟨false, false, -1, -1⟩
def digits (l : List UInt8) : Bool := l.all fun b => decide (48 ≤ b.toNat ∧ b.toNat ≤ 57)
/-- A number of 1 to 6 figures. -/
def numL (l : List UInt8) : Option Nat := if (decide (1 ≤ l.length ∧ l.length ≤ 6) && digits l) = true then some (valF 0 l) else none
def noStoreL : List UInt8 := [110, 111, 45, 115, 116, 111, 114, 101]
def privateL : List UInt8 := [112, 114, 105, 118, 97, 116, 101]
def noCacheL : List UInt8 := [110, 111, 45, 99, 97, 99, 104, 101]
def maxAgeL : List UInt8 := [109, 97, 120, 45, 97, 103, 101, 61]
def sMaxL : List UInt8 := [115, 45, 109, 97, 120, 97, 103, 101, 61]
/-- The words of a part. -/
def partW (l : List UInt8) : List UInt8 := lowL (Lib.trimB l 32)
def flagC (c : Ct) (s : List UInt8) : Ct := if s = noStoreL ∨ s = privateL then { c with ns := true } else if s = noCacheL then { c with nc := true } else c
def ageC (c : Ct) (s : List UInt8) : Ct := if maxAgeL.isPrefixOf s = true then (match numL (s.drop 8) with | some n => { c with ma := (n : Int) } | none => c) else c
def shC (c : Ct) (s : List UInt8) : Ct := if sMaxL.isPrefixOf s = true then (match numL (s.drop 9) with | some n => { c with sh := (n : Int) } | none => c) else c
def partC (c : Ct) (l : List UInt8) : Ct := shC (ageC (flagC c (partW l)) (partW l)) (partW l)
/-- The parts between commas. -/
def splitC : List UInt8 → List (List UInt8)
  | [] => [[]]
  | b :: r => if b = 44 then [] :: splitC r else (match splitC r with | [] => [[b]] | p :: ps => (b :: p) :: ps)
def controlS (l : List UInt8) : Ct := (splitC l).foldl partC ct0
theorem splitC_ne (l : List UInt8) : splitC l ≠ [] := by
  cases l with
  | nil => simp [splitC]
  | cons b r =>
    unfold splitC
    split
    · simp
    · split <;> simp
theorem splitC_none : ∀ p : List UInt8, (∀ x ∈ p, x ≠ 44) → splitC p = [p]
  | [], _ => rfl
  | b :: r, h => by
    unfold splitC
    rw [if_neg (h b List.mem_cons_self), splitC_none r (fun x hx => h x (List.mem_cons_of_mem _ hx))]
theorem splitC_at : ∀ (p r : List UInt8), (∀ x ∈ p, x ≠ 44) → splitC (p ++ 44 :: r) = p :: splitC r
  | [], r, _ => by simp [splitC]
  | b :: p, r, h => by
    rw [List.cons_append, show splitC (b :: (p ++ 44 :: r)) = if b = 44 then [] :: splitC (p ++ 44 :: r) else (match splitC (p ++ 44 :: r) with | [] => [[b]] | p :: ps => (b :: p) :: ps) from rfl, if_neg (h b List.mem_cons_self), splitC_at p r (fun x hx => h x (List.mem_cons_of_mem _ hx))]
/-- How long. -/
def lifeC (c : Ct) : Int := if c.ns = true ∨ c.nc = true then 0 else if 0 ≤ c.sh then c.sh else if 0 ≤ c.ma then c.ma else 0
end Go.Proofs.YtnnaphfeeobeladDoor
