/- How long a body is. Plain, no program. -/
import Derived.Test.YtnnaphfeeobelasDoorChunkPlain
import Derived.Test.YtnnaphfeeobelasDoorControlPlain
import Derived.Test.YtnnaphfeeobelasDoorFieldOfPlain
import Derived.Test.YtnnaphfeeobelasDoorHeadTextPlain
namespace Go.Proofs.YtnnaphfeeobelasDoor
open Go.RowKit
def clN : ByteArray := ⟨#[99, 111, 110, 116, 101, 110, 116, 45, 108, 101, 110, 103, 116, 104]⟩
def teN : ByteArray := ⟨#[116, 114, 97, 110, 115, 102, 101, 114, 45, 101, 110, 99, 111, 100, 105, 110, 103]⟩
def chN : ByteArray := ⟨#[99, 104, 117, 110, 107, 101, 100]⟩
/-- The length that fields tell, how many of them, and whether they may: n is told by many ahead of them. -/
def lenF : Nat → Nat → List (ByteArray × ByteArray) → Nat × Nat × Bool
  | n, many, [] => (n, many, true)
  | n, many, f :: r => if eqT f.1 clN = true then
      (match numL f.2.data.toList with
        | none => (0, many + 1, false)
        | some k => if 3 < f.2.size ∨ (0 < many ∧ k ≠ n) then (0, many + 1, false) else lenF k (many + 1) r)
    else lenF n many r
def bodyS (L : List (ByteArray × ByteArray)) (t : List UInt8) : List UInt8 × Int × Int :=
  if (fieldOfS L teN).2 = true then (if 0 < (lenF 0 0 L).2.1 ∨ eqT (fieldOfS L teN).1 chN = false then ([], 0, 2) else chunksS t)
  else if (lenF 0 0 L).2.1 = 0 then ([], 0, 0)
  else if (lenF 0 0 L).2.2 = false ∨ 400 < (lenF 0 0 L).1 then ([], 0, 2)
  else if t.length < (lenF 0 0 L).1 then ([], 0, 1)
  else (t.take (lenF 0 0 L).1, ((lenF 0 0 L).1 : Int), 0)
/-- The fields of an answer. -/
def ansF (L : List (ByteArray × ByteArray)) (n : Nat) : List (ByteArray × ByteArray) := L ++ [(clN, ⟨(decOf (n : Int)).toArray⟩)]
def answerS (line : ByteArray) (L : List (ByteArray × ByteArray)) (body : ByteArray) : ByteArray × Bool :=
  if ((fieldOfS L clN).2 || (fieldOfS L teN).2 || decide (400 < body.size) || !headOkS line (ansF L body.size)) = true then (⟨#[]⟩, false) else (headT line (ansF L body.size) ++ body, true)
end Go.Proofs.YtnnaphfeeobelasDoor
