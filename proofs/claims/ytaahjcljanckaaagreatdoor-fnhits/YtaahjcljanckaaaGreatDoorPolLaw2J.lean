/- Texts that stand in one: PolLaw2, PolMark, PolMark2, PolVar, VarPlain. -/
import Derived.Test.YtaahjcljanckaaaGreatDoorSkLaw3J
import Derived.Test.YtaahjcljanckaaaGreatDoorSkBaseJ
namespace Go.Proofs.YtaahjcljanckaaaGreatDoor
open Go.RowKit Go.Sort
theorem POwn.lies {w : World} {lo hi : Nat} {aw am ak : Option Addr} {cw cm ck : Nat} {P : Pol} (h : POwn w lo hi (.agg #[.slice aw P.win.length cw,.slice am P.main.length cm,.slice ak P.sk.rows.length ck,.int .i64 P.sk.added]) P) : PolAt w aw am ak P w.heap.size := by
 obtain ⟨a1,c1,a2,c2,a3,c3,e,hA⟩ := h.at
 simp only [Value.agg.injEq,Array.mk.injEq,List.cons.injEq,and_true,Value.slice.injEq,true_and] at e
 obtain ⟨⟨rfl,rfl⟩,⟨rfl,rfl⟩,rfl,rfl⟩ := e
 exact hA
end Go.Proofs.YtaahjcljanckaaaGreatDoor
namespace Go.Proofs.YtaahjcljanckaaaGreatDoor
open Go.RowKit
def inB (x a b : Int) : Bool := decide (a ≤ x) && decide (x ≤ b)
theorem inB_yes {x a b : Int} (h1 : a ≤ x) (h2 : x ≤ b) : inB x a b = true := by simp [inB,h1,h2]
theorem inB_no {x a b : Int} (h : ¬ (a ≤ x ∧ x ≤ b)) : inB x a b = false := by simp [inB]; omega
end Go.Proofs.YtaahjcljanckaaaGreatDoor
