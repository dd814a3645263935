/- A sketch of a law that is marked. Plain, no program. -/
import Derived.Test.YtbcjkinalghokatSkLaw2
namespace Go.Proofs.Ytbcjkinalghokat
open Go.RowKit

/-- A sketch in a variable whose rows hold other numbers. -/
structure SM (w : World) (lo T : Nat) (a : Option Addr) (c : Nat) (S : Sk) (MM : List (List Int)) : Prop where
  le : lo ≤ T
  box : SkBox w T (.slice a S.rows.length c) (.int .i64 S.added)
  own : OwnSS w lo T (.slice a S.rows.length c) MM
theorem SM.on {w w' : World} {lo T : Nat} {a : Option Addr} {c : Nat} {S : Sk} {MM : List (List Int)} (h : SM w lo T a c S MM) (hb : Below w.heap.size w w') : SM w' lo T a c S MM := ⟨h.le, h.box.on hb, h.own.below hb (Nat.le_refl _)⟩
end Go.Proofs.Ytbcjkinalghokat
