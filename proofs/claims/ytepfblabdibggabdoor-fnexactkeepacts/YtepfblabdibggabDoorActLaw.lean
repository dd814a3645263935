/- What a law does with an act: it weighs it, and copies it. -/
import Derived.Test.YtepfblabdibggabDoorDoPlain
import Derived.Test.YtepfblabdibggabDoorBase
namespace Go.Proofs.YtepfblabdibggabDoor
open Go.RowKit Go.Sort

/-- How much an act weighs. -/
def Ac.wg (a : Ac) : Nat := a.nm.size + a.tx.size + a.to.size
def Ac.Sized (a : Ac) : Prop := a.nm.size ≤ maxLen ∧ a.tx.size ≤ maxLen ∧ a.to.size ≤ maxLen


end Go.Proofs.YtepfblabdibggabDoor
