/- ValueOf: its law's walk. -/
import Derived.Test.YtghladeamdhlhanValueOfLaw
import Derived.Test.YtghladeamdhlhanValueImpl
namespace Go.Proofs.Ytghladeamdhlhan
open Go.RowKit Go.Sort

theorem valueOf_walk (a : Option Addr) (cap : Nat) (l : List Int) (p : Int) (w : World) (hL : IAt w a l w.heap.size) (hi : l.length ≤ maxLen) (hbd : Bd l) (hp : (Lit.int .i64 p).wf = true) :
    Calls Try.prog 8 #[.slice a l.length cap, .int .i64 p] w fun e w' => e = .returned (.bool true) ∧ Below w.heap.size w w' := valueOf_given implValue_any a cap l p w hL hi hbd hp
end Go.Proofs.Ytghladeamdhlhan
