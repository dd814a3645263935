/- KeysOf: its law's walk. -/
import Derived.Test.YtghladeamdhlhanKeysOfLaw
import Derived.Test.YtghladeamdhlhanKeysImpl
namespace Go.Proofs.Ytghladeamdhlhan
open Go.RowKit Go.Sort

theorem keysOf_walk (a : Option Addr) (cap : Nat) (l : List Int) (w : World) (hL : IAt w a l w.heap.size) (hi : l.length ≤ maxLen) (hbd : Bd l) :
    Calls Try.prog 7 #[.slice a l.length cap] w fun e w' => e = .returned (.bool true) ∧ Below w.heap.size w w' := keysOf_given implKeys_any a cap l w hL hi hbd
end Go.Proofs.Ytghladeamdhlhan
