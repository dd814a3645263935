/- FnDoTasks: its law's walk. -/
import Derived.Test.YtogfkbkfcelgcacDoTasksLaw
import Derived.Test.YtogfkbkfcelgcacDoTaskImpl
import Derived.Test.YtogfkbkfcelgcacTaskImpl
namespace Go.Proofs.Ytogfkbkfcelgcac
open Go.RowKit Go.Sort

theorem doTasks_walk (ca : Option Addr) (n cap : Nat) (w : World) (hcode : CodeAt w ca n w.heap.size) (hlen : n ≤ maxLen) :
    Calls Try.prog 4 #[.slice ca n cap] w fun e w' => e = .returned (.bool true) ∧ Below w.heap.size w w' := doTasks_given implTaskNew_any implDoTask_asc ca n cap w hcode hlen
end Go.Proofs.Ytogfkbkfcelgcac
