/- Marks in rows of numbers, laid and found again. -/
import Derived.Test.YtogfkbkfcelgcacInts
namespace Go.Proofs.Ytogfkbkfcelgcac
open Go.RowKit Go.Sort
end Go.Proofs.Ytogfkbkfcelgcac
