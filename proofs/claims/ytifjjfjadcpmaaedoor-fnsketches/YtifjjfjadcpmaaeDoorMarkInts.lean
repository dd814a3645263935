/- Marks in rows of numbers, laid and found again. -/
import Derived.Test.YtifjjfjadcpmaaeDoorInts
namespace Go.Proofs.YtifjjfjadcpmaaeDoor
open Go.RowKit Go.Sort
end Go.Proofs.YtifjjfjadcpmaaeDoor
