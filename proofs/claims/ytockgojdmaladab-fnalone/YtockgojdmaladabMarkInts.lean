/- Marks in rows of numbers, laid and found again. -/
import Derived.Test.YtockgojdmaladabInts
namespace Go.Proofs.Ytockgojdmaladab
open Go.RowKit Go.Sort
end Go.Proofs.Ytockgojdmaladab
