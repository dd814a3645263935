/- Marks in rows of numbers, laid and found again. -/
import Derived.Test.YtghladeamdhlhabInts
namespace Go.Proofs.Ytghladeamdhlhab
open Go.RowKit Go.Sort
end Go.Proofs.Ytghladeamdhlhab
