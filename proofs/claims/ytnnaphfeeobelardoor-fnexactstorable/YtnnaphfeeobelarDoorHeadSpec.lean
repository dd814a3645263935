/- The other text's names, values and fields. -/
import Derived.Test.YtnnaphfeeobelarDoorHeadPlainJ
namespace Go.Proofs.YtnnaphfeeobelarDoor
open Go.RowKit Go.Sort
end Go.Proofs.YtnnaphfeeobelarDoor
