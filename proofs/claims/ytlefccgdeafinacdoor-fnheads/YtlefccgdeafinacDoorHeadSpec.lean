/- The other text's names, values and fields. -/
import Derived.Test.YtlefccgdeafinacDoorHeadPlain
namespace Go.Proofs.YtlefccgdeafinacDoor
open Go.RowKit Go.Sort
end Go.Proofs.YtlefccgdeafinacDoor
