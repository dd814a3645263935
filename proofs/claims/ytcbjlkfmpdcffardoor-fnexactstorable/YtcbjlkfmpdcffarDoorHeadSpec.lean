/- The other text's names, values and fields. -/
import Derived.Test.YtcbjlkfmpdcffarDoorHeadPlainJ
namespace Go.Proofs.YtcbjlkfmpdcffarDoor
open Go.RowKit Go.Sort
end Go.Proofs.YtcbjlkfmpdcffarDoor
