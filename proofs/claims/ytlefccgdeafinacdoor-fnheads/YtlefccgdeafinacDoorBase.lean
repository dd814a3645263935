/- What the walks of this seat share. -/
import Derived.Test.YtlefccgdeafinacDoorBytes
import Derived.Test.YtlefccgdeafinacDoorChecked
namespace Go.Proofs.YtlefccgdeafinacDoor
open Go.RowKit

theorem Tryd.info5 : (Tryd.prog.info? 5).map (fun i => (i.zero, i.size, i.bytes)) = some (some (.int .u8 0), 1, 1) := by kernel_rfl

end Go.Proofs.YtlefccgdeafinacDoor
