/- What the walks of this seat share. -/
import Derived.Test.YtnnaphfeeobelarBytes
import Derived.Test.YtnnaphfeeobelarChecked
namespace Go.Proofs.Ytnnaphfeeobelar
open Go.RowKit

theorem Try.info5 : (Try.prog.info? 5).map (fun i => (i.zero, i.size, i.bytes)) = some (some (.int .u8 0), 1, 1) := by kernel_rfl

end Go.Proofs.Ytnnaphfeeobelar
