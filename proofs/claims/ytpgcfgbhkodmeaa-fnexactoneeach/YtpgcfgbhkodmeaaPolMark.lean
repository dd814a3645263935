/- A law marks policies: it writes rows of numbers alone. -/
import Derived.Test.YtpgcfgbhkodmeaaPolLaw2
namespace Go.Proofs.Ytpgcfgbhkodmeaa
open Go.RowKit Go.Sort

end Go.Proofs.Ytpgcfgbhkodmeaa
