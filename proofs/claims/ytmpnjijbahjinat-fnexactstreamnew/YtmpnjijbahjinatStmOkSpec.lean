/- The other text's StreamOk. -/
import Derived.Test.YtmpnjijbahjinatStmBase
import Derived.Lib.QuietBelow
import Derived.BigQuiet
namespace Go.Proofs.Ytmpnjijbahjinat
open Go.RowKit Go.Sort

end Go.Proofs.Ytmpnjijbahjinat
