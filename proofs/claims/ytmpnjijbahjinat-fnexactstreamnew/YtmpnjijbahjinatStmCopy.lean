/- The other text's copy of a stream. -/
import Derived.Test.YtmpnjijbahjinatStmBase
import Derived.Test.YtmpnjijbahjinatStmRow
namespace Go.Proofs.Ytmpnjijbahjinat
open Go.RowKit Go.Sort

end Go.Proofs.Ytmpnjijbahjinat
