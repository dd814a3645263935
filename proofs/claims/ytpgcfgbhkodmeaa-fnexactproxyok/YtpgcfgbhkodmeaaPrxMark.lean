/- A law marks proxies and finds the marks again. Written by mkprx.py. -/
import Derived.Test.YtpgcfgbhkodmeaaPrxTo
import Derived.Test.YtpgcfgbhkodmeaaEnsMark
import Derived.Test.YtpgcfgbhkodmeaaFetMark
import Derived.Test.YtpgcfgbhkodmeaaCliMark
namespace Go.Proofs.Ytpgcfgbhkodmeaa
open Go.RowKit Go.Sort
end Go.Proofs.Ytpgcfgbhkodmeaa
