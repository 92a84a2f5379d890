/- What vec's isSide, Check, checkBoth, row and column return, whatever matrix and list lie there. -/
import Derived.Test.YtfkalnehomgccaaVecB
import Derived.Test.YtfkalnehomgccaaMats
namespace Go.Proofs.Ytfkalnehomgccaa.Fx
open Go.RowKit
