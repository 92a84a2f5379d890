/- What vec's isSide, Check, checkBoth, row and column return, whatever matrix and list lie there. -/
import Derived.Test.YtllgpjhbhndlhabVecB
import Derived.Test.YtllgpjhbhndlhabMats
namespace Go.Proofs.Ytllgpjhbhndlhab.Fx
open Go.RowKit
