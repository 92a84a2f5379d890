/- What vec's isSide, Check, checkBoth, row and column return, whatever matrix and list lie there. -/
import Derived.Test.YtllgpjhbhndlhaeVecB
import Derived.Test.YtllgpjhbhndlhaeMats
namespace Go.Proofs.Ytllgpjhbhndlhae.Fx
open Go.RowKit
