/- What pupil's isSide, inBounds and Check return, whatever pupil and list lie there. -/
import Derived.Test.YtfkalnehomgccaaVecC
import Derived.Test.YtfkalnehomgccaaPups
namespace Go.Proofs.Ytfkalnehomgccaa.Fx
open Go.RowKit
