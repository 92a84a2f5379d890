/- What pupil.Check returns, whatever pupil lies there. -/
import Derived.Test.YtfkalnehomgccaaPupA
namespace Go.Proofs.Ytfkalnehomgccaa.Fx
open Go.RowKit
