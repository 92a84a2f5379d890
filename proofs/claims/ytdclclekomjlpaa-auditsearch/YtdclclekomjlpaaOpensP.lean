/- How pupils by value, and examples, are opened. -/
import Derived.Test.YtdclclekomjlpaaOpens
import Derived.Test.YtdclclekomjlpaaPups
namespace Go.Proofs.Ytdclclekomjlpaa.Fx
open Go.ChangeShapes Go.WideShapes Go.ChangeAt Go.RowKit
