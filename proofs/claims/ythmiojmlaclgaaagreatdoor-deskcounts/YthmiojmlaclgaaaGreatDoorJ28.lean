/- Lists that packages vec and pupil tell, as blocks of their own. -/
import Derived.Test.YthmiojmlaclgaaaGreatDoorJ15
import Derived.Test.YthmiojmlaclgaaaGreatDoorJ04
import Derived.Test.YthmiojmlaclgaaaGreatDoorJ05
import Derived.Test.YthmiojmlaclgaaaGreatDoorJ01
namespace Go.Proofs.YthmiojmlaclgaaaGreatDoor.Fx
open Go.RowKit

end Go.Proofs.YthmiojmlaclgaaaGreatDoor.Fx
