/- What each function of package fix returns, called with whatever integers: the plain numbers of the text Fix; the world is as it was, but for what was drawn of the open order. -/
import Derived.Test.YtfcnnolpcnacoaaDoorRows
import Derived.Test.YtfcnnolpcnacoaaDoorFix
import Derived.WalkKit
import Derived.Deep.QuietTactic
import Derived.BigQuiet
namespace Go.Proofs.YtfcnnolpcnacoaaDoor.Fx
open Go.RowKit

theorem ret_int {k : IntKind} {a b : Int} (h : a = b) : Ending.returned (.int k a) = .returned (.int k b) := by rw [h]

theorem ret_bool {a b : Bool} (h : a = b) : Ending.returned (.bool a) = .returned (.bool b) := by rw [h]
theorem grown_drewN {W w : World} (h : Grown W w) (n : Nat) : Grown W (w.drewN n) := h

end Go.Proofs.YtfcnnolpcnacoaaDoor.Fx
