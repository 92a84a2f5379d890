/- AuditFinds returns true, whatever two lists of records are handed in, and nothing that was there is written. -/
import Derived.Test.YtdclclekomjlpaaAuditFindsWalk
import Derived.Test.YtdclclekomjlpaaAudA
import Derived.Test.YtdclclekomjlpaaOpensRs
namespace Go.Proofs.Ytdclclekomjlpaa.Fx
open Go.RowKit

theorem auditFinds_any (a : Option Addr) (n c1 : Nat) (X : Nat → Rcm) (DX : Nat → List Int) (b : Option Addr) (m c2 : Nat) (Y : Nat → Rcm) (DY : Nat → List Int) (w : World) (hx : RecsIn w a n c1 X DX) (hy : RecsIn w b m c2 Y DY) :
    Calls Try.prog 3 #[.slice a n c1, .slice b m c2] w fun e w' => e = .returned (.bool true) ∧ Below w.heap.size w w' :=
  auditFinds_core a n c1 b m c2 X Y DX DY w hx.recs hy.recs (fun q hq => find_says a n c1 b m c2 X Y DX DY q (hx.recs.below hq (Nat.le_refl _)) (hy.recs.below hq (Nat.le_refl _)) (Nat.le_trans hx.recs.1 hx.len) (Nat.le_trans hy.recs.1 hy.len))
end Go.Proofs.Ytdclclekomjlpaa.Fx
