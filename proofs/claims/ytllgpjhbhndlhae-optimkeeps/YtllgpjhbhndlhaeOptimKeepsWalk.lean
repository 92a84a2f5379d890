/- The walk of OptimKeeps: it returns true, whatever config, state, list and numbers are handed in, and nothing that was there is written. -/
import Derived.Test.YtllgpjhbhndlhaeOptimKeepsA
import Derived.Test.YtllgpjhbhndlhaeOptimKeepsB
namespace Go.Proofs.Ytllgpjhbhndlhae.Fx
open Go.RowKit

theorem optimKeeps_any (c : Cfg) (x : Exm) (ws ms : List Int) (a3 : Option Addr) (n3 k3 : Nat) (gs : List Int) (most step : Int) (w : World) (_ : (Lit.int .u64 c.seed).wf = true) (l : InEx w x ws ms) (l3 : Lst w a3 n3 k3 gs) (_ : (Lit.int .i64 most).wf = true) (_ : (Lit.int .i64 step).wf = true) :
    Calls Try.prog 6 #[c.val, x.val, .slice a3 n3 k3, .int .i64 most, .int .i64 step] w fun e w' => e = .returned (.bool true) ∧ Below w.heap.size w w' := by
  rcases rate_cases c step with h | h
  · exact optimKeeps_rate c x.a x.n x.k ws x.b x.m x.t ms a3 n3 k3 gs most step w l.i l.o l3 h
  · exact optimKeeps_norate c x.a x.n x.k ws x.b x.m x.t ms a3 n3 k3 gs most step w l.i l.o l3 h

end Go.Proofs.Ytllgpjhbhndlhae.Fx
