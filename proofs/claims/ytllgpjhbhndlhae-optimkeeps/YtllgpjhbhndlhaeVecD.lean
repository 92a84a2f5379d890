/- What vec.Mul and vec.Back return, whatever matrix and list lie there. -/
import Derived.Test.YtllgpjhbhndlhaeVecC
namespace Go.Proofs.Ytllgpjhbhndlhae.Fx
open Go.RowKit

theorem rowIs_below {w w' : World} {b t n : Nat} {f : Nat → Value} {B : Nat} (h : w.rowIs b t n f) (hb : Below B w w') (hB : b < B) : w'.rowIs b t n f := h.of_block (hb.block b hB)
