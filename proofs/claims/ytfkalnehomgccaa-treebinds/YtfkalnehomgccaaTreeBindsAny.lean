/- TreeBinds returns true, whatever is handed in. -/
import Derived.Test.YtfkalnehomgccaaTreeBindsWalk
import Derived.Test.YtfkalnehomgccaaOpensU
namespace Go.Proofs.Ytfkalnehomgccaa.Fx
open Go.RowKit

theorem treeBinds_any (root n i : Int) (a : Option Addr) (m c : Nat) (xs : List Int) (b : Option Addr) (m2 d : Nat) (ys : List Int) (pa : Option Addr) (p pc : Nat) (ps : List Int) (qa : Option Addr) (r rc : Nat) (rs : List Int) (w : World) (hrt : okW root) (hn : (Lit.int .i64 n).wf = true) (hi : (Lit.int .i64 i).wf = true) (lx : Came w a m c xs) (ly : Came w b m2 d ys) (lp : LstW w pa p pc ps ∧ okL ps ∧ pc ≤ maxLen) (lr : LstW w qa r rc rs ∧ okL rs ∧ rc ≤ maxLen) :
    Calls Try.prog 4 #[.int .u64 root, .int .i64 n, .int .i64 i, .slice a m c, .slice b m2 d, .slice pa p pc, .slice qa r rc] w fun e w' => e = .returned (.bool true) ∧ Below w.heap.size w w' := by
  have hM : maxLen ≤ 9223372036854775807 := by decide
  exact treeBinds_core root n i hrt (wf_i64 hn) (wf_i64 hi) a m c xs b m2 d ys pa p pc ps qa r rc rs w lx.1 ly.1 lp.1 lr.1 lp.2.1 lr.2.1 (Nat.le_trans lx.1.cap (Nat.le_trans lx.2.1 hM)) (Nat.le_trans ly.1.cap (Nat.le_trans ly.2.1 hM)) (Nat.le_trans lp.1.cap (Nat.le_trans lp.2.2 hM)) (Nat.le_trans lr.1.cap (Nat.le_trans lr.2.2 hM))
end Go.Proofs.Ytfkalnehomgccaa.Fx
