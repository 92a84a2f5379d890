/- What the functions of package coachref that speak of fixed points return, called with whatever integers: the same plain numbers as those of package fix. -/
import Derived.Test.YtfkalnehomgccaaFixWalks
namespace Go.Proofs.Ytfkalnehomgccaa.Fx
open Go.RowKit

theorem sub_as_add (a b : Int) : addI a (-clampI b) = subI a b := by
  unfold addI subI; rw [clampI_neg, clampI_idem]; congr 1

theorem ediv_facts (n d : Int) (hn : 0 ≤ n) (hd : 0 < d) : 0 ≤ n / d ∧ n / d ≤ n ∧ n / d * d = n - n % d ∧ (n / d + 1) * d = n - n % d + d ∧ 0 ≤ n % d ∧ n % d < d := by
  have e := Int.mul_ediv_add_emod n d
  have c : n / d * d = d * (n / d) := Int.mul_comm _ _
  refine ⟨Int.ediv_nonneg hn (by omega), Int.ediv_le_self _ hn, by omega, ?_, Int.emod_nonneg n (by omega), Int.emod_lt_of_pos n hd⟩
  rw [Int.add_mul]; omega

end Go.Proofs.Ytfkalnehomgccaa.Fx
