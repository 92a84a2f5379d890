/- What digest.mix returns, called with three numbers below P. -/
import Derived.Test.YtfkalnehomgccaaDigB
import Derived.Test.YtfkalnehomgccaaTris
namespace Go.Proofs.Ytfkalnehomgccaa.Fx
open Go.RowKit

set_option maxHeartbeats 1600000 in
theorem dmix_calls (s : Tri) (hs : s.ok) (w : World) : Calls Try.prog 45 #[.agg #[.int .u64 s.x, .int .u64 s.y, .int .u64 s.z]] w fun e w' => e = .returned (aggT (mixP s)) ∧ Below w.heap.size w w' := by
  have HS : Hid s.ok := hs
  clear hs
  go_enter Try.func45, Try.ntmps45
  go_wp2
  go_loopw [3] (fun i wr => ∃ (k : Nat) (n : Int) (t : Tri), k ≤ 6 ∧ i = .int .u64 n ∧ n = (k : Int) + 1 ∧ Hid (t = mixTo s k) ∧ MixRel 65 w t wr) (fun i _ => 7 - (intOf i).toNat)
  case atStart => exact ⟨0, 1, s, by omega, rfl, rfl, rfl, MixRel.start _ _ _ _ _⟩
  case round =>
    obtain ⟨k, n, t, hk, rfl, hn, HT, R⟩ := hrel
    obtain ⟨c0, c1, c2⟩ := fnT_cells R.box
    have HN : Hid (n = (k : Int) + 1) := hn
    by_cases hlt : n ≤ 6
    · have ht : t.ok := by rw [HT.out]; exact mixTo_ok HS.out k
      obtain ⟨t0, t1, t2⟩ := ht
      have n1 : okP n := ⟨by omega, by omega⟩
      have n2 : okP (2 * n) := ⟨by omega, by omega⟩
      have n3 : okP (3 * n) := ⟨by omega, by omega⟩
      have m0 : 1 ≤ n := by omega
      have f0 := R.box.frozen 0
      have f1 := R.box.frozen 1
      have f2 := R.box.frozen 2
      have HM : Hid (sums (pows n t) = mixTo s (k + 1)) := by rw [hn, HT.out]; rfl
      clear hn
      go_wp2_with (first | (go_at_call 46; refine (dadd_calls _ _ (by with_reducible first | exact powP_ok _ | exact addP_ok _ _ | assumption) (by with_reducible first | exact powP_ok _ | exact addP_ok _ _ | assumption) _).mono ?_; rintro e w' ⟨rfl, hw'⟩; replace hw' := hw'.symm; subst hw') | (go_at_call 48; refine (dpower_calls _ (by with_reducible exact addP_ok _ _) _).mono ?_; rintro e w' ⟨rfl, d, rfl⟩))
      go_roundw
      case rel =>
        have hn := HN.out
        exact ⟨k + 1, _, _, by omega, rfl, by omega, HM.out, (R.drewN _).set _ _ _⟩
      case measure => simp [intOf]; omega
    · have e7 : n = 7 := by omega
      subst e7
      obtain rfl : k = 6 := by omega
      obtain ⟨r0, r1, r2⟩ := fnT_cells R.res
      have f0 := R.res.frozen 0
      have f1 := R.res.frozen 1
      have f2 := R.res.frozen 2
      go_wp2
      have hq := fnT_set3 R.res t.x t.y t.z
      obtain ⟨q0, q1, q2⟩ := fnT_cells hq
      refine bodyPost_ret (v := aggT t) (by simp [results, Try.results45, go_sem, q0, q1, q2, aggT]) rfl ⟨by rw [HT.out]; rfl, ?_⟩
      exact ((R.old.setCell (Nat.le_succ _) _).setCell (Nat.le_succ _) _).setCell (Nat.le_succ _) _

theorem dmix3 (x y z : Int) (hx : okP x) (hy : okP y) (hz : okP z) (w : World) : Calls Try.prog 45 #[.agg #[.int .u64 x, .int .u64 y, .int .u64 z]] w fun e w' =>
    ∃ m : Tri, Hid (m = mixP ⟨x, y, z⟩) ∧ e = .returned (.agg #[.int .u64 m.x, .int .u64 m.y, .int .u64 m.z]) ∧ Below w.heap.size w w' := by
  refine (dmix_calls ⟨x, y, z⟩ ⟨hx, hy, hz⟩ w).mono ?_
  rintro e w' ⟨rfl, h⟩
  exact ⟨_, rfl, rfl, h⟩

end Go.Proofs.Ytfkalnehomgccaa.Fx
