/- What coachref's Dot returns: the plain number of the text Lists. -/
import Derived.Test.YtmoeogecafjcmaaRefFix
import Derived.Test.YtmoeogecafjcmaaApps
namespace Go.Proofs.Ytmoeogecafjcmaa.Fx
open Go.RowKit

set_option maxHeartbeats 400000 in
theorem rdot_calls (a b : Option Addr) (la ca cb : Nat) (xs ys : List Int) (w : World) (ha : Lst w a la ca xs) (hb : Lst w b la cb ys) (h63 : la ≤ 1000000000000000000) :
    Calls Try.prog 18 #[.slice a la ca, .slice b la cb] w fun e w' => e = .returned (.int .i64 (dotTo xs ys la)) ∧ ∃ k, w' = w.drewN k := by
  go_enter Try.func18, Try.ntmps18
  go_wp2
  go_loopw [5, 6] (fun s i wr => ∃ k n : Nat, k ≤ la ∧ i = .int .i64 k ∧ s = .int .i64 (dotTo xs ys k) ∧ wr = w.drewN n) (fun _ i _ => la - (intOf i).toNat)
  case atStart => exact ⟨0, 0, Nat.zero_le _, rfl, rfl, rfl⟩
  case round =>
    obtain ⟨k, n, hk, rfl, rfl, hw⟩ := hrel
    have ha' : Lst wr a la ca xs := hw ▸ ha.drewN n
    have hb' : Lst wr b la cb ys := hw ▸ hb.drewN n
    have HW : Hid (wr = w.drewN n) := hw
    clear hw ha hb
    by_cases hlt : k < la
    · obtain ⟨b1, o1, x, rfl, _, c1, HX⟩ := ha'.at1 hlt
      obtain ⟨b2, o2, y, rfl, _, c2, HY⟩ := hb'.at1 hlt
      go_wp2
      go_quiet ((first | (go_at_call 17; exact Calls.quiet_of_same (rmul_calls _ _ _)) | (go_at_call 13; exact Calls.quiet_of_same (radd_calls _ _ _))))
      go_wp2
      go_roundw
      case rel => exact ⟨k + 1, _, by omega, by go_num, by simp only [dotTo, HX.out, HY.out], by rw [HW.out, World.drewN_drewN]⟩
      case measure => simp [intOf]; omega
    · go_wp2
      go_ret
      obtain rfl : k = la := by omega
      exact ⟨rfl, _, HW.out⟩
end Go.Proofs.Ytmoeogecafjcmaa.Fx
