/- What digest.add, mul and power return, called with numbers below P. -/
import Derived.Test.YtfkalnehomgccaaDigA
import Derived.Test.YtfkalnehomgccaaWords
namespace Go.Proofs.Ytfkalnehomgccaa.Fx
open Go.RowKit

theorem dadd_calls (a b : Int) (ha : okP a) (hb : okP b) (w : World) : Calls Try.prog 46 #[.int .u64 a, .int .u64 b] w fun e w' => e = .returned (.int .u64 (addP a b)) ∧ w' = w := by
  obtain ⟨a0, a1⟩ := ha
  obtain ⟨b0, b1⟩ := hb
  go_enter Try.func46, Try.ntmps46
  go_wp2
  go_ret
  exact ⟨rfl, rfl⟩

theorem prodP (a b : Int) (ha : okP a) (hb : okP b) : okP (a * b / 18446744073709551616) ∧ okW (a * b % 18446744073709551616) ∧ (a * b / 18446744073709551616 * 18446744073709551616 + a * b % 18446744073709551616) % 2305843009213693951 = mulP a b := by
  obtain ⟨a0, a1⟩ := ha
  obtain ⟨b0, b1⟩ := hb
  have h0 : 0 ≤ a * b := Int.mul_nonneg a0 b0
  have h1 : a * b ≤ 2305843009213693951 * 2305843009213693951 := Int.mul_le_mul (by omega) (by omega) b0 (by omega)
  unfold okP okW mulP
  omega

theorem dmul_calls (a b : Int) (ha : okP a) (hb : okP b) (w : World) : Calls Try.prog 51 #[.int .u64 a, .int .u64 b] w fun e w' => e = .returned (.int .u64 (mulP a b)) ∧ ∃ k, w' = w.drewN k := by
  obtain ⟨p0, p1, p2⟩ := prodP a b ha hb
  have wa : okW a := ⟨ha.1, by have := ha.2; omega⟩
  have wb : okW b := ⟨hb.1, by have := hb.2; omega⟩
  have c1 := mul64_any a b wa wb w
  generalize a * b / 18446744073709551616 = hi at *
  generalize a * b % 18446744073709551616 = lo at *
  have P2 : Hid ((hi * 18446744073709551616 + lo) % 2305843009213693951 = mulP a b) := p2
  clear p2
  go_enter Try.func51, Try.ntmps51
  go_wp2_with (first | (go_at_call 52; refine c1.mono ?_; rintro e w' ⟨rfl, hw'⟩; replace hw' := hw'.symm; subst hw') | (go_at_call 53; refine (rem64_P _ _ p0 p1 _).mono ?_; rintro e w' ⟨rfl, k, rfl⟩; rw [P2.out]))
  go_ret
  exact ⟨rfl, k, rfl⟩

theorem dpower_calls (n : Int) (hn : okP n) (w : World) : Calls Try.prog 48 #[.int .u64 n] w fun e w' => e = .returned (.int .u64 (powP n)) ∧ ∃ k, w' = w.drewN k := by
  go_enter Try.func48, Try.ntmps48
  go_wp2
  go_loopw [3, 5] (fun s i wr => ∃ (k d : Nat) (x : Int), k ≤ 4 ∧ i = .int .i64 k ∧ s = .int .u64 x ∧ Hid (x = sqTo n k) ∧ wr = w.drewN d) (fun _ i _ => 4 - (intOf i).toNat)
  case atStart => exact ⟨0, 0, _, by omega, rfl, rfl, rfl, rfl⟩
  case round =>
    obtain ⟨k, d, x, hk, rfl, rfl, HX, rfl⟩ := hrel
    have hx : okP x := by rw [HX.out]; exact sqTo_ok hn k
    by_cases hlt : k < 4
    · go_wp2_with (go_at_call 51; refine (dmul_calls _ _ hx hx _).mono ?_; rintro e w' ⟨rfl, d2, rfl⟩)
      go_roundw
      case rel => exact ⟨k + 1, _, _, by omega, by go_num, rfl, by rw [HX.out]; rfl, rfl⟩
      case measure => simp [intOf]; omega
    · obtain rfl : k = 4 := by omega
      go_wp2_with (go_at_call 51; refine (dmul_calls _ _ hx hn _).mono ?_; rintro e w' ⟨rfl, d2, rfl⟩)
      go_ret
      exact ⟨ret_word (by rw [HX.out]; rfl), _, rfl⟩

end Go.Proofs.Ytfkalnehomgccaa.Fx
