/- What coachref's In and Right return, whatever is handed in. -/
import Derived.Test.YtllgpjhbhndlhabRefFix
import Derived.Test.YtllgpjhbhndlhabMats
namespace Go.Proofs.Ytllgpjhbhndlhab.Fx
open Go.RowKit

theorem rin_calls (n lo hi : Int) (w : World) : Calls Try.prog 8 #[.int .i64 n, .int .i64 lo, .int .i64 hi] w fun e w' => e = .returned (.bool (inB n lo hi)) ∧ w' = w := by
  unfold inB
  by_cases h1 : lo ≤ n
  · by_cases h2 : n ≤ hi
    · go_enter Try.func8, Try.ntmps8
      go_wp2
      go_ret
      exact ⟨ret_bool (by simp [h1, h2]), rfl⟩
    · go_enter Try.func8, Try.ntmps8
      go_wp2
      go_ret
      exact ⟨ret_bool (by simp; omega), rfl⟩
  · go_enter Try.func8, Try.ntmps8
    go_wp2
    go_ret
    exact ⟨ret_bool (by simp; omega), rfl⟩

/-- Whether the first k numbers are such as may be. -/
def okTo (xs : List Int) (k : Nat) (ok : Bool) : Prop := ok = true ↔ ∀ j, j < k → xs.getD j 0 = clampI (xs.getD j 0)
theorem okTo_zero (xs : List Int) : okTo xs 0 true := ⟨fun _ j hj => by omega, fun _ => rfl⟩
theorem okTo_yes {xs : List Int} {k : Nat} {x : Int} (h : okTo xs k true) (hx : xs.getD k 0 = x) (hc : clampI x = x) : okTo xs (k + 1) true :=
  ⟨fun _ j hj => by
    by_cases e : j = k
    · subst e; rw [hx, hc]
    · exact h.1 rfl j (by omega), fun _ => rfl⟩
theorem okTo_no {xs : List Int} {k : Nat} {x : Int} (hx : xs.getD k 0 = x) (hc : ¬ clampI x = x) : okTo xs (k + 1) false :=
  ⟨fun h => (by cases h), fun h => absurd (h k (by omega)) (by rw [hx]; exact fun e => hc e.symm)⟩
theorem okTo_false {xs : List Int} {k : Nat} (h : okTo xs k false) : okTo xs (k + 1) false :=
  ⟨fun h => (by cases h), fun g => h.2 (fun j hj => g j (by omega))⟩
theorem okTo_end {xs : List Int} {k : Nat} {ok : Bool} (h : okTo xs k ok) (hk : xs.length = k) : ok = rightB xs := by
  cases ok with
  | true => exact (rightB_true (fun j hj => h.1 rfl j (by omega))).symm
  | false =>
    cases e : rightB xs with
    | false => rfl
    | true => exact h.2 (fun j _ => rightB_get e j)

set_option maxHeartbeats 800000 in
theorem rright_calls (a : Option Addr) (la ca : Nat) (xs : List Int) (w : World) (ha : Lst w a la ca xs) (h63 : la ≤ 9223372036854775807) :
    Calls Try.prog 50 #[.slice a la ca] w fun e w' => e = .returned (.bool (rightB xs)) ∧ ∃ k, w' = w.drewN k := by
  go_enter Try.func50, Try.ntmps50
  go_wp2
  go_loopw [3, 4] (fun s i wr => ∃ (k n : Nat) (ok : Bool), k ≤ la ∧ i = .int .i64 k ∧ s = .bool ok ∧ okTo xs k ok ∧ wr = w.drewN n) (fun _ i _ => la - (intOf i).toNat)
  case atStart => exact ⟨0, 0, true, Nat.zero_le _, rfl, rfl, okTo_zero _, rfl⟩
  case round =>
    obtain ⟨k, n, ok, hk, rfl, rfl, hok, hw⟩ := hrel
    have ha' : Lst wr a la ca xs := hw ▸ ha.drewN n
    have HW : Hid (wr = w.drewN n) := hw
    have hlen := ha.len
    clear hw ha
    by_cases hlt : k < la
    · obtain ⟨b1, o1, x, rfl, _, c1, HX⟩ := ha'.at1 hlt
      cases ok with
      | true =>
        by_cases hx : clampI x = x
        · have hx' : (clampI x == x) = true := by simpa using hx
          have HC : Hid (clampI x = x) := hx
          clear hx
          go_wp2
          go_quiet ((go_at_call 51; exact Calls.quiet_of_same (rclamp_calls _ _)))
          go_wp2
          go_roundw
          case rel => exact ⟨k + 1, _, true, by omega, by go_num, rfl, okTo_yes hok HX.out HC.out, by rw [HW.out, World.drewN_drewN]⟩
          case measure => simp [intOf]; omega
        · have hx' : (clampI x == x) = false := by simpa using hx
          go_wp2
          go_quiet ((go_at_call 51; exact Calls.quiet_of_same (rclamp_calls _ _)))
          go_wp2
          go_roundw
          case rel => exact ⟨k + 1, _, false, by omega, by go_num, rfl, okTo_no HX.out hx, by rw [HW.out, World.drewN_drewN]⟩
          case measure => simp [intOf]; omega
      | false =>
        go_wp2
        go_quiet (fail)
        go_wp2
        go_roundw
        case rel => exact ⟨k + 1, _, false, by omega, by go_num, rfl, okTo_false hok, by rw [HW.out, World.drewN_drewN]⟩
        case measure => simp [intOf]; omega
    · go_wp2
      go_ret
      obtain rfl : k = la := by omega
      exact ⟨ret_bool (okTo_end hok hlen), _, HW.out⟩

end Go.Proofs.Ytllgpjhbhndlhab.Fx
