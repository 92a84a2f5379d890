/- What the functions of package coachref that speak of fixed points return, called with whatever integers: the same plain numbers as those of package fix. -/
import Derived.Test.YtfcnnolpcnacoaaGreatDoorJ03
import Derived.Test.YtfcnnolpcnacoaaGreatDoorJ00
import Derived.Test.YtfcnnolpcnacoaaGreatDoorJ13
namespace Go.Proofs.YtfcnnolpcnacoaaGreatDoor.Fx
open Go.RowKit

theorem rclamp_calls (n : Int) (w : World) : Calls Tryz.prog 29 #[.int .i64 n] w fun e w' => e = .returned (.int .i64 (clampI n)) ∧ w' = w := by
  by_cases h1 : 2147483647 < n
  · go_enter Tryz.func29, Tryz.ntmps29
    go_wp2
    go_ret
    exact ⟨ret_int (by unfold clampI; rw [if_neg (by omega), if_pos (by omega)]), rfl⟩
  · by_cases h0 : n < -2147483647
    · go_enter Tryz.func29, Tryz.ntmps29
      go_wp2
      go_ret
      exact ⟨ret_int (by unfold clampI; rw [if_pos (by omega)]), rfl⟩
    · go_enter Tryz.func29, Tryz.ntmps29
      go_wp2
      go_ret
      exact ⟨ret_int (by unfold clampI; rw [if_neg (by omega), if_neg (by omega)]), rfl⟩

theorem sub_as_add (a b : Int) : addI a (-clampI b) = subI a b := by
  unfold addI subI; rw [clampI_neg, clampI_idem]; congr 1

theorem ediv_facts (n d : Int) (hn : 0 ≤ n) (hd : 0 < d) : 0 ≤ n / d ∧ n / d ≤ n ∧ n / d * d = n - n % d ∧ (n / d + 1) * d = n - n % d + d ∧ 0 ≤ n % d ∧ n % d < d := by
  have e := Int.mul_ediv_add_emod n d
  have c : n / d * d = d * (n / d) := Int.mul_comm _ _
  refine ⟨Int.ediv_nonneg hn (by omega), Int.ediv_le_self _ hn, by omega, ?_, Int.emod_nonneg n (by omega), Int.emod_lt_of_pos n hd⟩
  rw [Int.add_mul]; omega

end Go.Proofs.YtfcnnolpcnacoaaGreatDoor.Fx

/- What coachref's In and Right return, whatever is handed in. -/
namespace Go.Proofs.YtfcnnolpcnacoaaGreatDoor.Fx
open Go.RowKit

theorem rin_calls (n lo hi : Int) (w : World) : Calls Tryz.prog 28 #[.int .i64 n, .int .i64 lo, .int .i64 hi] w fun e w' => e = .returned (.bool (inB n lo hi)) ∧ w' = w := by
  unfold inB
  by_cases h1 : lo ≤ n
  · by_cases h2 : n ≤ hi
    · go_enter Tryz.func28, Tryz.ntmps28
      go_wp2
      go_ret
      exact ⟨ret_bool (by simp [h1, h2]), rfl⟩
    · go_enter Tryz.func28, Tryz.ntmps28
      go_wp2
      go_ret
      exact ⟨ret_bool (by simp; omega), rfl⟩
  · go_enter Tryz.func28, Tryz.ntmps28
    go_wp2
    go_ret
    exact ⟨ret_bool (by simp; omega), rfl⟩

/-- Whether the first k numbers are such as may be. -/
def okTo (xs : List Int) (k : Nat) (ok : Bool) : Prop := ok = true ↔ ∀ j, j < k → xs.getD j 0 = clampI (xs.getD j 0)
theorem okTo_zero (xs : List Int) : okTo xs 0 true := ⟨fun _ j hj => by omega, fun _ => rfl⟩
theorem okTo_yes {xs : List Int} {k : Nat} {x : Int} (h : okTo xs k true) (hx : xs.getD k 0 = x) (hc : clampI x = x) : okTo xs (k + 1) true :=
  ⟨fun _ j hj => by
    by_cases e : j = k
    · subst e; rw [hx, hc]
    · exact h.1 rfl j (by omega), fun _ => rfl⟩
theorem okTo_no {xs : List Int} {k : Nat} {x : Int} (hx : xs.getD k 0 = x) (hc : ¬ clampI x = x) : okTo xs (k + 1) false :=
  ⟨fun h => (by cases h), fun h => absurd (h k (by omega)) (by rw [hx]; exact fun e => hc e.symm)⟩
theorem okTo_false {xs : List Int} {k : Nat} (h : okTo xs k false) : okTo xs (k + 1) false :=
  ⟨fun h => (by cases h), fun g => h.2 (fun j hj => g j (by omega))⟩
theorem okTo_end {xs : List Int} {k : Nat} {ok : Bool} (h : okTo xs k ok) (hk : xs.length = k) : ok = rightB xs := by
  cases ok with
  | true => exact (rightB_true (fun j hj => h.1 rfl j (by omega))).symm
  | false =>
    cases e : rightB xs with
    | false => rfl
    | true => exact h.2 (fun j _ => rightB_get e j)

set_option maxHeartbeats 800000 in
theorem rright_calls (a : Option Addr) (la ca : Nat) (xs : List Int) (w : World) (ha : Lst w a la ca xs) (h63 : la ≤ 9223372036854775807) :
    Calls Tryz.prog 18 #[.slice a la ca] w fun e w' => e = .returned (.bool (rightB xs)) ∧ ∃ k, w' = w.drewN k := by
  go_enter Tryz.func18, Tryz.ntmps18
  go_wp2
  go_loopw [3, 4] (fun s i wr => ∃ (k n : Nat) (ok : Bool), k ≤ la ∧ i = .int .i64 k ∧ s = .bool ok ∧ okTo xs k ok ∧ wr = w.drewN n) (fun _ i _ => la - (intOf i).toNat)
  case atStart => exact ⟨0, 0, true, Nat.zero_le _, rfl, rfl, okTo_zero _, rfl⟩
  case round =>
    obtain ⟨k, n, ok, hk, rfl, rfl, hok, hw⟩ := hrel
    have ha' : Lst wr a la ca xs := hw ▸ ha.drewN n
    have HW : Hid (wr = w.drewN n) := hw
    have hlen := ha.len
    clear hw ha
    by_cases hlt : k < la
    · obtain ⟨b1, o1, x, rfl, _, c1, HX⟩ := ha'.at1 hlt
      cases ok with
      | true =>
        by_cases hx : clampI x = x
        · have hx' : (clampI x == x) = true := by simpa using hx
          have HC : Hid (clampI x = x) := hx
          clear hx
          go_wp2
          go_quiet ((go_at_call 29; exact Calls.quiet_of_same (rclamp_calls _ _)))
          go_wp2
          go_roundw
          case rel => exact ⟨k + 1, _, true, by omega, by go_num, rfl, okTo_yes hok HX.out HC.out, by rw [HW.out, World.drewN_drewN]⟩
          case measure => simp [intOf]; omega
        · have hx' : (clampI x == x) = false := by simpa using hx
          go_wp2
          go_quiet ((go_at_call 29; exact Calls.quiet_of_same (rclamp_calls _ _)))
          go_wp2
          go_roundw
          case rel => exact ⟨k + 1, _, false, by omega, by go_num, rfl, okTo_no HX.out hx, by rw [HW.out, World.drewN_drewN]⟩
          case measure => simp [intOf]; omega
      | false =>
        go_wp2
        go_quiet (fail)
        go_wp2
        go_roundw
        case rel => exact ⟨k + 1, _, false, by omega, by go_num, rfl, okTo_false hok, by rw [HW.out, World.drewN_drewN]⟩
        case measure => simp [intOf]; omega
    · go_wp2
      go_ret
      obtain rfl : k = la := by omega
      exact ⟨ret_bool (okTo_end hok hlen), _, HW.out⟩

end Go.Proofs.YtfcnnolpcnacoaaGreatDoor.Fx

/- What coachref's Config and Rate return. -/
namespace Go.Proofs.YtfcnnolpcnacoaaGreatDoor.Fx
open Go.RowKit

-- WALK
set_option maxHeartbeats 3200000 in
theorem rconfig_calls (c : Cfg) (w : World) : Calls Tryz.prog 17 #[c.val] w fun e w' => e = .returned (.int .i64 (cfgI c)) ∧ Below w.heap.size w w' := by
  have hal := (Below.refl w.heap.size w).alloc (Nat.le_refl _) (.cells c.cells 24)
  obtain ⟨i, h, o, seed, batch, steps, rate, decay, how, keep, clip⟩ := c
  simp only [Cfg.val, Cfg.cells] at *
  unfold cfgI cfgB
  dsimp only
  obtain ⟨x1, X1⟩ : ∃ x, Hid (inB i 1 4 = x) := ⟨_, rfl⟩
  obtain ⟨x2, X2⟩ : ∃ x, Hid (inB h 1 4 = x) := ⟨_, rfl⟩
  obtain ⟨x3, X3⟩ : ∃ x, Hid (inB o 1 4 = x) := ⟨_, rfl⟩
  obtain ⟨x4, X4⟩ : ∃ x, Hid (inB batch 1 8 = x) := ⟨_, rfl⟩
  obtain ⟨x5, X5⟩ : ∃ x, Hid (inB steps 1 40 = x) := ⟨_, rfl⟩
  obtain ⟨x6, X6⟩ : ∃ x, Hid (inB rate 0 2147483647 = x) := ⟨_, rfl⟩
  obtain ⟨x7, X7⟩ : ∃ x, Hid (inB decay 0 1 = x) := ⟨_, rfl⟩
  obtain ⟨x8, X8⟩ : ∃ x, Hid (inB how 0 1 = x) := ⟨_, rfl⟩
  obtain ⟨x9, X9⟩ : ∃ x, Hid (inB keep 0 65536 = x) := ⟨_, rfl⟩
  obtain ⟨x10, X10⟩ : ∃ x, Hid (inB clip 0 2147483647 = x) := ⟨_, rfl⟩
  rw [X1.out, X2.out, X3.out, X4.out, X5.out, X6.out, X7.out, X8.out, X9.out, X10.out]
  obtain ⟨E, HE⟩ : ∃ E : Int, Hid ((if (x1 && x2 && x3 && x4 && x5 && x6 && x7 && x8 && x9 && x10) = true then 0 else 1) = E) := ⟨_, rfl⟩
  rw [HE.out]
  go_enter Tryz.func17, Tryz.ntmps17
  go_wp2_with (go_at_call 28; refine (rin_calls _ _ _ _).mono ?_; rintro e w' ⟨rfl, hw'⟩; replace hw' := hw'.symm; subst hw'; first | rw [X1.out] | rw [X2.out] | rw [X3.out] | rw [X4.out] | rw [X5.out] | rw [X6.out] | rw [X7.out] | rw [X8.out] | rw [X9.out] | rw [X10.out])
  all_goals go_ret
  all_goals first | exact ⟨ret_int ((bad1 (by first | with_reducible assumption | exact not_t (by with_reducible assumption) | exact no_t (by with_reducible assumption))).trans HE.out), hal⟩ | exact ⟨ret_int ((bad2 (by first | with_reducible assumption | exact not_t (by with_reducible assumption) | exact no_t (by with_reducible assumption))).trans HE.out), hal⟩ | exact ⟨ret_int ((bad3 (by first | with_reducible assumption | exact not_t (by with_reducible assumption) | exact no_t (by with_reducible assumption))).trans HE.out), hal⟩ | exact ⟨ret_int ((bad4 (by first | with_reducible assumption | exact not_t (by with_reducible assumption) | exact no_t (by with_reducible assumption))).trans HE.out), hal⟩ | exact ⟨ret_int ((bad5 (by first | with_reducible assumption | exact not_t (by with_reducible assumption) | exact no_t (by with_reducible assumption))).trans HE.out), hal⟩ | exact ⟨ret_int ((bad6 (by first | with_reducible assumption | exact not_t (by with_reducible assumption) | exact no_t (by with_reducible assumption))).trans HE.out), hal⟩ | exact ⟨ret_int ((bad7 (by first | with_reducible assumption | exact not_t (by with_reducible assumption) | exact no_t (by with_reducible assumption))).trans HE.out), hal⟩ | exact ⟨ret_int ((bad8 (by first | with_reducible assumption | exact not_t (by with_reducible assumption) | exact no_t (by with_reducible assumption))).trans HE.out), hal⟩ | exact ⟨ret_int ((bad9 (by first | with_reducible assumption | exact not_t (by with_reducible assumption) | exact no_t (by with_reducible assumption))).trans HE.out), hal⟩ | exact ⟨ret_int ((bad10 (by first | with_reducible assumption | exact not_t (by with_reducible assumption) | exact no_t (by with_reducible assumption))).trans HE.out), hal⟩ | exact ⟨ret_int ((bad0 (by first | with_reducible assumption | exact not_f (by with_reducible assumption)) (by first | with_reducible assumption | exact not_f (by with_reducible assumption)) (by first | with_reducible assumption | exact not_f (by with_reducible assumption)) (by first | with_reducible assumption | exact not_f (by with_reducible assumption)) (by first | with_reducible assumption | exact not_f (by with_reducible assumption)) (by first | with_reducible assumption | exact not_f (by with_reducible assumption)) (by first | with_reducible assumption | exact not_f (by with_reducible assumption)) (by first | with_reducible assumption | exact not_f (by with_reducible assumption)) (by first | with_reducible assumption | exact not_f (by with_reducible assumption)) (by first | with_reducible assumption | exact not_f (by with_reducible assumption))).trans HE.out), hal⟩
-- END WALK

end Go.Proofs.YtfcnnolpcnacoaaGreatDoor.Fx
