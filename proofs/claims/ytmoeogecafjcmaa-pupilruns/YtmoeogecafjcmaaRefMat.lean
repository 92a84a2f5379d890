/- What coachref's In, Right, Matrix and SameMatrix return: the plain answers of the text Mats. -/
import Derived.Test.YtmoeogecafjcmaaRefVec
import Derived.Test.YtmoeogecafjcmaaVecE
namespace Go.Proofs.Ytmoeogecafjcmaa.Fx
open Go.RowKit

def inB (n lo hi : Int) : Bool := decide (lo ≤ n) && decide (n ≤ hi)

theorem rin_calls (n lo hi : Int) (w : World) : Calls Try.prog 25 #[.int .i64 n, .int .i64 lo, .int .i64 hi] w fun e w' => e = .returned (.bool (inB n lo hi)) ∧ w' = w := by
  unfold inB
  by_cases h1 : lo ≤ n
  · by_cases h2 : n ≤ hi
    · go_enter Try.func25, Try.ntmps25
      go_wp2
      go_ret
      exact ⟨ret_bool (by simp [h1, h2]), rfl⟩
    · go_enter Try.func25, Try.ntmps25
      go_wp2
      go_ret
      exact ⟨ret_bool (by simp; omega), rfl⟩
  · go_enter Try.func25, Try.ntmps25
    go_wp2
    go_ret
    exact ⟨ret_bool (by simp; omega), rfl⟩

/-- Whether the first k numbers are such as may be. -/
def okTo (xs : List Int) (k : Nat) (ok : Bool) : Prop := ok = true ↔ ∀ j, j < k → xs.getD j 0 = clampI (xs.getD j 0)
theorem okTo_zero (xs : List Int) : okTo xs 0 true := ⟨fun _ j hj => by omega, fun _ => rfl⟩
theorem okTo_yes {xs : List Int} {k : Nat} {x : Int} (h : okTo xs k true) (hx : xs.getD k 0 = x) (hc : clampI x = x) : okTo xs (k + 1) true :=
  ⟨fun _ j hj => by
    by_cases e : j = k
    · subst e; rw [hx, hc]
    · exact h.1 rfl j (by omega), fun _ => rfl⟩
theorem okTo_no {xs : List Int} {k : Nat} {x : Int} (hx : xs.getD k 0 = x) (hc : ¬ clampI x = x) : okTo xs (k + 1) false :=
  ⟨fun h => (by cases h), fun h => absurd (h k (by omega)) (by rw [hx]; exact fun e => hc e.symm)⟩
theorem okTo_false {xs : List Int} {k : Nat} (h : okTo xs k false) : okTo xs (k + 1) false :=
  ⟨fun h => (by cases h), fun g => h.2 (fun j hj => g j (by omega))⟩
theorem okTo_end {xs : List Int} {k : Nat} {ok : Bool} (h : okTo xs k ok) (hk : xs.length = k) : ok = rightB xs := by
  cases ok with
  | true => exact (rightB_true (fun j hj => h.1 rfl j (by omega))).symm
  | false =>
    cases e : rightB xs with
    | false => rfl
    | true => exact h.2 (fun j _ => rightB_get e j)

set_option maxHeartbeats 800000 in
theorem rright_calls (a : Option Addr) (la ca : Nat) (xs : List Int) (w : World) (ha : Lst w a la ca xs) (h63 : la ≤ 9223372036854775807) :
    Calls Try.prog 36 #[.slice a la ca] w fun e w' => e = .returned (.bool (rightB xs)) ∧ ∃ k, w' = w.drewN k := by
  go_enter Try.func36, Try.ntmps36
  go_wp2
  go_loopw [3, 4] (fun s i wr => ∃ (k n : Nat) (ok : Bool), k ≤ la ∧ i = .int .i64 k ∧ s = .bool ok ∧ okTo xs k ok ∧ wr = w.drewN n) (fun _ i _ => la - (intOf i).toNat)
  case atStart => exact ⟨0, 0, true, Nat.zero_le _, rfl, rfl, okTo_zero _, rfl⟩
  case round =>
    obtain ⟨k, n, ok, hk, rfl, rfl, hok, hw⟩ := hrel
    have ha' : Lst wr a la ca xs := hw ▸ ha.drewN n
    have HW : Hid (wr = w.drewN n) := hw
    have hlen := ha.len
    clear hw ha
    by_cases hlt : k < la
    · obtain ⟨b1, o1, x, rfl, _, c1, HX⟩ := ha'.at1 hlt
      cases ok with
      | true =>
        by_cases hx : clampI x = x
        · have hx' : (clampI x == x) = true := by simpa using hx
          have HC : Hid (clampI x = x) := hx
          clear hx
          go_wp2
          go_quiet ((go_at_call 11; exact Calls.quiet_of_same (rclamp_calls _ _)))
          go_wp2
          go_roundw
          case rel => exact ⟨k + 1, _, true, by omega, by go_num, rfl, okTo_yes hok HX.out HC.out, by rw [HW.out, World.drewN_drewN]⟩
          case measure => simp [intOf]; omega
        · have hx' : (clampI x == x) = false := by simpa using hx
          go_wp2
          go_quiet ((go_at_call 11; exact Calls.quiet_of_same (rclamp_calls _ _)))
          go_wp2
          go_roundw
          case rel => exact ⟨k + 1, _, false, by omega, by go_num, rfl, okTo_no HX.out hx, by rw [HW.out, World.drewN_drewN]⟩
          case measure => simp [intOf]; omega
      | false =>
        go_wp2
        go_quiet (fail)
        go_wp2
        go_roundw
        case rel => exact ⟨k + 1, _, false, by omega, by go_num, rfl, okTo_false hok, by rw [HW.out, World.drewN_drewN]⟩
        case measure => simp [intOf]; omega
    · go_wp2
      go_ret
      obtain rfl : k = la := by omega
      exact ⟨ret_bool (okTo_end hok hlen), _, HW.out⟩

set_option maxHeartbeats 800000 in
theorem rmat_calls (r c : Int) (a : Option Addr) (len cap : Nat) (xs : List Int) (w : World) (ha : Lst w a len cap xs) :
    Calls Try.prog 23 #[.agg #[.int .i64 r, .int .i64 c, .slice a len cap]] w fun e w' => e = .returned (.int .i64 (chkI r c len xs)) ∧ Below w.heap.size w w' := by
  have hal := (Below.refl w.heap.size w).alloc (Nat.le_refl _) (.cells #[.int .i64 r, .int .i64 c, .slice a len cap] 37)
  cases hr : sideB r with
  | false =>
    have hr' : inB r 1 4 = false := hr
    go_enter Try.func23, Try.ntmps23
    go_wp2_with (go_at_call 25; refine (rin_calls _ _ _ _).mono ?_; rintro e w' ⟨rfl, rfl⟩)
    go_ret
    exact ⟨ret_int (by simp [chkI, hr]), hal⟩
  | true =>
    have hr' : inB r 1 4 = true := hr
    cases hc : sideB c with
    | false =>
      have hc' : inB c 1 4 = false := hc
      go_enter Try.func23, Try.ntmps23
      go_wp2_with (go_at_call 25; refine (rin_calls _ _ _ _).mono ?_; rintro e w' ⟨rfl, rfl⟩)
      go_ret
      exact ⟨ret_int (by simp [chkI, hc]), hal⟩
    | true =>
      have hc' : inB c 1 4 = true := hc
      have br := sideB_true hr
      have bc := sideB_true hc
      have bp := prod_side br.1 br.2 bc.1 bc.2
      by_cases hl : (len : Int) = r * c
      · have ht : ((len : Int) != r * c) = false := by rw [bne_eq_false_iff_eq]; exact hl
        have HL : Hid ((len : Int) = r * c) := hl
        have hlen : len ≤ 16 := by omega
        clear hl
        have ha' := ha.below hal (Nat.le_refl _)
        clear ha
        cases hx : rightB xs with
        | true =>
          go_enter Try.func23, Try.ntmps23
          go_wp2_with (first | (go_at_call 25; refine (rin_calls _ _ _ _).mono ?_; rintro e w' ⟨rfl, rfl⟩) | (go_at_call 36; refine (rright_calls _ _ _ xs _ ha' (by omega)).mono ?_; rintro e w' ⟨rfl, nd, rfl⟩))
          go_ret
          exact ⟨ret_int (by simp only [chkI, hr, hc, and_self, if_true, HL.out, hx]), below_drewN hal _⟩
        | false =>
          go_enter Try.func23, Try.ntmps23
          go_wp2_with (first | (go_at_call 25; refine (rin_calls _ _ _ _).mono ?_; rintro e w' ⟨rfl, rfl⟩) | (go_at_call 36; refine (rright_calls _ _ _ xs _ ha' (by omega)).mono ?_; rintro e w' ⟨rfl, nd, rfl⟩))
          go_ret
          exact ⟨ret_int (by simp only [chkI, hr, hc, and_self, if_true, hx, Bool.false_eq_true, and_false, if_false]), below_drewN hal _⟩
      · have ht : ((len : Int) != r * c) = true := by rw [bne_iff_ne]; exact hl
        go_enter Try.func23, Try.ntmps23
        go_wp2_with (go_at_call 25; refine (rin_calls _ _ _ _).mono ?_; rintro e w' ⟨rfl, rfl⟩)
        go_ret
        exact ⟨ret_int (by simp only [chkI, hr, hc, and_self, if_true, hl, false_and, if_false]), hal⟩

theorem rsame_calls (r c : Int) (a b : Option Addr) (la ca cb : Nat) (xs : List Int) (w : World) (ha : Lst w a la ca xs) (hb : Lst w b la cb xs) (h63 : la ≤ 1000000000000000000) :
    Calls Try.prog 30 #[.agg #[.int .i64 r, .int .i64 c, .slice a la ca], .agg #[.int .i64 r, .int .i64 c, .slice b la cb]] w fun e w' => e = .returned (.bool true) ∧ Below w.heap.size w w' := by
  have hal := (Below.refl w.heap.size w).alloc (Nat.le_refl _) (.cells #[.int .i64 r, .int .i64 c, .slice a la ca] 37)
  have hal2 := hal.alloc hal.size (.cells #[.int .i64 r, .int .i64 c, .slice b la cb] 37)
  have ha' := ha.below hal2 (Nat.le_refl _)
  have hb' := hb.below hal2 (Nat.le_refl _)
  clear ha hb hal
  have e1 : (r == r) = true := by simp
  have e2 : (c == c) = true := by simp
  go_enter Try.func30, Try.ntmps30
  go_wp2_with (go_at_call 22; refine (eq_calls _ _ _ _ _ _ xs xs _ ha' hb' h63).mono ?_; rintro e w' ⟨rfl, nd, rfl⟩; rw [decide_eq_true rfl])
  go_ret
  exact ⟨rfl, below_drewN hal2 _⟩
end Go.Proofs.Ytmoeogecafjcmaa.Fx
