/- What each function of package fix returns, called with whatever integers: the plain numbers of the text Fix; the world is as it was, but for what was drawn of the open order. -/
import Derived.Test.YtnlcheebdkjpbabGreatRows
import Derived.Test.YtnlcheebdkjpbabGreatJ00
import Derived.WalkKit
import Derived.Deep.QuietTactic
import Derived.BigQuiet
import Derived.BigRegion
import Derived.Deep.RegionWith
namespace Go.Proofs.YtnlcheebdkjpbabGreat.Fx
open Go.RowKit

theorem ret_int {k : IntKind} {a b : Int} (h : a = b) : Ending.returned (.int k a) = .returned (.int k b) := by rw [h]

theorem ret_bool {a b : Bool} (h : a = b) : Ending.returned (.bool a) = .returned (.bool b) := by rw [h]
theorem grown_drewN {W w : World} (h : Grown W w) (n : Nat) : Grown W (w.drewN n) := h

theorem narrow_calls (n : Int) (w : World) : Calls Tryz.prog 81 #[.int .i64 n] w fun e w' => e = .returned (.int .i64 (clampI n)) ∧ w' = w := by
  by_cases h0 : n < -2147483647
  · go_enter Tryz.func81, Tryz.ntmps81
    go_wp2
    go_ret
    exact ⟨ret_int (by unfold clampI; rw [if_pos (by omega)]), rfl⟩
  · by_cases h1 : 2147483647 < n
    · go_enter Tryz.func81, Tryz.ntmps81
      go_wp2
      go_ret
      exact ⟨ret_int (by unfold clampI; rw [if_neg (by omega), if_pos h1]), rfl⟩
    · go_enter Tryz.func81, Tryz.ntmps81
      go_wp2
      go_ret
      exact ⟨ret_int (by unfold clampI; rw [if_neg (by omega), if_neg (by omega)]), rfl⟩

theorem clamp_calls (n : Int) (w : World) : Calls Tryz.prog 66 #[.int .i64 n] w fun e w' => e = .returned (.int .i64 (clampI n)) ∧ w' = w := by
  go_enter Tryz.func66, Tryz.ntmps66
  go_wp2_with (go_at_call 81; refine (narrow_calls _ _).mono ?_; rintro e w' ⟨rfl, rfl⟩)
  go_ret
  exact ⟨rfl, rfl⟩

theorem wide_calls (n : Int) (w : World) : Calls Tryz.prog 107 #[.int .i64 n] w fun e w' => e = .returned (.int .i64 (clampI n)) ∧ w' = w := by
  go_enter Tryz.func107, Tryz.ntmps107
  go_wp2_with (go_at_call 66; refine (clamp_calls _ _).mono ?_; rintro e w' ⟨rfl, rfl⟩)
  go_ret
  exact ⟨rfl, rfl⟩

theorem add_calls (a b : Int) (w : World) : Calls Tryz.prog 119 #[.int .i64 a, .int .i64 b] w fun e w' => e = .returned (.int .i64 (addI a b)) ∧ w' = w := by
  have ha := clampI_bd a
  have hb := clampI_bd b
  go_enter Tryz.func119, Tryz.ntmps119
  go_wp2_with (first | (go_at_call 107; refine (wide_calls _ _).mono ?_; rintro e w' ⟨rfl, rfl⟩) | (go_at_call 81; refine (narrow_calls _ _).mono ?_; rintro e w' ⟨rfl, rfl⟩))
  go_ret
  exact ⟨rfl, rfl⟩

theorem sub_calls (a b : Int) (w : World) : Calls Tryz.prog 120 #[.int .i64 a, .int .i64 b] w fun e w' => e = .returned (.int .i64 (subI a b)) ∧ w' = w := by
  have ha := clampI_bd a
  have hb := clampI_bd b
  go_enter Tryz.func120, Tryz.ntmps120
  go_wp2_with (first | (go_at_call 107; refine (wide_calls _ _).mono ?_; rintro e w' ⟨rfl, rfl⟩) | (go_at_call 81; refine (narrow_calls _ _).mono ?_; rintro e w' ⟨rfl, rfl⟩))
  go_ret
  exact ⟨rfl, rfl⟩

theorem quo_pos (n d : Int) (w : World) (hn0 : 0 ≤ n) (hn1 : n ≤ 4611686018427387904) (hd0 : 0 < d) (hd1 : d ≤ 2147483648) :
    Calls Tryz.prog 106 #[.int .i64 n, .int .i64 d] w fun e w' => e = .returned (.int .i64 (rnd n d)) ∧ ∃ k, w' = w.drewN k := by
  have l := Int.emod_nonneg n (b := d) (by omega)
  have u := Int.emod_lt_of_pos n hd0
  have q0 : 0 ≤ n / d := Int.ediv_nonneg hn0 (by omega)
  have q1 : n / d ≤ n := Int.ediv_le_self _ hn0
  go_enter Tryz.func106, Tryz.ntmps106
  go_wp2
  go_region
  all_goals
    go_wp2
  all_goals
    go_ret
    refine ⟨ret_int (rnd_of rfl rfl ?_ ?_), 1, rfl⟩ <;> intro h <;> (try simp only [bne_iff_ne, bne_eq_false_iff_eq] at *) <;> omega

theorem quo_neg (n d : Int) (w : World) (hn0 : n < 0) (hn1 : -4611686018427387904 ≤ n) (hd0 : 0 < d) (hd1 : d ≤ 2147483648) :
    Calls Tryz.prog 106 #[.int .i64 n, .int .i64 d] w fun e w' => e = .returned (.int .i64 (rnd n d)) ∧ ∃ k, w' = w.drewN k := by
  have t := tmod_bd n d hd0
  have q0 := tdiv_bd n d 4611686018427387904 hn1 (by omega)
  by_cases hr : n.tmod d < 0
  · go_enter Tryz.func106, Tryz.ntmps106
    go_wp2
    go_region
    all_goals
      go_wp2
    all_goals
      go_ret
      have f := (floor_of (n := n) hd0).1 hr
      refine ⟨ret_int (rnd_of f.1 f.2 ?_ ?_), 1, rfl⟩ <;> intro h <;> (try simp only [bne_iff_ne, bne_eq_false_iff_eq, odd_tmod, ne_eq] at *) <;> omega
  · go_enter Tryz.func106, Tryz.ntmps106
    go_wp2
    go_region
    all_goals
      go_wp2
    all_goals
      go_ret
      have f := (floor_of (n := n) hd0).2 (by omega)
      refine ⟨ret_int (rnd_of f.1 f.2 ?_ ?_), 1, rfl⟩ <;> intro h <;> (try simp only [bne_iff_ne, bne_eq_false_iff_eq, odd_tmod, ne_eq] at *) <;> omega

theorem quo_dneg_pos (n d : Int) (w : World) (hn0 : n ≤ 0) (hn1 : -4611686018427387904 ≤ n) (hd0 : d < 0) (hd1 : -2147483648 ≤ d) :
    Calls Tryz.prog 106 #[.int .i64 n, .int .i64 d] w fun e w' => e = .returned (.int .i64 (rnd (-n) (-d))) ∧ ∃ k, w' = w.drewN k := by
  have t := tmod_dneg n d hd0
  have q0 := tdiv_bd n d 4611686018427387904 hn1 (by omega)
  have hs := (tmod_sign n d).1 hn0
  go_enter Tryz.func106, Tryz.ntmps106
  go_wp2
  go_region
  all_goals
    go_wp2
  all_goals
    go_ret
    have f := (floor_dneg (n := n) hd0).2 (by omega)
    refine ⟨ret_int (rnd_of f.1 f.2 ?_ ?_), 1, rfl⟩ <;> intro h <;> (try simp only [bne_iff_ne, bne_eq_false_iff_eq, odd_tmod, ne_eq] at *) <;> omega

theorem quo_dneg_neg (n d : Int) (w : World) (hn0 : 0 < n) (hn1 : n ≤ 4611686018427387904) (hd0 : d < 0) (hd1 : -2147483648 ≤ d) :
    Calls Tryz.prog 106 #[.int .i64 n, .int .i64 d] w fun e w' => e = .returned (.int .i64 (rnd (-n) (-d))) ∧ ∃ k, w' = w.drewN k := by
  have t := tmod_dneg n d hd0
  have q0 := tdiv_bd n d 4611686018427387904 (by omega) hn1
  have hs := ((tmod_sign n d).2 (by omega)).2
  have he := ((tmod_sign n d).2 (by omega)).1
  rw [he] at t hs
  clear he
  by_cases hr : -(n % d) < 0
  · go_enter Tryz.func106, Tryz.ntmps106
    go_wp2
    go_region
    all_goals
      go_wp2
    all_goals
      go_ret
      all_goals
      have f := (floor_dneg (n := n) hd0).1
      rw [((tmod_sign n d).2 (by omega)).1] at f
      have f := f (by omega)
      refine ⟨ret_int (rnd_of f.1 f.2 ?_ ?_), 1, rfl⟩ <;> intro h <;> (try simp only [bne_iff_ne, bne_eq_false_iff_eq, odd_tmod, ne_eq] at *) <;> omega
  · go_enter Tryz.func106, Tryz.ntmps106
    go_wp2
    go_region
    all_goals
      go_wp2
    all_goals
      go_ret
      all_goals
      have f := (floor_dneg (n := n) hd0).2
      rw [((tmod_sign n d).2 (by omega)).1] at f
      have f := f (by omega)
      refine ⟨ret_int (rnd_of f.1 f.2 ?_ ?_), 1, rfl⟩ <;> intro h <;> omega

theorem quo_calls (n d : Int) (w : World) (hn0 : -4611686018427387904 ≤ n) (hn1 : n ≤ 4611686018427387904) (hd : d ≠ 0) (hd0 : -2147483648 ≤ d) (hd1 : d ≤ 2147483648) :
    Calls Tryz.prog 106 #[.int .i64 n, .int .i64 d] w fun e w' => e = .returned (.int .i64 (quoI n d)) ∧ ∃ k, w' = w.drewN k := by
  unfold quoI
  by_cases c : d < 0
  · rw [if_pos c]
    by_cases c2 : n ≤ 0
    · exact quo_dneg_pos n d w c2 hn0 c hd0
    · exact quo_dneg_neg n d w (by omega) hn1 c hd0
  · rw [if_neg c]
    by_cases c2 : 0 ≤ n
    · exact quo_pos n d w c2 hn1 (by omega) hd1
    · exact quo_neg n d w (by omega) hn0 (by omega) hd1

theorem mul_calls (a b : Int) (w : World) : Calls Tryz.prog 92 #[.int .i64 a, .int .i64 b] w fun e w' => e = .returned (.int .i64 (mulI a b)) ∧ ∃ k, w' = w.drewN k := by
  have hp := prod_bd _ _ (clampI_bd a) (clampI_bd b)
  go_enter Tryz.func92, Tryz.ntmps92
  go_wp2_with (first | (go_at_call 107; refine (wide_calls _ _).mono ?_; rintro e w' ⟨rfl, rfl⟩) | (go_at_call 81; refine (narrow_calls _ _).mono ?_; rintro e w' ⟨rfl, rfl⟩) | (go_at_call 106; refine (quo_calls _ _ _ (by omega) (by omega) (by omega) (by omega) (by omega)).mono ?_; rintro e w' ⟨rfl, k, rfl⟩))
  go_ret
  exact ⟨rfl, _, rfl⟩

theorem div_none (a : Int) (w : World) : Calls Tryz.prog 86 #[.int .i64 a, .int .i64 0] w fun e w' => e = .returned (.tuple #[.int .i64 0, .int .i64 1]) ∧ w' = w := by
  go_enter Tryz.func86, Tryz.ntmps86
  go_wp2
  go_ret2
  exact ⟨rfl, rfl⟩

theorem div_zero (a b : Int) (hb : b = 0) (w : World) : Calls Tryz.prog 86 #[.int .i64 a, .int .i64 b] w fun e w' => e = .returned (.tuple #[.int .i64 0, .int .i64 1]) ∧ w' = w := by
  subst hb; exact div_none a w

theorem div_calls (a b : Int) (w : World) (hb : b ≠ 0) : Calls Tryz.prog 86 #[.int .i64 a, .int .i64 b] w fun e w' => e = .returned (.tuple #[.int .i64 (divI a b), .int .i64 0]) ∧ ∃ k, w' = w.drewN k := by
  have ha := clampI_bd a
  have hc := clampI_bd b
  have hz : (b == 0) = false := beq_eq_false_iff_ne.2 hb
  have hn := clampI_ne hb
  go_enter Tryz.func86, Tryz.ntmps86
  go_wp2_with (first | (go_at_call 107; refine (wide_calls _ _).mono ?_; rintro e w' ⟨rfl, rfl⟩) | (go_at_call 81; refine (narrow_calls _ _).mono ?_; rintro e w' ⟨rfl, rfl⟩) | (go_at_call 106; refine (quo_calls _ _ _ (by omega) (by omega) (by omega) (by omega) (by omega)).mono ?_; rintro e w' ⟨rfl, k, rfl⟩))
  go_ret2
  exact ⟨rfl, _, rfl⟩

end Go.Proofs.YtnlcheebdkjpbabGreat.Fx

/- What the small functions of package vec return (tooLong, checkTwo, dot, Dot), and slices.Equal over integers: whatever lists lie there. -/
namespace Go.Proofs.YtnlcheebdkjpbabGreat.Fx
open Go.RowKit

/-- What two lists that should go together are told: too long, not as long, or nothing. -/
def twoI (la lb : Nat) : Int := if 200 < la ∨ 200 < lb then 2 else if la = lb then 0 else 5
def longB (L : Nat → Nat) (n : Nat) : Bool := (List.range n).any fun i => decide (200 < L i)
theorem longB_true {L : Nat → Nat} {n k : Nat} (hk : k < n) (h : 200 < L k) : longB L n = true := by
  unfold longB; rw [List.any_eq_true]; exact ⟨k, List.mem_range.2 hk, by simpa using h⟩
theorem longB_false {L : Nat → Nat} {n : Nat} (h : ∀ j, j < n → L j ≤ 200) : longB L n = false := by
  unfold longB; rw [List.any_eq_false]; intro x hx; have := h x (List.mem_range.1 hx); simp; omega

set_option maxHeartbeats 400000 in
theorem long_calls (n : Nat) (A : Nat → Option Addr) (L C : Nat → Nat) (b : Nat) (w : World) (hn : n ≤ 1000) (hc : ∀ i, i < n → w.cell? ⟨b, i, none⟩ = some (.slice (A i) (L i) (C i))) :
    Calls Tryz.prog 108 #[.slice (some ⟨b, 0, none⟩) n n] w fun e w' => e = .returned (.bool (longB L n)) ∧ w' = w := by
  have HC : Hid (∀ i, i < n → w.cell? ⟨b, i, none⟩ = some (.slice (A i) (L i) (C i))) := hc
  clear hc
  go_enter Tryz.func108, Tryz.ntmps108
  go_wp2
  go_loop [7] (fun i => ∃ k : Nat, k ≤ n ∧ i = .int .i64 k ∧ Hid (∀ j, j < k → L j ≤ 200)) (fun i => n - (intOf i).toNat)
  case atStart => exact ⟨0, Nat.zero_le _, rfl, fun j hj => by omega⟩
  case round =>
    obtain ⟨k, hk, rfl, hb⟩ := hrel
    by_cases hlt : k < n
    · have c := HC.out k hlt
      obtain ⟨l, hl⟩ : ∃ l, L k = l := ⟨_, rfl⟩
      rw [hl] at c
      have HL : Hid (L k = l) := hl
      clear hl
      by_cases h2 : 200 < l
      · go_wp2
        go_ret
        exact ⟨ret_bool (longB_true hlt (by rw [HL.out]; exact h2)).symm, rfl⟩
      · go_wp2
        go_round
        case rel => exact ⟨k + 1, by omega, by go_num, fun j hj => by
          by_cases e : j = k
          · subst e; rw [HL.out]; omega
          · exact hb.out j (by omega)⟩
        case measure => simp [intOf]; omega
    · go_wp2
      go_ret
      exact ⟨ret_bool (longB_false (fun j hj => hb.out j (by omega))).symm, rfl⟩

theorem eq_of_getD {xs ys : List Int} {n : Nat} (hx : xs.length = n) (hy : ys.length = n) (h : ∀ j, j < n → xs.getD j 0 = ys.getD j 0) : xs = ys := by
  refine List.ext_getElem (by omega) (fun i h1 h2 => ?_)
  have := h i (by omega)
  rw [List.getD_eq_getElem?_getD, List.getD_eq_getElem?_getD, List.getElem?_eq_getElem h1, List.getElem?_eq_getElem h2] at this
  exact this

set_option maxHeartbeats 400000 in
theorem eq_calls (a b : Option Addr) (la ca lb cb : Nat) (xs ys : List Int) (w : World) (ha : Lst w a la ca xs) (hb : Lst w b lb cb ys) (h63 : la ≤ 1000000000000000000) :
    Calls Tryz.prog 17 #[.slice a la ca, .slice b lb cb] w fun e w' => e = .returned (.bool (decide (xs = ys))) ∧ ∃ k, w' = w.drewN k := by
  by_cases hl : la = lb
  · subst hl
    have hab : ((la : Int) != (la : Int)) = false := by simp
    go_enter Tryz.func17, Tryz.ntmps17
    go_wp2
    go_loopw [13] (fun i wr => ∃ k n : Nat, k ≤ la ∧ i = .int .i64 k ∧ Hid (∀ j, j < k → xs.getD j 0 = ys.getD j 0) ∧ wr = w.drewN n) (fun i _ => la - (intOf i).toNat)
    case atStart => exact ⟨0, 0, Nat.zero_le _, rfl, fun j hj => by omega, rfl⟩
    case round =>
      obtain ⟨k, n, hk, rfl, he, rfl⟩ := hrel
      by_cases hlt : k < la
      · obtain ⟨b1, o1, x, rfl, _, c1, HX⟩ := ha.at1 hlt
        obtain ⟨b2, o2, y, rfl, _, c2, HY⟩ := hb.at1 hlt
        by_cases hxy : x = y
        · subst hxy
          have hne : (x != x) = false := by simp
          go_wp2
          go_quiet (fail)
          go_wp2
          go_roundw
          case rel => exact ⟨k + 1, _, by omega, by go_num, fun j hj => by
            by_cases e : j = k
            · subst e; rw [HX.out, HY.out]
            · exact he.out j (by omega), rfl⟩
          case measure => simp [intOf]; omega
        · have hne : (x != y) = true := by simpa using hxy
          go_wp2
          go_quiet (fail)
          go_wp2
          go_ret
          refine ⟨ret_bool ?_, _, World.drewN_drewN _ _ _⟩
          exact (decide_eq_false (fun e => hxy (by rw [← HX.out, ← HY.out, e]))).symm
      · go_wp2
        go_ret
        refine ⟨ret_bool ?_, _, rfl⟩
        exact (decide_eq_true (eq_of_getD ha.len hb.len (fun j hj => he.out j (by omega)))).symm
  · have hab : ((la : Int) != (lb : Int)) = true := by rw [bne_iff_ne]; omega
    go_enter Tryz.func17, Tryz.ntmps17
    go_wp2
    go_ret
    refine ⟨ret_bool ?_, 0, rfl⟩
    exact (decide_eq_false (fun e => hl (by rw [← ha.len, ← hb.len, e]))).symm

set_option maxHeartbeats 400000 in
theorem dot_calls (a b : Option Addr) (la ca cb : Nat) (xs ys : List Int) (w : World) (ha : Lst w a la ca xs) (hb : Lst w b la cb ys) (h63 : la ≤ 1000000000000000000) :
    Calls Tryz.prog 128 #[.slice a la ca, .slice b la cb] w fun e w' => e = .returned (.int .i64 (dotTo xs ys la)) ∧ ∃ k, w' = w.drewN k := by
  go_enter Tryz.func128, Tryz.ntmps128
  go_wp2
  go_loopw [5, 9] (fun s i wr => ∃ k n : Nat, k ≤ la ∧ i = .int .i64 k ∧ s = .int .i64 (dotTo xs ys k) ∧ wr = w.drewN n) (fun _ i _ => la - (intOf i).toNat)
  case atStart => exact ⟨0, 0, Nat.zero_le _, rfl, rfl, rfl⟩
  case round =>
    obtain ⟨k, n, hk, rfl, rfl, hw⟩ := hrel
    have ha' : Lst wr a la ca xs := hw ▸ ha.drewN n
    have hb' : Lst wr b la cb ys := hw ▸ hb.drewN n
    have HW : Hid (wr = w.drewN n) := hw
    clear hw ha hb
    by_cases hlt : k < la
    · obtain ⟨b1, o1, x, rfl, _, c1, HX⟩ := ha'.at1 hlt
      obtain ⟨b2, o2, y, rfl, _, c2, HY⟩ := hb'.at1 hlt
      go_wp2
      go_quiet ((first | (go_at_call 92; exact Calls.quiet_of (mul_calls _ _ _)) | (go_at_call 119; exact Calls.quiet_of_same (add_calls _ _ _))))
      go_wp2
      go_roundw
      case rel => exact ⟨k + 1, _, by omega, by go_num, by simp only [dotTo, HX.out, HY.out], by rw [HW.out, World.drewN_drewN]⟩
      case measure => simp [intOf]; omega
    · go_wp2
      go_ret
      obtain rfl : k = la := by omega
      exact ⟨rfl, _, HW.out⟩

/-- One list, or two, laid for tooLong. -/
theorem long1 (a : Option Addr) (la ca b : Nat) (w : World) (hb : b = w.heap.size) : Calls Tryz.prog 108 #[.slice (some ⟨b, 0, none⟩) 1 1] (w.alloc (.cells #[.slice a la ca] 26)) fun e w' => e = .returned (.bool (decide (200 < la))) ∧ w' = w.alloc (.cells #[.slice a la ca] 26) := by
  subst hb
  have h := World.rowIs_alloc w #[.slice a la ca] 26 (fun _ => .slice a la ca) (by intro i hi; obtain rfl : i = 0 := by simpa using hi
                                                                                   rfl)
  refine (long_calls 1 (fun _ => a) (fun _ => la) (fun _ => ca) w.heap.size _ (by omega) (fun i hi => h.cell hi)).mono ?_
  rintro e w' ⟨rfl, rfl⟩
  exact ⟨ret_bool (by simp [longB]), rfl⟩
theorem long2 (a b : Option Addr) (la ca lb cb g : Nat) (w : World) (hg : g = w.heap.size) : Calls Tryz.prog 108 #[.slice (some ⟨g, 0, none⟩) 2 2] (w.alloc (.cells #[.slice a la ca, .slice b lb cb] 26)) fun e w' => e = .returned (.bool (decide (200 < la ∨ 200 < lb))) ∧ w' = w.alloc (.cells #[.slice a la ca, .slice b lb cb] 26) := by
  subst hg
  have h := World.rowIs_alloc w #[.slice a la ca, .slice b lb cb] 26 (fun i => .slice (if i = 0 then a else b) (if i = 0 then la else lb) (if i = 0 then ca else cb)) (by
    intro i hi
    rcases (show i = 0 ∨ i = 1 from by have : i < 2 := hi
                                       omega) with rfl | rfl <;> rfl)
  refine (long_calls 2 (fun i => if i = 0 then a else b) (fun i => if i = 0 then la else lb) (fun i => if i = 0 then ca else cb) w.heap.size _ (by omega) (fun i hi => h.cell hi)).mono ?_
  rintro e w' ⟨rfl, rfl⟩
  exact ⟨ret_bool (by rw [Bool.eq_iff_iff]; simp [longB, List.range_succ]), rfl⟩

theorem two_calls (a b : Option Addr) (la ca lb cb : Nat) (w : World) :
    Calls Tryz.prog 118 #[.slice a la ca, .slice b lb cb] w fun e w' => e = .returned (.int .i64 (twoI la lb)) ∧ Below w.heap.size w w' := by
  have hb := (Below.refl w.heap.size w).alloc (Nat.le_refl _) (.cells #[.slice a la ca, .slice b lb cb] 26)
  by_cases hl : 200 < la ∨ 200 < lb
  · have hd : decide (200 < la ∨ 200 < lb) = true := decide_eq_true hl
    go_enter Tryz.func118, Tryz.ntmps118
    go_wp2_with (go_at_call 108; refine (long2 _ _ _ _ _ _ _ _ rfl).mono ?_; rintro e w' ⟨rfl, rfl⟩; rw [hd])
    go_ret
    exact ⟨ret_int (by simp only [twoI, if_pos hl]), hb⟩
  · have hd : decide (200 < la ∨ 200 < lb) = false := decide_eq_false hl
    by_cases he : la = lb
    · have ht : ((la : Int) != (lb : Int)) = false := by rw [bne_eq_false_iff_eq]; omega
      have HE : Hid (la = lb) := he
      clear he
      go_enter Tryz.func118, Tryz.ntmps118
      go_wp2_with (go_at_call 108; refine (long2 _ _ _ _ _ _ _ _ rfl).mono ?_; rintro e w' ⟨rfl, rfl⟩; rw [hd])
      go_ret
      exact ⟨ret_int (by simp only [twoI, if_neg hl, if_pos HE.out]), hb⟩
    · have ht : ((la : Int) != (lb : Int)) = true := by rw [bne_iff_ne]; omega
      go_enter Tryz.func118, Tryz.ntmps118
      go_wp2_with (go_at_call 108; refine (long2 _ _ _ _ _ _ _ _ rfl).mono ?_; rintro e w' ⟨rfl, rfl⟩; rw [hd])
      go_ret
      exact ⟨ret_int (by simp only [twoI, if_neg hl, if_neg he]), hb⟩
end Go.Proofs.YtnlcheebdkjpbabGreat.Fx

/- What vec.Dot returns: whatever lists lie there. -/
namespace Go.Proofs.YtnlcheebdkjpbabGreat.Fx
open Go.RowKit

theorem info3 : (Tryz.prog.info? 3).map (fun i => (i.zero, i.size, i.bytes)) = some (some (.int .i64 0), 1, 8) := by kernel_rfl

theorem twoI_cases (la lb : Nat) : (twoI la lb = 0 ∧ la = lb ∧ la ≤ 200) ∨ (twoI la lb ≠ 0 ∧ (twoI la lb != 0) = true) := by
  unfold twoI
  by_cases h : 200 < la ∨ 200 < lb
  · rw [if_pos h]; exact .inr ⟨by decide, by decide⟩
  · rw [if_neg h]
    by_cases e : la = lb
    · rw [if_pos e]; exact .inl ⟨rfl, e, by omega⟩
    · rw [if_neg e]; exact .inr ⟨by decide, by decide⟩

end Go.Proofs.YtnlcheebdkjpbabGreat.Fx
