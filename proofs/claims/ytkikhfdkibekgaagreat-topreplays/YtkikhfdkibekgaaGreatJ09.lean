/- What coachref.Like and SameRecords return, whatever records lie there. -/
import Derived.Test.YtkikhfdkibekgaaGreatJ08
import Derived.Test.YtkikhfdkibekgaaGreatJ07
import Derived.Test.YtkikhfdkibekgaaGreatJ02
import Derived.Test.YtkikhfdkibekgaaGreatJ00
namespace Go.Proofs.YtkikhfdkibekgaaGreat.Fx
open Go.RowKit

/-- Are two records the same, but for the chain? -/
def likeB (x y : Rcm) (xs ys : List Int) : Bool := decide (x.s = y.s) && decide (x.r = y.r) && decide (x.root = y.root) && decide (xs = ys)
def recB (x y : Rcm) (xs ys : List Int) : Bool := likeB x y xs ys && decide (x.chain = y.chain)
def recsB (n m : Nat) (X Y : Nat → Rcm) (DX DY : Nat → List Int) : Bool := decide (n = m) && (List.range n).all fun i => recB (X i) (Y i) (DX i) (DY i)
theorem beq_dec (x y : Int) : (x == y) = decide (x = y) := by
  by_cases h : x = y
  · rw [decide_eq_true h]; simpa using h
  · rw [decide_eq_false h]; simpa using h

set_option maxRecDepth 100000 in
set_option maxHeartbeats 1600000 in
theorem rlike_calls (x y : Rcm) (xs ys : List Int) (w : World) (l1 : Lst w x.a x.n x.k xs) (l2 : Lst w y.a y.n y.k ys) (hn : x.n ≤ 1000000000000000000) :
    Calls Tryz.prog 12 #[x.val, y.val] w fun e w' => e = .returned (.bool (likeB x y xs ys)) ∧ Below w.heap.size w w' := by
  have hal := (low_alloc w (.cells x.cells 30)).trans ((low_alloc (w.alloc (.cells x.cells 30)) (.cells y.cells 30)).mono (low_alloc w (.cells x.cells 30)).size)
  have m1 := l1.below hal (Nat.le_refl _)
  have m2 := l2.below hal (Nat.le_refl _)
  unfold likeB
  clear l1 l2
  obtain ⟨s, a, n, k, r, root, chain⟩ := x
  obtain ⟨s', a', n', k', r', root', chain'⟩ := y
  simp only [Rcm.val, Rcm.cells] at *
  by_cases h1 : s = s'
  rotate_left
  · have qh1 : (s == s') = false := by simpa using h1
    go_enter Tryz.func12, Tryz.ntmps12
    go_wp2_with fail
    go_ret
    exact ⟨ret_bool (by simp [h1]), hal⟩
  have qh1 : (s == s') = true := by simpa using h1
  by_cases h2 : r = r'
  rotate_left
  · have qh2 : (r == r') = false := by simpa using h2
    clear h1
    go_enter Tryz.func12, Tryz.ntmps12
    go_wp2_with fail
    go_ret
    exact ⟨ret_bool (by simp [h2]), hal⟩
  have qh2 : (r == r') = true := by simpa using h2
  by_cases h3 : root = root'
  rotate_left
  · have qh3 : (root == root') = false := by simpa using h3
    clear h1 h2
    go_enter Tryz.func12, Tryz.ntmps12
    go_wp2_with fail
    go_ret
    exact ⟨ret_bool (by simp [h3]), hal⟩
  have qh3 : (root == root') = true := by simpa using h3
  have HL : Hid ((decide (s = s') && decide (r = r') && decide (root = root') && decide (xs = ys)) = decide (xs = ys)) := by show _ = _; rw [decide_eq_true h1, decide_eq_true h2, decide_eq_true h3]; simp
  clear h1 h2 h3
  go_enter Tryz.func12, Tryz.ntmps12
  go_wp2_with fail
  refine (eq_calls _ _ _ _ _ _ xs ys _ m1 m2 (by omega)).mono ?_
  rintro e w1 ⟨rfl, k5, hw5⟩
  subst hw5
  go_wp2_with fail
  go_ret
  exact ⟨ret_bool (by rw [HL.out]), below_drewN hal _⟩
end Go.Proofs.YtkikhfdkibekgaaGreat.Fx

/- What audit.Whole answers, in plain numbers, for every input; no function of the program is spoken of. -/
namespace Go.Proofs.YtkikhfdkibekgaaGreat.Fx
open Go.RowKit

/-- The first number below n at which f says no, or n. -/
def firstNo (f : Nat → Bool) : Nat → Nat
  | 0 => 0
  | n + 1 => if firstNo f n < n then firstNo f n else if f n = true then n + 1 else n
theorem firstNo_eq (f : Nat → Bool) : ∀ (n k : Nat), k ≤ n → (∀ j, j < k → f j = true) → (k < n → f k = false) → firstNo f n = k
  | 0, k, h1, _, _ => by unfold firstNo; omega
  | n + 1, k, h1, h2, h3 => by
    by_cases hk : k ≤ n
    · have ih := firstNo_eq f n k hk h2 (fun h => h3 (by omega))
      unfold firstNo
      rw [ih]
      by_cases e : k < n
      · rw [if_pos e]
      · obtain rfl : k = n := by omega
        rw [if_neg e, if_neg (by rw [h3 (by omega)]; decide)]
    · obtain rfl : k = n + 1 := by omega
      have ih := firstNo_eq f n n (Nat.le_refl _) (fun j hj => h2 j (by omega)) (fun h => by omega)
      unfold firstNo
      rw [ih, if_neg (by omega), if_pos (h2 n (by omega))]
theorem firstNo_le (f : Nat → Bool) : ∀ n, firstNo f n ≤ n
  | 0 => Nat.le_refl _
  | n + 1 => by
    have ih := firstNo_le f n
    unfold firstNo
    by_cases h : firstNo f n < n
    · rw [if_pos h]; omega
    · rw [if_neg h]
      by_cases h2 : f n = true
      · rw [if_pos h2]; omega
      · rw [if_neg h2]; omega
/-- Is that record just as journal.Make's? -/
def auB (c : Cfg) (n : Nat) (DI DO : Nat → List Int) (L : Nat → Rcm) (DL : Nat → List Int) (j : Nat) : Bool :=
  decide ((L j).s = (j : Int)) && decide ((L j).r = mkRV c j) && decide ((L j).root = mkRO c n DI DO j) && decide (DL j = jrBatch c n j) && decide ((L j).chain = mkCH c n DI DO (j + 1))
theorem auB_is {c : Cfg} {n : Nat} {DI DO : Nat → List Int} {m : Nat} {R : Nat → Rcm} (h : JrN m R (mkRV c) (mkRO c n DI DO) (mkCH c n DI DO)) (L : Nat → Rcm) (DL : Nat → List Int) {j : Nat} (hj : j < m) : auB c n DI DO L DL j = recB (L j) (R j) (DL j) (jrBatch c n j) := by
  obtain ⟨e1, e2, e3, e4⟩ := h j hj
  unfold auB recB likeB
  rw [e1, e2, e3, e4]
def whE (c : Cfg) (n : Nat) (X : Nat → Exm) (DI DO : Nat → List Int) (m : Nat) : Int := if courseI c n X DI DO = 0 then (if (m : Int) ≤ c.steps then 0 else 2) else courseI c n X DI DO
def whN (c : Cfg) (n : Nat) (X : Nat → Exm) (DI DO : Nat → List Int) (m : Nat) (L : Nat → Rcm) (DL : Nat → List Int) : Nat := if whE c n X DI DO m = 0 then firstNo (auB c n DI DO L DL) m else 0
end Go.Proofs.YtkikhfdkibekgaaGreat.Fx

/- What vec.Sum and vec.Times return: whatever lists lie there. -/
namespace Go.Proofs.YtkikhfdkibekgaaGreat.Fx
open Go.RowKit

def sumG (xs ys : List Int) (i : Nat) : Int := addI (xs.getD i 0) (ys.getD i 0)
def sumL (xs ys : List Int) (la lb : Nat) : List Int := if twoI la lb = 0 then (List.range la).map (sumG xs ys) else []

set_option maxHeartbeats 1600000 in
theorem vSum_calls (a b : Option Addr) (la ca lb cb : Nat) (xs ys : List Int) (w : World) (ha : Lst w a la ca xs) (hb : Lst w b lb cb ys) :
    Calls Tryz.prog 65 #[.slice a la ca, .slice b lb cb] w fun e w' => ∃ a' n, e = .returned (.tuple #[.slice a' n n, .int .i64 (twoI la lb)]) ∧ n ≤ 200 ∧ Lst w' a' n n (sumL xs ys la lb) ∧ Below w.heap.size w w' := by
  unfold sumL
  rcases twoI_cases la lb with ⟨h0, rfl, hl⟩ | ⟨h0, h1⟩
  · rw [if_pos h0]
    have H0 : Hid (twoI la la = 0) := h0
    clear h0
    have hmk := run_make_row' (P := Tryz.prog) 26 3 (.int .i64 0) 8 Tryz.underlying26 info3 rfl .i64 .i64 la (by omega) (by omega)
    go_enter Tryz.func65, Tryz.ntmps65
    go_wp2_with (go_at_call 90; refine (two_calls _ _ _ _ _ _ _).mono ?_; rintro e w1 ⟨rfl, hw⟩; rw [H0.out])
    go_loopw [20] (fun i wr => ∃ k : Nat, k ≤ la ∧ i = .int .i64 k ∧ wr.rowIs w1.heap.size 3 la (rowTo (sumG xs ys) k) ∧ Below w.heap.size w wr) (fun i _ => la - (intOf i).toNat)
    case atStart => exact ⟨0, Nat.zero_le _, rfl, rowTo_made (World.rowIs_made _ _ _ _), hw.alloc hw.size _⟩
    case round =>
      obtain ⟨k, hk, rfl, hrow, hbel⟩ := hrel
      have ha' := ha.below hbel (Nat.le_refl _)
      have hb' := hb.below hbel (Nat.le_refl _)
      have hsz := hw.size
      clear ha hb hw hmk
      by_cases hlt : k < la
      · obtain ⟨b1, o1, x, rfl, _, c1, HX⟩ := ha'.at1 hlt
        obtain ⟨b2, o2, y, rfl, _, c2, HY⟩ := hb'.at1 hlt
        have c3 := rowTo_cell hrow hlt
        have f3 := hrow.frozen k
        go_wp2
        go_region_with ((go_at_call 91; refine (add_calls _ _ _).mono ?_; rintro e w' ⟨rfl, rfl⟩))
        all_goals go_wp2
        all_goals
          go_roundw
          case rel =>
            have st := rowTo_step (g := sumG xs ys) hrow
            simp only [sumG, HX.out, HY.out] at st
            exact ⟨k + 1, by omega, by go_num, st, (hbel.setCell (by omega) _).drew⟩
          case measure => simp [intOf]; omega
      · go_wp2
        go_ret2
        obtain rfl : k = la := by omega
        exact ⟨_, _, by rw [H0.out]; rfl, hl, rowTo_lst hrow, hbel⟩
  · rw [if_neg h0]
    clear ha hb h0
    go_enter Tryz.func65, Tryz.ntmps65
    go_wp2_with (go_at_call 90; refine (two_calls _ _ _ _ _ _ _).mono ?_; rintro e w' ⟨rfl, hw⟩)
    go_ret2
    exact ⟨_, _, rfl, Nat.zero_le _, Lst.nil _ _ _, hw⟩

def oneI (la : Nat) : Int := if 200 < la then 2 else 0
def timesG (xs : List Int) (n : Int) (i : Nat) : Int := mulI (xs.getD i 0) n
def timesL (xs : List Int) (n : Int) (la : Nat) : List Int := if 200 < la then [] else (List.range la).map (timesG xs n)

set_option maxHeartbeats 1600000 in
theorem vTimes_calls (a : Option Addr) (la ca : Nat) (xs : List Int) (m : Int) (w : World) (ha : Lst w a la ca xs) :
    Calls Tryz.prog 61 #[.slice a la ca, .int .i64 m] w fun e w' => ∃ a' n, e = .returned (.tuple #[.slice a' n n, .int .i64 (oneI la)]) ∧ n ≤ 200 ∧ Lst w' a' n n (timesL xs m la) ∧ Below w.heap.size w w' := by
  unfold timesL oneI
  have hal := (Below.refl w.heap.size w).alloc (Nat.le_refl _) (.cells #[.slice a la ca] 26)
  by_cases hl : 200 < la
  · rw [if_pos hl, if_pos hl]
    have hd : decide (200 < la) = true := decide_eq_true hl
    clear ha
    go_enter Tryz.func61, Tryz.ntmps61
    go_wp2_with (go_at_call 80; refine (long1 _ _ _ _ _ rfl).mono ?_; rintro e w' ⟨rfl, rfl⟩; rw [hd])
    go_ret2
    exact ⟨_, _, rfl, Nat.zero_le _, Lst.nil _ _ _, hal⟩
  · rw [if_neg hl, if_neg hl]
    have hd : decide (200 < la) = false := decide_eq_false hl
    have hmk := run_make_row' (P := Tryz.prog) 26 3 (.int .i64 0) 8 Tryz.underlying26 info3 rfl .i64 .i64 la (by omega) (by omega)
    go_enter Tryz.func61, Tryz.ntmps61
    go_wp2_with (go_at_call 80; refine (long1 _ _ _ _ _ rfl).mono ?_; rintro e w' ⟨rfl, rfl⟩; rw [hd])
    go_loopw [16] (fun i wr => ∃ k : Nat, k ≤ la ∧ i = .int .i64 k ∧ wr.rowIs (w.heap.size + 1) 3 la (rowTo (timesG xs m) k) ∧ Below w.heap.size w wr) (fun i _ => la - (intOf i).toNat)
    case atStart => exact ⟨0, Nat.zero_le _, rfl, rowTo_made (by have h := World.rowIs_made (w.alloc (.cells #[.slice a la ca] 26)) (.int .i64 0) la 3; simpa using h), hal.alloc hal.size _⟩
    case round =>
      obtain ⟨k, hk, rfl, hrow, hbel⟩ := hrel
      have ha' := ha.below hbel (Nat.le_refl _)
      clear ha hal hmk
      by_cases hlt : k < la
      · obtain ⟨b1, o1, x, rfl, _, c1, HX⟩ := ha'.at1 hlt
        have c3 := rowTo_cell hrow hlt
        have f3 := hrow.frozen k
        go_wp2_with (go_at_call 66; refine (mul_calls _ _ _).mono ?_; rintro e w' ⟨rfl, nd, rfl⟩)
        go_roundw
        case rel =>
          have st := rowTo_step (g := timesG xs m) hrow
          simp only [timesG, HX.out] at st
          exact ⟨k + 1, by omega, by go_num, rowIs_drewN st _, below_drewN (hbel.setCell (by simp) _) _⟩
        case measure => simp [intOf]; omega
      · go_wp2
        go_ret2
        obtain rfl : k = la := by omega
        exact ⟨_, _, rfl, by omega, rowTo_lst hrow, hbel⟩

end Go.Proofs.YtkikhfdkibekgaaGreat.Fx

/- What optim's within, isSide, Check and Rate return, whatever is handed in. -/
namespace Go.Proofs.YtkikhfdkibekgaaGreat.Fx
open Go.RowKit

theorem within_calls (n lo hi : Int) (w : World) : Calls Tryz.prog 53 #[.int .i64 n, .int .i64 lo, .int .i64 hi] w fun e w' => e = .returned (.bool (inB n lo hi)) ∧ w' = w := by
  unfold inB
  by_cases h1 : lo ≤ n
  · by_cases h2 : n ≤ hi
    · go_enter Tryz.func53, Tryz.ntmps53
      go_wp2
      go_ret
      exact ⟨ret_bool (by simp [h1, h2]), rfl⟩
    · go_enter Tryz.func53, Tryz.ntmps53
      go_wp2
      go_ret
      exact ⟨ret_bool (by simp; omega), rfl⟩
  · go_enter Tryz.func53, Tryz.ntmps53
    go_wp2
    go_ret
    exact ⟨ret_bool (by simp; omega), rfl⟩

theorem oside_calls (n : Int) (w : World) : Calls Tryz.prog 52 #[.int .i64 n] w fun e w' => e = .returned (.bool (inB n 1 4)) ∧ w' = w := by
  go_enter Tryz.func52, Tryz.ntmps52
  go_wp2_with (go_at_call 53; refine (within_calls _ _ _ _).mono ?_; rintro e w' ⟨rfl, hw'⟩; replace hw' := hw'.symm; subst hw')
  go_ret
  exact ⟨rfl, rfl⟩

-- LEMMAS
theorem bad1 {x1 x2 x3 x4 x5 x6 x7 x8 x9 x10 : Bool} (h : x1 = false) : (1 : Int) = if (x1 && x2 && x3 && x4 && x5 && x6 && x7 && x8 && x9 && x10) = true then 0 else 1 := by subst h; simp
theorem bad2 {x1 x2 x3 x4 x5 x6 x7 x8 x9 x10 : Bool} (h : x2 = false) : (1 : Int) = if (x1 && x2 && x3 && x4 && x5 && x6 && x7 && x8 && x9 && x10) = true then 0 else 1 := by subst h; simp
theorem bad3 {x1 x2 x3 x4 x5 x6 x7 x8 x9 x10 : Bool} (h : x3 = false) : (1 : Int) = if (x1 && x2 && x3 && x4 && x5 && x6 && x7 && x8 && x9 && x10) = true then 0 else 1 := by subst h; simp
theorem bad4 {x1 x2 x3 x4 x5 x6 x7 x8 x9 x10 : Bool} (h : x4 = false) : (1 : Int) = if (x1 && x2 && x3 && x4 && x5 && x6 && x7 && x8 && x9 && x10) = true then 0 else 1 := by subst h; simp
theorem bad5 {x1 x2 x3 x4 x5 x6 x7 x8 x9 x10 : Bool} (h : x5 = false) : (1 : Int) = if (x1 && x2 && x3 && x4 && x5 && x6 && x7 && x8 && x9 && x10) = true then 0 else 1 := by subst h; simp
theorem bad6 {x1 x2 x3 x4 x5 x6 x7 x8 x9 x10 : Bool} (h : x6 = false) : (1 : Int) = if (x1 && x2 && x3 && x4 && x5 && x6 && x7 && x8 && x9 && x10) = true then 0 else 1 := by subst h; simp
theorem bad7 {x1 x2 x3 x4 x5 x6 x7 x8 x9 x10 : Bool} (h : x7 = false) : (1 : Int) = if (x1 && x2 && x3 && x4 && x5 && x6 && x7 && x8 && x9 && x10) = true then 0 else 1 := by subst h; simp
theorem bad8 {x1 x2 x3 x4 x5 x6 x7 x8 x9 x10 : Bool} (h : x8 = false) : (1 : Int) = if (x1 && x2 && x3 && x4 && x5 && x6 && x7 && x8 && x9 && x10) = true then 0 else 1 := by subst h; simp
theorem bad9 {x1 x2 x3 x4 x5 x6 x7 x8 x9 x10 : Bool} (h : x9 = false) : (1 : Int) = if (x1 && x2 && x3 && x4 && x5 && x6 && x7 && x8 && x9 && x10) = true then 0 else 1 := by subst h; simp
theorem bad10 {x1 x2 x3 x4 x5 x6 x7 x8 x9 x10 : Bool} (h : x10 = false) : (1 : Int) = if (x1 && x2 && x3 && x4 && x5 && x6 && x7 && x8 && x9 && x10) = true then 0 else 1 := by subst h; simp
theorem bad0 {x1 x2 x3 x4 x5 x6 x7 x8 x9 x10 : Bool} (h1 : x1 = true) (h2 : x2 = true) (h3 : x3 = true) (h4 : x4 = true) (h5 : x5 = true) (h6 : x6 = true) (h7 : x7 = true) (h8 : x8 = true) (h9 : x9 = true) (h10 : x10 = true) : (0 : Int) = if (x1 && x2 && x3 && x4 && x5 && x6 && x7 && x8 && x9 && x10) = true then 0 else 1 := by subst h1 h2 h3 h4 h5 h6 h7 h8 h9 h10; rfl
theorem not_t {x : Bool} (h : (!x) = true) : x = false := by cases x with
  | false => rfl
  | true => cases h
theorem not_f {x : Bool} (h : (!x) = false) : x = true := by cases x with
  | false => cases h
  | true => rfl
theorem no_t {x : Bool} (h : ¬ x = true) : x = false := by cases x with
  | false => rfl
  | true => exact absurd rfl h
-- END LEMMAS

-- WALK
set_option maxHeartbeats 1600000 in
theorem ocheck_calls (c : Cfg) (w : World) : Calls Tryz.prog 32 #[c.val] w fun e w' => e = .returned (.int .i64 (cfgI c)) ∧ Below w.heap.size w w' := by
  have hal := (Below.refl w.heap.size w).alloc (Nat.le_refl _) (.cells c.cells 24)
  obtain ⟨i, h, o, seed, batch, steps, rate, decay, how, keep, clip⟩ := c
  simp only [Cfg.val, Cfg.cells] at *
  unfold cfgI cfgB
  dsimp only
  obtain ⟨x1, X1⟩ : ∃ x, Hid (inB i 1 4 = x) := ⟨_, rfl⟩
  obtain ⟨x2, X2⟩ : ∃ x, Hid (inB h 1 4 = x) := ⟨_, rfl⟩
  obtain ⟨x3, X3⟩ : ∃ x, Hid (inB o 1 4 = x) := ⟨_, rfl⟩
  obtain ⟨x4, X4⟩ : ∃ x, Hid (inB batch 1 8 = x) := ⟨_, rfl⟩
  obtain ⟨x5, X5⟩ : ∃ x, Hid (inB steps 1 40 = x) := ⟨_, rfl⟩
  obtain ⟨x6, X6⟩ : ∃ x, Hid (inB rate 0 2147483647 = x) := ⟨_, rfl⟩
  obtain ⟨x7, X7⟩ : ∃ x, Hid (inB decay 0 1 = x) := ⟨_, rfl⟩
  obtain ⟨x8, X8⟩ : ∃ x, Hid (inB how 0 1 = x) := ⟨_, rfl⟩
  obtain ⟨x9, X9⟩ : ∃ x, Hid (inB keep 0 65536 = x) := ⟨_, rfl⟩
  obtain ⟨x10, X10⟩ : ∃ x, Hid (inB clip 0 2147483647 = x) := ⟨_, rfl⟩
  rw [X1.out, X2.out, X3.out, X4.out, X5.out, X6.out, X7.out, X8.out, X9.out, X10.out]
  obtain ⟨E, HE⟩ : ∃ E : Int, Hid ((if (x1 && x2 && x3 && x4 && x5 && x6 && x7 && x8 && x9 && x10) = true then 0 else 1) = E) := ⟨_, rfl⟩
  rw [HE.out]
  go_enter Tryz.func32, Tryz.ntmps32
  go_wp2_with (first | (go_at_call 52; refine (oside_calls _ _).mono ?_; rintro e w' ⟨rfl, hw'⟩; replace hw' := hw'.symm; subst hw'; first | rw [X1.out] | rw [X2.out] | rw [X3.out]) | (go_at_call 53; refine (within_calls _ _ _ _).mono ?_; rintro e w' ⟨rfl, hw'⟩; replace hw' := hw'.symm; subst hw'; first | rw [X4.out] | rw [X5.out] | rw [X6.out] | rw [X7.out] | rw [X8.out] | rw [X9.out] | rw [X10.out]))
  all_goals go_ret
  all_goals first | exact ⟨ret_int ((bad1 (by first | with_reducible assumption | exact not_t (by with_reducible assumption) | exact no_t (by with_reducible assumption))).trans HE.out), hal⟩ | exact ⟨ret_int ((bad2 (by first | with_reducible assumption | exact not_t (by with_reducible assumption) | exact no_t (by with_reducible assumption))).trans HE.out), hal⟩ | exact ⟨ret_int ((bad3 (by first | with_reducible assumption | exact not_t (by with_reducible assumption) | exact no_t (by with_reducible assumption))).trans HE.out), hal⟩ | exact ⟨ret_int ((bad4 (by first | with_reducible assumption | exact not_t (by with_reducible assumption) | exact no_t (by with_reducible assumption))).trans HE.out), hal⟩ | exact ⟨ret_int ((bad5 (by first | with_reducible assumption | exact not_t (by with_reducible assumption) | exact no_t (by with_reducible assumption))).trans HE.out), hal⟩ | exact ⟨ret_int ((bad6 (by first | with_reducible assumption | exact not_t (by with_reducible assumption) | exact no_t (by with_reducible assumption))).trans HE.out), hal⟩ | exact ⟨ret_int ((bad7 (by first | with_reducible assumption | exact not_t (by with_reducible assumption) | exact no_t (by with_reducible assumption))).trans HE.out), hal⟩ | exact ⟨ret_int ((bad8 (by first | with_reducible assumption | exact not_t (by with_reducible assumption) | exact no_t (by with_reducible assumption))).trans HE.out), hal⟩ | exact ⟨ret_int ((bad9 (by first | with_reducible assumption | exact not_t (by with_reducible assumption) | exact no_t (by with_reducible assumption))).trans HE.out), hal⟩ | exact ⟨ret_int ((bad10 (by first | with_reducible assumption | exact not_t (by with_reducible assumption) | exact no_t (by with_reducible assumption))).trans HE.out), hal⟩ | exact ⟨ret_int ((bad0 (by first | with_reducible assumption | exact not_f (by with_reducible assumption)) (by first | with_reducible assumption | exact not_f (by with_reducible assumption)) (by first | with_reducible assumption | exact not_f (by with_reducible assumption)) (by first | with_reducible assumption | exact not_f (by with_reducible assumption)) (by first | with_reducible assumption | exact not_f (by with_reducible assumption)) (by first | with_reducible assumption | exact not_f (by with_reducible assumption)) (by first | with_reducible assumption | exact not_f (by with_reducible assumption)) (by first | with_reducible assumption | exact not_f (by with_reducible assumption)) (by first | with_reducible assumption | exact not_f (by with_reducible assumption)) (by first | with_reducible assumption | exact not_f (by with_reducible assumption))).trans HE.out), hal⟩
-- END WALK

set_option maxHeartbeats 1600000 in
theorem rate_calls (c : Cfg) (step : Int) (w : World) : Calls Tryz.prog 43 #[c.val, .int .i64 step] w fun e w' => e = .returned (.tuple #[.int .i64 (rateI c step), .int .i64 (rateE c step)]) ∧ Below w.heap.size w w' := by
  have hal := (Below.refl w.heap.size w).alloc (Nat.le_refl _) (.cells c.cells 24)
  cases hc : cfgB c with
  | false =>
    have HI : Hid (cfgI c = 1) := cfgI_no hc
    have HR : Hid (rateI c step = 0) := if_neg (fun g => by rw [hc] at g; cases g.1)
    have HE : Hid (rateE c step = 1) := if_neg (fun g => by rw [hc] at g; cases g.1)
    rw [HR.out, HE.out]
    have K := ocheck_calls c (w.alloc (.cells c.cells 24))
    rw [HI.out] at K
    have HK : Hid (Calls Tryz.prog 32 #[c.val] (w.alloc (.cells c.cells 24)) fun e w' => e = .returned (.int .i64 1) ∧ Below (w.alloc (.cells c.cells 24)).heap.size (w.alloc (.cells c.cells 24)) w') := K
    clear K hc HI HR HE
    obtain ⟨i, h, o, seed, batch, steps, rate, decay, how, keep, clip⟩ := c
    simp only [Cfg.val, Cfg.cells] at *
    go_enter Tryz.func43, Tryz.ntmps43
    go_wp2_with fail
    refine HK.out.mono ?_
    rintro e w1 ⟨rfl, hw1⟩
    go_wp2
    go_ret2
    exact ⟨rfl, hal.trans (hw1.mono hal.size)⟩
  | true =>
    obtain ⟨_, _, _, _, ⟨s1, s2⟩, ⟨r1, r2⟩, ⟨d1, d2⟩, _⟩ := cfgB_is hc
    have K := ocheck_calls c (w.alloc (.cells c.cells 24))
    rw [cfgI_yes hc] at K
    obtain ⟨R, HR⟩ : ∃ R, Hid (rateI c step = R) := ⟨_, rfl⟩
    obtain ⟨E, HE⟩ : ∃ E, Hid (rateE c step = E) := ⟨_, rfl⟩
    rw [HR.out, HE.out]
    have HR' := HR.out
    have HE' := HE.out
    unfold rateI at HR'
    unfold rateE at HE'
    cases hs : inB step 0 (c.steps - 1) with
    | false =>
      rw [if_neg (fun g => by rw [hs] at g; cases g.2)] at HR' HE'
      subst HR' HE'
      have HS : Hid (inB step 0 (c.steps - 1) = false) := hs
      have HK : Hid (Calls Tryz.prog 32 #[c.val] (w.alloc (.cells c.cells 24)) fun e w' => e = .returned (.int .i64 0) ∧ Below (w.alloc (.cells c.cells 24)).heap.size (w.alloc (.cells c.cells 24)) w') := K
      clear K hs HR HE hc
      obtain ⟨i, h, o, seed, batch, steps, rate, decay, how, keep, clip⟩ := c
      simp only [Cfg.val, Cfg.cells] at *
      go_enter Tryz.func43, Tryz.ntmps43
      go_wp2_with fail
      refine HK.out.mono ?_
      rintro e w1 ⟨rfl, hw1⟩
      obtain ⟨c0, c1, c2, c3, c4, c5, c6, c7, c8, c9, c10⟩ := boxC (c := ⟨i, h, o, seed, batch, steps, rate, decay, how, keep, clip⟩) hw1 (by simp)
      go_wp2_with (go_at_call 53; refine (within_calls _ _ _ _).mono ?_; rintro e w' ⟨rfl, hw'⟩; replace hw' := hw'.symm; subst hw'; rw [HS.out])
      go_ret2
      exact ⟨rfl, hal.trans (hw1.mono hal.size)⟩
    | true =>
      rw [if_pos ⟨hc, hs⟩] at HR' HE'
      have HS : Hid (inB step 0 (c.steps - 1) = true) := hs
      have hst := in_is hs
      subst HE'
      have HV : Hid (rateV c step = R) := HR'
      have HK : Hid (Calls Tryz.prog 32 #[c.val] (w.alloc (.cells c.cells 24)) fun e w' => e = .returned (.int .i64 0) ∧ Below (w.alloc (.cells c.cells 24)).heap.size (w.alloc (.cells c.cells 24)) w') := K
      clear K hs HR HE HR' hc
      obtain ⟨i, h, o, seed, batch, steps, rate, decay, how, keep, clip⟩ := c
      simp only [Cfg.val, Cfg.cells] at *
      by_cases hd : decay = 0
      · have hd' : (decay == 0) = true := by simpa using hd
        have hv : rate = R := by
          have := HV.out
          unfold rateV at this
          dsimp only at this
          rw [if_neg (by omega)] at this
          exact this
        subst hv
        clear hd
        go_enter Tryz.func43, Tryz.ntmps43
        go_wp2_with fail
        refine HK.out.mono ?_
        rintro e w1 ⟨rfl, hw1⟩
        obtain ⟨c0, c1, c2, c3, c4, c5, c6, c7, c8, c9, c10⟩ := boxC (c := ⟨i, h, o, seed, batch, steps, rate, decay, how, keep, clip⟩) hw1 (by simp)
        go_wp2_with (go_at_call 53; refine (within_calls _ _ _ _).mono ?_; rintro e w' ⟨rfl, hw'⟩; replace hw' := hw'.symm; subst hw'; rw [HS.out])
        go_ret2
        exact ⟨rfl, hal.trans (hw1.mono hal.size)⟩
      · have hd' : (decay == 0) = false := by simpa using hd
        have hv : mulI rate (divI (steps - step) steps) = R := by
          have := HV.out
          unfold rateV at this
          dsimp only at this
          rw [if_pos (by omega)] at this
          exact this
        subst hv
        clear hd HV
        go_enter Tryz.func43, Tryz.ntmps43
        go_wp2_with fail
        refine HK.out.mono ?_
        rintro e w1 ⟨rfl, hw1⟩
        obtain ⟨c0, c1, c2, c3, c4, c5, c6, c7, c8, c9, c10⟩ := boxC (c := ⟨i, h, o, seed, batch, steps, rate, decay, how, keep, clip⟩) hw1 (by simp)
        dsimp only at c0 c1 c2 c3 c4 c5 c6 c7 c8 c9 c10
        go_wp2_with (first | (go_at_call 53; refine (within_calls _ _ _ _).mono ?_; rintro e w' ⟨rfl, hw'⟩; replace hw' := hw'.symm; subst hw'; rw [HS.out]) | (go_at_call 60; refine (div_calls _ _ _ (by omega)).mono ?_; rintro e w' ⟨rfl, k1, hw'⟩; subst hw') | (go_at_call 66; refine (mul_calls _ _ _).mono ?_; rintro e w' ⟨rfl, k2, hw'⟩; subst hw'))
        go_ret2
        exact ⟨rfl, below_drewN (hal.trans (hw1.mono hal.size)) _⟩

end Go.Proofs.YtkikhfdkibekgaaGreat.Fx
