/- What tree.Leaves, Root, Path and Climb return, whatever is handed in. -/
import Derived.Test.YtfkalnehomgccaaTreeC
import Derived.Test.YtfkalnehomgccaaTreeD
import Derived.Test.YtfkalnehomgccaaTreeE
namespace Go.Proofs.Ytfkalnehomgccaa.Fx
open Go.RowKit

def errL (n : Nat) : Int := if n = 0 then 1 else if 200 < n then 2 else 0
def leavesL (xs : List Int) (n : Nat) : List Int := if n = 0 ∨ 200 < n then [] else leavesP xs n
def rootL (xs : List Int) (n : Nat) : Int := if n = 0 ∨ 200 < n then 0 else ofP 3 [(n : Int), treeP (leavesP xs n)]
def errP (i : Int) (n : Nat) : Int := if n = 0 ∨ 200 < n then errL n else if 0 ≤ i ∧ i < ((n + 3) / 4 : Nat) then 0 else 1
def wayL (xs : List Int) (n : Nat) (i : Int) : List Int := if ¬ (n = 0 ∨ 200 < n) ∧ 0 ≤ i ∧ i < ((n + 3) / 4 : Nat) then wayP (leavesP xs n) i.toNat else []
def okC (i n : Int) : Prop := 1 ≤ n ∧ n ≤ 200 ∧ 0 ≤ i ∧ i < (n + 3) / 4
instance (i n : Int) : Decidable (okC i n) := by unfold okC; infer_instance
def dpC (i n : Int) : Nat := deepP i.toNat ((n.toNat + 3) / 4)
def errC (i n : Int) (len : Nat) : Int := if okC i n then (if len = dpC i n then 0 else 5) else 1
def upL (i n x : Int) (ps : List Int) (len : Nat) : Int := if okC i n ∧ len = dpC i n then ofP 3 [n, upP i.toNat ((n.toNat + 3) / 4) x ps] else 0

theorem leaves_bad (a : Option Addr) (n c : Nat) (w : World) (h : n = 0 ∨ 200 < n) :
    Calls Try.prog 27 #[.slice a n c] w fun e w' => e = .returned (.tuple #[.slice none 0 0, .int .i64 (errL n)]) ∧ w' = w := by
  by_cases h0 : n = 0
  · have HE : Hid (errL n = 1) := if_pos h0
    have n0 : ((n : Int) == 0) = true := by rw [beq_iff_eq]; omega
    go_enter Try.func27, Try.ntmps27
    go_wp2
    go_ret2
    exact ⟨by rw [HE.out]; rfl, rfl⟩
  · have HE : Hid (errL n = 2) := by show errL n = 2; unfold errL; rw [if_neg h0, if_pos (by omega)]
    have n0 : ((n : Int) == 0) = false := by rw [beq_eq_false_iff_ne]; omega
    have n2 : 200 < n := by omega
    go_enter Try.func27, Try.ntmps27
    go_wp2
    go_ret2
    exact ⟨by rw [HE.out]; rfl, rfl⟩

theorem Leaves_calls (a : Option Addr) (n c : Nat) (xs : List Int) (w : World) (ha : Lst w a n c xs) :
    Calls Try.prog 27 #[.slice a n c] w fun e w' => ∃ a' N, e = .returned (.tuple #[.slice a' N N, .int .i64 (errL n)]) ∧ N ≤ 50 ∧ LstW w' a' N N (leavesL xs n) ∧ Below w.heap.size w w' := by
  unfold leavesL
  by_cases h : n = 0 ∨ 200 < n
  · rw [if_pos h]
    refine (leaves_bad a n c w h).mono ?_
    rintro e w' ⟨rfl, rfl⟩
    exact ⟨_, _, rfl, by omega, LstW.nil _ _ _, Below.refl _ _⟩
  · rw [if_neg h]
    refine (leaves_calls a n c xs w ha (by omega) (by omega)).mono ?_
    rintro e w' ⟨a', rfl, h1, h2⟩
    exact ⟨_, _, by unfold errL; rw [if_neg (by omega), if_neg (by omega)], by omega, h1, h2⟩

theorem root_good (a : Option Addr) (n c : Nat) (xs : List Int) (w : World) (ha : Lst w a n c xs) (h1 : 1 ≤ n) (h2 : n ≤ 200) :
    Calls Try.prog 29 #[.slice a n c] w fun e w' => e = .returned (.tuple #[.int .u64 (ofP 3 [(n : Int), treeP (leavesP xs n)]), .int .i64 0]) ∧ Below w.heap.size w w' := by
  have ht := treeP_ok (leavesP_ok xs n) (by rw [leavesP_len]; omega)
  have hn : okW (n : Int) := ⟨by omega, by omega⟩
  go_enter Try.func29, Try.ntmps29
  go_wp2_with (first | (go_at_call 27; refine (leaves_calls _ _ _ xs _ ha h1 h2).mono ?_; rintro e w1 ⟨a1, rfl, hl1, hw1⟩) | (go_at_call 41; refine (top_calls 50 _ _ _ (leavesP xs n) _ (by omega) (by omega) (by omega) hl1 (leavesP_ok _ _)).mono ?_; rintro e w2 ⟨rfl, hw2⟩) | (go_at_call 32; refine (dPair_calls _ _ hn ht _).mono ?_; rintro e w3 ⟨rfl, hw3⟩))
  go_ret2
  have e2 := hw1.trans (hw2.mono hw1.size)
  exact ⟨rfl, e2.trans (hw3.mono e2.size)⟩

theorem errL_ne {n : Nat} (h : n = 0 ∨ 200 < n) : (errL n != 0) = true := by
  unfold errL
  by_cases h0 : n = 0
  · rw [if_pos h0]; rfl
  · rw [if_neg h0, if_pos (by omega)]; rfl

theorem Root_calls (a : Option Addr) (n c : Nat) (xs : List Int) (w : World) (ha : Lst w a n c xs) :
    Calls Try.prog 29 #[.slice a n c] w fun e w' => e = .returned (.tuple #[.int .u64 (rootL xs n), .int .i64 (errL n)]) ∧ Below w.heap.size w w' := by
  unfold rootL
  by_cases h : n = 0 ∨ 200 < n
  · rw [if_pos h]
    have he := errL_ne h
    have HB : Hid (∀ w, Calls Try.prog 27 #[.slice a n c] w fun e w' => e = .returned (.tuple #[.slice none 0 0, .int .i64 (errL n)]) ∧ w' = w) := fun w => leaves_bad a n c w h
    generalize errL n = E at *
    clear h
    go_enter Try.func29, Try.ntmps29
    go_wp2_with (go_at_call 27; refine (HB.out _).mono ?_; rintro e w' ⟨rfl, hw'⟩; replace hw' := hw'.symm; subst hw')
    go_ret2
    exact ⟨rfl, Below.refl _ _⟩
  · rw [if_neg h]
    refine (root_good a n c xs w ha (by omega) (by omega)).mono ?_
    rintro e w' ⟨rfl, h2⟩
    exact ⟨by unfold errL; rw [if_neg (by omega), if_neg (by omega)], h2⟩

theorem path_good (a : Option Addr) (n c : Nat) (xs : List Int) (i : Nat) (w : World) (ha : Lst w a n c xs) (h1 : 1 ≤ n) (h2 : n ≤ 200) (hi : i < (n + 3) / 4) :
    Calls Try.prog 24 #[.slice a n c, .int .i64 i] w fun e w' => ∃ a' c', e = .returned (.tuple #[.slice a' (deepP i ((n + 3) / 4)) c', .int .i64 0]) ∧ LstW w' a' (deepP i ((n + 3) / 4)) c' (wayP (leavesP xs n) i) ∧ Below w.heap.size w w' := by
  have hd := (way_deep _ (leavesP xs n) i (Nat.le_refl _) (leavesP_ok _ _)).1
  rw [leavesP_len] at hd
  have HD : Hid ((wayP (leavesP xs n) i).length = deepP i ((n + 3) / 4)) := hd
  have HV : Hid (∀ w, Lst w a n c xs → Calls Try.prog 27 #[.slice a n c] w fun e w' => ∃ a', e = .returned (.tuple #[.slice a' ((n + 3) / 4 : Nat) ((n + 3) / 4 : Nat), .int .i64 0]) ∧ LstW w' a' ((n + 3) / 4) ((n + 3) / 4) (leavesP xs n) ∧ Below w.heap.size w w') := fun w ha => leaves_calls a n c xs w ha h1 h2
  have hN : (n + 3) / 4 ≤ 50 := by omega
  clear hd
  generalize (n + 3) / 4 = N at *
  go_enter Try.func24, Try.ntmps24
  go_wp2_with (first | (go_at_call 27; refine (HV.out _ ha).mono ?_; rintro e w1 ⟨a1, rfl, hl1, hw1⟩) | (go_at_call 36; refine (beside_calls 50 _ _ _ (leavesP xs n) i _ (by omega) (by omega) (by omega) hi hl1 (leavesP_ok _ _)).mono ?_; rintro e w2 ⟨v2, rfl, hown, hw2⟩; obtain ⟨a2, c2, rfl, hl2⟩ := hown.lst' HD.out))
  go_ret2
  exact ⟨_, _, rfl, hl2, hw1.trans (hw2.mono hw1.size)⟩

theorem path_out (a : Option Addr) (n c : Nat) (xs : List Int) (i : Int) (w : World) (ha : Lst w a n c xs) (h1 : 1 ≤ n) (h2 : n ≤ 200) (hi : ¬ (0 ≤ i ∧ i < ((n + 3) / 4 : Nat))) :
    Calls Try.prog 24 #[.slice a n c, .int .i64 i] w fun e w' => e = .returned (.tuple #[.slice none 0 0, .int .i64 1]) ∧ Below w.heap.size w w' := by
  have HV : Hid (∀ w, Lst w a n c xs → Calls Try.prog 27 #[.slice a n c] w fun e w' => ∃ a', e = .returned (.tuple #[.slice a' ((n + 3) / 4 : Nat) ((n + 3) / 4 : Nat), .int .i64 0]) ∧ LstW w' a' ((n + 3) / 4) ((n + 3) / 4) (leavesP xs n) ∧ Below w.heap.size w w') := fun w ha => leaves_calls a n c xs w ha h1 h2
  generalize (n + 3) / 4 = N at *
  by_cases h0 : i < 0
  · clear hi
    go_enter Try.func24, Try.ntmps24
    go_wp2_with (first | (go_at_call 27; refine (HV.out _ ha).mono ?_; rintro e w1 ⟨a1, rfl, hl1, hw1⟩))
    go_ret2
    exact ⟨rfl, hw1⟩
  · have h3 : (N : Int) ≤ i := by omega
    clear hi
    go_enter Try.func24, Try.ntmps24
    go_wp2_with (first | (go_at_call 27; refine (HV.out _ ha).mono ?_; rintro e w1 ⟨a1, rfl, hl1, hw1⟩))
    go_ret2
    exact ⟨rfl, hw1⟩

theorem path_bad (a : Option Addr) (n c : Nat) (i : Int) (w : World) (h : n = 0 ∨ 200 < n) :
    Calls Try.prog 24 #[.slice a n c, .int .i64 i] w fun e w' => e = .returned (.tuple #[.slice none 0 0, .int .i64 (errL n)]) ∧ Below w.heap.size w w' := by
  have he := errL_ne h
  have HB : Hid (∀ w, Calls Try.prog 27 #[.slice a n c] w fun e w' => e = .returned (.tuple #[.slice none 0 0, .int .i64 (errL n)]) ∧ w' = w) := fun w => leaves_bad a n c w h
  generalize errL n = E at *
  clear h
  go_enter Try.func24, Try.ntmps24
  go_wp2_with (go_at_call 27; refine (HB.out _).mono ?_; rintro e w' ⟨rfl, hw'⟩; replace hw' := hw'.symm; subst hw')
  go_ret2
  exact ⟨rfl, Below.refl _ _⟩

theorem Path_calls (a : Option Addr) (n c : Nat) (xs : List Int) (i : Int) (w : World) (ha : Lst w a n c xs) :
    Calls Try.prog 24 #[.slice a n c, .int .i64 i] w fun e w' => ∃ a' N c', e = .returned (.tuple #[.slice a' N c', .int .i64 (errP i n)]) ∧ N ≤ 50 ∧ LstW w' a' N c' (wayL xs n i) ∧ Below w.heap.size w w' := by
  unfold errP wayL
  by_cases h : n = 0 ∨ 200 < n
  · rw [if_pos h, if_neg (fun h' => h'.1 h)]
    refine (path_bad a n c i w h).mono ?_
    rintro e w' ⟨rfl, h2⟩
    exact ⟨_, _, _, rfl, by omega, LstW.nil _ _ _, h2⟩
  · rw [if_neg h]
    by_cases h3 : 0 ≤ i ∧ i < ((n + 3) / 4 : Nat)
    · rw [if_pos h3, if_pos ⟨h, h3⟩]
      obtain ⟨k, rfl⟩ : ∃ k : Nat, i = k := ⟨i.toNat, by omega⟩
      have hk : k < (n + 3) / 4 := by omega
      refine (path_good a n c xs k w ha (by omega) (by omega) hk).mono ?_
      rintro e w' ⟨a', c', rfl, h4, h5⟩
      have := deepP_le k ((n + 3) / 4)
      exact ⟨_, _, _, rfl, by omega, h4, h5⟩
    · rw [if_neg h3, if_neg (fun h' => h3 h'.2)]
      refine (path_out a n c xs i w ha (by omega) (by omega) h3).mono ?_
      rintro e w' ⟨rfl, h2⟩
      exact ⟨_, _, _, rfl, by omega, LstW.nil _ _ _, h2⟩

set_option maxHeartbeats 1600000 in
theorem Climb_calls (i n x : Int) (a : Option Addr) (len c : Nat) (ps : List Int) (w : World) (hx : okW x) (ha : LstW w a len c ps) (hp : okL ps) :
    Calls Try.prog 26 #[.int .i64 i, .int .i64 n, .int .u64 x, .slice a len c] w fun e w' => e = .returned (.tuple #[.int .u64 (upL i n x ps len), .int .i64 (errC i n len)]) ∧ Below w.heap.size w w' := by
  unfold upL errC
  by_cases h : okC i n
  · obtain ⟨h1, h2, h3, h4⟩ := id h
    rw [if_pos h]
    obtain ⟨k, rfl⟩ : ∃ k : Nat, i = k := ⟨i.toNat, by omega⟩
    obtain ⟨m, rfl⟩ : ∃ m : Nat, n = m := ⟨n.toNat, by omega⟩
    have HC : Hid (∀ w, Calls Try.prog 37 #[.int .i64 m] w fun e w' => e = .returned (.int .i64 ((m + 3) / 4 : Nat)) ∧ w' = w) := chunks_calls m (by omega)
    have ED : Hid (dpC k m = deepP k ((m + 3) / 4)) := by show dpC k m = _; unfold dpC; simp
    have hk : k < (m + 3) / 4 := by omega
    have hm : (m + 3) / 4 ≤ 50 := by omega
    have hn : okW (m : Int) := ⟨by omega, by omega⟩
    have hu : okW (upP k ((m + 3) / 4) x ps) := upP_ok hx
    have e1 : (k : Int).toNat = k := by omega
    have e2 : (m : Int).toNat = m := by omega
    rw [ED.out, e1, e2]
    clear h4 ED e1 e2
    by_cases h5 : len = deepP k ((m + 3) / 4)
    · rw [if_pos h5, if_pos ⟨h, h5⟩]
      have HQ : Hid (deepP k ((m + 3) / 4) = len) := h5.symm
      have q1 : ((len : Int) != (len : Int)) = false := by simp
      have h6 : len ≤ 50 := by have := deepP_le k ((m + 3) / 4); omega
      clear h h5
      generalize (m + 3) / 4 = N at *
      go_enter Try.func26, Try.ntmps26
      go_wp2_with (first | (go_at_call 37; refine (HC.out _).mono ?_; rintro e w' ⟨rfl, hw'⟩; replace hw' := hw'.symm; subst hw') | (go_at_call 38; refine (pairs_calls 50 _ _ _ hm (by omega) hm hk).mono ?_; rintro e w' ⟨rfl, hw'⟩; replace hw' := hw'.symm; subst hw'; rw [HQ.out]) | (go_at_call 39; refine (climb_calls 50 _ _ _ _ _ _ ps _ hm (by omega) hm hk hx ha hp HQ.out.symm).mono ?_; rintro e w1 ⟨rfl, hw1⟩) | (go_at_call 32; refine (dPair_calls _ _ hn hu _).mono ?_; rintro e w2 ⟨rfl, hw2⟩))
      go_ret2
      exact ⟨rfl, hw1.trans (hw2.mono hw1.size)⟩
    · rw [if_neg h5, if_neg (fun h' => h5 h'.2)]
      have h6 := deepP_le k ((m + 3) / 4)
      have HQ : Hid (∃ q, q = deepP k ((m + 3) / 4) ∧ ((len : Int) != (q : Int)) = true ∧ q ≤ 50) := ⟨_, rfl, by rw [bne_iff_ne]; omega, by omega⟩
      clear h h5
      generalize (m + 3) / 4 = N at *
      obtain ⟨q, hq, q1, q2⟩ := HQ.out
      have HQ2 : Hid (deepP k N = q) := hq.symm
      clear HQ hq h6
      go_enter Try.func26, Try.ntmps26
      go_wp2_with (first | (go_at_call 37; refine (HC.out _).mono ?_; rintro e w' ⟨rfl, hw'⟩; replace hw' := hw'.symm; subst hw') | (go_at_call 38; refine (pairs_calls 50 _ _ _ hm (by omega) hm hk).mono ?_; rintro e w' ⟨rfl, hw'⟩; replace hw' := hw'.symm; subst hw'; rw [HQ2.out]))
      go_ret2
      exact ⟨rfl, Below.refl _ _⟩
  · rw [if_neg h, if_neg (fun h' => h h'.1)]
    by_cases h1 : n < 1
    · clear h ha
      go_enter Try.func26, Try.ntmps26
      go_wp2
      go_ret2
      exact ⟨rfl, Below.refl _ _⟩
    · by_cases h2 : 200 < n
      · clear h ha
        go_enter Try.func26, Try.ntmps26
        go_wp2
        go_ret2
        exact ⟨rfl, Below.refl _ _⟩
      · by_cases h3 : i < 0
        · clear h ha
          go_enter Try.func26, Try.ntmps26
          go_wp2
          go_ret2
          exact ⟨rfl, Below.refl _ _⟩
        · obtain ⟨m, rfl⟩ : ∃ m : Nat, n = m := ⟨n.toNat, by omega⟩
          have h4 : (((m + 3) / 4 : Nat) : Int) ≤ i := by
            rcases Int.lt_or_le i (((m + 3) / 4 : Nat) : Int) with h5 | h5
            · exact absurd ⟨by omega, by omega, by omega, by omega⟩ h
            · exact h5
          have HC : Hid (∀ w, Calls Try.prog 37 #[.int .i64 m] w fun e w' => e = .returned (.int .i64 ((m + 3) / 4 : Nat)) ∧ w' = w) := chunks_calls m (by omega)
          clear h ha
          generalize (m + 3) / 4 = N at *
          go_enter Try.func26, Try.ntmps26
          go_wp2_with (go_at_call 37; refine (HC.out _).mono ?_; rintro e w' ⟨rfl, hw'⟩; replace hw' := hw'.symm; subst hw')
          go_ret2
          exact ⟨rfl, Below.refl _ _⟩

end Go.Proofs.Ytfkalnehomgccaa.Fx
