/- What tree.Leaves, Root, Path and Climb return, whatever is handed in. -/
import Derived.Test.YtnlcheebdkjpbaeJ33
import Derived.Test.YtnlcheebdkjpbaeJ29
import Derived.Test.YtnlcheebdkjpbaeJ31
import Derived.Test.YtnlcheebdkjpbaeJ16
import Derived.Test.YtnlcheebdkjpbaeJ24
import Derived.Test.YtnlcheebdkjpbaeJ21
namespace Go.Proofs.Ytnlcheebdkjpbae.Fx
open Go.RowKit

def errL (n : Nat) : Int := if n = 0 then 1 else if 200 < n then 2 else 0
def leavesL (xs : List Int) (n : Nat) : List Int := if n = 0 ∨ 200 < n then [] else leavesP xs n
def rootL (xs : List Int) (n : Nat) : Int := if n = 0 ∨ 200 < n then 0 else ofP 3 [(n : Int), treeP (leavesP xs n)]
def errP (i : Int) (n : Nat) : Int := if n = 0 ∨ 200 < n then errL n else if 0 ≤ i ∧ i < ((n + 3) / 4 : Nat) then 0 else 1
def wayL (xs : List Int) (n : Nat) (i : Int) : List Int := if ¬ (n = 0 ∨ 200 < n) ∧ 0 ≤ i ∧ i < ((n + 3) / 4 : Nat) then wayP (leavesP xs n) i.toNat else []
def okC (i n : Int) : Prop := 1 ≤ n ∧ n ≤ 200 ∧ 0 ≤ i ∧ i < (n + 3) / 4
instance (i n : Int) : Decidable (okC i n) := by unfold okC; infer_instance
def dpC (i n : Int) : Nat := deepP i.toNat ((n.toNat + 3) / 4)
def errC (i n : Int) (len : Nat) : Int := if okC i n then (if len = dpC i n then 0 else 5) else 1
def upL (i n x : Int) (ps : List Int) (len : Nat) : Int := if okC i n ∧ len = dpC i n then ofP 3 [n, upP i.toNat ((n.toNat + 3) / 4) x ps] else 0

theorem leaves_bad (a : Option Addr) (n c : Nat) (w : World) (h : n = 0 ∨ 200 < n) :
    Calls Try.prog 10 #[.slice a n c] w fun e w' => e = .returned (.tuple #[.slice none 0 0, .int .i64 (errL n)]) ∧ w' = w := by
  by_cases h0 : n = 0
  · have HE : Hid (errL n = 1) := if_pos h0
    have n0 : ((n : Int) == 0) = true := by rw [beq_iff_eq]; omega
    go_enter Try.func10, Try.ntmps10
    go_wp2
    go_ret2
    exact ⟨by rw [HE.out]; rfl, rfl⟩
  · have HE : Hid (errL n = 2) := by show errL n = 2; unfold errL; rw [if_neg h0, if_pos (by omega)]
    have n0 : ((n : Int) == 0) = false := by rw [beq_eq_false_iff_ne]; omega
    have n2 : 200 < n := by omega
    go_enter Try.func10, Try.ntmps10
    go_wp2
    go_ret2
    exact ⟨by rw [HE.out]; rfl, rfl⟩

theorem Leaves_calls (a : Option Addr) (n c : Nat) (xs : List Int) (w : World) (ha : Lst w a n c xs) :
    Calls Try.prog 10 #[.slice a n c] w fun e w' => ∃ a' N, e = .returned (.tuple #[.slice a' N N, .int .i64 (errL n)]) ∧ N ≤ 50 ∧ LstW w' a' N N (leavesL xs n) ∧ Below w.heap.size w w' := by
  unfold leavesL
  by_cases h : n = 0 ∨ 200 < n
  · rw [if_pos h]
    refine (leaves_bad a n c w h).mono ?_
    rintro e w' ⟨rfl, rfl⟩
    exact ⟨_, _, rfl, by omega, LstW.nil _ _ _, Below.refl _ _⟩
  · rw [if_neg h]
    refine (leaves_calls a n c xs w ha (by omega) (by omega)).mono ?_
    rintro e w' ⟨a', rfl, h1, h2⟩
    exact ⟨_, _, by unfold errL; rw [if_neg (by omega), if_neg (by omega)], by omega, h1, h2⟩

theorem root_good (a : Option Addr) (n c : Nat) (xs : List Int) (w : World) (ha : Lst w a n c xs) (h1 : 1 ≤ n) (h2 : n ≤ 200) :
    Calls Try.prog 13 #[.slice a n c] w fun e w' => e = .returned (.tuple #[.int .u64 (ofP 3 [(n : Int), treeP (leavesP xs n)]), .int .i64 0]) ∧ Below w.heap.size w w' := by
  have ht := treeP_ok (leavesP_ok xs n) (by rw [leavesP_len]; omega)
  have hn : okW (n : Int) := ⟨by omega, by omega⟩
  go_enter Try.func13, Try.ntmps13
  go_wp2_with (first | (go_at_call 10; refine (leaves_calls _ _ _ xs _ ha h1 h2).mono ?_; rintro e w1 ⟨a1, rfl, hl1, hw1⟩) | (go_at_call 39; refine (top_calls 50 _ _ _ (leavesP xs n) _ (by omega) (by omega) (by omega) hl1 (leavesP_ok _ _)).mono ?_; rintro e w2 ⟨rfl, hw2⟩) | (go_at_call 35; refine (dPair_calls _ _ hn ht _).mono ?_; rintro e w3 ⟨rfl, hw3⟩))
  go_ret2
  have e2 := hw1.trans (hw2.mono hw1.size)
  exact ⟨rfl, e2.trans (hw3.mono e2.size)⟩

theorem errL_ne {n : Nat} (h : n = 0 ∨ 200 < n) : (errL n != 0) = true := by
  unfold errL
  by_cases h0 : n = 0
  · rw [if_pos h0]; rfl
  · rw [if_neg h0, if_pos (by omega)]; rfl

theorem Root_calls (a : Option Addr) (n c : Nat) (xs : List Int) (w : World) (ha : Lst w a n c xs) :
    Calls Try.prog 13 #[.slice a n c] w fun e w' => e = .returned (.tuple #[.int .u64 (rootL xs n), .int .i64 (errL n)]) ∧ Below w.heap.size w w' := by
  unfold rootL
  by_cases h : n = 0 ∨ 200 < n
  · rw [if_pos h]
    have he := errL_ne h
    have HB : Hid (∀ w, Calls Try.prog 10 #[.slice a n c] w fun e w' => e = .returned (.tuple #[.slice none 0 0, .int .i64 (errL n)]) ∧ w' = w) := fun w => leaves_bad a n c w h
    generalize errL n = E at *
    clear h
    go_enter Try.func13, Try.ntmps13
    go_wp2_with (go_at_call 10; refine (HB.out _).mono ?_; rintro e w' ⟨rfl, hw'⟩; replace hw' := hw'.symm; subst hw')
    go_ret2
    exact ⟨rfl, Below.refl _ _⟩
  · rw [if_neg h]
    refine (root_good a n c xs w ha (by omega) (by omega)).mono ?_
    rintro e w' ⟨rfl, h2⟩
    exact ⟨by unfold errL; rw [if_neg (by omega), if_neg (by omega)], h2⟩

theorem path_good (a : Option Addr) (n c : Nat) (xs : List Int) (i : Nat) (w : World) (ha : Lst w a n c xs) (h1 : 1 ≤ n) (h2 : n ≤ 200) (hi : i < (n + 3) / 4) :
    Calls Try.prog 12 #[.slice a n c, .int .i64 i] w fun e w' => ∃ a' c', e = .returned (.tuple #[.slice a' (deepP i ((n + 3) / 4)) c', .int .i64 0]) ∧ LstW w' a' (deepP i ((n + 3) / 4)) c' (wayP (leavesP xs n) i) ∧ Below w.heap.size w w' := by
  have hd := (way_deep _ (leavesP xs n) i (Nat.le_refl _) (leavesP_ok _ _)).1
  rw [leavesP_len] at hd
  have HD : Hid ((wayP (leavesP xs n) i).length = deepP i ((n + 3) / 4)) := hd
  have HV : Hid (∀ w, Lst w a n c xs → Calls Try.prog 10 #[.slice a n c] w fun e w' => ∃ a', e = .returned (.tuple #[.slice a' ((n + 3) / 4 : Nat) ((n + 3) / 4 : Nat), .int .i64 0]) ∧ LstW w' a' ((n + 3) / 4) ((n + 3) / 4) (leavesP xs n) ∧ Below w.heap.size w w') := fun w ha => leaves_calls a n c xs w ha h1 h2
  have hN : (n + 3) / 4 ≤ 50 := by omega
  clear hd
  generalize (n + 3) / 4 = N at *
  go_enter Try.func12, Try.ntmps12
  go_wp2_with (first | (go_at_call 10; refine (HV.out _ ha).mono ?_; rintro e w1 ⟨a1, rfl, hl1, hw1⟩) | (go_at_call 38; refine (beside_calls 50 _ _ _ (leavesP xs n) i _ (by omega) (by omega) (by omega) hi hl1 (leavesP_ok _ _)).mono ?_; rintro e w2 ⟨v2, rfl, hown, hw2⟩; obtain ⟨a2, c2, rfl, hl2⟩ := hown.lst' HD.out))
  go_ret2
  exact ⟨_, _, rfl, hl2, hw1.trans (hw2.mono hw1.size)⟩

theorem path_out (a : Option Addr) (n c : Nat) (xs : List Int) (i : Int) (w : World) (ha : Lst w a n c xs) (h1 : 1 ≤ n) (h2 : n ≤ 200) (hi : ¬ (0 ≤ i ∧ i < ((n + 3) / 4 : Nat))) :
    Calls Try.prog 12 #[.slice a n c, .int .i64 i] w fun e w' => e = .returned (.tuple #[.slice none 0 0, .int .i64 1]) ∧ Below w.heap.size w w' := by
  have HV : Hid (∀ w, Lst w a n c xs → Calls Try.prog 10 #[.slice a n c] w fun e w' => ∃ a', e = .returned (.tuple #[.slice a' ((n + 3) / 4 : Nat) ((n + 3) / 4 : Nat), .int .i64 0]) ∧ LstW w' a' ((n + 3) / 4) ((n + 3) / 4) (leavesP xs n) ∧ Below w.heap.size w w') := fun w ha => leaves_calls a n c xs w ha h1 h2
  generalize (n + 3) / 4 = N at *
  by_cases h0 : i < 0
  · clear hi
    go_enter Try.func12, Try.ntmps12
    go_wp2_with (first | (go_at_call 10; refine (HV.out _ ha).mono ?_; rintro e w1 ⟨a1, rfl, hl1, hw1⟩))
    go_ret2
    exact ⟨rfl, hw1⟩
  · have h3 : (N : Int) ≤ i := by omega
    clear hi
    go_enter Try.func12, Try.ntmps12
    go_wp2_with (first | (go_at_call 10; refine (HV.out _ ha).mono ?_; rintro e w1 ⟨a1, rfl, hl1, hw1⟩))
    go_ret2
    exact ⟨rfl, hw1⟩

theorem path_bad (a : Option Addr) (n c : Nat) (i : Int) (w : World) (h : n = 0 ∨ 200 < n) :
    Calls Try.prog 12 #[.slice a n c, .int .i64 i] w fun e w' => e = .returned (.tuple #[.slice none 0 0, .int .i64 (errL n)]) ∧ Below w.heap.size w w' := by
  have he := errL_ne h
  have HB : Hid (∀ w, Calls Try.prog 10 #[.slice a n c] w fun e w' => e = .returned (.tuple #[.slice none 0 0, .int .i64 (errL n)]) ∧ w' = w) := fun w => leaves_bad a n c w h
  generalize errL n = E at *
  clear h
  go_enter Try.func12, Try.ntmps12
  go_wp2_with (go_at_call 10; refine (HB.out _).mono ?_; rintro e w' ⟨rfl, hw'⟩; replace hw' := hw'.symm; subst hw')
  go_ret2
  exact ⟨rfl, Below.refl _ _⟩

theorem Path_calls (a : Option Addr) (n c : Nat) (xs : List Int) (i : Int) (w : World) (ha : Lst w a n c xs) :
    Calls Try.prog 12 #[.slice a n c, .int .i64 i] w fun e w' => ∃ a' N c', e = .returned (.tuple #[.slice a' N c', .int .i64 (errP i n)]) ∧ N ≤ 50 ∧ LstW w' a' N c' (wayL xs n i) ∧ Below w.heap.size w w' := by
  unfold errP wayL
  by_cases h : n = 0 ∨ 200 < n
  · rw [if_pos h, if_neg (fun h' => h'.1 h)]
    refine (path_bad a n c i w h).mono ?_
    rintro e w' ⟨rfl, h2⟩
    exact ⟨_, _, _, rfl, by omega, LstW.nil _ _ _, h2⟩
  · rw [if_neg h]
    by_cases h3 : 0 ≤ i ∧ i < ((n + 3) / 4 : Nat)
    · rw [if_pos h3, if_pos ⟨h, h3⟩]
      obtain ⟨k, rfl⟩ : ∃ k : Nat, i = k := ⟨i.toNat, by omega⟩
      have hk : k < (n + 3) / 4 := by omega
      refine (path_good a n c xs k w ha (by omega) (by omega) hk).mono ?_
      rintro e w' ⟨a', c', rfl, h4, h5⟩
      have := deepP_le k ((n + 3) / 4)
      exact ⟨_, _, _, rfl, by omega, h4, h5⟩
    · rw [if_neg h3, if_neg (fun h' => h3 h'.2)]
      refine (path_out a n c xs i w ha (by omega) (by omega) h3).mono ?_
      rintro e w' ⟨rfl, h2⟩
      exact ⟨_, _, _, rfl, by omega, LstW.nil _ _ _, h2⟩

set_option maxHeartbeats 1600000 in
theorem Climb_calls (i n x : Int) (a : Option Addr) (len c : Nat) (ps : List Int) (w : World) (hx : okW x) (ha : LstW w a len c ps) (hp : okL ps) :
    Calls Try.prog 14 #[.int .i64 i, .int .i64 n, .int .u64 x, .slice a len c] w fun e w' => e = .returned (.tuple #[.int .u64 (upL i n x ps len), .int .i64 (errC i n len)]) ∧ Below w.heap.size w w' := by
  unfold upL errC
  by_cases h : okC i n
  · obtain ⟨h1, h2, h3, h4⟩ := id h
    rw [if_pos h]
    obtain ⟨k, rfl⟩ : ∃ k : Nat, i = k := ⟨i.toNat, by omega⟩
    obtain ⟨m, rfl⟩ : ∃ m : Nat, n = m := ⟨n.toNat, by omega⟩
    have HC : Hid (∀ w, Calls Try.prog 36 #[.int .i64 m] w fun e w' => e = .returned (.int .i64 ((m + 3) / 4 : Nat)) ∧ w' = w) := chunks_calls m (by omega)
    have ED : Hid (dpC k m = deepP k ((m + 3) / 4)) := by show dpC k m = _; unfold dpC; simp
    have hk : k < (m + 3) / 4 := by omega
    have hm : (m + 3) / 4 ≤ 50 := by omega
    have hn : okW (m : Int) := ⟨by omega, by omega⟩
    have hu : okW (upP k ((m + 3) / 4) x ps) := upP_ok hx
    have e1 : (k : Int).toNat = k := by omega
    have e2 : (m : Int).toNat = m := by omega
    rw [ED.out, e1, e2]
    clear h4 ED e1 e2
    by_cases h5 : len = deepP k ((m + 3) / 4)
    · rw [if_pos h5, if_pos ⟨h, h5⟩]
      have HQ : Hid (deepP k ((m + 3) / 4) = len) := h5.symm
      have q1 : ((len : Int) != (len : Int)) = false := by simp
      have h6 : len ≤ 50 := by have := deepP_le k ((m + 3) / 4); omega
      clear h h5
      generalize (m + 3) / 4 = N at *
      go_enter Try.func14, Try.ntmps14
      go_wp2_with (first | (go_at_call 36; refine (HC.out _).mono ?_; rintro e w' ⟨rfl, hw'⟩; replace hw' := hw'.symm; subst hw') | (go_at_call 40; refine (pairs_calls 50 _ _ _ hm (by omega) hm hk).mono ?_; rintro e w' ⟨rfl, hw'⟩; replace hw' := hw'.symm; subst hw'; rw [HQ.out]) | (go_at_call 41; refine (climb_calls 50 _ _ _ _ _ _ ps _ hm (by omega) hm hk hx ha hp HQ.out.symm).mono ?_; rintro e w1 ⟨rfl, hw1⟩) | (go_at_call 35; refine (dPair_calls _ _ hn hu _).mono ?_; rintro e w2 ⟨rfl, hw2⟩))
      go_ret2
      exact ⟨rfl, hw1.trans (hw2.mono hw1.size)⟩
    · rw [if_neg h5, if_neg (fun h' => h5 h'.2)]
      have h6 := deepP_le k ((m + 3) / 4)
      have HQ : Hid (∃ q, q = deepP k ((m + 3) / 4) ∧ ((len : Int) != (q : Int)) = true ∧ q ≤ 50) := ⟨_, rfl, by rw [bne_iff_ne]; omega, by omega⟩
      clear h h5
      generalize (m + 3) / 4 = N at *
      obtain ⟨q, hq, q1, q2⟩ := HQ.out
      have HQ2 : Hid (deepP k N = q) := hq.symm
      clear HQ hq h6
      go_enter Try.func14, Try.ntmps14
      go_wp2_with (first | (go_at_call 36; refine (HC.out _).mono ?_; rintro e w' ⟨rfl, hw'⟩; replace hw' := hw'.symm; subst hw') | (go_at_call 40; refine (pairs_calls 50 _ _ _ hm (by omega) hm hk).mono ?_; rintro e w' ⟨rfl, hw'⟩; replace hw' := hw'.symm; subst hw'; rw [HQ2.out]))
      go_ret2
      exact ⟨rfl, Below.refl _ _⟩
  · rw [if_neg h, if_neg (fun h' => h h'.1)]
    by_cases h1 : n < 1
    · clear h ha
      go_enter Try.func14, Try.ntmps14
      go_wp2
      go_ret2
      exact ⟨rfl, Below.refl _ _⟩
    · by_cases h2 : 200 < n
      · clear h ha
        go_enter Try.func14, Try.ntmps14
        go_wp2
        go_ret2
        exact ⟨rfl, Below.refl _ _⟩
      · by_cases h3 : i < 0
        · clear h ha
          go_enter Try.func14, Try.ntmps14
          go_wp2
          go_ret2
          exact ⟨rfl, Below.refl _ _⟩
        · obtain ⟨m, rfl⟩ : ∃ m : Nat, n = m := ⟨n.toNat, by omega⟩
          have h4 : (((m + 3) / 4 : Nat) : Int) ≤ i := by
            rcases Int.lt_or_le i (((m + 3) / 4 : Nat) : Int) with h5 | h5
            · exact absurd ⟨by omega, by omega, by omega, by omega⟩ h
            · exact h5
          have HC : Hid (∀ w, Calls Try.prog 36 #[.int .i64 m] w fun e w' => e = .returned (.int .i64 ((m + 3) / 4 : Nat)) ∧ w' = w) := chunks_calls m (by omega)
          clear h ha
          generalize (m + 3) / 4 = N at *
          go_enter Try.func14, Try.ntmps14
          go_wp2_with (go_at_call 36; refine (HC.out _).mono ?_; rintro e w' ⟨rfl, hw'⟩; replace hw' := hw'.symm; subst hw')
          go_ret2
          exact ⟨rfl, Below.refl _ _⟩

end Go.Proofs.Ytnlcheebdkjpbae.Fx

/- What journal.rootOfBoth and journal.Root return, whatever is handed in. -/
namespace Go.Proofs.Ytnlcheebdkjpbae.Fx
open Go.RowKit

theorem rootE_err (n1 n2 : Nat) : rootE n1 n2 = errL (n1 + n2) := rfl
theorem rootV_is (n1 : Nat) (ws : List Int) (n2 : Nat) (ms : List Int) : rootV n1 ws n2 ms = rootL (ws ++ ms) (n1 + n2) := by
  unfold rootV rootL rootE
  by_cases h0 : n1 + n2 = 0
  · rw [if_pos h0, if_neg (by decide), if_pos (.inl h0)]
  · rw [if_neg h0]
    by_cases h2 : 200 < n1 + n2
    · rw [if_pos h2, if_neg (by decide), if_pos (.inr h2)]
    · rw [if_neg h2, if_pos rfl, if_neg (by omega)]
      rfl

set_option maxRecDepth 100000 in
theorem rob_calls (a1 : Option Addr) (n1 k1 : Nat) (ws : List Int) (a2 : Option Addr) (n2 k2 : Nat) (ms : List Int) (w : World) (l1 : Lst w a1 n1 k1 ws) (l2 : Lst w a2 n2 k2 ms) (hz : n1 + n2 ≤ 4611686018427387904) :
    Calls Try.prog 113 #[.slice a1 n1 k1, .slice a2 n2 k2] w fun e w' => e = .returned (.tuple #[.int .u64 (rootV n1 ws n2 ms), .int .i64 (rootE n1 n2)]) ∧ Below w.heap.size w w' := by
  rw [rootV_is, rootE_err]
  by_cases h : 200 < n1 + n2
  · have HE : Hid (errL (n1 + n2) = 2) := by show errL (n1 + n2) = 2; unfold errL; rw [if_neg (by omega), if_pos h]
    have HV : Hid (rootL (ws ++ ms) (n1 + n2) = 0) := if_pos (.inr h)
    have h1 : (n1 : Int) + (n2 : Int) > 200 := by omega
    clear l1 l2
    go_enter Try.func113, Try.ntmps113
    go_wp2
    go_ret2
    exact ⟨by rw [HE.out, HV.out]; rfl, Below.refl _ _⟩
  · have h1 : ¬ (n1 : Int) + (n2 : Int) > 200 := by omega
    go_enter Try.func113, Try.ntmps113
    go_wp2_with fail
    refine (concat2 a1 a2 n1 n2 k1 k2 ws ms _ _ rfl l1 l2 (by omega)).mono ?_
    rintro e w1 ⟨a, c, rfl, hl, hw1⟩
    go_wp2_with fail
    refine (Root_calls a _ c _ _ hl).mono ?_
    rintro e w2 ⟨rfl, hw2⟩
    go_wp2_with fail
    go_ret2
    exact ⟨rfl, hw1.trans (hw2.mono hw1.size)⟩

theorem jroot_calls (a1 : Option Addr) (n1 k1 : Nat) (ws : List Int) (a2 : Option Addr) (n2 k2 : Nat) (ms : List Int) (w : World) (l1 : Lst w a1 n1 k1 ws) (l2 : Lst w a2 n2 k2 ms) (hz : n1 + n2 ≤ 4611686018427387904) :
    Calls Try.prog 106 #[.agg #[.slice a1 n1 k1, .slice a2 n2 k2]] w fun e w' => e = .returned (.tuple #[.int .u64 (rootV n1 ws n2 ms), .int .i64 (rootE n1 n2)]) ∧ Below w.heap.size w w' := by
  have hal := low_alloc w (.cells #[.slice a1 n1 k1, .slice a2 n2 k2] 51)
  have row := fn2_alloc w (.slice a1 n1 k1) (.slice a2 n2 k2) 51
  obtain ⟨c0, c1⟩ := fn2_cells row
  have HR := rob_calls a1 n1 k1 ws a2 n2 k2 ms _ (l1.below hal (Nat.le_refl _)) (l2.below hal (Nat.le_refl _)) hz
  generalize rootV n1 ws n2 ms = V at *
  generalize rootE n1 n2 = E at *
  clear l1 l2 row
  go_enter Try.func106, Try.ntmps106
  go_wp2_with fail
  refine HR.mono ?_
  rintro e w1 ⟨rfl, hw1⟩
  go_wp2_with fail
  go_ret2
  exact ⟨rfl, hal.trans (hw1.mono hal.size)⟩
end Go.Proofs.Ytnlcheebdkjpbae.Fx

/- What journal.head returns, of right things. -/
namespace Go.Proofs.Ytnlcheebdkjpbae.Fx
open Go.RowKit

theorem tStart_good (c : Cfg) (hc : cfgB c = true) (hs : okW c.seed) (N : Nat) (hN : (N : Int) = sizeN c) (q : World) :
    Calls Try.prog 105 #[c.val] q fun e w' => ∃ ga d1 gb d2, e = .returned (.tuple #[.agg #[.slice ga N d1, .slice gb N d2], .int .i64 0]) ∧ Lst w' ga N d1 ((List.range N).map (startG c.seed)) ∧ Lst w' gb N d2 ((List.range N).map zeroG) ∧ Below q.heap.size q w' := by
  refine (tStart_calls c hs q).mono ?_
  rintro e w' ⟨b1, m1, d1, b2, m2, d2, rfl, _, _, l1, l2, hb⟩
  have hNt : (sizeN c).toNat = N := by omega
  unfold startL at l1
  unfold zeroL0 at l2
  rw [if_pos hc, hNt] at l1 l2
  rw [cfgI_yes hc]
  have e1 : N = m1 := by rw [← l1.len]; simp
  have e2 : N = m2 := by rw [← l2.len]; simp
  subst e1
  rw [← e2] at l2 ⊢
  exact ⟨b1, d1, b2, d2, rfl, l1, l2, hb⟩

set_option maxRecDepth 100000 in
set_option maxHeartbeats 3200000 in
theorem jhead_calls (c : Cfg) (hc : cfgB c = true) (hs : okW c.seed) (N : Nat) (hN : (N : Int) = sizeN c) (a : Option Addr) (n cap : Nat) (X : Nat → Exm) (DI DO : Nat → List Int) (w : World) (hx : Exs w a n cap X DI DO) (hn2 : n ≤ 16) (hex : allEx c n X DI DO = true) :
    Calls Try.prog 104 #[c.val, .slice a n cap] w fun e w' => e = .returned (.int .u64 (headP c n DI DO N)) ∧ Below w.heap.size w w' := by
  have HOK : Hid (okL (headL c n DI DO N)) := headL_ok hc hs n DI DO N
  have hNb := sizeN_bd hc
  have N4 : 4 ≤ N := by omega
  have N40 : N ≤ 40 := by omega
  obtain ⟨SL, HSL⟩ : ∃ l, Hid ((List.range N).map (startG c.seed) = l) := ⟨_, rfl⟩
  obtain ⟨ZL, HZL⟩ : ∃ l, Hid ((List.range N).map zeroG = l) := ⟨_, rfl⟩
  obtain ⟨SR, HSR⟩ : ∃ r, Hid (rootP SL ZL (N + N) = r) := ⟨_, rfl⟩
  have HRV : Hid (rootV N SL N ZL = SR) := by show rootV N SL N ZL = SR; unfold rootV; rw [if_pos (show rootE N N = 0 by unfold rootE; rw [if_neg (by omega), if_neg (by omega)])]; exact HSR.out
  have HRE : Hid (rootE N N = 0) := by show rootE N N = 0; unfold rootE; rw [if_neg (by omega), if_neg (by omega)]
  have HRS : Hid (∀ q, Calls Try.prog 105 #[c.val] q fun e w' => ∃ ga d1 gb d2, e = .returned (.tuple #[.agg #[.slice ga N d1, .slice gb N d2], .int .i64 0]) ∧ Lst w' ga N d1 SL ∧ Lst w' gb N d2 ZL ∧ Below q.heap.size q w') := fun q => by
    have h := tStart_good c hc hs N hN q
    rw [HSL.out, HZL.out] at h
    exact h
  have HEX : Hid (∀ j, j < n → (X j).n = (DI j).length ∧ (X j).m = (DO j).length ∧ 1 ≤ (X j).n ∧ (X j).n ≤ 4 ∧ (X j).m ≤ 4) := fun j hj => by
    have he := exB_is (allEx_is hex hj)
    obtain ⟨⟨i1, i2⟩, _, ⟨o1, o2⟩, _⟩ := cfgB_is hc
    obtain ⟨b, off, _, _, _, hin⟩ := hx.at hj
    exact ⟨hin.i.len.symm, hin.o.len.symm, by omega, by omega, by omega⟩
  obtain ⟨⟨i1, i2⟩, ⟨h1, h2⟩, ⟨o1, o2⟩, ⟨b1, b2⟩, ⟨s1, s2⟩, ⟨r1, r2⟩, ⟨d1, d2⟩, ⟨w1, w2⟩, ⟨k1, k2⟩, ⟨q1, q2⟩⟩ := cfgB_is hc
  have hal := low_alloc w (.cells c.cells 49)
  have hx0 := hx.below hal (Nat.le_refl _)
  obtain ⟨W, HW⟩ : ∃ q, Hid (q = w.alloc (.cells c.cells 49)) := ⟨_, rfl⟩
  have KB : Hid (∀ q, Below W.heap.size W q → BoxC q w.heap.size c) := fun q hq => by rw [HW.out] at hq; exact boxC hq (by simp)
  have HWS : Hid (w.heap.size + 1 = W.heap.size) := by show _ = _; rw [HW.out]; simp
  rw [← HW.out] at hal hx0
  have hHP : headP c n DI DO N = ofP 5 (headL c n DI DO N) := rfl
  rw [hHP]
  have own0 := OwnW.lit W [c.i, c.h, c.o, c.seed, c.batch, c.steps, c.rate, c.decay, c.how, c.keep, c.clip] (by simp)
  have hl0 := low_alloc W (.cells #[.int .u64 c.i, .int .u64 c.h, .int .u64 c.o, .int .u64 c.seed, .int .u64 c.batch, .int .u64 c.steps, .int .u64 c.rate, .int .u64 c.decay, .int .u64 c.how, .int .u64 c.keep, .int .u64 c.clip] 31)
  have HHL : Hid (headL c n DI DO N = ([c.i, c.h, c.o, c.seed, c.batch, c.steps, c.rate, c.decay, c.how, c.keep, c.clip] ++ (List.range n).map (exRoot DI DO)) ++ [SR]) := by
    show headL c n DI DO N = _
    rw [← HSR.out, ← HSL.out, ← HZL.out]
    rfl
  obtain ⟨HL, hHLe⟩ : ∃ l, headL c n DI DO N = l := ⟨_, rfl⟩
  rw [hHLe] at HOK HHL ⊢
  clear hHLe hHP hx hex hc hNb hN HSR HSL HZL
  obtain ⟨i, h, o, seed, batch, steps, crate, decay, how, keep, clip⟩ := c
  simp only [Cfg.val, Cfg.cells] at *
  obtain ⟨c0, c1, c2, c3, c4, c5, c6, c7, c8, c9, c10⟩ := KB.out _ (Below.refl _ _)
  dsimp only at c0 c1 c2 c3 c4 c5 c6 c7 c8 c9 c10
  go_enter Try.func104, Try.ntmps104
  go_wp2_with fail
  rw [← HW.out]
  clear HW
  go_loopw [5, 51] (fun v t wr => ∃ k : Nat, k ≤ n ∧ t = .int .i64 k ∧ OwnW W.heap.size wr v ([i, h, o, seed, batch, steps, crate, decay, how, keep, clip] ++ (List.range k).map (exRoot DI DO)) ∧ Below W.heap.size W wr) (fun _ t _ => n - (intOf t).toNat)
  case atStart => exact ⟨0, Nat.zero_le _, rfl, by rw [HWS.out]; simpa using own0, hl0⟩
  case round =>
    clear own0 hl0 c0 c1 c2 c3 c4 c5 c6 c7 c8 c9 c10
    obtain ⟨k, hk, rfl, hown, hbel⟩ := hrel
    have hsz := hbel.size
    have hll : ([i, h, o, seed, batch, steps, crate, decay, how, keep, clip] ++ (List.range k).map (exRoot DI DO)).length = 11 + k := by simp; omega
    by_cases hlt : k < n
    · obtain ⟨g1, g2, g3, g4, g5⟩ := HEX.out k hlt
      obtain ⟨xb, xo, rfl, e1, e2, hin⟩ := hx0.at hlt
      obtain ⟨x, hxk⟩ : ∃ x, X k = x := ⟨_, rfl⟩
      rw [hxk] at e1 e2 hin g1 g2 g3 g4 g5
      obtain ⟨xa, xn, xk, ya, yn, yk⟩ := x
      dsimp only at e1 e2 g1 g2 g3 g4 g5
      obtain ⟨lI, lO⟩ := hin
      dsimp only at lI lO
      obtain ⟨RT, HRT⟩ : ∃ t, Hid (exRoot DI DO k = t) := ⟨_, rfl⟩
      have hE0 : rootE xn yn = 0 := by unfold rootE; rw [if_neg (by omega), if_neg (by omega)]
      have hV0 : rootV xn (DI k) yn (DO k) = RT := by unfold rootV; rw [if_pos hE0, ← HRT.out, g1, g2]; rfl
      have hal1 := low_alloc wr (.cells #[.slice xa xn xk, .slice ya yn yk] 97)
      have RB := rob_calls xa xn xk (DI k) ya yn yk (DO k) _ ((lI.below hbel (Nat.le_refl _)).below hal1 (Nat.le_refl _)) ((lO.below hbel (Nat.le_refl _)).below hal1 (Nat.le_refl _)) (by omega)
      rw [hV0, hE0] at RB
      have t1 := (hbel.cell (p := ⟨xb, xo + k * 2, none⟩) (cell_lt e1)).trans e1
      have t2 := (hbel.cell (p := ⟨xb, xo + k * 2 + 1, none⟩) (cell_lt e2)).trans e2
      obtain ⟨y0, y1⟩ := fn2_cells (fn2_alloc wr (.slice xa xn xk) (.slice ya yn yk) 97)
      clear lI lO e1 e2 hxk g1 g2 hE0 hV0
      go_wp2_with fail
      refine RB.mono ?_
      rintro e u1 ⟨rfl, hu1⟩
      have T1 := hal1.trans (hu1.mono hal1.size)
      have T2 := T1.alloc T1.size (.cells #[.int .u64 RT] 31)
      have O2 := hown.below T2
      have B2 := hbel.trans (T2.mono hbel.size)
      clear y0 y1 t1 t2 RB
      go_wp2_with (at_builtin; refine wpList_append_word (by rfl) _ _ (by rfl) W.heap.size _ ([i, h, o, seed, batch, steps, crate, decay, how, keep, clip] ++ (List.range k).map (exRoot DI DO)) RT u1.heap.size W (by rfl) (by rfl) (by exact O2) (by exact cell_new _ _ _) (by rw [hll]; omega) (by exact B2.size) (by exact B2) ?_; intro v7 w7 hown7 hbel7)
      go_roundw
      case rel => exact ⟨k + 1, by omega, by go_num, hown7.congr (by rw [List.append_assoc, range_snocW (exRoot DI DO) k RT HRT.out]), hbel7⟩
      case measure => simp [intOf]; omega
    · obtain rfl : k = n := by omega
      obtain ⟨c0, c1, c2, c3, c4, c5, c6, c7, c8, c9, c10⟩ := KB.out _ hbel
      dsimp only at c0 c1 c2 c3 c4 c5 c6 c7 c8 c9 c10
      go_wp2_with fail
      refine (HRS.out _).mono ?_
      rintro e u1 ⟨ga, e1, gb, e2, rfl, l1, l2, hu1⟩
      clear c0 c1 c2 c3 c4 c5 c6 c7 c8 c9 c10
      have hal1 := low_alloc u1 (.cells #[.slice ga N e1, .slice gb N e2] 51)
      obtain ⟨y0, y1⟩ := fn2_cells (fn2_alloc u1 (.slice ga N e1) (.slice gb N e2) 51)
      have RR := jroot_calls ga N e1 SL gb N e2 ZL _ (l1.below hal1 (Nat.le_refl _)) (l2.below hal1 (Nat.le_refl _)) (by omega)
      rw [HRV.out, HRE.out] at RR
      clear l1 l2
      go_wp2_with fail
      refine RR.mono ?_
      rintro e u2 ⟨rfl, hu2⟩
      have T1 := hu1.trans ((hal1.trans (hu2.mono hal1.size)).mono hu1.size)
      have T3 := T1.alloc T1.size (.cells #[.int .u64 SR] 31)
      have O3 := hown.below T3
      have B3 := hbel.trans (T3.mono hbel.size)
      clear y0 y1 RR
      go_wp2_with (at_builtin; refine wpList_append_word (by rfl) _ _ (by rfl) W.heap.size _ ([i, h, o, seed, batch, steps, crate, decay, how, keep, clip] ++ (List.range k).map (exRoot DI DO)) SR u2.heap.size W (by rfl) (by rfl) (by exact O3) (by exact cell_new _ _ _) (by rw [hll]; omega) (by exact B3.size) (by exact B3) ?_; intro v7 w7 hown7 hbel7; obtain ⟨va, vc, hv7, l7⟩ := hown7.lst' (n := 12 + k) (by simp; omega); subst hv7; rw [← HHL.out] at l7)
      have HO := dOf_calls 5 ⟨by omega, by omega⟩ _ _ _ _ _ l7 HOK.out
      rw [show ofA 5 HL (12 + k) = ofP 5 HL from if_neg (by omega), show bigI (12 + k) = 0 from if_neg (by omega)] at HO
      refine HO.mono ?_
      rintro e w8 ⟨rfl, hw8⟩
      go_wp2_with fail
      go_ret
      exact ⟨rfl, hal.trans ((hbel7.trans (hw8.mono hbel7.size)).mono hal.size)⟩

end Go.Proofs.Ytnlcheebdkjpbae.Fx
