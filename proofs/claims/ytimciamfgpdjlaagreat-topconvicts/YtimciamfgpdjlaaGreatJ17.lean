/- What tree.climb returns: the way up. -/
import Derived.Test.YtimciamfgpdjlaaGreatJ16
import Derived.Deep.RegionHeld3
import Derived.Test.YtimciamfgpdjlaaGreatJ05
import Derived.Test.YtimciamfgpdjlaaGreatJ15
import Derived.Test.YtimciamfgpdjlaaGreatJ09
import Derived.Test.YtimciamfgpdjlaaGreatJ06
import Derived.Test.YtimciamfgpdjlaaGreatJ04
namespace Go.Proofs.YtimciamfgpdjlaaGreat.Fx
open Go.RowKit

theorem climb_calls : ∀ (m i n : Nat) (x : Int) (a : Option Addr) (len c : Nat) (ps : List Int) (w : World), n ≤ m → 1 ≤ n → n ≤ 50 → i < n → okW x → LstW w a len c ps → okL ps → len = deepP i n →
    Calls Tryz.prog 131 #[.int .i64 i, .int .i64 n, .int .u64 x, .slice a len c] w fun e w' => e = .returned (.int .u64 (upP i n x ps)) ∧ Below w.heap.size w w'
  | 0, i, n, x, a, len, c, ps, w, h, h1, h2, h3, hx, ha, hp, hd => by omega
  | m + 1, i, n, x, a, len, c, ps, w, h, h1, h2, h3, hx, ha, hp, hd => by
    have IH : Hid (∀ (i n : Nat) (x : Int) (a : Option Addr) (len c : Nat) (ps : List Int) (w : World), n ≤ m → 1 ≤ n → n ≤ 50 → i < n → okW x → LstW w a len c ps → okL ps → len = deepP i n →
      Calls Tryz.prog 131 #[.int .i64 i, .int .i64 n, .int .u64 x, .slice a len c] w fun e w' => e = .returned (.int .u64 (upP i n x ps)) ∧ Below w.heap.size w w') := climb_calls m
    have HL : Hid (ps.length = len) := ha.len
    have HK := ha.cap
    by_cases h4 : n = 1
    · have n1 : ((n : Int) == 1) = true := by rw [beq_iff_eq]; omega
      have HT : Hid (upP i n x ps = x) := upP_one (by omega) i x ps
      clear ha h4 hd
      go_enter Tryz.func131, Tryz.ntmps131
      go_wp2
      go_ret
      exact ⟨ret_word HT.out.symm, Below.refl _ _⟩
    · have hc := cutN_lt (n := n) (by omega)
      have HC : Hid (∀ w, Calls Tryz.prog 160 #[.int .i64 n] w fun e w' => e = .returned (.int .i64 (cutN n)) ∧ w' = w) := split_calls n (by omega) (by omega)
      have DL : Hid (i < cutN n → len = 1 + deepP i (cutN n)) := fun h => hd.trans (deepP_left (by omega) h)
      have DR : Hid (¬ i < cutN n → len = 1 + deepP (i - cutN n) (n - cutN n)) := fun h => hd.trans (deepP_right (by omega) h)
      have UL : Hid (i < cutN n → upP i n x ps = ofP 3 [upP i (cutN n) x (ps.take (len - 1)), ps.getD (len - 1) 0]) := fun h => by rw [← HL.out]; exact upP_left (by omega) h x ps
      have UR : Hid (¬ i < cutN n → upP i n x ps = ofP 3 [ps.getD (len - 1) 0, upP (i - cutN n) (n - cutN n) x (ps.take (len - 1))]) := fun h => by rw [← HL.out]; exact upP_right (by omega) h x ps
      have n1 : ((n : Int) == 1) = false := by rw [beq_eq_false_iff_ne]; omega
      clear hd
      generalize cutN n = k at *
      have hl1 : 1 ≤ len := by
        by_cases h5 : i < k
        · have := DL.out h5; omega
        · have := DR.out h5; omega
      have hl2 : len ≤ 51 := by
        by_cases h5 : i < k
        · have := DL.out h5; have := deepP_le i k; omega
        · have := DR.out h5; have := deepP_le (i - k) (n - k); omega
      obtain ⟨q, hq⟩ : ∃ q, len - 1 = q := ⟨_, rfl⟩
      rw [hq] at UL UR
      have HD : Hid (len = q + 1) := by show len = q + 1; omega
      obtain ⟨b, off, y, rfl, hb, h0, HY⟩ := ha.at1 (k := q) (by omega)
      rw [HY.out] at UL UR
      have hy : okW y := by rw [← HY.out]; exact hp q (by rw [HL.out]; omega)
      have hA := ha.head (by omega) (k := q) (by omega)
      have oA := okL_take hp q
      have q0 : (0 : Int) ≤ (q : Int) := by omega
      have q1 : (q : Int) < (len : Int) := by omega
      have q2 : (q : Int) ≤ (c : Int) := by omega
      have q3 : (len : Int) - 1 = (q : Int) := by omega
      clear ha hq
      by_cases h5 : i < k
      · have HU : Hid (upP i n x ps = ofP 3 [upP i k x (ps.take q), y]) := UL.out h5
        have HE : Hid (q = deepP i k) := by show q = deepP i k; have := DL.out h5; omega
        have hu : okW (upP i k x (ps.take q)) := upP_ok hx
        clear UL UR DL DR
        go_enter Tryz.func131, Tryz.ntmps131
        go_wp2_with (go_at_call 160; refine (HC.out _).mono ?_; rintro e w' ⟨rfl, hw'⟩; replace hw' := hw'.symm; subst hw')
        go_region_held3 (fun r => r.cell? ⟨b, off + q, none⟩ = some (.int .u64 y)) (first | go_keep | exact (hw1.cell (p := ⟨b, off + q, none⟩) hb).trans h0 | exact (hbel2.cell (p := ⟨b, off + q, none⟩) hb).trans h0) (first | (go_at_call 131; refine (IH.out i k x _ _ _ (ps.take q) _ (by omega) (by omega) (by omega) h5 hx (by first | exact hA | exact hA.drewN _) oA HE.out).mono ?_; rintro e w1 ⟨rfl, hw1⟩) | (go_at_call 77; refine (dPair_calls _ _ hu hy _).mono ?_; rintro e w2 ⟨rfl, hw2⟩; have hbel1 : Below w.heap.size w w1 := (below_drewN (Below.refl _ _) 1).trans hw1; have hbel2 := hbel1.trans (hw2.mono hbel1.size)))
        go_wp2
        go_ret
        exact ⟨ret_word HU.out.symm, hbel2⟩
      · have HU : Hid (upP i n x ps = ofP 3 [y, upP (i - k) (n - k) x (ps.take q)]) := UR.out h5
        have HE : Hid (q = deepP (i - k) (n - k)) := by show q = deepP (i - k) (n - k); have := DR.out h5; omega
        have hu : okW (upP (i - k) (n - k) x (ps.take q)) := upP_ok hx
        have e1 : IntKind.i64.wrap ((i : Int) - (k : Int)) = ((i - k : Nat) : Int) := by rw [wrap_in _ (by omega) (by omega)]; omega
        have e2 : IntKind.i64.wrap ((n : Int) - (k : Int)) = ((n - k : Nat) : Int) := by rw [wrap_in _ (by omega) (by omega)]; omega
        clear UL UR DL DR
        go_enter Tryz.func131, Tryz.ntmps131
        go_wp2_with (go_at_call 160; refine (HC.out _).mono ?_; rintro e w' ⟨rfl, hw'⟩; replace hw' := hw'.symm; subst hw')
        go_region_held3 (fun r => r.cell? ⟨b, off + q, none⟩ = some (.int .u64 y)) (first | go_keep | exact (hw1.cell (p := ⟨b, off + q, none⟩) hb).trans h0 | exact (hbel2.cell (p := ⟨b, off + q, none⟩) hb).trans h0) (first | (go_at_call 131; refine (IH.out (i - k) (n - k) x _ _ _ (ps.take q) _ (by omega) (by omega) (by omega) (by omega) hx (by first | exact hA | exact hA.drewN _) oA HE.out).mono ?_; rintro e w1 ⟨rfl, hw1⟩) | (go_at_call 77; refine (dPair_calls _ _ hy hu _).mono ?_; rintro e w2 ⟨rfl, hw2⟩; have hbel1 : Below w.heap.size w w1 := (below_drewN (Below.refl _ _) 1).trans hw1; have hbel2 := hbel1.trans (hw2.mono hbel1.size)))
        go_wp2
        go_ret
        exact ⟨ret_word HU.out.symm, hbel2⟩

end Go.Proofs.YtimciamfgpdjlaaGreat.Fx

/- What tree.Leaves, Root, Path and Climb return, whatever is handed in. -/
namespace Go.Proofs.YtimciamfgpdjlaaGreat.Fx
open Go.RowKit

def errL (n : Nat) : Int := if n = 0 then 1 else if 200 < n then 2 else 0
def leavesL (xs : List Int) (n : Nat) : List Int := if n = 0 ∨ 200 < n then [] else leavesP xs n
def rootL (xs : List Int) (n : Nat) : Int := if n = 0 ∨ 200 < n then 0 else ofP 3 [(n : Int), treeP (leavesP xs n)]
def errP (i : Int) (n : Nat) : Int := if n = 0 ∨ 200 < n then errL n else if 0 ≤ i ∧ i < ((n + 3) / 4 : Nat) then 0 else 1
def wayL (xs : List Int) (n : Nat) (i : Int) : List Int := if ¬ (n = 0 ∨ 200 < n) ∧ 0 ≤ i ∧ i < ((n + 3) / 4 : Nat) then wayP (leavesP xs n) i.toNat else []
def okC (i n : Int) : Prop := 1 ≤ n ∧ n ≤ 200 ∧ 0 ≤ i ∧ i < (n + 3) / 4
instance (i n : Int) : Decidable (okC i n) := by unfold okC; infer_instance
def dpC (i n : Int) : Nat := deepP i.toNat ((n.toNat + 3) / 4)
def errC (i n : Int) (len : Nat) : Int := if okC i n then (if len = dpC i n then 0 else 5) else 1
def upL (i n x : Int) (ps : List Int) (len : Nat) : Int := if okC i n ∧ len = dpC i n then ofP 3 [n, upP i.toNat ((n.toNat + 3) / 4) x ps] else 0

theorem leaves_bad (a : Option Addr) (n c : Nat) (w : World) (h : n = 0 ∨ 200 < n) :
    Calls Tryz.prog 73 #[.slice a n c] w fun e w' => e = .returned (.tuple #[.slice none 0 0, .int .i64 (errL n)]) ∧ w' = w := by
  by_cases h0 : n = 0
  · have HE : Hid (errL n = 1) := if_pos h0
    have n0 : ((n : Int) == 0) = true := by rw [beq_iff_eq]; omega
    go_enter Tryz.func73, Tryz.ntmps73
    go_wp2
    go_ret2
    exact ⟨by rw [HE.out]; rfl, rfl⟩
  · have HE : Hid (errL n = 2) := by show errL n = 2; unfold errL; rw [if_neg h0, if_pos (by omega)]
    have n0 : ((n : Int) == 0) = false := by rw [beq_eq_false_iff_ne]; omega
    have n2 : 200 < n := by omega
    go_enter Tryz.func73, Tryz.ntmps73
    go_wp2
    go_ret2
    exact ⟨by rw [HE.out]; rfl, rfl⟩

theorem Leaves_calls (a : Option Addr) (n c : Nat) (xs : List Int) (w : World) (ha : Lst w a n c xs) :
    Calls Tryz.prog 73 #[.slice a n c] w fun e w' => ∃ a' N, e = .returned (.tuple #[.slice a' N N, .int .i64 (errL n)]) ∧ N ≤ 50 ∧ LstW w' a' N N (leavesL xs n) ∧ Below w.heap.size w w' := by
  unfold leavesL
  by_cases h : n = 0 ∨ 200 < n
  · rw [if_pos h]
    refine (leaves_bad a n c w h).mono ?_
    rintro e w' ⟨rfl, rfl⟩
    exact ⟨_, _, rfl, by omega, LstW.nil _ _ _, Below.refl _ _⟩
  · rw [if_neg h]
    refine (leaves_calls a n c xs w ha (by omega) (by omega)).mono ?_
    rintro e w' ⟨a', rfl, h1, h2⟩
    exact ⟨_, _, by unfold errL; rw [if_neg (by omega), if_neg (by omega)], by omega, h1, h2⟩

theorem root_good (a : Option Addr) (n c : Nat) (xs : List Int) (w : World) (ha : Lst w a n c xs) (h1 : 1 ≤ n) (h2 : n ≤ 200) :
    Calls Tryz.prog 74 #[.slice a n c] w fun e w' => e = .returned (.tuple #[.int .u64 (ofP 3 [(n : Int), treeP (leavesP xs n)]), .int .i64 0]) ∧ Below w.heap.size w w' := by
  have ht := treeP_ok (leavesP_ok xs n) (by rw [leavesP_len]; omega)
  have hn : okW (n : Int) := ⟨by omega, by omega⟩
  go_enter Tryz.func74, Tryz.ntmps74
  go_wp2_with (first | (go_at_call 73; refine (leaves_calls _ _ _ xs _ ha h1 h2).mono ?_; rintro e w1 ⟨a1, rfl, hl1, hw1⟩) | (go_at_call 133; refine (top_calls 50 _ _ _ (leavesP xs n) _ (by omega) (by omega) (by omega) hl1 (leavesP_ok _ _)).mono ?_; rintro e w2 ⟨rfl, hw2⟩) | (go_at_call 77; refine (dPair_calls _ _ hn ht _).mono ?_; rintro e w3 ⟨rfl, hw3⟩))
  go_ret2
  have e2 := hw1.trans (hw2.mono hw1.size)
  exact ⟨rfl, e2.trans (hw3.mono e2.size)⟩

theorem errL_ne {n : Nat} (h : n = 0 ∨ 200 < n) : (errL n != 0) = true := by
  unfold errL
  by_cases h0 : n = 0
  · rw [if_pos h0]; rfl
  · rw [if_neg h0, if_pos (by omega)]; rfl

theorem Root_calls (a : Option Addr) (n c : Nat) (xs : List Int) (w : World) (ha : Lst w a n c xs) :
    Calls Tryz.prog 74 #[.slice a n c] w fun e w' => e = .returned (.tuple #[.int .u64 (rootL xs n), .int .i64 (errL n)]) ∧ Below w.heap.size w w' := by
  unfold rootL
  by_cases h : n = 0 ∨ 200 < n
  · rw [if_pos h]
    have he := errL_ne h
    have HB : Hid (∀ w, Calls Tryz.prog 73 #[.slice a n c] w fun e w' => e = .returned (.tuple #[.slice none 0 0, .int .i64 (errL n)]) ∧ w' = w) := fun w => leaves_bad a n c w h
    generalize errL n = E at *
    clear h
    go_enter Tryz.func74, Tryz.ntmps74
    go_wp2_with (go_at_call 73; refine (HB.out _).mono ?_; rintro e w' ⟨rfl, hw'⟩; replace hw' := hw'.symm; subst hw')
    go_ret2
    exact ⟨rfl, Below.refl _ _⟩
  · rw [if_neg h]
    refine (root_good a n c xs w ha (by omega) (by omega)).mono ?_
    rintro e w' ⟨rfl, h2⟩
    exact ⟨by unfold errL; rw [if_neg (by omega), if_neg (by omega)], h2⟩

theorem path_good (a : Option Addr) (n c : Nat) (xs : List Int) (i : Nat) (w : World) (ha : Lst w a n c xs) (h1 : 1 ≤ n) (h2 : n ≤ 200) (hi : i < (n + 3) / 4) :
    Calls Tryz.prog 70 #[.slice a n c, .int .i64 i] w fun e w' => ∃ a' c', e = .returned (.tuple #[.slice a' (deepP i ((n + 3) / 4)) c', .int .i64 0]) ∧ LstW w' a' (deepP i ((n + 3) / 4)) c' (wayP (leavesP xs n) i) ∧ Below w.heap.size w w' := by
  have hd := (way_deep _ (leavesP xs n) i (Nat.le_refl _) (leavesP_ok _ _)).1
  rw [leavesP_len] at hd
  have HD : Hid ((wayP (leavesP xs n) i).length = deepP i ((n + 3) / 4)) := hd
  have HV : Hid (∀ w, Lst w a n c xs → Calls Tryz.prog 73 #[.slice a n c] w fun e w' => ∃ a', e = .returned (.tuple #[.slice a' ((n + 3) / 4 : Nat) ((n + 3) / 4 : Nat), .int .i64 0]) ∧ LstW w' a' ((n + 3) / 4) ((n + 3) / 4) (leavesP xs n) ∧ Below w.heap.size w w') := fun w ha => leaves_calls a n c xs w ha h1 h2
  have hN : (n + 3) / 4 ≤ 50 := by omega
  clear hd
  generalize (n + 3) / 4 = N at *
  go_enter Tryz.func70, Tryz.ntmps70
  go_wp2_with (first | (go_at_call 73; refine (HV.out _ ha).mono ?_; rintro e w1 ⟨a1, rfl, hl1, hw1⟩) | (go_at_call 128; refine (beside_calls 50 _ _ _ (leavesP xs n) i _ (by omega) (by omega) (by omega) hi hl1 (leavesP_ok _ _)).mono ?_; rintro e w2 ⟨v2, rfl, hown, hw2⟩; obtain ⟨a2, c2, rfl, hl2⟩ := hown.lst' HD.out))
  go_ret2
  exact ⟨_, _, rfl, hl2, hw1.trans (hw2.mono hw1.size)⟩

theorem path_out (a : Option Addr) (n c : Nat) (xs : List Int) (i : Int) (w : World) (ha : Lst w a n c xs) (h1 : 1 ≤ n) (h2 : n ≤ 200) (hi : ¬ (0 ≤ i ∧ i < ((n + 3) / 4 : Nat))) :
    Calls Tryz.prog 70 #[.slice a n c, .int .i64 i] w fun e w' => e = .returned (.tuple #[.slice none 0 0, .int .i64 1]) ∧ Below w.heap.size w w' := by
  have HV : Hid (∀ w, Lst w a n c xs → Calls Tryz.prog 73 #[.slice a n c] w fun e w' => ∃ a', e = .returned (.tuple #[.slice a' ((n + 3) / 4 : Nat) ((n + 3) / 4 : Nat), .int .i64 0]) ∧ LstW w' a' ((n + 3) / 4) ((n + 3) / 4) (leavesP xs n) ∧ Below w.heap.size w w') := fun w ha => leaves_calls a n c xs w ha h1 h2
  generalize (n + 3) / 4 = N at *
  by_cases h0 : i < 0
  · clear hi
    go_enter Tryz.func70, Tryz.ntmps70
    go_wp2_with (first | (go_at_call 73; refine (HV.out _ ha).mono ?_; rintro e w1 ⟨a1, rfl, hl1, hw1⟩))
    go_ret2
    exact ⟨rfl, hw1⟩
  · have h3 : (N : Int) ≤ i := by omega
    clear hi
    go_enter Tryz.func70, Tryz.ntmps70
    go_wp2_with (first | (go_at_call 73; refine (HV.out _ ha).mono ?_; rintro e w1 ⟨a1, rfl, hl1, hw1⟩))
    go_ret2
    exact ⟨rfl, hw1⟩

theorem path_bad (a : Option Addr) (n c : Nat) (i : Int) (w : World) (h : n = 0 ∨ 200 < n) :
    Calls Tryz.prog 70 #[.slice a n c, .int .i64 i] w fun e w' => e = .returned (.tuple #[.slice none 0 0, .int .i64 (errL n)]) ∧ Below w.heap.size w w' := by
  have he := errL_ne h
  have HB : Hid (∀ w, Calls Tryz.prog 73 #[.slice a n c] w fun e w' => e = .returned (.tuple #[.slice none 0 0, .int .i64 (errL n)]) ∧ w' = w) := fun w => leaves_bad a n c w h
  generalize errL n = E at *
  clear h
  go_enter Tryz.func70, Tryz.ntmps70
  go_wp2_with (go_at_call 73; refine (HB.out _).mono ?_; rintro e w' ⟨rfl, hw'⟩; replace hw' := hw'.symm; subst hw')
  go_ret2
  exact ⟨rfl, Below.refl _ _⟩

theorem Path_calls (a : Option Addr) (n c : Nat) (xs : List Int) (i : Int) (w : World) (ha : Lst w a n c xs) :
    Calls Tryz.prog 70 #[.slice a n c, .int .i64 i] w fun e w' => ∃ a' N c', e = .returned (.tuple #[.slice a' N c', .int .i64 (errP i n)]) ∧ N ≤ 50 ∧ LstW w' a' N c' (wayL xs n i) ∧ Below w.heap.size w w' := by
  unfold errP wayL
  by_cases h : n = 0 ∨ 200 < n
  · rw [if_pos h, if_neg (fun h' => h'.1 h)]
    refine (path_bad a n c i w h).mono ?_
    rintro e w' ⟨rfl, h2⟩
    exact ⟨_, _, _, rfl, by omega, LstW.nil _ _ _, h2⟩
  · rw [if_neg h]
    by_cases h3 : 0 ≤ i ∧ i < ((n + 3) / 4 : Nat)
    · rw [if_pos h3, if_pos ⟨h, h3⟩]
      obtain ⟨k, rfl⟩ : ∃ k : Nat, i = k := ⟨i.toNat, by omega⟩
      have hk : k < (n + 3) / 4 := by omega
      refine (path_good a n c xs k w ha (by omega) (by omega) hk).mono ?_
      rintro e w' ⟨a', c', rfl, h4, h5⟩
      have := deepP_le k ((n + 3) / 4)
      exact ⟨_, _, _, rfl, by omega, h4, h5⟩
    · rw [if_neg h3, if_neg (fun h' => h3 h'.2)]
      refine (path_out a n c xs i w ha (by omega) (by omega) h3).mono ?_
      rintro e w' ⟨rfl, h2⟩
      exact ⟨_, _, _, rfl, by omega, LstW.nil _ _ _, h2⟩

set_option maxHeartbeats 1600000 in
theorem Climb_calls (i n x : Int) (a : Option Addr) (len c : Nat) (ps : List Int) (w : World) (hx : okW x) (ha : LstW w a len c ps) (hp : okL ps) :
    Calls Tryz.prog 72 #[.int .i64 i, .int .i64 n, .int .u64 x, .slice a len c] w fun e w' => e = .returned (.tuple #[.int .u64 (upL i n x ps len), .int .i64 (errC i n len)]) ∧ Below w.heap.size w w' := by
  unfold upL errC
  by_cases h : okC i n
  · obtain ⟨h1, h2, h3, h4⟩ := id h
    rw [if_pos h]
    obtain ⟨k, rfl⟩ : ∃ k : Nat, i = k := ⟨i.toNat, by omega⟩
    obtain ⟨m, rfl⟩ : ∃ m : Nat, n = m := ⟨n.toNat, by omega⟩
    have HC : Hid (∀ w, Calls Tryz.prog 129 #[.int .i64 m] w fun e w' => e = .returned (.int .i64 ((m + 3) / 4 : Nat)) ∧ w' = w) := chunks_calls m (by omega)
    have ED : Hid (dpC k m = deepP k ((m + 3) / 4)) := by show dpC k m = _; unfold dpC; simp
    have hk : k < (m + 3) / 4 := by omega
    have hm : (m + 3) / 4 ≤ 50 := by omega
    have hn : okW (m : Int) := ⟨by omega, by omega⟩
    have hu : okW (upP k ((m + 3) / 4) x ps) := upP_ok hx
    have e1 : (k : Int).toNat = k := by omega
    have e2 : (m : Int).toNat = m := by omega
    rw [ED.out, e1, e2]
    clear h4 ED e1 e2
    by_cases h5 : len = deepP k ((m + 3) / 4)
    · rw [if_pos h5, if_pos ⟨h, h5⟩]
      have HQ : Hid (deepP k ((m + 3) / 4) = len) := h5.symm
      have q1 : ((len : Int) != (len : Int)) = false := by simp
      have h6 : len ≤ 50 := by have := deepP_le k ((m + 3) / 4); omega
      clear h h5
      generalize (m + 3) / 4 = N at *
      go_enter Tryz.func72, Tryz.ntmps72
      go_wp2_with (first | (go_at_call 129; refine (HC.out _).mono ?_; rintro e w' ⟨rfl, hw'⟩; replace hw' := hw'.symm; subst hw') | (go_at_call 130; refine (pairs_calls 50 _ _ _ hm (by omega) hm hk).mono ?_; rintro e w' ⟨rfl, hw'⟩; replace hw' := hw'.symm; subst hw'; rw [HQ.out]) | (go_at_call 131; refine (climb_calls 50 _ _ _ _ _ _ ps _ hm (by omega) hm hk hx ha hp HQ.out.symm).mono ?_; rintro e w1 ⟨rfl, hw1⟩) | (go_at_call 77; refine (dPair_calls _ _ hn hu _).mono ?_; rintro e w2 ⟨rfl, hw2⟩))
      go_ret2
      exact ⟨rfl, hw1.trans (hw2.mono hw1.size)⟩
    · rw [if_neg h5, if_neg (fun h' => h5 h'.2)]
      have h6 := deepP_le k ((m + 3) / 4)
      have HQ : Hid (∃ q, q = deepP k ((m + 3) / 4) ∧ ((len : Int) != (q : Int)) = true ∧ q ≤ 50) := ⟨_, rfl, by rw [bne_iff_ne]; omega, by omega⟩
      clear h h5
      generalize (m + 3) / 4 = N at *
      obtain ⟨q, hq, q1, q2⟩ := HQ.out
      have HQ2 : Hid (deepP k N = q) := hq.symm
      clear HQ hq h6
      go_enter Tryz.func72, Tryz.ntmps72
      go_wp2_with (first | (go_at_call 129; refine (HC.out _).mono ?_; rintro e w' ⟨rfl, hw'⟩; replace hw' := hw'.symm; subst hw') | (go_at_call 130; refine (pairs_calls 50 _ _ _ hm (by omega) hm hk).mono ?_; rintro e w' ⟨rfl, hw'⟩; replace hw' := hw'.symm; subst hw'; rw [HQ2.out]))
      go_ret2
      exact ⟨rfl, Below.refl _ _⟩
  · rw [if_neg h, if_neg (fun h' => h h'.1)]
    by_cases h1 : n < 1
    · clear h ha
      go_enter Tryz.func72, Tryz.ntmps72
      go_wp2
      go_ret2
      exact ⟨rfl, Below.refl _ _⟩
    · by_cases h2 : 200 < n
      · clear h ha
        go_enter Tryz.func72, Tryz.ntmps72
        go_wp2
        go_ret2
        exact ⟨rfl, Below.refl _ _⟩
      · by_cases h3 : i < 0
        · clear h ha
          go_enter Tryz.func72, Tryz.ntmps72
          go_wp2
          go_ret2
          exact ⟨rfl, Below.refl _ _⟩
        · obtain ⟨m, rfl⟩ : ∃ m : Nat, n = m := ⟨n.toNat, by omega⟩
          have h4 : (((m + 3) / 4 : Nat) : Int) ≤ i := by
            rcases Int.lt_or_le i (((m + 3) / 4 : Nat) : Int) with h5 | h5
            · exact absurd ⟨by omega, by omega, by omega, by omega⟩ h
            · exact h5
          have HC : Hid (∀ w, Calls Tryz.prog 129 #[.int .i64 m] w fun e w' => e = .returned (.int .i64 ((m + 3) / 4 : Nat)) ∧ w' = w) := chunks_calls m (by omega)
          clear h ha
          generalize (m + 3) / 4 = N at *
          go_enter Tryz.func72, Tryz.ntmps72
          go_wp2_with (go_at_call 129; refine (HC.out _).mono ?_; rintro e w' ⟨rfl, hw'⟩; replace hw' := hw'.symm; subst hw')
          go_ret2
          exact ⟨rfl, Below.refl _ _⟩

end Go.Proofs.YtimciamfgpdjlaaGreat.Fx

/- What journal.rootOfBoth and journal.Root return, whatever is handed in. -/
namespace Go.Proofs.YtimciamfgpdjlaaGreat.Fx
open Go.RowKit

theorem rootE_err (n1 n2 : Nat) : rootE n1 n2 = errL (n1 + n2) := rfl
theorem rootV_is (n1 : Nat) (ws : List Int) (n2 : Nat) (ms : List Int) : rootV n1 ws n2 ms = rootL (ws ++ ms) (n1 + n2) := by
  unfold rootV rootL rootE
  by_cases h0 : n1 + n2 = 0
  · rw [if_pos h0, if_neg (by decide), if_pos (.inl h0)]
  · rw [if_neg h0]
    by_cases h2 : 200 < n1 + n2
    · rw [if_pos h2, if_neg (by decide), if_pos (.inr h2)]
    · rw [if_neg h2, if_pos rfl, if_neg (by omega)]
      rfl

set_option maxRecDepth 100000 in
theorem rob_calls (a1 : Option Addr) (n1 k1 : Nat) (ws : List Int) (a2 : Option Addr) (n2 k2 : Nat) (ms : List Int) (w : World) (l1 : Lst w a1 n1 k1 ws) (l2 : Lst w a2 n2 k2 ms) (hz : n1 + n2 ≤ 4611686018427387904) :
    Calls Tryz.prog 68 #[.slice a1 n1 k1, .slice a2 n2 k2] w fun e w' => e = .returned (.tuple #[.int .u64 (rootV n1 ws n2 ms), .int .i64 (rootE n1 n2)]) ∧ Below w.heap.size w w' := by
  rw [rootV_is, rootE_err]
  by_cases h : 200 < n1 + n2
  · have HE : Hid (errL (n1 + n2) = 2) := by show errL (n1 + n2) = 2; unfold errL; rw [if_neg (by omega), if_pos h]
    have HV : Hid (rootL (ws ++ ms) (n1 + n2) = 0) := if_pos (.inr h)
    have h1 : (n1 : Int) + (n2 : Int) > 200 := by omega
    clear l1 l2
    go_enter Tryz.func68, Tryz.ntmps68
    go_wp2
    go_ret2
    exact ⟨by rw [HE.out, HV.out]; rfl, Below.refl _ _⟩
  · have h1 : ¬ (n1 : Int) + (n2 : Int) > 200 := by omega
    go_enter Tryz.func68, Tryz.ntmps68
    go_wp2_with fail
    refine (concat2 a1 a2 n1 n2 k1 k2 ws ms _ _ rfl l1 l2 (by omega)).mono ?_
    rintro e w1 ⟨a, c, rfl, hl, hw1⟩
    go_wp2_with fail
    refine (Root_calls a _ c _ _ hl).mono ?_
    rintro e w2 ⟨rfl, hw2⟩
    go_wp2_with fail
    go_ret2
    exact ⟨rfl, hw1.trans (hw2.mono hw1.size)⟩

theorem jroot_calls (a1 : Option Addr) (n1 k1 : Nat) (ws : List Int) (a2 : Option Addr) (n2 k2 : Nat) (ms : List Int) (w : World) (l1 : Lst w a1 n1 k1 ws) (l2 : Lst w a2 n2 k2 ms) (hz : n1 + n2 ≤ 4611686018427387904) :
    Calls Tryz.prog 22 #[.agg #[.slice a1 n1 k1, .slice a2 n2 k2]] w fun e w' => e = .returned (.tuple #[.int .u64 (rootV n1 ws n2 ms), .int .i64 (rootE n1 n2)]) ∧ Below w.heap.size w w' := by
  have hal := low_alloc w (.cells #[.slice a1 n1 k1, .slice a2 n2 k2] 28)
  have row := fn2_alloc w (.slice a1 n1 k1) (.slice a2 n2 k2) 28
  obtain ⟨c0, c1⟩ := fn2_cells row
  have HR := rob_calls a1 n1 k1 ws a2 n2 k2 ms _ (l1.below hal (Nat.le_refl _)) (l2.below hal (Nat.le_refl _)) hz
  generalize rootV n1 ws n2 ms = V at *
  generalize rootE n1 n2 = E at *
  clear l1 l2 row
  go_enter Tryz.func22, Tryz.ntmps22
  go_wp2_with fail
  refine HR.mono ?_
  rintro e w1 ⟨rfl, hw1⟩
  go_wp2_with fail
  go_ret2
  exact ⟨rfl, hal.trans (hw1.mono hal.size)⟩
end Go.Proofs.YtimciamfgpdjlaaGreat.Fx

/- What audit.redo returns, whatever is handed in. -/
namespace Go.Proofs.YtimciamfgpdjlaaGreat.Fx
open Go.RowKit

/-- The root of the state that a step leads to. -/
def nxZ (c : Cfg) (n : Nat) (X : Nat → Exm) (DI DO : Nat → List Int) (n1 : Nat) (ws : List Int) (n2 : Nat) (ms : List Int) (step : Int) : Int := rootV (nxW c n X DI DO n1 ws n2 ms step).length (nxW c n X DI DO n1 ws n2 ms step) (nxM c n X DI DO n1 ws n2 ms step).length (nxM c n X DI DO n1 ws n2 ms step)
/-- Is a record that of the step done again, but for its chain? -/
def jgB (c : Cfg) (n : Nat) (X : Nat → Exm) (DI DO : Nat → List Int) (n1 : Nat) (ws : List Int) (n2 : Nat) (ms : List Int) (step : Int) (x : Rcm) (xs : List Int) : Bool :=
  decide (x.s = step) && decide (x.r = nxR c n X DI DO n1 ws n2 ms step) && decide (x.root = nxZ c n X DI DO n1 ws n2 ms step) && decide (xs = nxB c n X DI DO n1 ws n2 ms step)
theorem jgB_is (c : Cfg) (n : Nat) (X : Nat → Exm) (DI DO : Nat → List Int) (n1 : Nat) (ws : List Int) (n2 : Nat) (ms : List Int) (step : Int) (x : Rcm) (xs : List Int) (a : Option Addr) (m k : Nat) (ch : Int) : likeB x ⟨step, a, m, k, nxR c n X DI DO n1 ws n2 ms step, nxZ c n X DI DO n1 ws n2 ms step, ch⟩ xs (nxB c n X DI DO n1 ws n2 ms step) = jgB c n X DI DO n1 ws n2 ms step x xs := by simp only [jgB, likeB]
theorem nextE_ok {c : Cfg} {n : Nat} {X : Nat → Exm} {DI DO : Nat → List Int} {n1 : Nat} {ws : List Int} {n2 : Nat} {ms : List Int} {step : Int} (h : nextE c n X DI DO n1 ws n2 ms step = 0) : courseI c n X DI DO = 0 ∧ fitB c n1 ws = true ∧ fitB c n2 ms = true ∧ inB step 0 (c.steps - 1) = true := by
  unfold nextE at h
  by_cases h1 : courseI c n X DI DO = 0
  · rw [if_pos h1] at h
    by_cases h2 : (fitB c n1 ws && fitB c n2 ms) = true
    · rw [if_pos h2] at h
      by_cases h3 : inB step 0 (c.steps - 1) = true
      · rw [Bool.and_eq_true] at h2
        exact ⟨h1, h2.1, h2.2, h3⟩
      · rw [if_neg h3] at h; cases h
    · rw [if_neg h2] at h; cases h
  · rw [if_neg h1] at h; exact absurd h h1

/-- Where nothing is wrong the batch lies in a block of its own. -/
theorem tNext_far (c : Cfg) (hs : okW c.seed) (a : Option Addr) (n cap : Nat) (X : Nat → Exm) (DI DO : Nat → List Int) (a1 : Option Addr) (n1 k1 : Nat) (ws : List Int) (a2 : Option Addr) (n2 k2 : Nat) (ms : List Int) (step : Int) (w : World) (hx : Exs w a n cap X DI DO) (l1 : Lst w a1 n1 k1 ws) (l2 : Lst w a2 n2 k2 ms) (hz : nextE c n X DI DO n1 ws n2 ms step = 0) :
    Calls Tryz.prog 125 #[c.val, .slice a n cap, .agg #[.slice a1 n1 k1, .slice a2 n2 k2], .int .i64 step] w fun e w' => ∃ g1 d1 g2 d2 bg N B, e = .returned (.tuple #[.agg #[.slice (some ⟨g1, 0, none⟩) N d1, .slice (some ⟨g2, 0, none⟩) N d2], .slice (some ⟨bg, 0, none⟩) B B, .int .i64 (nxR c n X DI DO n1 ws n2 ms step), .int .i64 0]) ∧ N ≤ 200 ∧ B ≤ 200 ∧ Lst w' (some ⟨g1, 0, none⟩) N d1 (nxW c n X DI DO n1 ws n2 ms step) ∧ Lst w' (some ⟨g2, 0, none⟩) N d2 (nxM c n X DI DO n1 ws n2 ms step) ∧ Arr w' bg B B (batchG c.seed n (step.toNat * c.batch.toNat)) ∧ (List.range B).map (batchG c.seed n (step.toNat * c.batch.toNat)) = nxB c n X DI DO n1 ws n2 ms step ∧ w.heap.size ≤ bg ∧ Below w.heap.size w w' := by
  have HC : ∀ q, Below w.heap.size w q → Calls Tryz.prog 54 #[c.val, .slice a n cap] q fun e w' => e = .returned (.int .i64 (courseI c n X DI DO)) ∧ Below q.heap.size q w' := fun q hq => tcheck_calls c a n cap X DI DO q (hx.below hq (Nat.le_refl _))
  obtain ⟨hE, f1, f2, hst⟩ := nextE_ok hz
  rw [hE] at HC
  obtain ⟨hc, hn1, hn2, hex⟩ := course_ok hE
  have g1 := fit_len hc f1
  have g2 := fit_len hc f2
  have hn : n2 = n1 := by have := g1.1; have := g2.1; omega
  subst hn
  unfold nxR nxW nxM nxB
  rw [hz, if_pos rfl, if_pos rfl, if_pos rfl, if_pos rfl]
  have hlow := in_is hst
  obtain ⟨T, hT⟩ := Int.eq_ofNat_of_zero_le hlow.1
  obtain ⟨⟨i1, i2⟩, ⟨h1, h2⟩, ⟨o1, o2⟩, ⟨b1, b2⟩, _⟩ := cfgB_is hc
  obtain ⟨i, h, o, seed, batch, steps, crate, decay, how, keep, clip⟩ := c
  dsimp only at i1 i2 h1 h2 o1 o2 b1 b2 hs hlow ⊢
  obtain ⟨I, rfl⟩ := Int.eq_ofNat_of_zero_le (show 0 ≤ i by omega)
  obtain ⟨H, rfl⟩ := Int.eq_ofNat_of_zero_le (show 0 ≤ h by omega)
  obtain ⟨O, rfl⟩ := Int.eq_ofNat_of_zero_le (show 0 ≤ o by omega)
  obtain ⟨B, rfl⟩ := Int.eq_ofNat_of_zero_le (show 0 ≤ batch by omega)
  subst hT
  have hN : n2 = H * I + H + O * H + O := by have := g1.1; unfold sizeN at this; dsimp only at this; exact_mod_cast this
  refine (tNext_own _ hc a n cap a1 n2 k1 ws a2 n2 k2 ms T w l1 l2 HC f1 f2 hst B _ _ _ _ (fun q hq => tnext_own I H O B T seed crate decay how keep clip hs steps hc n2 hN a n cap X DI DO a1 k1 ws a2 k2 ms q (hx.below hq (Nat.le_refl _)) hn1 hn2 hex (l1.below hq (Nat.le_refl _)) (l2.below hq (Nat.le_refl _)) g1.2.2.2 g2.2.2.2 (by omega))).mono ?_
  rintro e w' ⟨x1, d1, x2, d2, bg, he, h⟩
  exact ⟨x1, d1, x2, d2, bg, n2, B, he, by omega, by omega, h.a1.lst, h.a2.lst, h.a3, rfl, h.f3, h.bel⟩

structure RdBox (w : World) (c : Cfg) (v0 v1 : Value) (wr : World) : Prop where
  cfg : BoxC wr w.heap.size c
  st : wr.rowIs (w.heap.size + 1) 28 2 (fn2 v0 v1)
  res : wr.rowIs (w.heap.size + 1 + 1) 30 5 (fn5 (.int .i64 0) (.slice none 0 0) (.int .i64 0) (.int .u64 0) (.int .u64 0))
  bel : Below w.heap.size w wr
theorem RdBox.start (w : World) (c : Cfg) (v0 v1 : Value) : RdBox w c v0 v1 (((w.alloc (.cells c.cells 24)).alloc (.cells #[v0, v1] 28)).alloc (.cells #[.int .i64 0, .slice none 0 0, .int .i64 0, .int .u64 0, .int .u64 0] 30)) := by
  refine ⟨?_, ?_, ?_, (((Below.refl w.heap.size w).alloc (Nat.le_refl _) _).alloc (by simp) _).alloc (by simp; omega) _⟩
  · exact boxC (B := w.heap.size + 1) (((Below.refl _ _).alloc (by simp) _).alloc (by simp) _) (by omega)
  · have h := (fn2_alloc (w.alloc (.cells c.cells 24)) v0 v1 28).alloc (.cells #[.int .i64 0, .slice none 0 0, .int .i64 0, .int .u64 0, .int .u64 0] 30)
    simpa using h
  · have h := fn5_alloc ((w.alloc (.cells c.cells 24)).alloc (.cells #[v0, v1] 28)) (.int .i64 0) (.slice none 0 0) (.int .i64 0) (.int .u64 0) (.int .u64 0) 30
    simpa using h
theorem RdBox.below {w : World} {c : Cfg} {v0 v1 : Value} {wr w2 : World} (h : RdBox w c v0 v1 wr) (hb : Below wr.heap.size wr w2) : RdBox w c v0 v1 w2 := by
  have l2 := h.res.lt
  have k : ∀ i, w2.cell? ⟨w.heap.size, i, none⟩ = wr.cell? ⟨w.heap.size, i, none⟩ := fun i => hb.cell (p := ⟨w.heap.size, i, none⟩) (by show w.heap.size < _; omega)
  exact ⟨⟨(k 0).trans h.cfg.c0, (k 1).trans h.cfg.c1, (k 2).trans h.cfg.c2, (k 3).trans h.cfg.c3, (k 4).trans h.cfg.c4, (k 5).trans h.cfg.c5, (k 6).trans h.cfg.c6, (k 7).trans h.cfg.c7, (k 8).trans h.cfg.c8, (k 9).trans h.cfg.c9, (k 10).trans h.cfg.c10⟩,
    h.st.of_block (hb.block _ (by omega)), h.res.of_block (hb.block _ l2), h.bel.trans (hb.mono h.bel.size)⟩

set_option maxRecDepth 100000 in
set_option maxHeartbeats 1600000 in
theorem redo_good (c : Cfg) (hs : okW c.seed) (a : Option Addr) (n cap : Nat) (X : Nat → Exm) (DI DO : Nat → List Int) (a1 : Option Addr) (n1 k1 : Nat) (ws : List Int) (a2 : Option Addr) (n2 k2 : Nat) (ms : List Int) (step : Int) (w : World) (hx : Exs w a n cap X DI DO) (l1 : Lst w a1 n1 k1 ws) (l2 : Lst w a2 n2 k2 ms) (hz : nextE c n X DI DO n1 ws n2 ms step = 0) :
    Calls Tryz.prog 101 #[c.val, .slice a n cap, .agg #[.slice a1 n1 k1, .slice a2 n2 k2], .int .i64 step] w fun e w' => ∃ a3 m3 k3, e = .returned (.tuple #[.agg #[.int .i64 step, .slice a3 m3 k3, .int .i64 (nxR c n X DI DO n1 ws n2 ms step), .int .u64 (nxZ c n X DI DO n1 ws n2 ms step), .int .u64 0], .int .i64 0]) ∧ m3 ≤ 200 ∧ Lst w' a3 m3 k3 (nxB c n X DI DO n1 ws n2 ms step) ∧ Below w.heap.size w w' := by
  have sb0 := RdBox.start w c (.slice a1 n1 k1) (.slice a2 n2 k2)
  have NX := tNext_far c hs a n cap X DI DO a1 n1 k1 ws a2 n2 k2 ms step _ (hx.below sb0.bel (Nat.le_refl _)) (l1.below sb0.bel (Nat.le_refl _)) (l2.below sb0.bel (Nat.le_refl _)) hz
  have HZ : Hid (∀ (g1 d1 g2 d2 N : Nat) (q : World), Lst q (some ⟨g1, 0, none⟩) N d1 (nxW c n X DI DO n1 ws n2 ms step) → Lst q (some ⟨g2, 0, none⟩) N d2 (nxM c n X DI DO n1 ws n2 ms step) → N ≤ 200 → Calls Tryz.prog 22 #[.agg #[.slice (some ⟨g1, 0, none⟩) N d1, .slice (some ⟨g2, 0, none⟩) N d2]] q fun e w' => ∃ z, e = .returned (.tuple #[.int .u64 (nxZ c n X DI DO n1 ws n2 ms step), .int .i64 z]) ∧ Below q.heap.size q w') := fun g1 d1 g2 d2 N q m1 m2 hN => by
    have h := jroot_calls _ _ _ _ _ _ _ _ q m1 m2 (by omega)
    unfold nxZ
    rw [m1.len, m2.len]
    exact h.mono fun e w' ⟨he, hb⟩ => ⟨_, he, hb⟩
  generalize nxR c n X DI DO n1 ws n2 ms step = NR at *
  generalize nxZ c n X DI DO n1 ws n2 ms step = NZ at *
  generalize nxW c n X DI DO n1 ws n2 ms step = NW at *
  generalize nxM c n X DI DO n1 ws n2 ms step = NM at *
  generalize nxB c n X DI DO n1 ws n2 ms step = NB at *
  generalize batchG c.seed n (step.toNat * c.batch.toNat) = BG at *
  clear hx l1 l2 hz hs
  obtain ⟨i, h, o, seed, batch, steps, crate, decay, how, keep, clip⟩ := c
  simp only [Cfg.val, Cfg.cells] at *
  obtain ⟨c0, c1, c2, c3, c4, c5, c6, c7, c8, c9, c10⟩ := sb0.cfg
  obtain ⟨s0, s1⟩ := fn2_cells sb0.st
  dsimp only at c0 c1 c2 c3 c4 c5 c6 c7 c8 c9 c10
  go_enter Tryz.func101, Tryz.ntmps101
  go_wp2_with fail
  refine NX.mono ?_
  rintro e u4 ⟨xa, e1, xb, e2, bg, N, B, rfl, hN2, hB2, lw, lm, lb, hlb, m3, hu4⟩
  have HLB : Hid ((List.range B).map BG = NB) := hlb
  have sb4 := sb0.below hu4
  have z3 := sb0.res.lt
  clear NX c0 c1 c2 c3 c4 c5 c6 c7 c8 c9 c10 s0 s1 hlb sb0
  have hal := low_alloc u4 (.cells #[.slice (some ⟨xa, 0, none⟩) N e1, .slice (some ⟨xb, 0, none⟩) N e2] 28)
  have orow := fn2_alloc u4 (.slice (some ⟨xa, 0, none⟩) N e1) (.slice (some ⟨xb, 0, none⟩) N e2) 28
  have sb5 := sb4.below hal
  have lb5 := lb.below hal
  have RT := HZ.out xa e1 xb e2 N _ (lw.below hal (Nat.le_refl _)) (lm.below hal (Nat.le_refl _)) hN2
  obtain ⟨o0, o1⟩ := fn2_cells orow
  clear sb4 hu4 lw lm lb HZ
  go_wp2_with fail
  refine RT.mono ?_
  rintro e u5 ⟨zz, rfl, hu5⟩
  have sb6 := sb5.below hu5
  have lb6 := lb5.below hu5
  clear sb5 lb5 hu5 o0 o1 orow RT hal
  obtain ⟨r0, r1, r2, r3, r4⟩ := fn5_box sb6.res
  have f0 := sb6.res.frozen 0
  have f1 := sb6.res.frozen 1
  have f2 := sb6.res.frozen 2
  have f3 := sb6.res.frozen 3
  have f4 := sb6.res.frozen 4
  have hrs := sb6.res
  have hbb := sb6.bel
  have hne : bg ≠ w.heap.size + 1 + 1 := by omega
  have LB6 : Hid (Arr u5 bg B B BG) := lb6
  clear lb6 sb6
  go_wp2_with fail
  obtain ⟨y0, y1, y2, y3, y4⟩ := fn5_box (fn5_set hrs (.int .i64 step) (.slice (some ⟨bg, 0, none⟩) B B) (.int .i64 NR) (.int .u64 NZ) (.int .u64 0))
  exact bodyPost_ret (v := .tuple #[.agg #[.int .i64 step, .slice (some ⟨bg, 0, none⟩) B B, .int .i64 NR, .int .u64 NZ, .int .u64 0], .int .i64 0]) (by simp [results, Tryz.results101, go_sem, y0, y1, y2, y3, y4]) rfl ⟨some ⟨bg, 0, none⟩, B, B, rfl, hB2, HLB.out ▸ (((((LB6.out.setOther hne _).setOther hne _).setOther hne _).setOther hne _).setOther hne _).lst, below_set5 hbb (by omega) _ _ _ _ _⟩

set_option maxRecDepth 100000 in
set_option maxHeartbeats 1600000 in
theorem redo_bad (c : Cfg) (hs : okW c.seed) (a : Option Addr) (n cap : Nat) (X : Nat → Exm) (DI DO : Nat → List Int) (a1 : Option Addr) (n1 k1 : Nat) (ws : List Int) (a2 : Option Addr) (n2 k2 : Nat) (ms : List Int) (step : Int) (w : World) (hx : Exs w a n cap X DI DO) (l1 : Lst w a1 n1 k1 ws) (l2 : Lst w a2 n2 k2 ms) (E : Int) (hz : nextE c n X DI DO n1 ws n2 ms step = E) (hE : E ≠ 0) :
    Calls Tryz.prog 101 #[c.val, .slice a n cap, .agg #[.slice a1 n1 k1, .slice a2 n2 k2], .int .i64 step] w fun e w' => e = .returned (.tuple #[.agg #[.int .i64 0, .slice none 0 0, .int .i64 0, .int .u64 0, .int .u64 0], .int .i64 E]) ∧ Below w.heap.size w w' := by
  have sb0 := RdBox.start w c (.slice a1 n1 k1) (.slice a2 n2 k2)
  have NX := tNext_calls c hs a n cap X DI DO a1 n1 k1 ws a2 n2 k2 ms step _ (hx.below sb0.bel (Nat.le_refl _)) (l1.below sb0.bel (Nat.le_refl _)) (l2.below sb0.bel (Nat.le_refl _))
  rw [hz] at NX
  have hb : (E != 0) = true := by rw [bne_iff_ne]; exact hE
  generalize nxR c n X DI DO n1 ws n2 ms step = NR at *
  generalize nxW c n X DI DO n1 ws n2 ms step = NW at *
  generalize nxM c n X DI DO n1 ws n2 ms step = NM at *
  generalize nxB c n X DI DO n1 ws n2 ms step = NB at *
  clear hx l1 l2 hz hs
  obtain ⟨i, h, o, seed, batch, steps, crate, decay, how, keep, clip⟩ := c
  simp only [Cfg.val, Cfg.cells] at *
  obtain ⟨c0, c1, c2, c3, c4, c5, c6, c7, c8, c9, c10⟩ := sb0.cfg
  obtain ⟨s0, s1⟩ := fn2_cells sb0.st
  dsimp only at c0 c1 c2 c3 c4 c5 c6 c7 c8 c9 c10
  go_enter Tryz.func101, Tryz.ntmps101
  go_wp2_with fail
  refine NX.mono ?_
  rintro e u4 ⟨b1, m1, d1, b2, m2, d2, a3, m3, d3, rfl, _, _, _, _, _, _, hu4⟩
  have sb4 := sb0.below hu4
  have z3 := sb0.res.lt
  clear NX c0 c1 c2 c3 c4 c5 c6 c7 c8 c9 c10 s0 s1 sb0
  have hal := low_alloc u4 (.cells #[.slice b1 m1 d1, .slice b2 m2 d2] 28)
  have sb5 := sb4.below hal
  obtain ⟨r0, r1, r2, r3, r4⟩ := fn5_box sb5.res
  have f0 := sb5.res.frozen 0
  have f1 := sb5.res.frozen 1
  have f2 := sb5.res.frozen 2
  have f3 := sb5.res.frozen 3
  have f4 := sb5.res.frozen 4
  have hrs := sb5.res
  have hbb := sb5.bel
  clear sb4 hu4 sb5 hal
  go_wp2_with fail
  obtain ⟨y0, y1, y2, y3, y4⟩ := fn5_box (fn5_set hrs (.int .i64 0) (.slice none 0 0) (.int .i64 0) (.int .u64 0) (.int .u64 0))
  exact bodyPost_ret (v := .tuple #[.agg #[.int .i64 0, .slice none 0 0, .int .i64 0, .int .u64 0, .int .u64 0], .int .i64 E]) (by simp [results, Tryz.results101, go_sem, y0, y1, y2, y3, y4]) rfl ⟨rfl, below_set5 hbb (by omega) _ _ _ _ _⟩
end Go.Proofs.YtimciamfgpdjlaaGreat.Fx

/- A list of states that the program itself makes by append: what is known of it, and what one append more leaves. -/
namespace Go.Proofs.YtimciamfgpdjlaaGreat.Fx
open Go.RowKit

def stCells (X : Nat → Exm) : Nat → List Value
  | 0 => []
  | n + 1 => stCells X n ++ [.slice (X n).a (X n).n (X n).k, .slice (X n).b (X n).m (X n).t]
theorem stCells_len (X : Nat → Exm) (n : Nat) : (stCells X n).length = n * 2 := by
  induction n with
  | zero => rfl
  | succ k ih => simp [stCells, ih]; omega
theorem stCells_congr {X Y : Nat → Exm} {n : Nat} (h : ∀ i, i < n → X i = Y i) : stCells X n = stCells Y n := by
  induction n with
  | zero => rfl
  | succ k ih => simp only [stCells]; rw [ih (fun i hi => h i (by omega)), h k (by omega)]
theorem stCells_at (X : Nat → Exm) {n i : Nat} (h : i < n) : (stCells X n)[i * 2]? = some (.slice (X i).a (X i).n (X i).k) ∧ (stCells X n)[i * 2 + 1]? = some (.slice (X i).b (X i).m (X i).t) := by
  induction n with
  | zero => omega
  | succ k ih =>
    have hl := stCells_len X k
    simp only [stCells]
    by_cases e : i = k
    · subst e
      rw [List.getElem?_append_right (by omega), List.getElem?_append_right (by omega), hl]
      simp
    · have g := ih (by omega)
      rw [List.getElem?_append_left (by omega), List.getElem?_append_left (by omega)]
      exact g
theorem stCells_one {X : Nat → Exm} {n : Nat} {v : Value} (h : v ∈ stCells X n) : v.oneCell' = true := by
  induction n with
  | zero => cases h
  | succ k ih =>
    simp only [stCells, List.mem_append, List.mem_cons, List.not_mem_nil, or_false] at h
    rcases h with h | h | h
    · exact ih h
    · rw [h]; rfl
    · rw [h]; rfl
/-- The slice value v, made from block number base on, owns the states X. -/
def OwnS (base : Nat) (w : World) (v : Value) (n : Nat) (X : Nat → Exm) : Prop := w.ownsRow base 28 2 v n (stCells X n)
theorem OwnS.nil (base : Nat) (w : World) (X : Nat → Exm) : OwnS base w (.slice none 0 0) 0 X := World.ownsRow_nil _ _ _ _
theorem OwnS.below {base : Nat} {w w' : World} {v : Value} {n : Nat} {X : Nat → Exm} (h : OwnS base w v n X) (hb : Below w.heap.size w w') : OwnS base w' v n X := by
  refine ⟨h.1, ?_⟩
  rcases h.2 with h0 | ⟨g, cap, cur, hv, hg, hh, r⟩
  · exact .inl h0
  · exact .inr ⟨g, cap, cur, hv, hg, by rw [hb.block g (Array.getElem?_eq_some_iff.1 hh).1]; exact hh, r⟩
theorem OwnS.exs {base : Nat} {w : World} {v : Value} {n : Nat} {X : Nat → Exm} {DI DO : Nat → List Int} (h : OwnS base w v n X) (hin : ∀ i, i < n → InEx w (X i) (DI i) (DO i)) : ∃ a c, v = .slice a n c ∧ Exs w a n c X DI DO := by
  obtain ⟨hl, h2⟩ := h
  rcases h2 with ⟨rfl, rfl⟩ | ⟨g, cap, cur, rfl, _, hh, hle, _, hsz, hcur⟩
  · exact ⟨none, 0, rfl, Nat.le_refl _, .inl rfl⟩
  · refine ⟨_, cap, rfl, hle, .inr ⟨g, 0, rfl, (Array.getElem?_eq_some_iff.1 hh).1, fun i hi => ?_⟩⟩
    have hc : ∀ j, j < n * 2 → w.cell? ⟨g, 0 + j, none⟩ = (stCells X n)[j]? := fun j hj => by
      rw [← hcur, List.getElem?_take_of_lt hj]
      simp [World.cell?, hh]
    have g2 := stCells_at X hi
    refine ⟨(hc (i * 2) (by omega)).trans g2.1, ?_, hin i hi⟩
    have := hc (i * 2 + 1) (by omega)
    rw [← Nat.add_assoc] at this
    exact this.trans g2.2

theorem infoS : (Tryz.prog.info? 28).map (fun i => (i.zero, i.size, i.bytes)) = some (some (.agg #[.slice none 0 0, .slice none 0 0]), 2, 48) := by kernel_rfl

section
variable {w' W0 : World} {ops : Array Oper} {o : Oper} {a : Act} {Q : Exit → Act → World → Prop}
theorem run_append_st (ty : TypeId) (base : Nat) (v : Value) (n : Nat) (X : Nat → Exm) (g : Nat) (hown : OwnS base w' v n X) (hc0 : w'.cell? ⟨g, 0, none⟩ = some (.slice (X n).a (X n).n (X n).k)) (hc1 : w'.cell? ⟨g, 1, none⟩ = some (.slice (X n).b (X n).m (X n).t)) (hn : (n + 1) * 48 ≤ 140737488355328) (hbase : base ≤ w'.heap.size) :
    ∃ v' w1, (Builtin.append_ #[34, 34] ty #[v, .slice (some ⟨g, 0, none⟩) 1 1]).run Tryz.prog w' = .ok v' w1 ∧ OwnS base w1 v' (n + 1) X ∧ w'.grownBy w1 v.ownBlock ∧ (v'.ownBlock = v.ownBlock ∨ v'.ownBlock = some w'.heap.size) := by
  obtain ⟨i0, hi, hz0, hz1, hz2⟩ := info_parts infoS
  obtain ⟨v', w1, hrun, h1, h2, _, h3⟩ := run_append_own_at (P := Tryz.prog) w' base 34 ty 28 i0 (.agg #[.slice none 0 0, .slice none 0 0]) 2 48 Tryz.underlying34 hi hz0 hz1 hz2 rfl (by decide) v n _ hown ⟨g, 0, none⟩ 1 1 [.slice (X n).a (X n).n (X n).k, .slice (X n).b (X n).m (X n).t] rfl
    (by intro j u hj
        match j, hj with
        | 0, hj => simp at hj; subst hj; simpa [Addr.add] using hc0
        | 1, hj => simp at hj; subst hj; simpa [Addr.add] using hc1)
    (by intro u hu
        simp at hu
        rcases hu with rfl | rfl <;> rfl) (by unfold maxLen; omega) hn hbase
  exact ⟨v', w1, hrun, h1, h2, h3⟩

theorem wpList_append_st {rest : List Oper} (hgd : o.guard = none) (s x : Operand) (ho : o.op = .call { callee := .builtin .append, args := #[s, x], argTypes := #[34, 34] })
    (base : Nat) (v : Value) (n : Nat) (X : Nat → Exm) (g : Nat) (hs : a.eval s = v) (hx : a.eval x = .slice (some ⟨g, 0, none⟩) 1 1) (hown : OwnS base w' v n X) (hc0 : w'.cell? ⟨g, 0, none⟩ = some (.slice (X n).a (X n).n (X n).k)) (hc1 : w'.cell? ⟨g, 1, none⟩ = some (.slice (X n).b (X n).m (X n).t)) (hn : (n + 1) * 48 ≤ 140737488355328) (hbase : base ≤ w'.heap.size)
    (h : ∀ v' w1, OwnS base w1 v' (n + 1) X → w'.grownBy w1 v.ownBlock → (v'.ownBlock = v.ownBlock ∨ v'.ownBlock = some w'.heap.size) → wpList Tryz.prog ops Q rest (a.put o.dst v') w1) : wpList Tryz.prog ops Q (o :: rest) a w' := by
  obtain ⟨v', w1, hrun, h1, h2, h3⟩ := run_append_st o.type base v n X g hown hc0 hc1 hn hbase
  refine wpList_plain hgd fun K hK => ?_
  unfold Oper.wp
  simp [execOp, ho, resolve, invoke, builtin, hs, hx, hrun, Result.andThen]
  exact hK _ _ (h v' w1 h1 h2 h3)
end

end Go.Proofs.YtimciamfgpdjlaaGreat.Fx
