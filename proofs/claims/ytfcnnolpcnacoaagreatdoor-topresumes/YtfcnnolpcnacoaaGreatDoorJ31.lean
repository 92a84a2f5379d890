/- The first words of a list that lies in memory, and the others. -/
import Derived.Test.YtfcnnolpcnacoaaGreatDoorJ02
import Derived.Test.YtfcnnolpcnacoaaGreatDoorJ26
import Derived.Test.YtfcnnolpcnacoaaGreatDoorJ30
import Derived.Deep.RegionHeld3
import Derived.Test.YtfcnnolpcnacoaaGreatDoorJ28
import Derived.Test.YtfcnnolpcnacoaaGreatDoorJ29
import Derived.Test.YtfcnnolpcnacoaaGreatDoorJ16
namespace Go.Proofs.YtfcnnolpcnacoaaGreatDoor.Fx
open Go.RowKit

theorem LstW.head {w : World} {b off n c : Nat} {xs : List Int} (h : LstW w (some ⟨b, off, none⟩) n c xs) (hn : 0 < n) {k : Nat} (hk : k ≤ n) : LstW w (some ⟨b, off, none⟩) k c (xs.take k) := by
  simpa using h.sub hn 0 k (Nat.zero_le _) hk
theorem LstW.tail {w : World} {b off n c : Nat} {xs : List Int} (h : LstW w (some ⟨b, off, none⟩) n c xs) (hn : 0 < n) {k : Nat} (hk : k ≤ n) : LstW w (some ⟨b, off + k, none⟩) (n - k) (c - k) (xs.drop k) := by
  have h1 := h.sub hn k n hk (Nat.le_refl _)
  rwa [List.take_of_length_le (by rw [List.length_drop, h.len]; exact Nat.le_refl _)] at h1

end Go.Proofs.YtfcnnolpcnacoaaGreatDoor.Fx

/- What tree.top returns: the tree of its leaves. -/
namespace Go.Proofs.YtfcnnolpcnacoaaGreatDoor.Fx
open Go.RowKit

theorem top_calls : ∀ (m : Nat) (a : Option Addr) (n c : Nat) (xs : List Int) (w : World), n ≤ m → 1 ≤ n → n ≤ 50 → LstW w a n c xs → okL xs →
    Calls Tryz.prog 82 #[.slice a n c] w fun e w' => e = .returned (.int .u64 (treeP xs)) ∧ Below w.heap.size w w'
  | 0, a, n, c, xs, w, h, h1, h2, ha, hx => by omega
  | m + 1, a, n, c, xs, w, h, h1, h2, ha, hx => by
    have IH : Hid (∀ (a : Option Addr) (n c : Nat) (xs : List Int) (w : World), n ≤ m → 1 ≤ n → n ≤ 50 → LstW w a n c xs → okL xs →
      Calls Tryz.prog 82 #[.slice a n c] w fun e w' => e = .returned (.int .u64 (treeP xs)) ∧ Below w.heap.size w w') := top_calls m
    have HL := ha.len
    have HK := ha.cap
    obtain ⟨b, off, x, rfl, hb, h0, HX⟩ := ha.at1 (k := 0) (by omega)
    rw [Nat.add_zero] at h0
    by_cases h3 : n = 1
    · have n1 : ((n : Int) == 1) = true := by rw [beq_iff_eq]; omega
      have HT : Hid (treeP xs = x) := by rw [treeP_one (by omega)]; exact HX.out
      clear ha h3
      go_enter Tryz.func82, Tryz.ntmps82
      go_wp2
      go_ret
      exact ⟨ret_word HT.out.symm, Below.refl _ _⟩
    · have hc := cutN_lt (n := n) (by omega)
      have HT : Hid (treeP xs = ofP 3 [treeP (xs.take (cutN n)), treeP (xs.drop (cutN n))]) := by rw [← HL]; exact treeP_two (by omega)
      have HC : Hid (∀ w, Calls Tryz.prog 117 #[.int .i64 n] w fun e w' => e = .returned (.int .i64 (cutN n)) ∧ w' = w) := split_calls n (by omega) (by omega)
      generalize cutN n = k at *
      have hA := ha.head (by omega) (k := k) (by omega)
      have hB := ha.tail (by omega) (k := k) (by omega)
      have oA := okL_take hx k
      have oB := okL_drop hx k
      have tA : Hid (okW (treeP (xs.take k))) := treeP_ok oA (by rw [hA.len]; omega)
      have tB : Hid (okW (treeP (xs.drop k))) := treeP_ok oB (by rw [hB.len]; omega)
      have n1 : ((n : Int) == 1) = false := by rw [beq_eq_false_iff_ne]; omega
      have k0 : (0 : Int) ≤ (k : Int) := by omega
      have k1 : (k : Int) ≤ (n : Int) := by omega
      have k2 : (n : Int) ≤ (c : Int) := by omega
      have k3 : (k : Int) ≤ (c : Int) := by omega
      have k4 : ¬ c = k := by omega
      clear ha
      go_enter Tryz.func82, Tryz.ntmps82
      go_wp2_with (go_at_call 117; refine (HC.out _).mono ?_; rintro e w' ⟨rfl, hw'⟩; replace hw' := hw'.symm; subst hw')
      go_region_held3 (fun _ => True) (exact True.intro) (first | (go_at_call 82; refine (IH.out _ _ _ (xs.take k) _ (by omega) (by omega) (by omega) (by first | exact hA | exact hA.drewN _) oA).mono ?_; rintro e w1 ⟨rfl, hw1⟩) | (go_at_call 82; refine (IH.out _ _ _ (xs.drop k) _ (by omega) (by omega) (by omega) (by first | exact hB.below hw1 (Nat.le_refl _) | exact (hB.drewN _).below hw1 (Nat.le_refl _)) oB).mono ?_; rintro e w2 ⟨rfl, hw2⟩) | (go_at_call 81; refine (dPair_calls _ _ tA.out tB.out _).mono ?_; rintro e w3 ⟨rfl, hw3⟩))
      go_wp2
      go_ret
      have e1 : Below w.heap.size w w1 := (below_drewN (Below.refl _ _) 1).trans hw1
      have e2 := e1.trans (hw2.mono e1.size)
      exact ⟨ret_word HT.out.symm, e2.trans (hw3.mono e2.size)⟩

end Go.Proofs.YtfcnnolpcnacoaaGreatDoor.Fx

/- What tree.pairs and tree.beside return: how deep a leaf lies, and its way. -/
namespace Go.Proofs.YtfcnnolpcnacoaaGreatDoor.Fx
open Go.RowKit

end Go.Proofs.YtfcnnolpcnacoaaGreatDoor.Fx

/- What tree.climb returns: the way up. -/
namespace Go.Proofs.YtfcnnolpcnacoaaGreatDoor.Fx
open Go.RowKit

end Go.Proofs.YtfcnnolpcnacoaaGreatDoor.Fx

/- What tree.Leaves, Root, Path and Climb return, whatever is handed in. -/
namespace Go.Proofs.YtfcnnolpcnacoaaGreatDoor.Fx
open Go.RowKit

def errL (n : Nat) : Int := if n = 0 then 1 else if 200 < n then 2 else 0
def leavesL (xs : List Int) (n : Nat) : List Int := if n = 0 ∨ 200 < n then [] else leavesP xs n
def rootL (xs : List Int) (n : Nat) : Int := if n = 0 ∨ 200 < n then 0 else ofP 3 [(n : Int), treeP (leavesP xs n)]
def errP (i : Int) (n : Nat) : Int := if n = 0 ∨ 200 < n then errL n else if 0 ≤ i ∧ i < ((n + 3) / 4 : Nat) then 0 else 1
def wayL (xs : List Int) (n : Nat) (i : Int) : List Int := if ¬ (n = 0 ∨ 200 < n) ∧ 0 ≤ i ∧ i < ((n + 3) / 4 : Nat) then wayP (leavesP xs n) i.toNat else []
def okC (i n : Int) : Prop := 1 ≤ n ∧ n ≤ 200 ∧ 0 ≤ i ∧ i < (n + 3) / 4
instance (i n : Int) : Decidable (okC i n) := by unfold okC; infer_instance
def dpC (i n : Int) : Nat := deepP i.toNat ((n.toNat + 3) / 4)
def errC (i n : Int) (len : Nat) : Int := if okC i n then (if len = dpC i n then 0 else 5) else 1
def upL (i n x : Int) (ps : List Int) (len : Nat) : Int := if okC i n ∧ len = dpC i n then ofP 3 [n, upP i.toNat ((n.toNat + 3) / 4) x ps] else 0

theorem leaves_bad (a : Option Addr) (n c : Nat) (w : World) (h : n = 0 ∨ 200 < n) :
    Calls Tryz.prog 80 #[.slice a n c] w fun e w' => e = .returned (.tuple #[.slice none 0 0, .int .i64 (errL n)]) ∧ w' = w := by
  by_cases h0 : n = 0
  · have HE : Hid (errL n = 1) := if_pos h0
    have n0 : ((n : Int) == 0) = true := by rw [beq_iff_eq]; omega
    go_enter Tryz.func80, Tryz.ntmps80
    go_wp2
    go_ret2
    exact ⟨by rw [HE.out]; rfl, rfl⟩
  · have HE : Hid (errL n = 2) := by show errL n = 2; unfold errL; rw [if_neg h0, if_pos (by omega)]
    have n0 : ((n : Int) == 0) = false := by rw [beq_eq_false_iff_ne]; omega
    have n2 : 200 < n := by omega
    go_enter Tryz.func80, Tryz.ntmps80
    go_wp2
    go_ret2
    exact ⟨by rw [HE.out]; rfl, rfl⟩

theorem Leaves_calls (a : Option Addr) (n c : Nat) (xs : List Int) (w : World) (ha : Lst w a n c xs) :
    Calls Tryz.prog 80 #[.slice a n c] w fun e w' => ∃ a' N, e = .returned (.tuple #[.slice a' N N, .int .i64 (errL n)]) ∧ N ≤ 50 ∧ LstW w' a' N N (leavesL xs n) ∧ Below w.heap.size w w' := by
  unfold leavesL
  by_cases h : n = 0 ∨ 200 < n
  · rw [if_pos h]
    refine (leaves_bad a n c w h).mono ?_
    rintro e w' ⟨rfl, rfl⟩
    exact ⟨_, _, rfl, by omega, LstW.nil _ _ _, Below.refl _ _⟩
  · rw [if_neg h]
    refine (leaves_calls a n c xs w ha (by omega) (by omega)).mono ?_
    rintro e w' ⟨a', rfl, h1, h2⟩
    exact ⟨_, _, by unfold errL; rw [if_neg (by omega), if_neg (by omega)], by omega, h1, h2⟩

theorem root_good (a : Option Addr) (n c : Nat) (xs : List Int) (w : World) (ha : Lst w a n c xs) (h1 : 1 ≤ n) (h2 : n ≤ 200) :
    Calls Tryz.prog 61 #[.slice a n c] w fun e w' => e = .returned (.tuple #[.int .u64 (ofP 3 [(n : Int), treeP (leavesP xs n)]), .int .i64 0]) ∧ Below w.heap.size w w' := by
  have ht := treeP_ok (leavesP_ok xs n) (by rw [leavesP_len]; omega)
  have hn : okW (n : Int) := ⟨by omega, by omega⟩
  go_enter Tryz.func61, Tryz.ntmps61
  go_wp2_with (first | (go_at_call 80; refine (leaves_calls _ _ _ xs _ ha h1 h2).mono ?_; rintro e w1 ⟨a1, rfl, hl1, hw1⟩) | (go_at_call 82; refine (top_calls 50 _ _ _ (leavesP xs n) _ (by omega) (by omega) (by omega) hl1 (leavesP_ok _ _)).mono ?_; rintro e w2 ⟨rfl, hw2⟩) | (go_at_call 81; refine (dPair_calls _ _ hn ht _).mono ?_; rintro e w3 ⟨rfl, hw3⟩))
  go_ret2
  have e2 := hw1.trans (hw2.mono hw1.size)
  exact ⟨rfl, e2.trans (hw3.mono e2.size)⟩

theorem errL_ne {n : Nat} (h : n = 0 ∨ 200 < n) : (errL n != 0) = true := by
  unfold errL
  by_cases h0 : n = 0
  · rw [if_pos h0]; rfl
  · rw [if_neg h0, if_pos (by omega)]; rfl

theorem Root_calls (a : Option Addr) (n c : Nat) (xs : List Int) (w : World) (ha : Lst w a n c xs) :
    Calls Tryz.prog 61 #[.slice a n c] w fun e w' => e = .returned (.tuple #[.int .u64 (rootL xs n), .int .i64 (errL n)]) ∧ Below w.heap.size w w' := by
  unfold rootL
  by_cases h : n = 0 ∨ 200 < n
  · rw [if_pos h]
    have he := errL_ne h
    have HB : Hid (∀ w, Calls Tryz.prog 80 #[.slice a n c] w fun e w' => e = .returned (.tuple #[.slice none 0 0, .int .i64 (errL n)]) ∧ w' = w) := fun w => leaves_bad a n c w h
    generalize errL n = E at *
    clear h
    go_enter Tryz.func61, Tryz.ntmps61
    go_wp2_with (go_at_call 80; refine (HB.out _).mono ?_; rintro e w' ⟨rfl, hw'⟩; replace hw' := hw'.symm; subst hw')
    go_ret2
    exact ⟨rfl, Below.refl _ _⟩
  · rw [if_neg h]
    refine (root_good a n c xs w ha (by omega) (by omega)).mono ?_
    rintro e w' ⟨rfl, h2⟩
    exact ⟨by unfold errL; rw [if_neg (by omega), if_neg (by omega)], h2⟩

end Go.Proofs.YtfcnnolpcnacoaaGreatDoor.Fx

/- What journal.rootOfBoth and journal.Root return, whatever is handed in. -/
namespace Go.Proofs.YtfcnnolpcnacoaaGreatDoor.Fx
open Go.RowKit

theorem rootE_err (n1 n2 : Nat) : rootE n1 n2 = errL (n1 + n2) := rfl
theorem rootV_is (n1 : Nat) (ws : List Int) (n2 : Nat) (ms : List Int) : rootV n1 ws n2 ms = rootL (ws ++ ms) (n1 + n2) := by
  unfold rootV rootL rootE
  by_cases h0 : n1 + n2 = 0
  · rw [if_pos h0, if_neg (by decide), if_pos (.inl h0)]
  · rw [if_neg h0]
    by_cases h2 : 200 < n1 + n2
    · rw [if_pos h2, if_neg (by decide), if_pos (.inr h2)]
    · rw [if_neg h2, if_pos rfl, if_neg (by omega)]
      rfl

set_option maxRecDepth 100000 in
theorem rob_calls (a1 : Option Addr) (n1 k1 : Nat) (ws : List Int) (a2 : Option Addr) (n2 k2 : Nat) (ms : List Int) (w : World) (l1 : Lst w a1 n1 k1 ws) (l2 : Lst w a2 n2 k2 ms) (hz : n1 + n2 ≤ 4611686018427387904) :
    Calls Tryz.prog 46 #[.slice a1 n1 k1, .slice a2 n2 k2] w fun e w' => e = .returned (.tuple #[.int .u64 (rootV n1 ws n2 ms), .int .i64 (rootE n1 n2)]) ∧ Below w.heap.size w w' := by
  rw [rootV_is, rootE_err]
  by_cases h : 200 < n1 + n2
  · have HE : Hid (errL (n1 + n2) = 2) := by show errL (n1 + n2) = 2; unfold errL; rw [if_neg (by omega), if_pos h]
    have HV : Hid (rootL (ws ++ ms) (n1 + n2) = 0) := if_pos (.inr h)
    have h1 : (n1 : Int) + (n2 : Int) > 200 := by omega
    clear l1 l2
    go_enter Tryz.func46, Tryz.ntmps46
    go_wp2
    go_ret2
    exact ⟨by rw [HE.out, HV.out]; rfl, Below.refl _ _⟩
  · have h1 : ¬ (n1 : Int) + (n2 : Int) > 200 := by omega
    go_enter Tryz.func46, Tryz.ntmps46
    go_wp2_with fail
    refine (concat2 a1 a2 n1 n2 k1 k2 ws ms _ _ rfl l1 l2 (by omega)).mono ?_
    rintro e w1 ⟨a, c, rfl, hl, hw1⟩
    go_wp2_with fail
    refine (Root_calls a _ c _ _ hl).mono ?_
    rintro e w2 ⟨rfl, hw2⟩
    go_wp2_with fail
    go_ret2
    exact ⟨rfl, hw1.trans (hw2.mono hw1.size)⟩

theorem jroot_calls (a1 : Option Addr) (n1 k1 : Nat) (ws : List Int) (a2 : Option Addr) (n2 k2 : Nat) (ms : List Int) (w : World) (l1 : Lst w a1 n1 k1 ws) (l2 : Lst w a2 n2 k2 ms) (hz : n1 + n2 ≤ 4611686018427387904) :
    Calls Tryz.prog 35 #[.agg #[.slice a1 n1 k1, .slice a2 n2 k2]] w fun e w' => e = .returned (.tuple #[.int .u64 (rootV n1 ws n2 ms), .int .i64 (rootE n1 n2)]) ∧ Below w.heap.size w w' := by
  have hal := low_alloc w (.cells #[.slice a1 n1 k1, .slice a2 n2 k2] 65)
  have row := fn2_alloc w (.slice a1 n1 k1) (.slice a2 n2 k2) 65
  obtain ⟨c0, c1⟩ := fn2_cells row
  have HR := rob_calls a1 n1 k1 ws a2 n2 k2 ms _ (l1.below hal (Nat.le_refl _)) (l2.below hal (Nat.le_refl _)) hz
  generalize rootV n1 ws n2 ms = V at *
  generalize rootE n1 n2 = E at *
  clear l1 l2 row
  go_enter Tryz.func35, Tryz.ntmps35
  go_wp2_with fail
  refine HR.mono ?_
  rintro e w1 ⟨rfl, hw1⟩
  go_wp2_with fail
  go_ret2
  exact ⟨rfl, hal.trans (hw1.mono hal.size)⟩
end Go.Proofs.YtfcnnolpcnacoaaGreatDoor.Fx
