/- What tree.top returns: the tree of its leaves. -/
import Derived.Test.YtfkalnehomgccaaTreeA
import Derived.Test.YtfkalnehomgccaaHalves
import Derived.Deep.RegionHeld3
namespace Go.Proofs.Ytfkalnehomgccaa.Fx
open Go.RowKit

theorem top_calls : ∀ (m : Nat) (a : Option Addr) (n c : Nat) (xs : List Int) (w : World), n ≤ m → 1 ≤ n → n ≤ 50 → LstW w a n c xs → okL xs →
    Calls Try.prog 41 #[.slice a n c] w fun e w' => e = .returned (.int .u64 (treeP xs)) ∧ Below w.heap.size w w'
  | 0, a, n, c, xs, w, h, h1, h2, ha, hx => by omega
  | m + 1, a, n, c, xs, w, h, h1, h2, ha, hx => by
    have IH : Hid (∀ (a : Option Addr) (n c : Nat) (xs : List Int) (w : World), n ≤ m → 1 ≤ n → n ≤ 50 → LstW w a n c xs → okL xs →
      Calls Try.prog 41 #[.slice a n c] w fun e w' => e = .returned (.int .u64 (treeP xs)) ∧ Below w.heap.size w w') := top_calls m
    have HL := ha.len
    have HK := ha.cap
    obtain ⟨b, off, x, rfl, hb, h0, HX⟩ := ha.at1 (k := 0) (by omega)
    rw [Nat.add_zero] at h0
    by_cases h3 : n = 1
    · have n1 : ((n : Int) == 1) = true := by rw [beq_iff_eq]; omega
      have HT : Hid (treeP xs = x) := by rw [treeP_one (by omega)]; exact HX.out
      clear ha h3
      go_enter Try.func41, Try.ntmps41
      go_wp2
      go_ret
      exact ⟨ret_word HT.out.symm, Below.refl _ _⟩
    · have hc := cutN_lt (n := n) (by omega)
      have HT : Hid (treeP xs = ofP 3 [treeP (xs.take (cutN n)), treeP (xs.drop (cutN n))]) := by rw [← HL]; exact treeP_two (by omega)
      have HC : Hid (∀ w, Calls Try.prog 44 #[.int .i64 n] w fun e w' => e = .returned (.int .i64 (cutN n)) ∧ w' = w) := split_calls n (by omega) (by omega)
      generalize cutN n = k at *
      have hA := ha.head (by omega) (k := k) (by omega)
      have hB := ha.tail (by omega) (k := k) (by omega)
      have oA := okL_take hx k
      have oB := okL_drop hx k
      have tA : Hid (okW (treeP (xs.take k))) := treeP_ok oA (by rw [hA.len]; omega)
      have tB : Hid (okW (treeP (xs.drop k))) := treeP_ok oB (by rw [hB.len]; omega)
      have n1 : ((n : Int) == 1) = false := by rw [beq_eq_false_iff_ne]; omega
      have k0 : (0 : Int) ≤ (k : Int) := by omega
      have k1 : (k : Int) ≤ (n : Int) := by omega
      have k2 : (n : Int) ≤ (c : Int) := by omega
      have k3 : (k : Int) ≤ (c : Int) := by omega
      have k4 : ¬ c = k := by omega
      clear ha
      go_enter Try.func41, Try.ntmps41
      go_wp2_with (go_at_call 44; refine (HC.out _).mono ?_; rintro e w' ⟨rfl, hw'⟩; replace hw' := hw'.symm; subst hw')
      go_region_held3 (fun _ => True) (exact True.intro) (first | (go_at_call 41; refine (IH.out _ _ _ (xs.take k) _ (by omega) (by omega) (by omega) (by first | exact hA | exact hA.drewN _) oA).mono ?_; rintro e w1 ⟨rfl, hw1⟩) | (go_at_call 41; refine (IH.out _ _ _ (xs.drop k) _ (by omega) (by omega) (by omega) (by first | exact hB.below hw1 (Nat.le_refl _) | exact (hB.drewN _).below hw1 (Nat.le_refl _)) oB).mono ?_; rintro e w2 ⟨rfl, hw2⟩) | (go_at_call 32; refine (dPair_calls _ _ tA.out tB.out _).mono ?_; rintro e w3 ⟨rfl, hw3⟩))
      go_wp2
      go_ret
      have e1 : Below w.heap.size w w1 := (below_drewN (Below.refl _ _) 1).trans hw1
      have e2 := e1.trans (hw2.mono e1.size)
      exact ⟨ret_word HT.out.symm, e2.trans (hw3.mono e2.size)⟩

end Go.Proofs.Ytfkalnehomgccaa.Fx
