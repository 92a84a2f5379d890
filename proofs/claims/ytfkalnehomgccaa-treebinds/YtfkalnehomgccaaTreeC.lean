/- What tree.pairs and tree.beside return: how deep a leaf lies, and its way. -/
import Derived.Test.YtfkalnehomgccaaTreeB
import Derived.Test.YtfkalnehomgccaaAppsW
import Derived.Deep.RegionHeld3
namespace Go.Proofs.Ytfkalnehomgccaa.Fx
open Go.RowKit

theorem pairs_calls : ∀ (m i n : Nat) (w : World), n ≤ m → 1 ≤ n → n ≤ 50 → i < n →
    Calls Try.prog 38 #[.int .i64 i, .int .i64 n] w fun e w' => e = .returned (.int .i64 (deepP i n)) ∧ w' = w
  | 0, i, n, w, h, h1, h2, h3 => by omega
  | m + 1, i, n, w, h, h1, h2, h3 => by
    have IH : Hid (∀ (i n : Nat) (w : World), n ≤ m → 1 ≤ n → n ≤ 50 → i < n →
      Calls Try.prog 38 #[.int .i64 i, .int .i64 n] w fun e w' => e = .returned (.int .i64 (deepP i n)) ∧ w' = w) := pairs_calls m
    by_cases h4 : n = 1
    · have n1 : ((n : Int) == 1) = true := by rw [beq_iff_eq]; omega
      have HT : Hid (deepP i n = 0) := deepP_one (by omega) i
      clear h4
      go_enter Try.func38, Try.ntmps38
      go_wp2
      go_ret
      exact ⟨ret_word (by rw [HT.out]; rfl), rfl⟩
    · have hc := cutN_lt (n := n) (by omega)
      have HC : Hid (∀ w, Calls Try.prog 44 #[.int .i64 n] w fun e w' => e = .returned (.int .i64 (cutN n)) ∧ w' = w) := split_calls n (by omega) (by omega)
      have HL : Hid (i < cutN n → deepP i n = 1 + deepP i (cutN n)) := deepP_left (by omega)
      have HR : Hid (¬ i < cutN n → deepP i n = 1 + deepP (i - cutN n) (n - cutN n)) := deepP_right (by omega)
      have n1 : ((n : Int) == 1) = false := by rw [beq_eq_false_iff_ne]; omega
      generalize cutN n = k at *
      by_cases h5 : i < k
      · have HD := HL.out h5
        have hd := deepP_le i k
        generalize hq : deepP i k = q at *
        have HQ : Hid (deepP i k = q) := hq
        clear HL HR hq
        go_enter Try.func38, Try.ntmps38
        go_wp2_with (first | (go_at_call 44; refine (HC.out _).mono ?_; rintro e w' ⟨rfl, hw'⟩; replace hw' := hw'.symm; subst hw') | (go_at_call 38; refine (IH.out _ _ _ (by omega) (by omega) (by omega) (by omega)).mono ?_; rintro e w' ⟨rfl, hw'⟩; replace hw' := hw'.symm; subst hw'; rw [HQ.out]))
        go_ret
        exact ⟨ret_word (by rw [HD]; omega), rfl⟩
      · have HD := HR.out h5
        have hd := deepP_le (i - k) (n - k)
        generalize hq : deepP (i - k) (n - k) = q at *
        have HQ : Hid (deepP (i - k) (n - k) = q) := hq
        have e1 : (i : Int) - (k : Int) = ((i - k : Nat) : Int) := by omega
        have e2 : (n : Int) - (k : Int) = ((n - k : Nat) : Int) := by omega
        clear HL HR hq
        go_enter Try.func38, Try.ntmps38
        go_wp2_with (first | (go_at_call 44; refine (HC.out _).mono ?_; rintro e w' ⟨rfl, hw'⟩; replace hw' := hw'.symm; subst hw') | (go_at_call 38; refine (IH.out _ _ _ (by omega) (by omega) (by omega) (by omega)).mono ?_; rintro e w' ⟨rfl, hw'⟩; replace hw' := hw'.symm; subst hw'; rw [HQ.out]))
        go_ret
        exact ⟨ret_word (by rw [HD]; omega), rfl⟩

set_option maxRecDepth 100000 in
theorem beside_calls : ∀ (m : Nat) (a : Option Addr) (n c : Nat) (xs : List Int) (i : Nat) (w : World), n ≤ m → 1 ≤ n → n ≤ 50 → i < n → LstW w a n c xs → okL xs →
    Calls Try.prog 36 #[.slice a n c, .int .i64 i] w fun e w' => ∃ v, e = .returned v ∧ OwnW w.heap.size w' v (wayP xs i) ∧ Below w.heap.size w w'
  | 0, a, n, c, xs, i, w, h, h1, h2, h3, ha, hx => by omega
  | m + 1, a, n, c, xs, i, w, h, h1, h2, h3, ha, hx => by
    have IH : Hid (∀ (a : Option Addr) (n c : Nat) (xs : List Int) (i : Nat) (w : World), n ≤ m → 1 ≤ n → n ≤ 50 → i < n → LstW w a n c xs → okL xs →
      Calls Try.prog 36 #[.slice a n c, .int .i64 i] w fun e w' => ∃ v, e = .returned v ∧ OwnW w.heap.size w' v (wayP xs i) ∧ Below w.heap.size w w') := beside_calls m
    have HL := ha.len
    have HK := ha.cap
    obtain ⟨b, off, x, rfl, hb, h0, HX⟩ := ha.at1 (k := 0) (by omega)
    by_cases h4 : n = 1
    · have n1 : ((n : Int) == 1) = true := by rw [beq_iff_eq]; omega
      have HT : Hid (wayP xs i = []) := wayP_one (by omega) i
      clear ha h4
      go_enter Try.func36, Try.ntmps36
      go_wp2
      go_ret
      exact ⟨_, rfl, by rw [HT.out]; exact OwnW.nil _ _, Below.refl _ _⟩
    · have hc := cutN_lt (n := n) (by omega)
      have HC : Hid (∀ w, Calls Try.prog 44 #[.int .i64 n] w fun e w' => e = .returned (.int .i64 (cutN n)) ∧ w' = w) := split_calls n (by omega) (by omega)
      have WL : Hid (i < cutN n → wayP xs i = wayP (xs.take (cutN n)) i ++ [treeP (xs.drop (cutN n))]) := by rw [← HL]; exact wayP_left (by omega)
      have WR : Hid (¬ i < cutN n → wayP xs i = wayP (xs.drop (cutN n)) (i - cutN n) ++ [treeP (xs.take (cutN n))]) := by rw [← HL]; exact wayP_right (by omega)
      have n1 : ((n : Int) == 1) = false := by rw [beq_eq_false_iff_ne]; omega
      generalize cutN n = k at *
      have hA := ha.head (by omega) (k := k) (by omega)
      have hB := ha.tail (by omega) (k := k) (by omega)
      have oA := okL_take hx k
      have oB := okL_drop hx k
      have k0 : (0 : Int) ≤ (k : Int) := by omega
      have k1 : (k : Int) ≤ (n : Int) := by omega
      have k2 : (n : Int) ≤ (c : Int) := by omega
      have k3 : (k : Int) ≤ (c : Int) := by omega
      have k4 : ¬ c = k := by omega
      have lA := (way_deep _ (xs.take k) i (Nat.le_refl _) oA).1
      have lB := (way_deep _ (xs.drop k) (i - k) (Nat.le_refl _) oB).1
      have dA := deepP_le i (xs.take k).length
      have dB := deepP_le (i - k) (xs.drop k).length
      rw [← lA, hA.len] at dA
      rw [← lB, hB.len] at dB
      have TOP := top_calls 50
      have HTOP : Hid (∀ (a : Option Addr) (n c : Nat) (xs : List Int) (w : World), n ≤ 50 → 1 ≤ n → n ≤ 50 → LstW w a n c xs → okL xs →
        Calls Try.prog 41 #[.slice a n c] w fun e w' => e = .returned (.int .u64 (treeP xs)) ∧ Below w.heap.size w w') := TOP
      clear ha lA lB TOP
      by_cases h5 : i < k
      · have HW : Hid (wayP xs i = wayP (xs.take k) i ++ [treeP (xs.drop k)]) := WL.out h5
        clear WL WR
        go_enter Try.func36, Try.ntmps36
        go_wp2_with (go_at_call 44; refine (HC.out _).mono ?_; rintro e w' ⟨rfl, hw'⟩; replace hw' := hw'.symm; subst hw')
        go_region_held3 (fun _ => True) (exact True.intro) (first | (refine step_append_word (by rfl) _ _ (by rfl) w.heap.size _ (wayP (xs.take k) i) (treeP (xs.drop k)) w2.heap.size w (by rfl) (by rfl) (by exact hown2.alloc _) (by exact cell_new _ _ _) (by omega) (by simp; omega) (by exact hbel2.alloc hsz3 _) ?_; intro v3 w3 hown3 hbel3) | (go_at_call 36; refine (IH.out _ _ _ (xs.take k) i _ (by omega) (by omega) (by omega) h5 (by first | exact hA | exact hA.drewN _) oA).mono ?_; rintro e w1 ⟨v1, rfl, hown1, hw1⟩) | (go_at_call 41; refine (HTOP.out _ _ _ (xs.drop k) _ (by omega) (by omega) (by omega) (by first | exact hB.below hw1 (Nat.le_refl _) | exact (hB.drewN _).below hw1 (Nat.le_refl _)) oB).mono ?_; rintro e w2 ⟨rfl, hw2⟩; have hown2 := hown1.below hw2; have hbel1 : Below w.heap.size w w1 := (below_drewN (Below.refl _ _) 1).trans hw1; have hbel2 := hbel1.trans (hw2.mono hbel1.size); have hsz3 := hbel2.size))
        go_wp2
        go_ret
        exact ⟨_, rfl, hown3.congr HW.out.symm, hbel3⟩
      · have HW : Hid (wayP xs i = wayP (xs.drop k) (i - k) ++ [treeP (xs.take k)]) := WR.out h5
        clear WL WR
        have e1 : IntKind.i64.wrap ((i : Int) - (k : Int)) = ((i - k : Nat) : Int) := by rw [wrap_in _ (by omega) (by omega)]; omega
        go_enter Try.func36, Try.ntmps36
        go_wp2_with (go_at_call 44; refine (HC.out _).mono ?_; rintro e w' ⟨rfl, hw'⟩; replace hw' := hw'.symm; subst hw')
        go_region_held3 (fun _ => True) (exact True.intro) (first | (refine step_append_word (by rfl) _ _ (by rfl) w.heap.size _ (wayP (xs.drop k) (i - k)) (treeP (xs.take k)) w2.heap.size w (by rfl) (by rfl) (by exact hown2.alloc _) (by exact cell_new _ _ _) (by omega) (by simp; omega) (by exact hbel2.alloc hsz3 _) ?_; intro v3 w3 hown3 hbel3) | (go_at_call 36; refine (IH.out _ _ _ (xs.drop k) (i - k) _ (by omega) (by omega) (by omega) (by omega) (by first | exact hB | exact hB.drewN _) oB).mono ?_; rintro e w1 ⟨v1, rfl, hown1, hw1⟩) | (go_at_call 41; refine (HTOP.out _ _ _ (xs.take k) _ (by omega) (by omega) (by omega) (by first | exact hA.below hw1 (Nat.le_refl _) | exact (hA.drewN _).below hw1 (Nat.le_refl _)) oA).mono ?_; rintro e w2 ⟨rfl, hw2⟩; have hown2 := hown1.below hw2; have hbel1 : Below w.heap.size w w1 := (below_drewN (Below.refl _ _) 1).trans hw1; have hbel2 := hbel1.trans (hw2.mono hbel1.size); have hsz3 := hbel2.size))
        go_wp2
        go_ret
        exact ⟨_, rfl, hown3.congr HW.out.symm, hbel3⟩

end Go.Proofs.Ytfkalnehomgccaa.Fx
