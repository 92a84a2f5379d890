/- What tree.top returns: the tree of its leaves. -/
import Derived.Test.YtnlcheebdkjpbaeJ32
import Derived.Deep.RegionHeld3
import Derived.Test.YtnlcheebdkjpbaeJ31
namespace Go.Proofs.Ytnlcheebdkjpbae.Fx
open Go.RowKit

theorem top_calls : ∀ (m : Nat) (a : Option Addr) (n c : Nat) (xs : List Int) (w : World), n ≤ m → 1 ≤ n → n ≤ 50 → LstW w a n c xs → okL xs →
    Calls Try.prog 39 #[.slice a n c] w fun e w' => e = .returned (.int .u64 (treeP xs)) ∧ Below w.heap.size w w'
  | 0, a, n, c, xs, w, h, h1, h2, ha, hx => by omega
  | m + 1, a, n, c, xs, w, h, h1, h2, ha, hx => by
    have IH : Hid (∀ (a : Option Addr) (n c : Nat) (xs : List Int) (w : World), n ≤ m → 1 ≤ n → n ≤ 50 → LstW w a n c xs → okL xs →
      Calls Try.prog 39 #[.slice a n c] w fun e w' => e = .returned (.int .u64 (treeP xs)) ∧ Below w.heap.size w w') := top_calls m
    have HL := ha.len
    have HK := ha.cap
    obtain ⟨b, off, x, rfl, hb, h0, HX⟩ := ha.at1 (k := 0) (by omega)
    rw [Nat.add_zero] at h0
    by_cases h3 : n = 1
    · have n1 : ((n : Int) == 1) = true := by rw [beq_iff_eq]; omega
      have HT : Hid (treeP xs = x) := by rw [treeP_one (by omega)]; exact HX.out
      clear ha h3
      go_enter Try.func39, Try.ntmps39
      go_wp2
      go_ret
      exact ⟨ret_word HT.out.symm, Below.refl _ _⟩
    · have hc := cutN_lt (n := n) (by omega)
      have HT : Hid (treeP xs = ofP 3 [treeP (xs.take (cutN n)), treeP (xs.drop (cutN n))]) := by rw [← HL]; exact treeP_two (by omega)
      have HC : Hid (∀ w, Calls Try.prog 67 #[.int .i64 n] w fun e w' => e = .returned (.int .i64 (cutN n)) ∧ w' = w) := split_calls n (by omega) (by omega)
      generalize cutN n = k at *
      have hA := ha.head (by omega) (k := k) (by omega)
      have hB := ha.tail (by omega) (k := k) (by omega)
      have oA := okL_take hx k
      have oB := okL_drop hx k
      have tA : Hid (okW (treeP (xs.take k))) := treeP_ok oA (by rw [hA.len]; omega)
      have tB : Hid (okW (treeP (xs.drop k))) := treeP_ok oB (by rw [hB.len]; omega)
      have n1 : ((n : Int) == 1) = false := by rw [beq_eq_false_iff_ne]; omega
      have k0 : (0 : Int) ≤ (k : Int) := by omega
      have k1 : (k : Int) ≤ (n : Int) := by omega
      have k2 : (n : Int) ≤ (c : Int) := by omega
      have k3 : (k : Int) ≤ (c : Int) := by omega
      have k4 : ¬ c = k := by omega
      clear ha
      go_enter Try.func39, Try.ntmps39
      go_wp2_with (go_at_call 67; refine (HC.out _).mono ?_; rintro e w' ⟨rfl, hw'⟩; replace hw' := hw'.symm; subst hw')
      go_region_held3 (fun _ => True) (exact True.intro) (first | (go_at_call 39; refine (IH.out _ _ _ (xs.take k) _ (by omega) (by omega) (by omega) (by first | exact hA | exact hA.drewN _) oA).mono ?_; rintro e w1 ⟨rfl, hw1⟩) | (go_at_call 39; refine (IH.out _ _ _ (xs.drop k) _ (by omega) (by omega) (by omega) (by first | exact hB.below hw1 (Nat.le_refl _) | exact (hB.drewN _).below hw1 (Nat.le_refl _)) oB).mono ?_; rintro e w2 ⟨rfl, hw2⟩) | (go_at_call 35; refine (dPair_calls _ _ tA.out tB.out _).mono ?_; rintro e w3 ⟨rfl, hw3⟩))
      go_wp2
      go_ret
      have e1 : Below w.heap.size w w1 := (below_drewN (Below.refl _ _) 1).trans hw1
      have e2 := e1.trans (hw2.mono e1.size)
      exact ⟨ret_word HT.out.symm, e2.trans (hw3.mono e2.size)⟩

end Go.Proofs.Ytnlcheebdkjpbae.Fx

/- What tree.pairs and tree.beside return: how deep a leaf lies, and its way. -/
namespace Go.Proofs.Ytnlcheebdkjpbae.Fx
open Go.RowKit

theorem pairs_calls : ∀ (m i n : Nat) (w : World), n ≤ m → 1 ≤ n → n ≤ 50 → i < n →
    Calls Try.prog 40 #[.int .i64 i, .int .i64 n] w fun e w' => e = .returned (.int .i64 (deepP i n)) ∧ w' = w
  | 0, i, n, w, h, h1, h2, h3 => by omega
  | m + 1, i, n, w, h, h1, h2, h3 => by
    have IH : Hid (∀ (i n : Nat) (w : World), n ≤ m → 1 ≤ n → n ≤ 50 → i < n →
      Calls Try.prog 40 #[.int .i64 i, .int .i64 n] w fun e w' => e = .returned (.int .i64 (deepP i n)) ∧ w' = w) := pairs_calls m
    by_cases h4 : n = 1
    · have n1 : ((n : Int) == 1) = true := by rw [beq_iff_eq]; omega
      have HT : Hid (deepP i n = 0) := deepP_one (by omega) i
      clear h4
      go_enter Try.func40, Try.ntmps40
      go_wp2
      go_ret
      exact ⟨ret_word (by rw [HT.out]; rfl), rfl⟩
    · have hc := cutN_lt (n := n) (by omega)
      have HC : Hid (∀ w, Calls Try.prog 67 #[.int .i64 n] w fun e w' => e = .returned (.int .i64 (cutN n)) ∧ w' = w) := split_calls n (by omega) (by omega)
      have HL : Hid (i < cutN n → deepP i n = 1 + deepP i (cutN n)) := deepP_left (by omega)
      have HR : Hid (¬ i < cutN n → deepP i n = 1 + deepP (i - cutN n) (n - cutN n)) := deepP_right (by omega)
      have n1 : ((n : Int) == 1) = false := by rw [beq_eq_false_iff_ne]; omega
      generalize cutN n = k at *
      by_cases h5 : i < k
      · have HD := HL.out h5
        have hd := deepP_le i k
        generalize hq : deepP i k = q at *
        have HQ : Hid (deepP i k = q) := hq
        clear HL HR hq
        go_enter Try.func40, Try.ntmps40
        go_wp2_with (first | (go_at_call 67; refine (HC.out _).mono ?_; rintro e w' ⟨rfl, hw'⟩; replace hw' := hw'.symm; subst hw') | (go_at_call 40; refine (IH.out _ _ _ (by omega) (by omega) (by omega) (by omega)).mono ?_; rintro e w' ⟨rfl, hw'⟩; replace hw' := hw'.symm; subst hw'; rw [HQ.out]))
        go_ret
        exact ⟨ret_word (by rw [HD]; omega), rfl⟩
      · have HD := HR.out h5
        have hd := deepP_le (i - k) (n - k)
        generalize hq : deepP (i - k) (n - k) = q at *
        have HQ : Hid (deepP (i - k) (n - k) = q) := hq
        have e1 : (i : Int) - (k : Int) = ((i - k : Nat) : Int) := by omega
        have e2 : (n : Int) - (k : Int) = ((n - k : Nat) : Int) := by omega
        clear HL HR hq
        go_enter Try.func40, Try.ntmps40
        go_wp2_with (first | (go_at_call 67; refine (HC.out _).mono ?_; rintro e w' ⟨rfl, hw'⟩; replace hw' := hw'.symm; subst hw') | (go_at_call 40; refine (IH.out _ _ _ (by omega) (by omega) (by omega) (by omega)).mono ?_; rintro e w' ⟨rfl, hw'⟩; replace hw' := hw'.symm; subst hw'; rw [HQ.out]))
        go_ret
        exact ⟨ret_word (by rw [HD]; omega), rfl⟩

set_option maxRecDepth 100000 in
theorem beside_calls : ∀ (m : Nat) (a : Option Addr) (n c : Nat) (xs : List Int) (i : Nat) (w : World), n ≤ m → 1 ≤ n → n ≤ 50 → i < n → LstW w a n c xs → okL xs →
    Calls Try.prog 38 #[.slice a n c, .int .i64 i] w fun e w' => ∃ v, e = .returned v ∧ OwnW w.heap.size w' v (wayP xs i) ∧ Below w.heap.size w w'
  | 0, a, n, c, xs, i, w, h, h1, h2, h3, ha, hx => by omega
  | m + 1, a, n, c, xs, i, w, h, h1, h2, h3, ha, hx => by
    have IH : Hid (∀ (a : Option Addr) (n c : Nat) (xs : List Int) (i : Nat) (w : World), n ≤ m → 1 ≤ n → n ≤ 50 → i < n → LstW w a n c xs → okL xs →
      Calls Try.prog 38 #[.slice a n c, .int .i64 i] w fun e w' => ∃ v, e = .returned v ∧ OwnW w.heap.size w' v (wayP xs i) ∧ Below w.heap.size w w') := beside_calls m
    have HL := ha.len
    have HK := ha.cap
    obtain ⟨b, off, x, rfl, hb, h0, HX⟩ := ha.at1 (k := 0) (by omega)
    by_cases h4 : n = 1
    · have n1 : ((n : Int) == 1) = true := by rw [beq_iff_eq]; omega
      have HT : Hid (wayP xs i = []) := wayP_one (by omega) i
      clear ha h4
      go_enter Try.func38, Try.ntmps38
      go_wp2
      go_ret
      exact ⟨_, rfl, by rw [HT.out]; exact OwnW.nil _ _, Below.refl _ _⟩
    · have hc := cutN_lt (n := n) (by omega)
      have HC : Hid (∀ w, Calls Try.prog 67 #[.int .i64 n] w fun e w' => e = .returned (.int .i64 (cutN n)) ∧ w' = w) := split_calls n (by omega) (by omega)
      have WL : Hid (i < cutN n → wayP xs i = wayP (xs.take (cutN n)) i ++ [treeP (xs.drop (cutN n))]) := by rw [← HL]; exact wayP_left (by omega)
      have WR : Hid (¬ i < cutN n → wayP xs i = wayP (xs.drop (cutN n)) (i - cutN n) ++ [treeP (xs.take (cutN n))]) := by rw [← HL]; exact wayP_right (by omega)
      have n1 : ((n : Int) == 1) = false := by rw [beq_eq_false_iff_ne]; omega
      generalize cutN n = k at *
      have hA := ha.head (by omega) (k := k) (by omega)
      have hB := ha.tail (by omega) (k := k) (by omega)
      have oA := okL_take hx k
      have oB := okL_drop hx k
      have k0 : (0 : Int) ≤ (k : Int) := by omega
      have k1 : (k : Int) ≤ (n : Int) := by omega
      have k2 : (n : Int) ≤ (c : Int) := by omega
      have k3 : (k : Int) ≤ (c : Int) := by omega
      have k4 : ¬ c = k := by omega
      have lA := (way_deep _ (xs.take k) i (Nat.le_refl _) oA).1
      have lB := (way_deep _ (xs.drop k) (i - k) (Nat.le_refl _) oB).1
      have dA := deepP_le i (xs.take k).length
      have dB := deepP_le (i - k) (xs.drop k).length
      rw [← lA, hA.len] at dA
      rw [← lB, hB.len] at dB
      have TOP := top_calls 50
      have HTOP : Hid (∀ (a : Option Addr) (n c : Nat) (xs : List Int) (w : World), n ≤ 50 → 1 ≤ n → n ≤ 50 → LstW w a n c xs → okL xs →
        Calls Try.prog 39 #[.slice a n c] w fun e w' => e = .returned (.int .u64 (treeP xs)) ∧ Below w.heap.size w w') := TOP
      clear ha lA lB TOP
      by_cases h5 : i < k
      · have HW : Hid (wayP xs i = wayP (xs.take k) i ++ [treeP (xs.drop k)]) := WL.out h5
        clear WL WR
        go_enter Try.func38, Try.ntmps38
        go_wp2_with (go_at_call 67; refine (HC.out _).mono ?_; rintro e w' ⟨rfl, hw'⟩; replace hw' := hw'.symm; subst hw')
        go_region_held3 (fun _ => True) (exact True.intro) (first | (refine step_append_word (by rfl) _ _ (by rfl) w.heap.size _ (wayP (xs.take k) i) (treeP (xs.drop k)) w2.heap.size w (by rfl) (by rfl) (by exact hown2.alloc _) (by exact cell_new _ _ _) (by omega) (by simp; omega) (by exact hbel2.alloc hsz3 _) ?_; intro v3 w3 hown3 hbel3) | (go_at_call 38; refine (IH.out _ _ _ (xs.take k) i _ (by omega) (by omega) (by omega) h5 (by first | exact hA | exact hA.drewN _) oA).mono ?_; rintro e w1 ⟨v1, rfl, hown1, hw1⟩) | (go_at_call 39; refine (HTOP.out _ _ _ (xs.drop k) _ (by omega) (by omega) (by omega) (by first | exact hB.below hw1 (Nat.le_refl _) | exact (hB.drewN _).below hw1 (Nat.le_refl _)) oB).mono ?_; rintro e w2 ⟨rfl, hw2⟩; have hown2 := hown1.below hw2; have hbel1 : Below w.heap.size w w1 := (below_drewN (Below.refl _ _) 1).trans hw1; have hbel2 := hbel1.trans (hw2.mono hbel1.size); have hsz3 := hbel2.size))
        go_wp2
        go_ret
        exact ⟨_, rfl, hown3.congr HW.out.symm, hbel3⟩
      · have HW : Hid (wayP xs i = wayP (xs.drop k) (i - k) ++ [treeP (xs.take k)]) := WR.out h5
        clear WL WR
        have e1 : IntKind.i64.wrap ((i : Int) - (k : Int)) = ((i - k : Nat) : Int) := by rw [wrap_in _ (by omega) (by omega)]; omega
        go_enter Try.func38, Try.ntmps38
        go_wp2_with (go_at_call 67; refine (HC.out _).mono ?_; rintro e w' ⟨rfl, hw'⟩; replace hw' := hw'.symm; subst hw')
        go_region_held3 (fun _ => True) (exact True.intro) (first | (refine step_append_word (by rfl) _ _ (by rfl) w.heap.size _ (wayP (xs.drop k) (i - k)) (treeP (xs.take k)) w2.heap.size w (by rfl) (by rfl) (by exact hown2.alloc _) (by exact cell_new _ _ _) (by omega) (by simp; omega) (by exact hbel2.alloc hsz3 _) ?_; intro v3 w3 hown3 hbel3) | (go_at_call 38; refine (IH.out _ _ _ (xs.drop k) (i - k) _ (by omega) (by omega) (by omega) (by omega) (by first | exact hB | exact hB.drewN _) oB).mono ?_; rintro e w1 ⟨v1, rfl, hown1, hw1⟩) | (go_at_call 39; refine (HTOP.out _ _ _ (xs.take k) _ (by omega) (by omega) (by omega) (by first | exact hA.below hw1 (Nat.le_refl _) | exact (hA.drewN _).below hw1 (Nat.le_refl _)) oA).mono ?_; rintro e w2 ⟨rfl, hw2⟩; have hown2 := hown1.below hw2; have hbel1 : Below w.heap.size w w1 := (below_drewN (Below.refl _ _) 1).trans hw1; have hbel2 := hbel1.trans (hw2.mono hbel1.size); have hsz3 := hbel2.size))
        go_wp2
        go_ret
        exact ⟨_, rfl, hown3.congr HW.out.symm, hbel3⟩

end Go.Proofs.Ytnlcheebdkjpbae.Fx

/- What tree.climb returns: the way up. -/
namespace Go.Proofs.Ytnlcheebdkjpbae.Fx
open Go.RowKit

theorem climb_calls : ∀ (m i n : Nat) (x : Int) (a : Option Addr) (len c : Nat) (ps : List Int) (w : World), n ≤ m → 1 ≤ n → n ≤ 50 → i < n → okW x → LstW w a len c ps → okL ps → len = deepP i n →
    Calls Try.prog 41 #[.int .i64 i, .int .i64 n, .int .u64 x, .slice a len c] w fun e w' => e = .returned (.int .u64 (upP i n x ps)) ∧ Below w.heap.size w w'
  | 0, i, n, x, a, len, c, ps, w, h, h1, h2, h3, hx, ha, hp, hd => by omega
  | m + 1, i, n, x, a, len, c, ps, w, h, h1, h2, h3, hx, ha, hp, hd => by
    have IH : Hid (∀ (i n : Nat) (x : Int) (a : Option Addr) (len c : Nat) (ps : List Int) (w : World), n ≤ m → 1 ≤ n → n ≤ 50 → i < n → okW x → LstW w a len c ps → okL ps → len = deepP i n →
      Calls Try.prog 41 #[.int .i64 i, .int .i64 n, .int .u64 x, .slice a len c] w fun e w' => e = .returned (.int .u64 (upP i n x ps)) ∧ Below w.heap.size w w') := climb_calls m
    have HL : Hid (ps.length = len) := ha.len
    have HK := ha.cap
    by_cases h4 : n = 1
    · have n1 : ((n : Int) == 1) = true := by rw [beq_iff_eq]; omega
      have HT : Hid (upP i n x ps = x) := upP_one (by omega) i x ps
      clear ha h4 hd
      go_enter Try.func41, Try.ntmps41
      go_wp2
      go_ret
      exact ⟨ret_word HT.out.symm, Below.refl _ _⟩
    · have hc := cutN_lt (n := n) (by omega)
      have HC : Hid (∀ w, Calls Try.prog 67 #[.int .i64 n] w fun e w' => e = .returned (.int .i64 (cutN n)) ∧ w' = w) := split_calls n (by omega) (by omega)
      have DL : Hid (i < cutN n → len = 1 + deepP i (cutN n)) := fun h => hd.trans (deepP_left (by omega) h)
      have DR : Hid (¬ i < cutN n → len = 1 + deepP (i - cutN n) (n - cutN n)) := fun h => hd.trans (deepP_right (by omega) h)
      have UL : Hid (i < cutN n → upP i n x ps = ofP 3 [upP i (cutN n) x (ps.take (len - 1)), ps.getD (len - 1) 0]) := fun h => by rw [← HL.out]; exact upP_left (by omega) h x ps
      have UR : Hid (¬ i < cutN n → upP i n x ps = ofP 3 [ps.getD (len - 1) 0, upP (i - cutN n) (n - cutN n) x (ps.take (len - 1))]) := fun h => by rw [← HL.out]; exact upP_right (by omega) h x ps
      have n1 : ((n : Int) == 1) = false := by rw [beq_eq_false_iff_ne]; omega
      clear hd
      generalize cutN n = k at *
      have hl1 : 1 ≤ len := by
        by_cases h5 : i < k
        · have := DL.out h5; omega
        · have := DR.out h5; omega
      have hl2 : len ≤ 51 := by
        by_cases h5 : i < k
        · have := DL.out h5; have := deepP_le i k; omega
        · have := DR.out h5; have := deepP_le (i - k) (n - k); omega
      obtain ⟨q, hq⟩ : ∃ q, len - 1 = q := ⟨_, rfl⟩
      rw [hq] at UL UR
      have HD : Hid (len = q + 1) := by show len = q + 1; omega
      obtain ⟨b, off, y, rfl, hb, h0, HY⟩ := ha.at1 (k := q) (by omega)
      rw [HY.out] at UL UR
      have hy : okW y := by rw [← HY.out]; exact hp q (by rw [HL.out]; omega)
      have hA := ha.head (by omega) (k := q) (by omega)
      have oA := okL_take hp q
      have q0 : (0 : Int) ≤ (q : Int) := by omega
      have q1 : (q : Int) < (len : Int) := by omega
      have q2 : (q : Int) ≤ (c : Int) := by omega
      have q3 : (len : Int) - 1 = (q : Int) := by omega
      clear ha hq
      by_cases h5 : i < k
      · have HU : Hid (upP i n x ps = ofP 3 [upP i k x (ps.take q), y]) := UL.out h5
        have HE : Hid (q = deepP i k) := by show q = deepP i k; have := DL.out h5; omega
        have hu : okW (upP i k x (ps.take q)) := upP_ok hx
        clear UL UR DL DR
        go_enter Try.func41, Try.ntmps41
        go_wp2_with (go_at_call 67; refine (HC.out _).mono ?_; rintro e w' ⟨rfl, hw'⟩; replace hw' := hw'.symm; subst hw')
        go_region_held3 (fun r => r.cell? ⟨b, off + q, none⟩ = some (.int .u64 y)) (first | go_keep | exact (hw1.cell (p := ⟨b, off + q, none⟩) hb).trans h0 | exact (hbel2.cell (p := ⟨b, off + q, none⟩) hb).trans h0) (first | (go_at_call 41; refine (IH.out i k x _ _ _ (ps.take q) _ (by omega) (by omega) (by omega) h5 hx (by first | exact hA | exact hA.drewN _) oA HE.out).mono ?_; rintro e w1 ⟨rfl, hw1⟩) | (go_at_call 35; refine (dPair_calls _ _ hu hy _).mono ?_; rintro e w2 ⟨rfl, hw2⟩; have hbel1 : Below w.heap.size w w1 := (below_drewN (Below.refl _ _) 1).trans hw1; have hbel2 := hbel1.trans (hw2.mono hbel1.size)))
        go_wp2
        go_ret
        exact ⟨ret_word HU.out.symm, hbel2⟩
      · have HU : Hid (upP i n x ps = ofP 3 [y, upP (i - k) (n - k) x (ps.take q)]) := UR.out h5
        have HE : Hid (q = deepP (i - k) (n - k)) := by show q = deepP (i - k) (n - k); have := DR.out h5; omega
        have hu : okW (upP (i - k) (n - k) x (ps.take q)) := upP_ok hx
        have e1 : IntKind.i64.wrap ((i : Int) - (k : Int)) = ((i - k : Nat) : Int) := by rw [wrap_in _ (by omega) (by omega)]; omega
        have e2 : IntKind.i64.wrap ((n : Int) - (k : Int)) = ((n - k : Nat) : Int) := by rw [wrap_in _ (by omega) (by omega)]; omega
        clear UL UR DL DR
        go_enter Try.func41, Try.ntmps41
        go_wp2_with (go_at_call 67; refine (HC.out _).mono ?_; rintro e w' ⟨rfl, hw'⟩; replace hw' := hw'.symm; subst hw')
        go_region_held3 (fun r => r.cell? ⟨b, off + q, none⟩ = some (.int .u64 y)) (first | go_keep | exact (hw1.cell (p := ⟨b, off + q, none⟩) hb).trans h0 | exact (hbel2.cell (p := ⟨b, off + q, none⟩) hb).trans h0) (first | (go_at_call 41; refine (IH.out (i - k) (n - k) x _ _ _ (ps.take q) _ (by omega) (by omega) (by omega) (by omega) hx (by first | exact hA | exact hA.drewN _) oA HE.out).mono ?_; rintro e w1 ⟨rfl, hw1⟩) | (go_at_call 35; refine (dPair_calls _ _ hy hu _).mono ?_; rintro e w2 ⟨rfl, hw2⟩; have hbel1 : Below w.heap.size w w1 := (below_drewN (Below.refl _ _) 1).trans hw1; have hbel2 := hbel1.trans (hw2.mono hbel1.size)))
        go_wp2
        go_ret
        exact ⟨ret_word HU.out.symm, hbel2⟩

end Go.Proofs.Ytnlcheebdkjpbae.Fx
