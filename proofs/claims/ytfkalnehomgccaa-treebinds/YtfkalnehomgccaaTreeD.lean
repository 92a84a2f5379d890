/- What tree.climb returns: the way up. -/
import Derived.Test.YtfkalnehomgccaaTreeB
import Derived.Deep.RegionHeld3
namespace Go.Proofs.Ytfkalnehomgccaa.Fx
open Go.RowKit

theorem climb_calls : ∀ (m i n : Nat) (x : Int) (a : Option Addr) (len c : Nat) (ps : List Int) (w : World), n ≤ m → 1 ≤ n → n ≤ 50 → i < n → okW x → LstW w a len c ps → okL ps → len = deepP i n →
    Calls Try.prog 39 #[.int .i64 i, .int .i64 n, .int .u64 x, .slice a len c] w fun e w' => e = .returned (.int .u64 (upP i n x ps)) ∧ Below w.heap.size w w'
  | 0, i, n, x, a, len, c, ps, w, h, h1, h2, h3, hx, ha, hp, hd => by omega
  | m + 1, i, n, x, a, len, c, ps, w, h, h1, h2, h3, hx, ha, hp, hd => by
    have IH : Hid (∀ (i n : Nat) (x : Int) (a : Option Addr) (len c : Nat) (ps : List Int) (w : World), n ≤ m → 1 ≤ n → n ≤ 50 → i < n → okW x → LstW w a len c ps → okL ps → len = deepP i n →
      Calls Try.prog 39 #[.int .i64 i, .int .i64 n, .int .u64 x, .slice a len c] w fun e w' => e = .returned (.int .u64 (upP i n x ps)) ∧ Below w.heap.size w w') := climb_calls m
    have HL : Hid (ps.length = len) := ha.len
    have HK := ha.cap
    by_cases h4 : n = 1
    · have n1 : ((n : Int) == 1) = true := by rw [beq_iff_eq]; omega
      have HT : Hid (upP i n x ps = x) := upP_one (by omega) i x ps
      clear ha h4 hd
      go_enter Try.func39, Try.ntmps39
      go_wp2
      go_ret
      exact ⟨ret_word HT.out.symm, Below.refl _ _⟩
    · have hc := cutN_lt (n := n) (by omega)
      have HC : Hid (∀ w, Calls Try.prog 44 #[.int .i64 n] w fun e w' => e = .returned (.int .i64 (cutN n)) ∧ w' = w) := split_calls n (by omega) (by omega)
      have DL : Hid (i < cutN n → len = 1 + deepP i (cutN n)) := fun h => hd.trans (deepP_left (by omega) h)
      have DR : Hid (¬ i < cutN n → len = 1 + deepP (i - cutN n) (n - cutN n)) := fun h => hd.trans (deepP_right (by omega) h)
      have UL : Hid (i < cutN n → upP i n x ps = ofP 3 [upP i (cutN n) x (ps.take (len - 1)), ps.getD (len - 1) 0]) := fun h => by rw [← HL.out]; exact upP_left (by omega) h x ps
      have UR : Hid (¬ i < cutN n → upP i n x ps = ofP 3 [ps.getD (len - 1) 0, upP (i - cutN n) (n - cutN n) x (ps.take (len - 1))]) := fun h => by rw [← HL.out]; exact upP_right (by omega) h x ps
      have n1 : ((n : Int) == 1) = false := by rw [beq_eq_false_iff_ne]; omega
      clear hd
      generalize cutN n = k at *
      have hl1 : 1 ≤ len := by
        by_cases h5 : i < k
        · have := DL.out h5; omega
        · have := DR.out h5; omega
      have hl2 : len ≤ 51 := by
        by_cases h5 : i < k
        · have := DL.out h5; have := deepP_le i k; omega
        · have := DR.out h5; have := deepP_le (i - k) (n - k); omega
      obtain ⟨q, hq⟩ : ∃ q, len - 1 = q := ⟨_, rfl⟩
      rw [hq] at UL UR
      have HD : Hid (len = q + 1) := by show len = q + 1; omega
      obtain ⟨b, off, y, rfl, hb, h0, HY⟩ := ha.at1 (k := q) (by omega)
      rw [HY.out] at UL UR
      have hy : okW y := by rw [← HY.out]; exact hp q (by rw [HL.out]; omega)
      have hA := ha.head (by omega) (k := q) (by omega)
      have oA := okL_take hp q
      have q0 : (0 : Int) ≤ (q : Int) := by omega
      have q1 : (q : Int) < (len : Int) := by omega
      have q2 : (q : Int) ≤ (c : Int) := by omega
      have q3 : (len : Int) - 1 = (q : Int) := by omega
      clear ha hq
      by_cases h5 : i < k
      · have HU : Hid (upP i n x ps = ofP 3 [upP i k x (ps.take q), y]) := UL.out h5
        have HE : Hid (q = deepP i k) := by show q = deepP i k; have := DL.out h5; omega
        have hu : okW (upP i k x (ps.take q)) := upP_ok hx
        clear UL UR DL DR
        go_enter Try.func39, Try.ntmps39
        go_wp2_with (go_at_call 44; refine (HC.out _).mono ?_; rintro e w' ⟨rfl, hw'⟩; replace hw' := hw'.symm; subst hw')
        go_region_held3 (fun r => r.cell? ⟨b, off + q, none⟩ = some (.int .u64 y)) (first | go_keep | exact (hw1.cell (p := ⟨b, off + q, none⟩) hb).trans h0 | exact (hbel2.cell (p := ⟨b, off + q, none⟩) hb).trans h0) (first | (go_at_call 39; refine (IH.out i k x _ _ _ (ps.take q) _ (by omega) (by omega) (by omega) h5 hx (by first | exact hA | exact hA.drewN _) oA HE.out).mono ?_; rintro e w1 ⟨rfl, hw1⟩) | (go_at_call 32; refine (dPair_calls _ _ hu hy _).mono ?_; rintro e w2 ⟨rfl, hw2⟩; have hbel1 : Below w.heap.size w w1 := (below_drewN (Below.refl _ _) 1).trans hw1; have hbel2 := hbel1.trans (hw2.mono hbel1.size)))
        go_wp2
        go_ret
        exact ⟨ret_word HU.out.symm, hbel2⟩
      · have HU : Hid (upP i n x ps = ofP 3 [y, upP (i - k) (n - k) x (ps.take q)]) := UR.out h5
        have HE : Hid (q = deepP (i - k) (n - k)) := by show q = deepP (i - k) (n - k); have := DR.out h5; omega
        have hu : okW (upP (i - k) (n - k) x (ps.take q)) := upP_ok hx
        have e1 : IntKind.i64.wrap ((i : Int) - (k : Int)) = ((i - k : Nat) : Int) := by rw [wrap_in _ (by omega) (by omega)]; omega
        have e2 : IntKind.i64.wrap ((n : Int) - (k : Int)) = ((n - k : Nat) : Int) := by rw [wrap_in _ (by omega) (by omega)]; omega
        clear UL UR DL DR
        go_enter Try.func39, Try.ntmps39
        go_wp2_with (go_at_call 44; refine (HC.out _).mono ?_; rintro e w' ⟨rfl, hw'⟩; replace hw' := hw'.symm; subst hw')
        go_region_held3 (fun r => r.cell? ⟨b, off + q, none⟩ = some (.int .u64 y)) (first | go_keep | exact (hw1.cell (p := ⟨b, off + q, none⟩) hb).trans h0 | exact (hbel2.cell (p := ⟨b, off + q, none⟩) hb).trans h0) (first | (go_at_call 39; refine (IH.out (i - k) (n - k) x _ _ _ (ps.take q) _ (by omega) (by omega) (by omega) (by omega) hx (by first | exact hA | exact hA.drewN _) oA HE.out).mono ?_; rintro e w1 ⟨rfl, hw1⟩) | (go_at_call 32; refine (dPair_calls _ _ hy hu _).mono ?_; rintro e w2 ⟨rfl, hw2⟩; have hbel1 : Below w.heap.size w w1 := (below_drewN (Below.refl _ _) 1).trans hw1; have hbel2 := hbel1.trans (hw2.mono hbel1.size)))
        go_wp2
        go_ret
        exact ⟨ret_word HU.out.symm, hbel2⟩

end Go.Proofs.Ytfkalnehomgccaa.Fx
