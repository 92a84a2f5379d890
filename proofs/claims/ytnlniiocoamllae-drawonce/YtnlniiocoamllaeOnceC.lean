/- The walk of DrawOnce, slices.Sort's answer handed in: it returns true, whatever is handed in, and nothing that was there is written. -/
import Derived.Test.YtnlniiocoamllaeOnceA
import Derived.Test.YtnlniiocoamllaeOnceB
import Derived.Test.YtnlniiocoamllaeDrawB
import Derived.Deep.QuietTactic
import Derived.BigQuiet
namespace Go.Proofs.Ytnlniiocoamllae.Fx
open Go.RowKit

theorem rest_any (n : Int) (m : Nat) (h1 : 1 ≤ m) (h2 : m ≤ 2000) (w : World) :
    Calls Try.prog 9 #[.int .i64 n, .int .i64 m] w fun e w' => (∃ k : Nat, k < m ∧ e = .returned (.int .i64 k)) ∧ w' = w := by
  obtain ⟨r, hr⟩ : ∃ r, n.tmod (m : Int) = r := ⟨_, rfl⟩
  have r1 : r < (m : Int) := by rw [← hr]; exact Int.tmod_lt_of_pos _ (by omega)
  have r2 : -(m : Int) < r := by
    rw [← hr]
    have := Int.tmod_lt_of_pos (-n) (b := (m : Int)) (by omega)
    rw [Int.neg_tmod] at this
    omega
  by_cases h : r < 0
  · go_enter Try.func9, Try.ntmps9
    go_wp2
    go_ret
    exact ⟨⟨(r + m).toNat, by omega, ret_word (by omega)⟩, rfl⟩
  · go_enter Try.func9, Try.ntmps9
    go_wp2
    go_ret
    exact ⟨⟨r.toNat, by omega, ret_word (by omega)⟩, rfl⟩
theorem rest16 (n : Int) (w : World) : Calls Try.prog 9 #[.int .i64 n, .int .i64 16] w fun e w' => (∃ k : Nat, k < 16 ∧ e = .returned (.int .i64 k)) ∧ w' = w := rest_any n 16 (by omega) (by omega) w
theorem rest1001 (n : Int) (w : World) : Calls Try.prog 9 #[.int .i64 n, .int .i64 1001] w fun e w' => (∃ k : Nat, k < 1001 ∧ e = .returned (.int .i64 k)) ∧ w' = w := rest_any n 1001 (by omega) (by omega) w
theorem rest8 (n : Int) (w : World) : Calls Try.prog 9 #[.int .i64 n, .int .i64 8] w fun e w' => (∃ k : Nat, k < 8 ∧ e = .returned (.int .i64 k)) ∧ w' = w := rest_any n 8 (by omega) (by omega) w

theorem shuffle_two (w : World) : Calls Try.prog 17 #[.int .u64 1, .int .i64 0, .int .i64 2] w fun e w' => ∃ b, e = .returned (.tuple #[.slice (some ⟨b, 0, none⟩) 2 2, .int .i64 0]) ∧ w'.cell? ⟨b, 0, none⟩ = some (.int .i64 0) ∧ w'.cell? ⟨b, 1, none⟩ = some (.int .i64 1) ∧ Below w.heap.size w w' := by
  refine Calls.mono (shuffle_good 1 ⟨by omega, by omega⟩ 0 2 (by omega) (by omega) (by omega) w) ?_
  rintro e w1 ⟨b, rfl, hb, hA, hw1⟩
  refine ⟨b, rfl, ?_, ?_, hw1⟩
  · rw [hA.cell (i := 0) (by omega), first_two.1]
  · rw [hA.cell (i := 1) (by omega), first_two.2]

/-- What slices.Sort leaves of an order. -/
def Sorts : Prop := ∀ (b c n : Nat) (f : Nat → Int) (w : World), Arr w b c n f → 1 ≤ n → n ≤ 16 → ((List.range n).map f).Perm ((List.range n).map idN) →
  Calls Try.prog 18 #[.slice (some ⟨b, 0, none⟩) n c] w fun e w' => e = .returned (.tuple #[]) ∧ Arr w' b c n idN ∧ w.grownBy w' (some b)

theorem below_own {B b : Nat} {w w1 w2 : World} (h : Below B w w1) (hg : w1.grownBy w2 (some b)) (hb : B ≤ b) (hB : B ≤ w1.heap.size) : Below B w w2 := h.grown hg hB (fun k hk => by cases hk; exact hb)

set_option maxRecDepth 100000 in
set_option maxHeartbeats 6400000 in
theorem drawOnce_core (HSort : Hid Sorts) (seed epoch n0 size0 : Int) (hs : okW seed) (w : World) :
    Calls Try.prog 5 #[.int .u64 seed, .int .i64 epoch, .int .i64 n0, .int .i64 size0] w fun e w' => e = .returned (.bool true) ∧ Below w.heap.size w w' := by
  go_enter Try.func5, Try.ntmps5
  go_wp2_with fail
  refine (shuffle_two _).mono ?_
  rintro e w1 ⟨b1, rfl, c0, c1, T1⟩
  go_wp2
  go_quiet (fail)
  have T2 := below_drewN T1 nq
  generalize hw2 : w1.drewN nq = w2 at *
  clear hw2 c0 c1 T1
  go_wp2_with fail
  refine (rest16 _ _).mono ?_
  rintro e w' ⟨⟨N0, hN0, rfl⟩, hw'⟩
  replace hw' := hw'.symm
  subst hw'
  obtain ⟨N, hN⟩ : ∃ N, 1 + N0 = N := ⟨_, rfl⟩
  have e1 : (1 : Int) + (N0 : Int) = (N : Int) := by omega
  have hN1 : 1 ≤ N := by omega
  have hN2 : N ≤ 16 := by omega
  clear hN
  go_wp2_with fail
  refine (rest1001 _ _).mono ?_
  rintro e w' ⟨⟨E, hE, rfl⟩, hw'⟩
  replace hw' := hw'.symm
  subst hw'
  go_wp2_with fail
  refine (shuffle_good seed hs E N (by omega) hN1 hN2 _).mono ?_
  rintro e w3 ⟨b3, rfl, hb3, hA, hw3⟩
  have T3 := T2.trans (hw3.mono T2.size)
  have hb3' : w.heap.size ≤ b3 := Nat.le_trans T2.size hb3
  go_wp2_with fail
  refine (HSort.out b3 N N _ _ hA hN1 hN2 (shufP_perm seed E N hN1)).mono ?_
  rintro e w4 ⟨rfl, hA4, hg4⟩
  have T4 := below_own T3 hg4 hb3' T3.size
  clear hA hg4 hw3 T3 T2 hb3 hb3' hE
  go_wp2
  go_loop [58] (fun i => ∃ k : Nat, k ≤ N ∧ i = .int .i64 k) (fun i => N - (intOf i).toNat)
  case atStart => exact ⟨0, Nat.zero_le _, rfl⟩
  case round =>
    obtain ⟨k, hk, rfl⟩ := hrel
    by_cases hlt : k < N
    · have c := hA4.cell hlt
      unfold idN at c
      have ne : ((k : Int) != (k : Int)) = false := by simp
      go_wp2
      go_round
      case rel => exact ⟨k + 1, by omega, by go_num⟩
      case measure => simp [intOf]; omega
    · clear hA4
      go_wp2_with fail
      refine (rest8 _ _).mono ?_
      rintro e w' ⟨⟨S0, hS0, rfl⟩, hw'⟩
      replace hw' := hw'.symm
      subst hw'
      obtain ⟨S, hS⟩ : ∃ S, 1 + S0 = S := ⟨_, rfl⟩
      have e2 : (1 : Int) + (S0 : Int) = (S : Int) := by omega
      have hS1 : 1 ≤ S := by omega
      have hS2 : S ≤ 8 := by omega
      clear hS
      go_wp2
      go_loopw [14, 15] (fun v i wr => ∃ s L : Nat, s ≤ 40 ∧ i = .int .i64 s ∧ Hid (s * S = L) ∧ L < 2 * N + S ∧ OwnI w.heap.size wr v ((List.range L).map (allG seed N)) ∧ Below w.heap.size w wr) (fun _ i _ => 40 - (intOf i).toNat)
      case atStart => exact ⟨0, 0, by omega, rfl, Nat.zero_mul _, by omega, OwnI.nil _ _, T4⟩
      case round =>
        obtain ⟨s, L, hs40, rfl, HL, hLN, hown, hbel⟩ := hrel
        clear T4
        have hs39 : s < 40 := by
          rcases Nat.lt_or_ge s 40 with h | h
          · exact h
          · have h2 := Nat.mul_le_mul_right S h
            have h3 := HL.out
            omega
        by_cases hlt2 : L < 2 * N
        · obtain ⟨a, c, rfl, hl⟩ := hown.lst' (n := L) (by simp)
          clear hl
          have c2 : (L : Int) < 2 * (N : Int) := by omega
          go_wp2_with fail
          refine (batch_good seed hs S N s hS1 hS2 hN1 hN2 (by omega) _).mono ?_
          rintro e w5 ⟨b5, rfl, hb5, hA5, hw5⟩
          rw [HL.out] at hA5
          have hown5 := hown.below hw5
          have hbel5 := hbel.trans (hw5.mono hbel.size)
          have hsz5 := hbel5.size
          have hSS : ((S : Int) != (S : Int)) = false := by simp
          have hl5 := hA5.lst
          clear hown hbel hw5 hA5
          go_wp2_with (at_builtin; refine wpList_append_all (by rfl) _ _ (by rfl) w.heap.size _ ((List.range L).map (allG seed N)) ((List.range S).map (batchG seed N L)) b5 0 S S w (by rfl) (by rfl) (by exact hown5) (by exact hl5) (by simp; omega) (by exact hsz5) (by exact hbel5) ?_; intro v1 w6 hown6 hbel6)
          go_roundw
          case rel => exact ⟨s + 1, L + S, by omega, by go_num, by rw [Nat.add_mul, Nat.one_mul, HL.out]; rfl, by omega, hown6.congr (all_snoc _ _ _ _), hbel6⟩
          case measure => simp [intOf]; omega
        · obtain ⟨b6, c6, rfl, hb6, hA6⟩ := hown.arr (by omega)
          generalize hwr : wr = w7 at *
          clear hwr hown
          have hcap := hA6.cap
          have c3 : ¬ ((L : Int) < 2 * (N : Int)) := by omega
          go_wp2
          go_loopw [18] (fun i wr => ∃ m K : Nat, Hid (m * N = K) ∧ K ≤ L ∧ i = .int .i64 K ∧ Below w7.heap.size w7 wr ∧ Below w.heap.size w wr) (fun i _ => L + 1 - (intOf i).toNat)
          case atStart => exact ⟨0, 0, Nat.zero_mul _, Nat.zero_le _, rfl, Below.refl _ _, hbel⟩
          case round =>
            obtain ⟨m, K, HK, hKL, rfl, hB7, hBw⟩ := hrel
            have hAll := hA6.below hB7
            by_cases hlt3 : K + N ≤ L
            · obtain ⟨H, hH⟩ : ∃ H, K + N = H := ⟨_, rfl⟩
              have e3 : (K : Int) + (N : Int) = (H : Int) := by omega
              have e4 : H - K = N := by omega
              have hpart := all_part seed (n := N) (m := m) hN1 (L := L) (by rw [HK.out]; omega)
              rw [HK.out] at hpart
              have hLst := hAll.lst.sub (by omega) K H (by omega) (by omega)
              rw [e4, Nat.zero_add, hpart] at hLst
              have hHL : H ≤ L := by omega
              have hHc : (H : Int) ≤ (c6 : Int) := by omega
              have hKH : (K : Int) ≤ (H : Int) := by omega
              clear hH hpart
              go_wp2_with fail
              refine (clone_calls b6 K N (c6 - K) _ _ hLst hN1 hN2).mono ?_
              rintro e w8 ⟨b8, c8, rfl, hb8, hA8, hw8⟩
              go_wp2_with fail
              refine (HSort.out b8 c8 N _ _ hA8 hN1 hN2 (shufP_perm seed m N hN1)).mono ?_
              rintro e w9 ⟨rfl, hA9, hg9⟩
              have X7 := hB7.trans (hw8.mono hB7.size)
              have Xw := hBw.trans (hw8.mono hBw.size)
              have Y7 := below_own X7 hg9 (Nat.le_trans hB7.size hb8) X7.size
              have Yw := below_own Xw hg9 (Nat.le_trans hBw.size hb8) Xw.size
              clear hA8 hw8 hg9 X7 Xw hb8 hB7 hBw hAll hLst hA6
              go_wp2
              go_loop [120] (fun i => ∃ k : Nat, k ≤ N ∧ i = .int .i64 k) (fun i => N - (intOf i).toNat)
              case atStart => exact ⟨0, Nat.zero_le _, rfl⟩
              case round =>
                obtain ⟨k2, hk2, rfl⟩ := hrel
                by_cases hlt4 : k2 < N
                · have c := hA9.cell hlt4
                  unfold idN at c
                  have ne : ((k2 : Int) != (k2 : Int)) = false := by simp
                  go_wp2
                  go_round
                  case rel => exact ⟨k2 + 1, by omega, by go_num⟩
                  case measure => simp [intOf]; omega
                · go_wp2
                  go_roundw
                  case rel => exact ⟨m + 1, H, by rw [Nat.add_mul, Nat.one_mul, HK.out]; show K + N = H; omega, by omega, by go_num, Y7, Yw⟩
                  case measure => simp [intOf]; omega
            · go_wp2
              go_ret
              exact ⟨rfl, hBw⟩

end Go.Proofs.Ytnlniiocoamllae.Fx
