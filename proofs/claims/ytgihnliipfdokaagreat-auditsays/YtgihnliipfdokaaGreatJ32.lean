/- What coachref.Clip returns, of a list that is not too long. -/
import Derived.Test.YtgihnliipfdokaaGreatJ17
import Derived.Test.YtgihnliipfdokaaGreatJ02
namespace Go.Proofs.YtgihnliipfdokaaGreat.Fx
open Go.RowKit

theorem top_abs {x : Int} (h0 : 0 ≤ x) : absI x = x := by unfold absI; rw [if_neg (by omega)]
theorem top_minus {x : Int} (h0 : x < 0) : absI x = -x := by unfold absI; rw [if_pos h0]

set_option maxRecDepth 100000 in
set_option maxHeartbeats 1600000 in
theorem rclip_calls (a : Option Addr) (la ca : Nat) (xs : List Int) (most : Int) (w : World) (ha : Lst w a la ca xs) (hl : la ≤ 200) (hm0 : 0 ≤ most) (hm1 : most ≤ 2147483647) :
    Calls Tryz.prog 37 #[.slice a la ca, .int .i64 most] w fun e w' => ∃ a' c', e = .returned (.slice a' la c') ∧ Lst w' a' la c' ((List.range la).map (clipG xs most la)) ∧ Below w.heap.size w w' := by
  go_enter Tryz.func37, Tryz.ntmps37
  go_wp2
  go_loopw [5, 6] (fun t i wr => ∃ k : Nat, k ≤ la ∧ i = .int .i64 k ∧ t = .int .i64 (topTo (clampG xs) k) ∧ wr = w) (fun _ i _ => la - (intOf i).toNat)
  case atStart => exact ⟨0, Nat.zero_le _, rfl, rfl, rfl⟩
  case round =>
    obtain ⟨k, hk, rfl, rfl, hw⟩ := hrel
    replace hw := hw.symm
    subst hw
    by_cases hlt : k < la
    · obtain ⟨b1, o1, x, rfl, _, c1, HX⟩ := ha.at1 hlt
      have htb := topTo_bd (g := clampG xs) (n := k) (fun i _ => clampG_bd xs i)
      obtain ⟨t, ht⟩ : ∃ t, topTo (clampG xs) k = t := ⟨_, rfl⟩
      obtain ⟨y, hy⟩ : ∃ y, clampI x = y := ⟨_, rfl⟩
      have HN : Hid (topTo (clampG xs) (k + 1) = if t < absI y then absI y else t) := by
        show topTo (clampG xs) (k + 1) = _
        rw [← ht, ← hy, ← HX.out]
        rfl
      have hyb := clampI_bd x
      rw [hy] at hyb
      have HY : Hid (clampI x = y) := hy
      rw [ht] at htb ⊢
      clear ht hy
      by_cases hneg : y < 0
      · rw [top_minus hneg] at HN
        by_cases hgt : t < -y
        · rw [if_pos hgt] at HN
          go_wp2_with (go_at_call 48; refine (rclamp_calls _ _).mono ?_; rintro e w' ⟨rfl, hw'⟩; replace hw' := hw'.symm; subst hw'; rw [HY.out])
          go_roundw
          case rel => exact ⟨k + 1, by omega, by go_num, by rw [HN.out], by trivial⟩
          case measure => simp [intOf]; omega
        · rw [if_neg hgt] at HN
          go_wp2_with (go_at_call 48; refine (rclamp_calls _ _).mono ?_; rintro e w' ⟨rfl, hw'⟩; replace hw' := hw'.symm; subst hw'; rw [HY.out])
          go_roundw
          case rel => exact ⟨k + 1, by omega, by go_num, by rw [HN.out], by trivial⟩
          case measure => simp [intOf]; omega
      · rw [top_abs (x := y) (by omega)] at HN
        by_cases hgt : t < y
        · rw [if_pos hgt] at HN
          go_wp2_with (go_at_call 48; refine (rclamp_calls _ _).mono ?_; rintro e w' ⟨rfl, hw'⟩; replace hw' := hw'.symm; subst hw'; rw [HY.out])
          go_roundw
          case rel => exact ⟨k + 1, by omega, by go_num, by rw [HN.out], by trivial⟩
          case measure => simp [intOf]; omega
        · rw [if_neg hgt] at HN
          go_wp2_with (go_at_call 48; refine (rclamp_calls _ _).mono ?_; rintro e w' ⟨rfl, hw'⟩; replace hw' := hw'.symm; subst hw'; rw [HY.out])
          go_roundw
          case rel => exact ⟨k + 1, by omega, by go_num, by rw [HN.out], by trivial⟩
          case measure => simp [intOf]; omega
    · obtain rfl : k = la := by omega
      have htb := topL_bd xs k
      have HT : Hid (topTo (clampG xs) k = topL xs k) := rfl
      rw [HT.out]
      obtain ⟨t, Ht⟩ : ∃ t, Hid (topL xs k = t) := ⟨_, rfl⟩
      rw [Ht.out] at htb ⊢
      have HG : Hid (∀ i, clipG xs most k i = if most ≠ 0 ∧ most < t then mulI (xs.getD i 0) (divI most t) else clampI (xs.getD i 0)) := fun i => by unfold clipG; rw [Ht.out]
      go_wp2
      go_loopw [8, 9] (fun v i wr => ∃ j : Nat, j ≤ k ∧ i = .int .i64 j ∧ OwnI w.heap.size wr v ((List.range j).map (clipG xs most k)) ∧ Below w.heap.size w wr) (fun _ i _ => k - (intOf i).toNat)
      case atStart => exact ⟨0, Nat.zero_le _, rfl, OwnI.nil _ _, Below.refl _ _⟩
      case round =>
        obtain ⟨j, hj, rfl, hown, hbel⟩ := hrel
        have hsz := hbel.size
        by_cases hlt : j < k
        · obtain ⟨b1, o1, x, rfl, s1, c1, HX⟩ := ha.at1b hbel (Nat.le_refl _) hlt
          have HGJ := HG.out j
          rw [HX.out] at HGJ
          clear ha HT
          by_cases h0 : most = 0
          · rw [if_neg (fun g => g.1 h0)] at HGJ
            have HZ : Hid (clipG xs most k j = clampI x) := HGJ
            have b0 : (most != 0) = false := by rw [bne_eq_false_iff_eq]; exact h0
            clear h0 HGJ HG
            go_wp2_with (first | (at_builtin; refine wpList_append_int (by rfl) _ _ (by rfl) w.heap.size _ ((List.range j).map (clipG xs most k)) (clampI x) wr.heap.size wr (by rfl) (by rfl) (by exact hown.alloc _) (by exact cell_new _ _ _) (by simp; omega) (by simp; omega) (by exact (Below.refl _ _).alloc (by omega) _) ?_; intro v1 w3 hown1 hbel1) | (go_at_call 48; refine (rclamp_calls _ _).mono ?_; rintro e w' ⟨rfl, hw'⟩; replace hw' := hw'.symm; subst hw'))
            go_roundw
            case rel => exact ⟨j + 1, by omega, by go_num, hown1.congr (range_snoc _ _ _ HZ.out), hbel.trans hbel1⟩
            case measure => simp [intOf]; omega
          · have b0 : (most != 0) = true := by rw [bne_iff_ne]; exact h0
            by_cases h1 : most < t
            · rw [if_pos ⟨h0, h1⟩] at HGJ
              have HZ : Hid (clipG xs most k j = mulI x (divI most t)) := HGJ
              clear h0 HGJ HG
              go_wp2
              go_region_held3 (fun q => q.cell? ⟨b1, o1 + j, none⟩ = some (.int .i64 x)) (first | go_keep | exact (hbel1.cell (p := ⟨b1, o1 + j, none⟩) s1).trans c1)
                (first | (refine step_append_int (by rfl) _ _ (by rfl) w.heap.size _ ((List.range j).map (clipG xs most k)) (mulI x (divI most t)) wr.heap.size wr (by rfl) (by rfl) (by exact hown.drew.alloc _) (by exact cell_new _ _ _) (by simp; omega) (by simp; omega) (by exact (Below.refl _ _).drew.alloc (by simp; omega) _) ?_; intro v1 w2 hown1 hbel1) | (go_at_call 35; refine (rdiv_calls _ _ _ (by omega)).mono ?_; rintro e w' ⟨rfl, rfl⟩) | (go_at_call 56; refine (rmul_calls _ _ _).mono ?_; rintro e w' ⟨rfl, rfl⟩))
              all_goals
                go_wp2
                go_roundw
                case rel => exact ⟨j + 1, by omega, by go_num, hown1.congr (range_snoc _ _ _ HZ.out), hbel.trans hbel1⟩
                case measure => simp [intOf]; omega
            · rw [if_neg (fun g => h1 g.2)] at HGJ
              have HZ : Hid (clipG xs most k j = clampI x) := HGJ
              clear h0 HGJ HG
              go_wp2_with (first | (at_builtin; refine wpList_append_int (by rfl) _ _ (by rfl) w.heap.size _ ((List.range j).map (clipG xs most k)) (clampI x) wr.heap.size wr (by rfl) (by rfl) (by exact hown.alloc _) (by exact cell_new _ _ _) (by simp; omega) (by simp; omega) (by exact (Below.refl _ _).alloc (by omega) _) ?_; intro v1 w3 hown1 hbel1) | (go_at_call 48; refine (rclamp_calls _ _).mono ?_; rintro e w' ⟨rfl, hw'⟩; replace hw' := hw'.symm; subst hw'))
              go_roundw
              case rel => exact ⟨j + 1, by omega, by go_num, hown1.congr (range_snoc _ _ _ HZ.out), hbel.trans hbel1⟩
              case measure => simp [intOf]; omega
        · obtain rfl : j = k := by omega
          obtain ⟨a1, c1, rfl, hl1⟩ := hown.lst' (n := j) (by simp)
          go_wp2
          go_ret
          exact ⟨_, _, rfl, hl1, hbel⟩

end Go.Proofs.YtgihnliipfdokaaGreat.Fx
