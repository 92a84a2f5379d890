/- What coachref.Batch returns, within the bounds. -/
import Derived.Test.YtimciamfgpdjlaaGreatJ33
import Derived.Test.YtimciamfgpdjlaaGreatJ09
import Derived.Test.YtimciamfgpdjlaaGreatJ12
import Derived.Test.YtimciamfgpdjlaaGreatJ02
namespace Go.Proofs.YtimciamfgpdjlaaGreat.Fx
open Go.RowKit

set_option maxRecDepth 100000 in
set_option maxHeartbeats 1600000 in
theorem rBatch_calls (seed : Int) (hs : okW seed) (size n step : Nat) (z1 : 1 ≤ size) (z2 : size ≤ 8) (h1 : 1 ≤ n) (h2 : n ≤ 16) (hp : step ≤ 39) (w : World) :
    Calls Tryz.prog 56 #[.int .u64 seed, .int .i64 size, .int .i64 n, .int .i64 step] w fun e w' => ∃ g c, e = .returned (.slice (some ⟨g, 0, none⟩) size c) ∧ w.heap.size ≤ g ∧ Lst w' (some ⟨g, 0, none⟩) size c (batchP seed size n (step * size)) ∧ Below w.heap.size w w' := by
  have hmul : step * size ≤ 39 * 8 := Nat.mul_le_mul hp z2
  obtain ⟨s, hsz⟩ : ∃ s, step * size = s := ⟨_, rfl⟩
  have e1 : (step : Int) * (size : Int) = (s : Int) := by rw [← hsz]; simp
  rw [hsz] at hmul ⊢
  unfold batchP
  clear hsz
  go_enter Tryz.func56, Tryz.ntmps56
  go_wp2
  go_loopw [9, 10, 11, 12] (fun out last v i wr => ∃ k : Nat, k ≤ size ∧ i = .int .i64 k ∧ LastIs seed n out last v wr ∧ OwnI w.heap.size wr out ((List.range k).map (batchG seed n s)) ∧ Below w.heap.size w wr) (fun _ _ _ i _ => size - (intOf i).toNat)
  case atStart => exact ⟨0, Nat.zero_le _, rfl, LastIs.none _ _ _ _ _, OwnI.nil _ _, Below.refl _ _⟩
  case round =>
    obtain ⟨k, hk, rfl, ⟨L, rfl, hL⟩, hown, hbel⟩ := hrel
    by_cases hlt : k < size
    · obtain ⟨t, ht⟩ : ∃ t, s + k = t := ⟨_, rfl⟩
      obtain ⟨d, hd⟩ : ∃ d, t / n = d := ⟨_, rfl⟩
      obtain ⟨r, hr⟩ : ∃ r, t % n = r := ⟨_, rfl⟩
      have hrn : r < n := by rw [← hr]; exact Nat.mod_lt _ (by omega)
      have hdt : d ≤ t := by rw [← hd]; exact Nat.div_le_self _ _
      have HG : Hid (batchG seed n s k = shufF seed d n r) := by show batchG seed n s k = _; unfold batchG; rw [ht, hd, hr]
      have e2 : (s : Int) + (k : Int) = (t : Int) := by omega
      have e3 : (t : Int).tdiv (n : Int) = (d : Int) := by rw [← hd]; exact Int.ofNat_tdiv t n
      have e4 : (t : Int).tmod (n : Int) = (r : Int) := by rw [← hr]; exact Int.ofNat_tmod t n
      have e5 : IntKind.i64.wrap (d : Int) = (d : Int) := wrap_in _ (by omega) (by omega)
      have hn0 : ((n : Int) == 0) = false := by rw [beq_eq_false_iff_ne]; omega
      by_cases he : L = (d : Int)
      · obtain ⟨b, c, rfl, hne, hA⟩ := hL d he
        have b0 : ((d : Int) != L) = false := by rw [bne_eq_false_iff_eq]; exact he.symm
        have HL : Hid (L = (d : Int)) := he
        have c4 := hA.cell hrn
        obtain ⟨x, hx⟩ : ∃ x, shufF seed d n r = x := ⟨_, rfl⟩
        rw [hx] at c4 HG
        have hsz := hbel.size
        have hcap := hA.cap
        clear hL he hx
        go_wp2_with (at_builtin; refine wpList_append_far (by rfl) _ _ (by rfl) w.heap.size _ ((List.range k).map (batchG seed n s)) x wr.heap.size w (by rfl) (by rfl) (by exact hown.alloc _) (by exact cell_new _ _ _) (by simp; omega) (by simp; omega) (by exact hbel.alloc hsz _) ?_; intro v1 w3 hown1 hbel1 hgr h3)
        go_roundw
        case rel => exact ⟨k + 1, by omega, by go_num, HL.out ▸ LastIs.push hne (hA.alloc _) hgr h3, hown1.congr (range_snoc _ _ _ HG.out), hbel1⟩
        case measure => simp [intOf]; omega
      · have b0 : ((d : Int) != L) = true := by rw [bne_iff_ne]; exact fun e => he e.symm
        have e6 : IntKind.i64.wrap ((t : Int) / (n : Int)) = (d : Int) := by rw [show (t : Int) / (n : Int) = (d : Int) from by rw [← hd]; rfl]; exact e5
        have hn1 : ¬ ((n : Int) = 0) := by omega
        have hn2 : ¬ (n = 0) := by omega
        clear hL he
        go_wp2
        go_region_held3 (fun _ => True) (exact True.intro) ((go_at_call 114; refine (rShuffle_calls _ hs d n (by omega) h1 h2 _).mono ?_; rintro e w2 ⟨b, c, rfl, hb, hA, hw2⟩))
        have hne := hown.new (show wr.heap.size ≤ b from hb)
        have hown2 : OwnI w.heap.size w2 u9 ((List.range k).map (batchG seed n s)) := hown.drew.below hw2
        have hbel2 : Below w.heap.size w w2 := (below_drewN hbel 1).trans (hw2.mono hbel.size)
        clear hw2 hb hown hbel
        have c4 := hA.cell hrn
        obtain ⟨x, hx⟩ : ∃ x, shufF seed d n r = x := ⟨_, rfl⟩
        rw [hx] at c4 HG
        have hsz := hbel2.size
        have hcap := hA.cap
        clear hx
        go_wp2_with (at_builtin; refine wpList_append_far (by rfl) _ _ (by rfl) w.heap.size _ ((List.range k).map (batchG seed n s)) x w2.heap.size w (by rfl) (by rfl) (by exact hown2.alloc _) (by exact cell_new _ _ _) (by simp; omega) (by simp; omega) (by exact hbel2.alloc hsz _) ?_; intro v1 w3 hown1 hbel1 hgr h3)
        go_roundw
        case rel => exact ⟨k + 1, by omega, by go_num, LastIs.push hne (hA.alloc _) hgr h3, hown1.congr (range_snoc _ _ _ HG.out), hbel1⟩
        case measure => simp [intOf]; omega
    · obtain rfl : k = size := by omega
      obtain ⟨a1, c1, rfl, _⟩ := hown.lst' (n := k) (by simp)
      obtain ⟨g, rfl, hg, hl1⟩ := hown.at (by simp) (by omega)
      go_wp2
      go_ret
      exact ⟨_, _, rfl, hg, hl1, hbel⟩

end Go.Proofs.YtimciamfgpdjlaaGreat.Fx

/- What coachref.Clip returns, of a list that is not too long. -/
namespace Go.Proofs.YtimciamfgpdjlaaGreat.Fx
open Go.RowKit

theorem top_abs {x : Int} (h0 : 0 ≤ x) : absI x = x := by unfold absI; rw [if_neg (by omega)]
theorem top_minus {x : Int} (h0 : x < 0) : absI x = -x := by unfold absI; rw [if_pos h0]

set_option maxRecDepth 100000 in
set_option maxHeartbeats 1600000 in
theorem rclip_calls (a : Option Addr) (la ca : Nat) (xs : List Int) (most : Int) (w : World) (ha : Lst w a la ca xs) (hl : la ≤ 200) (hm0 : 0 ≤ most) (hm1 : most ≤ 2147483647) :
    Calls Tryz.prog 63 #[.slice a la ca, .int .i64 most] w fun e w' => ∃ a' c', e = .returned (.slice a' la c') ∧ Lst w' a' la c' ((List.range la).map (clipG xs most la)) ∧ Below w.heap.size w w' := by
  go_enter Tryz.func63, Tryz.ntmps63
  go_wp2
  go_loopw [5, 6] (fun t i wr => ∃ k : Nat, k ≤ la ∧ i = .int .i64 k ∧ t = .int .i64 (topTo (clampG xs) k) ∧ wr = w) (fun _ i _ => la - (intOf i).toNat)
  case atStart => exact ⟨0, Nat.zero_le _, rfl, rfl, rfl⟩
  case round =>
    obtain ⟨k, hk, rfl, rfl, hw⟩ := hrel
    replace hw := hw.symm
    subst hw
    by_cases hlt : k < la
    · obtain ⟨b1, o1, x, rfl, _, c1, HX⟩ := ha.at1 hlt
      have htb := topTo_bd (g := clampG xs) (n := k) (fun i _ => clampG_bd xs i)
      obtain ⟨t, ht⟩ : ∃ t, topTo (clampG xs) k = t := ⟨_, rfl⟩
      obtain ⟨y, hy⟩ : ∃ y, clampI x = y := ⟨_, rfl⟩
      have HN : Hid (topTo (clampG xs) (k + 1) = if t < absI y then absI y else t) := by
        show topTo (clampG xs) (k + 1) = _
        rw [← ht, ← hy, ← HX.out]
        rfl
      have hyb := clampI_bd x
      rw [hy] at hyb
      have HY : Hid (clampI x = y) := hy
      rw [ht] at htb ⊢
      clear ht hy
      by_cases hneg : y < 0
      · rw [top_minus hneg] at HN
        by_cases hgt : t < -y
        · rw [if_pos hgt] at HN
          go_wp2_with (go_at_call 109; refine (rclamp_calls _ _).mono ?_; rintro e w' ⟨rfl, hw'⟩; replace hw' := hw'.symm; subst hw'; rw [HY.out])
          go_roundw
          case rel => exact ⟨k + 1, by omega, by go_num, by rw [HN.out], by trivial⟩
          case measure => simp [intOf]; omega
        · rw [if_neg hgt] at HN
          go_wp2_with (go_at_call 109; refine (rclamp_calls _ _).mono ?_; rintro e w' ⟨rfl, hw'⟩; replace hw' := hw'.symm; subst hw'; rw [HY.out])
          go_roundw
          case rel => exact ⟨k + 1, by omega, by go_num, by rw [HN.out], by trivial⟩
          case measure => simp [intOf]; omega
      · rw [top_abs (x := y) (by omega)] at HN
        by_cases hgt : t < y
        · rw [if_pos hgt] at HN
          go_wp2_with (go_at_call 109; refine (rclamp_calls _ _).mono ?_; rintro e w' ⟨rfl, hw'⟩; replace hw' := hw'.symm; subst hw'; rw [HY.out])
          go_roundw
          case rel => exact ⟨k + 1, by omega, by go_num, by rw [HN.out], by trivial⟩
          case measure => simp [intOf]; omega
        · rw [if_neg hgt] at HN
          go_wp2_with (go_at_call 109; refine (rclamp_calls _ _).mono ?_; rintro e w' ⟨rfl, hw'⟩; replace hw' := hw'.symm; subst hw'; rw [HY.out])
          go_roundw
          case rel => exact ⟨k + 1, by omega, by go_num, by rw [HN.out], by trivial⟩
          case measure => simp [intOf]; omega
    · obtain rfl : k = la := by omega
      have htb := topL_bd xs k
      have HT : Hid (topTo (clampG xs) k = topL xs k) := rfl
      rw [HT.out]
      obtain ⟨t, Ht⟩ : ∃ t, Hid (topL xs k = t) := ⟨_, rfl⟩
      rw [Ht.out] at htb ⊢
      have HG : Hid (∀ i, clipG xs most k i = if most ≠ 0 ∧ most < t then mulI (xs.getD i 0) (divI most t) else clampI (xs.getD i 0)) := fun i => by unfold clipG; rw [Ht.out]
      go_wp2
      go_loopw [8, 9] (fun v i wr => ∃ j : Nat, j ≤ k ∧ i = .int .i64 j ∧ OwnI w.heap.size wr v ((List.range j).map (clipG xs most k)) ∧ Below w.heap.size w wr) (fun _ i _ => k - (intOf i).toNat)
      case atStart => exact ⟨0, Nat.zero_le _, rfl, OwnI.nil _ _, Below.refl _ _⟩
      case round =>
        obtain ⟨j, hj, rfl, hown, hbel⟩ := hrel
        have hsz := hbel.size
        by_cases hlt : j < k
        · obtain ⟨b1, o1, x, rfl, s1, c1, HX⟩ := ha.at1b hbel (Nat.le_refl _) hlt
          have HGJ := HG.out j
          rw [HX.out] at HGJ
          clear ha HT
          by_cases h0 : most = 0
          · rw [if_neg (fun g => g.1 h0)] at HGJ
            have HZ : Hid (clipG xs most k j = clampI x) := HGJ
            have b0 : (most != 0) = false := by rw [bne_eq_false_iff_eq]; exact h0
            clear h0 HGJ HG
            go_wp2_with (first | (at_builtin; refine wpList_append_int (by rfl) _ _ (by rfl) w.heap.size _ ((List.range j).map (clipG xs most k)) (clampI x) wr.heap.size wr (by rfl) (by rfl) (by exact hown.alloc _) (by exact cell_new _ _ _) (by simp; omega) (by simp; omega) (by exact (Below.refl _ _).alloc (by omega) _) ?_; intro v1 w3 hown1 hbel1) | (go_at_call 109; refine (rclamp_calls _ _).mono ?_; rintro e w' ⟨rfl, hw'⟩; replace hw' := hw'.symm; subst hw'))
            go_roundw
            case rel => exact ⟨j + 1, by omega, by go_num, hown1.congr (range_snoc _ _ _ HZ.out), hbel.trans hbel1⟩
            case measure => simp [intOf]; omega
          · have b0 : (most != 0) = true := by rw [bne_iff_ne]; exact h0
            by_cases h1 : most < t
            · rw [if_pos ⟨h0, h1⟩] at HGJ
              have HZ : Hid (clipG xs most k j = mulI x (divI most t)) := HGJ
              clear h0 HGJ HG
              go_wp2
              go_region_held3 (fun q => q.cell? ⟨b1, o1 + j, none⟩ = some (.int .i64 x)) (first | go_keep | exact (hbel1.cell (p := ⟨b1, o1 + j, none⟩) s1).trans c1)
                (first | (refine step_append_int (by rfl) _ _ (by rfl) w.heap.size _ ((List.range j).map (clipG xs most k)) (mulI x (divI most t)) wr.heap.size wr (by rfl) (by rfl) (by exact hown.drew.alloc _) (by exact cell_new _ _ _) (by simp; omega) (by simp; omega) (by exact (Below.refl _ _).drew.alloc (by simp; omega) _) ?_; intro v1 w2 hown1 hbel1) | (go_at_call 61; refine (rdiv_calls _ _ _ (by omega)).mono ?_; rintro e w' ⟨rfl, rfl⟩) | (go_at_call 115; refine (rmul_calls _ _ _).mono ?_; rintro e w' ⟨rfl, rfl⟩))
              all_goals
                go_wp2
                go_roundw
                case rel => exact ⟨j + 1, by omega, by go_num, hown1.congr (range_snoc _ _ _ HZ.out), hbel.trans hbel1⟩
                case measure => simp [intOf]; omega
            · rw [if_neg (fun g => h1 g.2)] at HGJ
              have HZ : Hid (clipG xs most k j = clampI x) := HGJ
              clear h0 HGJ HG
              go_wp2_with (first | (at_builtin; refine wpList_append_int (by rfl) _ _ (by rfl) w.heap.size _ ((List.range j).map (clipG xs most k)) (clampI x) wr.heap.size wr (by rfl) (by rfl) (by exact hown.alloc _) (by exact cell_new _ _ _) (by simp; omega) (by simp; omega) (by exact (Below.refl _ _).alloc (by omega) _) ?_; intro v1 w3 hown1 hbel1) | (go_at_call 109; refine (rclamp_calls _ _).mono ?_; rintro e w' ⟨rfl, hw'⟩; replace hw' := hw'.symm; subst hw'))
              go_roundw
              case rel => exact ⟨j + 1, by omega, by go_num, hown1.congr (range_snoc _ _ _ HZ.out), hbel.trans hbel1⟩
              case measure => simp [intOf]; omega
        · obtain rfl : j = k := by omega
          obtain ⟨a1, c1, rfl, hl1⟩ := hown.lst' (n := j) (by simp)
          go_wp2
          go_ret
          exact ⟨_, _, rfl, hl1, hbel⟩

end Go.Proofs.YtimciamfgpdjlaaGreat.Fx
