/- What coachref.Of, Pair, Word and Numbers return, whatever words or integers lie there. -/
import Derived.Test.YtfkalnehomgccaaRefDigB
import Derived.Test.YtfkalnehomgccaaAppsW
import Derived.BigRegion
import Derived.Deep.RegionWith
namespace Go.Proofs.Ytfkalnehomgccaa.Fx
open Go.RowKit

set_option maxHeartbeats 1600000 in
theorem rof_calls (kind : Int) (hk : okW kind) (a : Option Addr) (len cap : Nat) (xs : List Int) (w : World) (ha : LstW w a len cap xs) (hx : okL xs) (hlen : len ≤ 200) :
    Calls Try.prog 21 #[.int .u64 kind, .slice a len cap] w fun e w' => e = .returned (.int .u64 (ofP kind xs)) ∧ Below w.heap.size w w' := by
  obtain ⟨k0, k1⟩ := hk
  have p0 : okP (kind % 2305843009213693951) := ⟨by omega, by omega⟩
  have p1 : okP (len : Int) := ⟨by omega, by omega⟩
  have p2 : okP 1 := ⟨by omega, by omega⟩
  have HX : Hid (okL xs) := hx
  have HL : Hid (xs.length = len) := ha.len
  clear hx
  go_enter Try.func21, Try.ntmps21
  go_wp2_with (go_at_call 33; refine (rmixed3 _ _ _ p0 p1 p2 _).mono ?_; rintro e w1 ⟨m, HM, rfl, hw1⟩)
  go_loopw [6] (fun i wr => ∃ (k : Nat) (t : Tri), k ≤ len ∧ i = .int .i64 k ∧ Hid (t = ofTo kind xs k) ∧ OfRel 59 w w1.heap.size t wr) (fun i _ => len - (intOf i).toNat)
  case atStart => exact ⟨0, m, Nat.zero_le _, rfl, by rw [HM.out, ← HL.out]; rfl, OfRel.start hw1 _ _ _⟩
  case round =>
    obtain ⟨k, t, hk, rfl, HT, R⟩ := hrel
    obtain ⟨c0, c1, c2⟩ := fnT_cells R.box
    by_cases hlt : k < len
    · obtain ⟨b1, o1, y, rfl, s1, g1, HY⟩ := ha.at1b R.old (Nat.le_refl _) hlt
      have ht : t.ok := by rw [HT.out]; exact ofTo_ok _ _ _
      obtain ⟨t0, t1, t2⟩ := ht
      have hy : okW y := by rw [← HY.out]; exact HX.out k (by rw [HL.out]; exact hlt)
      have t0' := okP_W t0
      have f0 := R.box.frozen 0
      have hne : b1 ≠ w1.heap.size := by have := R.ge; omega
      clear ha
      go_wp2
      go_region_with ((go_at_call 34; refine (rplus_calls _ _ t0' hy _).mono ?_; rintro e w' ⟨rfl, rfl⟩))
      all_goals
        have R1 : OfRel 59 w w1.heap.size ⟨addP t.x y, t.y, t.z⟩ (wr.setCell ⟨w1.heap.size, 0, none⟩ (.int .u64 (addP t.x y))).drew := (R.set0 _).drewN 1
        generalize hq : (wr.setCell ⟨w1.heap.size, 0, none⟩ (.int .u64 (addP t.x y))).drew = wq at *
        clear hq c0 c1 c2 f0 g1 R
        obtain ⟨d0, d1, d2⟩ := fnT_cells R1.box
        go_wp2_with (go_at_call 33; refine (rmixed3 _ _ _ (addP_ok _ _) t1 t2 _).mono ?_; rintro e w2 ⟨m2, HM2, rfl, hw2⟩; have R2 := R1.below hw2; obtain ⟨e0, e1, e2⟩ := fnT_cells R2.box; have z0 := R2.box.frozen 0; have z1 := R2.box.frozen 1; have z2 := R2.box.frozen 2)
        go_roundw
        case rel => exact ⟨k + 1, _, by omega, by go_num, by rw [HM2.out, HT.out, ← HY.out]; rfl, R2.set _ _ _⟩
        case measure => simp [intOf]; omega
    · obtain rfl : k = len := by omega
      go_wp2
      go_ret
      exact ⟨ret_word (by rw [HT.out]; unfold ofP; rw [HL.out]), R.old⟩

theorem rPair_calls (a b : Int) (ha : okW a) (hb : okW b) (w : World) : Calls Try.prog 13 #[.int .u64 a, .int .u64 b] w fun e w' => e = .returned (.int .u64 (ofP 3 [a, b])) ∧ Below w.heap.size w w' := by
  go_enter Try.func13, Try.ntmps13
  go_wp2_with (go_at_call 21; refine (rof_calls _ ⟨by omega, by omega⟩ _ _ _ [a, b] _ (LstW.two _ _ _ _) (okL_two ha hb) (by omega)).mono ?_; rintro e w' ⟨rfl, hw⟩)
  go_ret
  exact ⟨rfl, ((Below.refl _ _).alloc (Nat.le_refl _) _).trans (hw.mono (by simp))⟩

theorem bound_hi {x : Int} (h : 4294967296 < x) : boundP x = 8589934592 := by unfold boundP; rw [if_neg (by omega), if_pos h]; rfl
theorem bound_lo {x : Int} (h : x < -4294967296) : boundP x = 0 := by unfold boundP; rw [if_pos h]; rfl
theorem bound_in {x : Int} (h : ¬ 4294967296 < x) (h2 : ¬ x < -4294967296) : boundP x = x + 4294967296 := by unfold boundP; rw [if_neg h2, if_neg h]

set_option maxHeartbeats 1600000 in
theorem rNumbers_calls (a : Option Addr) (la ca : Nat) (xs : List Int) (w : World) (ha : Lst w a la ca xs) (hl : la ≤ 200) :
    Calls Try.prog 22 #[.slice a la ca] w fun e w' => ∃ a' c', e = .returned (.slice a' la c') ∧ LstW w' a' la c' ((List.range la).map (numG xs)) ∧ Below w.heap.size w w' := by
  go_enter Try.func22, Try.ntmps22
  go_wp2
  go_loopw [3, 4] (fun v i wr => ∃ k : Nat, k ≤ la ∧ i = .int .i64 k ∧ OwnW w.heap.size wr v ((List.range k).map (numG xs)) ∧ Below w.heap.size w wr) (fun _ i _ => la - (intOf i).toNat)
  case atStart => exact ⟨0, Nat.zero_le _, rfl, OwnW.nil _ _, Below.refl _ _⟩
  case round =>
    obtain ⟨k, hk, rfl, hown, hbel⟩ := hrel
    have hsz := hbel.size
    by_cases hlt : k < la
    · obtain ⟨b1, o1, x, rfl, s1, c1, HX⟩ := ha.at1b hbel (Nat.le_refl _) hlt
      clear ha
      by_cases h1 : 4294967296 < x
      · have HB : Hid (numG xs k = 8589934592) := by unfold numG; rw [HX.out]; exact bound_hi h1
        go_wp2_with (at_builtin; refine wpList_append_word (by rfl) _ _ (by rfl) w.heap.size _ ((List.range k).map (numG xs)) 8589934592 wr.heap.size wr (by rfl) (by rfl) (by exact hown.alloc _) (by exact cell_new _ _ _) (by simp; omega) (by simp; omega) (by exact (Below.refl _ _).alloc (by omega) _) ?_; intro v1 w3 hown1 hbel1)
        go_roundw
        case rel => exact ⟨k + 1, by omega, by go_num, hown1.congr (range_snocW _ _ _ HB.out), hbel.trans hbel1⟩
        case measure => simp [intOf]; omega
      · by_cases h2 : x < -4294967296
        · have HB : Hid (numG xs k = 0) := by unfold numG; rw [HX.out]; exact bound_lo h2
          go_wp2_with (at_builtin; refine wpList_append_word (by rfl) _ _ (by rfl) w.heap.size _ ((List.range k).map (numG xs)) 0 wr.heap.size wr (by rfl) (by rfl) (by exact hown.alloc _) (by exact cell_new _ _ _) (by simp; omega) (by simp; omega) (by exact (Below.refl _ _).alloc (by omega) _) ?_; intro v1 w3 hown1 hbel1)
          go_roundw
          case rel => exact ⟨k + 1, by omega, by go_num, hown1.congr (range_snocW _ _ _ HB.out), hbel.trans hbel1⟩
          case measure => simp [intOf]; omega
        · have HB : Hid (numG xs k = x + 4294967296) := by unfold numG; rw [HX.out]; exact bound_in h1 h2
          go_wp2_with (at_builtin; refine wpList_append_word (by rfl) _ _ (by rfl) w.heap.size _ ((List.range k).map (numG xs)) (x + 4294967296) wr.heap.size wr (by rfl) (by rfl) (by exact hown.alloc _) (by exact cell_new _ _ _) (by simp; omega) (by simp; omega) (by exact (Below.refl _ _).alloc (by omega) _) ?_; intro v1 w3 hown1 hbel1)
          go_roundw
          case rel => exact ⟨k + 1, by omega, by go_num, hown1.congr (range_snocW _ _ _ HB.out), hbel.trans hbel1⟩
          case measure => simp [intOf]; omega
    · obtain rfl : k = la := by omega
      obtain ⟨a1, c1, rfl, hl1⟩ := hown.lst' (n := k) (by simp)
      go_wp2
      go_ret
      exact ⟨_, _, rfl, hl1, hbel⟩

end Go.Proofs.Ytfkalnehomgccaa.Fx
