/- What coachref.Leaves and coachref.Root return. -/
import Derived.Test.YtfkalnehomgccaaRefTreeA
import Derived.Test.YtfkalnehomgccaaTreeE
import Derived.Test.YtfkalnehomgccaaRefIn
namespace Go.Proofs.Ytfkalnehomgccaa.Fx
open Go.RowKit

theorem numL_range {xs : List Int} {n : Nat} (h : n ≤ 200) : (List.range n).map (numG xs) = numL xs n := by
  unfold numL; rw [if_neg (by omega)]

set_option maxHeartbeats 1600000 in
theorem rLeaves_calls (a : Option Addr) (n c : Nat) (xs : List Int) (w : World) (ha : Lst w a n c xs) (h1 : 1 ≤ n) (h2 : n ≤ 200) :
    Calls Try.prog 7 #[.slice a n c] w fun e w' => ∃ a' c', e = .returned (.slice a' ((n + 3) / 4 : Nat) c') ∧ LstW w' a' ((n + 3) / 4) c' (leavesP xs n) ∧ Below w.heap.size w w' := by
  unfold leavesP
  obtain ⟨N, hN⟩ : ∃ N, (n + 3) / 4 = N := ⟨_, rfl⟩
  rw [hN]
  obtain ⟨b, off, x, rfl, hb, h0, HX⟩ := ha.at1 (k := 0) (by omega)
  have HK := ha.cap
  go_enter Try.func7, Try.ntmps7
  go_wp2
  go_loopw [3, 4] (fun v i wr => ∃ k lo : Nat, k ≤ N ∧ i = .int .i64 lo ∧ k * 4 = lo ∧ OwnW w.heap.size wr v ((List.range k).map (leafG xs n)) ∧ Below w.heap.size w wr) (fun _ i _ => 204 - (intOf i).toNat)
  case atStart => exact ⟨0, 0, Nat.zero_le _, rfl, rfl, OwnW.nil _ _, Below.refl _ _⟩
  case round =>
    obtain ⟨k, lo, hk, rfl, hlo, hown, hbel⟩ := hrel
    have hsz := hbel.size
    have ha' := ha.below hbel (Nat.le_refl _)
    clear ha
    by_cases hlt : lo < n
    · obtain ⟨hi, hhi⟩ : ∃ hi, hiN n k = hi := ⟨_, rfl⟩
      have hh : lo ≤ hi ∧ hi ≤ n ∧ hi ≤ lo + 4 := by unfold hiN at hhi; omega
      have hs := ha'.sub (by omega) lo hi (by omega) (by omega)
      have HG : Hid (leafG xs n k = ofP 4 (numL ((xs.drop lo).take (hi - lo)) (hi - lo))) := by show leafG xs n k = _; unfold leafG; rw [hlo, hhi]
      have HM : Hid (hi = min (lo + 4) n) := by show hi = min (lo + 4) n; rw [← hhi, ← hlo]; rfl
      clear hhi
      go_wp2_with fail
      all_goals
        first
          | rw [show ((lo : Int) + 4).toNat = hi from by have := HM.out; omega]
          | rw [show n - lo = hi - lo from by have := HM.out; omega]
        refine (rNumbers_calls _ _ _ _ _ hs (by omega)).mono ?_
        rintro e w1 ⟨a1, c1, rfl, hl1, hw1⟩
        rw [numL_range (by omega)] at hl1
        have hown1 := hown.below hw1
        have hbel1 := hbel.trans (hw1.mono hbel.size)
        go_wp2_with fail
        refine (rof_calls 4 ⟨by omega, by omega⟩ _ _ _ _ _ hl1 (numL_ok _ _) (by omega)).mono ?_
        rintro e w2 ⟨rfl, hw2⟩
        have hown2 := hown1.below hw2
        have hbel2 := hbel1.trans (hw2.mono hbel1.size)
        have hsz2 := hbel2.size
        go_wp2_with (at_builtin; refine wpList_append_word (by rfl) _ _ (by rfl) w.heap.size _ ((List.range k).map (leafG xs n)) (ofP 4 (numL ((xs.drop lo).take (hi - lo)) (hi - lo))) w2.heap.size w (by rfl) (by rfl) (by exact hown2.alloc _) (by exact cell_new _ _ _) (by simp; omega) (by simp; omega) (by exact hbel2.alloc hsz2 _) ?_; intro v1 w3 hown3 hbel3)
        go_roundw
        case rel => exact ⟨k + 1, lo + 4, by omega, by go_num, by omega, hown3.congr (range_snocW _ _ _ HG.out), hbel3⟩
        case measure => simp [intOf]; omega
    · obtain rfl : k = N := by omega
      obtain ⟨a1, c1, rfl, hl1⟩ := hown.lst' (n := k) (by simp)
      go_wp2
      go_ret
      exact ⟨_, _, rfl, hl1, hbel⟩

end Go.Proofs.Ytfkalnehomgccaa.Fx
