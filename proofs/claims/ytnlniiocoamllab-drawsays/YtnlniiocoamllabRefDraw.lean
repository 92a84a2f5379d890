/- What coachref.In, Shuffle and Batch return, within the bounds. -/
import Derived.Test.YtnlniiocoamllabRefDigC
import Derived.Test.YtnlniiocoamllabDrawB
import Derived.Deep.RegionHeld3
namespace Go.Proofs.Ytnlniiocoamllab.Fx
open Go.RowKit

def idF (x : Nat) : Int := (x : Int)

def inB (n lo hi : Int) : Bool := decide (lo ≤ n) && decide (n ≤ hi)
theorem rin_calls (n lo hi : Int) (w : World) : Calls Try.prog 7 #[.int .i64 n, .int .i64 lo, .int .i64 hi] w fun e w' => e = .returned (.bool (inB n lo hi)) ∧ w' = w := by
  unfold inB
  by_cases h1 : lo ≤ n
  · by_cases h2 : n ≤ hi
    · go_enter Try.func7, Try.ntmps7
      go_wp2
      go_ret
      exact ⟨ret_bool (by simp [h1, h2]), rfl⟩
    · go_enter Try.func7, Try.ntmps7
      go_wp2
      go_ret
      exact ⟨ret_bool (by simp; omega), rfl⟩
  · go_enter Try.func7, Try.ntmps7
    go_wp2
    go_ret
    exact ⟨ret_bool (by simp; omega), rfl⟩
theorem in_yes {n lo hi : Int} (h : lo ≤ n ∧ n ≤ hi) : inB n lo hi = true := by unfold inB; simp; omega
theorem in_no {n lo hi : Int} (h : ¬ (lo ≤ n ∧ n ≤ hi)) : inB n lo hi = false := by unfold inB; simp; omega

set_option maxRecDepth 100000 in
set_option maxHeartbeats 1600000 in
theorem rShuffle_calls (seed : Int) (hs : okW seed) (epoch n : Nat) (he : epoch ≤ 1000) (h1 : 1 ≤ n) (h2 : n ≤ 16) (w : World) :
    Calls Try.prog 17 #[.int .u64 seed, .int .i64 epoch, .int .i64 n] w fun e w' => ∃ b c, e = .returned (.slice (some ⟨b, 0, none⟩) n c) ∧ w.heap.size ≤ b ∧ Arr w' b c n (shufF seed epoch n) ∧ Below w.heap.size w w' := by
  go_enter Try.func17, Try.ntmps17
  go_wp2
  go_loopw [7, 8] (fun v i wr => ∃ k : Nat, k ≤ n ∧ i = .int .i64 k ∧ OwnI w.heap.size wr v ((List.range k).map idF) ∧ Below w.heap.size w wr) (fun _ i _ => n - (intOf i).toNat)
  case atStart => exact ⟨0, Nat.zero_le _, rfl, OwnI.nil _ _, Below.refl _ _⟩
  case round =>
    obtain ⟨k, hk, rfl, hown, hbel⟩ := hrel
    have hsz := hbel.size
    by_cases hlt : k < n
    · go_wp2_with (at_builtin; refine wpList_append_int (by rfl) _ _ (by rfl) w.heap.size _ ((List.range k).map idF) (k : Int) wr.heap.size w (by rfl) (by rfl) (by exact hown.alloc _) (by exact cell_new _ _ _) (by simp; omega) (by simp; omega) (by exact hbel.alloc hsz _) ?_; intro v1 w3 hown1 hbel1)
      go_roundw
      case rel => exact ⟨k + 1, by omega, by go_num, hown1.congr (range_snoc idF _ _ rfl), hbel1⟩
      case measure => simp [intOf]; omega
    · obtain rfl : k = n := by omega
      obtain ⟨b, c, rfl, hb, hA0⟩ := hown.arr h1
      have hA : Arr wr b c k (shufTo seed epoch k 0) := hA0
      clear hown hA0
      generalize hwr : wr = w1 at *
      clear hwr
      go_wp2
      go_loopw [9] (fun i wr => ∃ p j : Nat, p + j + 1 = k ∧ i = .int .i64 p ∧ Arr wr b c k (shufTo seed epoch k j) ∧ Below w.heap.size w wr) (fun i _ => (intOf i).toNat)
      case atStart => exact ⟨k - 1, 0, by omega, by go_num, hA, hbel⟩
      case round =>
        obtain ⟨p, j, hp, rfl, hR, hB⟩ := hrel
        clear hA hbel
        by_cases hlt2 : 1 ≤ p
        · obtain ⟨t, ht⟩ : ∃ t : Nat, 64 * epoch + p = t := ⟨_, rfl⟩
          have e1 : (epoch : Int) * 64 + (p : Int) = (t : Int) := by omega
          have kt : okW (t : Int) := ⟨by omega, by omega⟩
          go_wp2_with fail
          refine (rWord_calls _ _ hs kt _).mono ?_
          rintro e w2 ⟨rfl, hw2⟩
          have HE : Hid (ofP 2 [seed, ((64 * epoch + p : Nat) : Int)] % ((p : Int) + 1) = (placeP seed epoch p : Int)) := placeP_eq _ _ _
          have HK : Hid (okP (ofP 2 [seed, ((64 * epoch + p : Nat) : Int)])) := ofP_ok _ _
          have hle := placeP_le seed epoch p
          have HS : Hid (swapF (shufTo seed epoch k j) p (placeP seed epoch p) = shufTo seed epoch k (j + 1)) := shufTo_step hp
          generalize placeP seed epoch p = q at *
          rw [ht] at HE HK
          obtain ⟨M, hM⟩ : ∃ M, ofP 2 [seed, (t : Int)] = M := ⟨_, rfl⟩
          rw [hM] at HE HK ⊢
          obtain ⟨m0, m1⟩ := HK.out
          have e2 : M.tmod ((p : Int) + 1) = (q : Int) := by rw [Int.tmod_eq_emod_of_nonneg m0]; exact HE.out
          have e3 : M % ((p : Int) + 1) = (q : Int) := HE.out
          clear hM
          replace hB := hB.trans (hw2.mono hB.size)
          replace hR := hR.below hw2
          have hcap := hR.cap
          have c1 := hR.cell (i := p) (by omega)
          have c2 := hR.cell (i := q) (by omega)
          have f1 := hR.frozen p
          have R1 := hR.set p (shufTo seed epoch k j q)
          have f3 := R1.frozen q
          have d3 := R1.cell (i := q) (by omega)
          have hqk : q < k := by omega
          have hpk : p < k := by omega
          generalize (if q = p then shufTo seed epoch k j q else shufTo seed epoch k j q) = z at d3
          obtain ⟨x, hx⟩ : ∃ x, shufTo seed epoch k j q = x := ⟨_, rfl⟩
          obtain ⟨y, hy⟩ : ∃ y, shufTo seed epoch k j p = y := ⟨_, rfl⟩
          have RR := hR.swap p q x y hx hy
          rw [hx] at c2 f3 d3
          rw [hy] at c1
          clear R1 hx hy hw2
          go_wp2
          go_roundw
          case rel => exact ⟨p - 1, j + 1, by omega, by go_num, HS.out ▸ RR, (hB.setCell hb _).setCell hb _⟩
          case measure => simp [intOf]; omega
        · obtain rfl : p = 0 := by omega
          go_wp2
          go_ret
          obtain rfl : j = k - 1 := by omega
          exact ⟨_, _, rfl, hb, hR, hB⟩

end Go.Proofs.Ytnlniiocoamllab.Fx
