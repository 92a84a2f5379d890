/- What draw.place and draw.order return: the order of an epoch, within the bounds. -/
import Derived.Test.YtnlniiocoamllaeDigD
import Derived.Test.YtnlniiocoamllaeDraws
import Derived.RegionTactic
import Derived.BigRegion
namespace Go.Proofs.Ytnlniiocoamllae.Fx
open Go.RowKit

theorem place_calls (seed : Int) (hs : okW seed) (epoch i : Nat) (he : epoch ≤ 1000) (hi : i ≤ 16) (w : World) :
    Calls Try.prog 36 #[.int .u64 seed, .int .i64 epoch, .int .i64 i] w fun e w' => e = .returned (.int .i64 (placeP seed epoch i)) ∧ Below w.heap.size w w' := by
  have HE : Hid (ofP 2 [seed, ((64 * epoch + i : Nat) : Int)] % ((i : Int) + 1) = (placeP seed epoch i : Int)) := placeP_eq _ _ _
  have hle := placeP_le seed epoch i
  have HK : Hid (okP (ofP 2 [seed, ((64 * epoch + i : Nat) : Int)])) := ofP_ok _ _
  generalize placeP seed epoch i = j at *
  obtain ⟨t, ht⟩ : ∃ t : Nat, 64 * epoch + i = t := ⟨_, rfl⟩
  rw [ht] at HE HK
  have e1 : (64 : Int) * (epoch : Int) + (i : Int) = (t : Int) := by omega
  have kt : okW (t : Int) := ⟨by omega, by omega⟩
  go_enter Try.func36, Try.ntmps36
  go_wp2_with fail
  refine (dWord_calls _ _ hs kt _).mono ?_
  rintro e w1 ⟨rfl, hw1⟩
  obtain ⟨M, hM⟩ : ∃ M, ofP 2 [seed, (t : Int)] = M := ⟨_, rfl⟩
  rw [hM] at HE HK ⊢
  obtain ⟨m0, m1⟩ := HK.out
  have e2 : M.tmod ((i : Int) + 1) = (j : Int) := by rw [Int.tmod_eq_emod_of_nonneg m0]; exact HE.out
  have e3 : M % ((i : Int) + 1) = (j : Int) := HE.out
  clear hM
  go_wp2
  go_ret
  exact ⟨rfl, hw1⟩

set_option maxRecDepth 100000 in
set_option maxHeartbeats 1600000 in
theorem order_calls (seed : Int) (hs : okW seed) (epoch n : Nat) (he : epoch ≤ 1000) (h1 : 1 ≤ n) (h2 : n ≤ 16) (w : World) :
    Calls Try.prog 31 #[.int .u64 seed, .int .i64 epoch, .int .i64 n] w fun e w' => ∃ b, e = .returned (.slice (some ⟨b, 0, none⟩) n n) ∧ w.heap.size ≤ b ∧ Arr w' b n n (shufF seed epoch n) ∧ Below w.heap.size w w' := by
  have hmk := run_make_row' (P := Try.prog) 22 3 (.int .i64 0) 8 Try.underlying22 info3 rfl .i64 .i64 n (by omega) (by omega)
  go_enter Try.func31, Try.ntmps31
  go_wp2
  go_loopw [15] (fun i wr => ∃ k : Nat, k ≤ n ∧ i = .int .i64 k ∧ wr.rowIs w.heap.size 3 n (rowTo (fun x => (x : Int)) k) ∧ Below w.heap.size w wr) (fun i _ => n - (intOf i).toNat)
  case atStart => exact ⟨0, Nat.zero_le _, rfl, rowTo_made (World.rowIs_made _ _ _ _), (Below.refl _ _).alloc (Nat.le_refl _) _⟩
  case round =>
    obtain ⟨k, hk, rfl, hrow, hbel⟩ := hrel
    clear hmk
    by_cases hlt : k < n
    · have c3 := rowTo_cell hrow hlt
      have f3 := hrow.frozen k
      go_wp2
      go_roundw
      case rel => exact ⟨k + 1, by omega, by go_num, rowTo_step (g := fun x => (x : Int)) hrow, hbel.setCell (Nat.le_refl _) _⟩
      case measure => simp [intOf]; omega
    · obtain rfl : k = n := by omega
      have hA : Arr wr w.heap.size k k (shufTo seed epoch k 0) := Arr.row hrow
      clear hrow
      generalize hwr : wr = w1 at *
      clear hwr
      go_wp2
      go_loopw [9] (fun i wr => ∃ p j : Nat, p + j + 1 = k ∧ i = .int .i64 p ∧ Arr wr w.heap.size k k (shufTo seed epoch k j) ∧ Below w.heap.size w wr) (fun i _ => (intOf i).toNat)
      case atStart => exact ⟨k - 1, 0, by omega, by go_num, hA, hbel⟩
      case round =>
        obtain ⟨p, j, hp, rfl, hR, hB⟩ := hrel
        clear hA hbel
        by_cases hlt2 : 1 ≤ p
        · go_wp2_with fail
          refine (place_calls _ hs _ _ he (by omega) _).mono ?_
          rintro e w2 ⟨rfl, hw2⟩
          have hle := placeP_le seed epoch p
          have HS : Hid (swapF (shufTo seed epoch k j) p (placeP seed epoch p) = shufTo seed epoch k (j + 1)) := shufTo_step hp
          generalize placeP seed epoch p = q at *
          replace hB := hB.trans (hw2.mono hB.size)
          replace hR := hR.below hw2
          have c1 := hR.cell (i := p) (by omega)
          have c2 := hR.cell (i := q) (by omega)
          have f1 := hR.frozen p
          have f2 := hR.frozen q
          have R1 := hR.set p (shufTo seed epoch k j q)
          have f3 := R1.frozen q
          have d3 := R1.cell (i := q) (by omega)
          have hqk : q < k := by omega
          have hpk : p < k := by omega
          generalize (if q = p then shufTo seed epoch k j q else shufTo seed epoch k j q) = z at d3
          obtain ⟨x, hx⟩ : ∃ x, shufTo seed epoch k j q = x := ⟨_, rfl⟩
          obtain ⟨y, hy⟩ : ∃ y, shufTo seed epoch k j p = y := ⟨_, rfl⟩
          have RR := hR.swap p q x y hx hy
          rw [hx] at c2 f3 d3
          rw [hy] at c1
          clear R1 hx hy hw2
          go_wp2
          go_region
          go_wp2
          go_roundw
          case rel => exact ⟨p - 1, j + 1, by omega, by go_num, (HS.out ▸ RR).drew, below_drewN ((hB.setCell (Nat.le_refl _) _).setCell (Nat.le_refl _) _) 1⟩
          case measure => simp [intOf]; omega
        · obtain rfl : p = 0 := by omega
          go_wp2
          go_ret
          obtain rfl : j = k - 1 := by omega
          exact ⟨_, rfl, Nat.le_refl _, hR, hB⟩

end Go.Proofs.Ytnlniiocoamllae.Fx
