/- What coachref.Batch returns, within the bounds. -/
import Derived.Test.YtnlniiocoamllabRefDraw
import Derived.Test.YtnlniiocoamllabAppsFar
namespace Go.Proofs.Ytnlniiocoamllab.Fx
open Go.RowKit

set_option maxRecDepth 100000 in
set_option maxHeartbeats 1600000 in
theorem rBatch_calls (seed : Int) (hs : okW seed) (size n step : Nat) (z2 : size ≤ 8) (h1 : 1 ≤ n) (h2 : n ≤ 16) (hp : step ≤ 39) (w : World) :
    Calls Try.prog 18 #[.int .u64 seed, .int .i64 size, .int .i64 n, .int .i64 step] w fun e w' => ∃ a c, e = .returned (.slice a size c) ∧ Lst w' a size c (batchP seed size n (step * size)) ∧ Below w.heap.size w w' := by
  have hmul : step * size ≤ 39 * 8 := Nat.mul_le_mul hp z2
  obtain ⟨s, hsz⟩ : ∃ s, step * size = s := ⟨_, rfl⟩
  have e1 : (step : Int) * (size : Int) = (s : Int) := by rw [← hsz]; simp
  rw [hsz] at hmul ⊢
  unfold batchP
  clear hsz
  go_enter Try.func18, Try.ntmps18
  go_wp2
  go_loopw [9, 10, 11, 12] (fun out last v i wr => ∃ k : Nat, k ≤ size ∧ i = .int .i64 k ∧ LastIs seed n out last v wr ∧ OwnI w.heap.size wr out ((List.range k).map (batchG seed n s)) ∧ Below w.heap.size w wr) (fun _ _ _ i _ => size - (intOf i).toNat)
  case atStart => exact ⟨0, Nat.zero_le _, rfl, LastIs.none _ _ _ _ _, OwnI.nil _ _, Below.refl _ _⟩
  case round =>
    obtain ⟨k, hk, rfl, ⟨L, rfl, hL⟩, hown, hbel⟩ := hrel
    by_cases hlt : k < size
    · obtain ⟨t, ht⟩ : ∃ t, s + k = t := ⟨_, rfl⟩
      obtain ⟨d, hd⟩ : ∃ d, t / n = d := ⟨_, rfl⟩
      obtain ⟨r, hr⟩ : ∃ r, t % n = r := ⟨_, rfl⟩
      have hrn : r < n := by rw [← hr]; exact Nat.mod_lt _ (by omega)
      have hdt : d ≤ t := by rw [← hd]; exact Nat.div_le_self _ _
      have HG : Hid (batchG seed n s k = shufF seed d n r) := by show batchG seed n s k = _; unfold batchG; rw [ht, hd, hr]
      have e2 : (s : Int) + (k : Int) = (t : Int) := by omega
      have e3 : (t : Int).tdiv (n : Int) = (d : Int) := by rw [← hd]; exact Int.ofNat_tdiv t n
      have e4 : (t : Int).tmod (n : Int) = (r : Int) := by rw [← hr]; exact Int.ofNat_tmod t n
      have e5 : IntKind.i64.wrap (d : Int) = (d : Int) := wrap_in _ (by omega) (by omega)
      have hn0 : ((n : Int) == 0) = false := by rw [beq_eq_false_iff_ne]; omega
      by_cases he : L = (d : Int)
      · obtain ⟨b, c, rfl, hne, hA⟩ := hL d he
        have b0 : ((d : Int) != L) = false := by rw [bne_eq_false_iff_eq]; exact he.symm
        have HL : Hid (L = (d : Int)) := he
        have c4 := hA.cell hrn
        obtain ⟨x, hx⟩ : ∃ x, shufF seed d n r = x := ⟨_, rfl⟩
        rw [hx] at c4 HG
        have hsz := hbel.size
        have hcap := hA.cap
        clear hL he hx
        go_wp2_with (at_builtin; refine wpList_append_far (by rfl) _ _ (by rfl) w.heap.size _ ((List.range k).map (batchG seed n s)) x wr.heap.size w (by rfl) (by rfl) (by exact hown.alloc _) (by exact cell_new _ _ _) (by simp; omega) (by simp; omega) (by exact hbel.alloc hsz _) ?_; intro v1 w3 hown1 hbel1 hgr h3)
        go_roundw
        case rel => exact ⟨k + 1, by omega, by go_num, HL.out ▸ LastIs.push hne (hA.alloc _) hgr h3, hown1.congr (range_snoc _ _ _ HG.out), hbel1⟩
        case measure => simp [intOf]; omega
      · have b0 : ((d : Int) != L) = true := by rw [bne_iff_ne]; exact fun e => he e.symm
        have e6 : IntKind.i64.wrap ((t : Int) / (n : Int)) = (d : Int) := by rw [show (t : Int) / (n : Int) = (d : Int) from by rw [← hd]; rfl]; exact e5
        have hn1 : ¬ ((n : Int) = 0) := by omega
        have hn2 : ¬ (n = 0) := by omega
        clear hL he
        go_wp2
        go_region_held3 (fun _ => True) (exact True.intro) ((go_at_call 17; refine (rShuffle_calls _ hs d n (by omega) h1 h2 _).mono ?_; rintro e w2 ⟨b, c, rfl, hb, hA, hw2⟩))
        have hne := hown.new (show wr.heap.size ≤ b from hb)
        have hown2 : OwnI w.heap.size w2 u9 ((List.range k).map (batchG seed n s)) := hown.drew.below hw2
        have hbel2 : Below w.heap.size w w2 := (below_drewN hbel 1).trans (hw2.mono hbel.size)
        clear hw2 hb hown hbel
        have c4 := hA.cell hrn
        obtain ⟨x, hx⟩ : ∃ x, shufF seed d n r = x := ⟨_, rfl⟩
        rw [hx] at c4 HG
        have hsz := hbel2.size
        have hcap := hA.cap
        clear hx
        go_wp2_with (at_builtin; refine wpList_append_far (by rfl) _ _ (by rfl) w.heap.size _ ((List.range k).map (batchG seed n s)) x w2.heap.size w (by rfl) (by rfl) (by exact hown2.alloc _) (by exact cell_new _ _ _) (by simp; omega) (by simp; omega) (by exact hbel2.alloc hsz _) ?_; intro v1 w3 hown1 hbel1 hgr h3)
        go_roundw
        case rel => exact ⟨k + 1, by omega, by go_num, LastIs.push hne (hA.alloc _) hgr h3, hown1.congr (range_snoc _ _ _ HG.out), hbel1⟩
        case measure => simp [intOf]; omega
    · obtain rfl : k = size := by omega
      obtain ⟨a1, c1, rfl, hl1⟩ := hown.lst' (n := k) (by simp)
      go_wp2
      go_ret
      exact ⟨_, _, rfl, hl1, hbel⟩

end Go.Proofs.Ytnlniiocoamllab.Fx
