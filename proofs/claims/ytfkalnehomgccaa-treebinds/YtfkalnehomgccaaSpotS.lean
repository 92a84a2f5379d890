/- What spot.sameByP and spot.size return. -/
import Derived.Test.YtfkalnehomgccaaDig
import Derived.Test.YtfkalnehomgccaaTris
import Derived.Test.YtfkalnehomgccaaDigA
namespace Go.Proofs.Ytfkalnehomgccaa.Fx
open Go.RowKit

theorem two_cells (w : World) (v0 v1 : Value) (t : TypeId) : (w.alloc (.cells #[v0, v1] t)).cell? ⟨w.heap.size, 0, none⟩ = some v0 ∧ (w.alloc (.cells #[v0, v1] t)).cell? ⟨w.heap.size, 1, none⟩ = some v1 := by
  have h := World.rowIs_alloc w #[v0, v1] t (fun i => if i = 0 then v0 else v1) (by
    intro i hi
    rcases (show i = 0 ∨ i = 1 from by have : i < 2 := hi
                                       omega) with rfl | rfl <;> rfl)
  exact ⟨h.cell (i := 0) (by simp), h.cell (i := 1) (by simp)⟩

theorem sameByP_calls (x y : Int) (hx : okW x) (hy : okW y) (w : World) :
    Calls Try.prog 28 #[.int .u64 x, .int .u64 y] w fun e w' => e = .returned (.bool (decide (x % 2305843009213693951 = y % 2305843009213693951))) ∧ w' = w := by
  obtain ⟨x0, x1⟩ := hx
  obtain ⟨y0, y1⟩ := hy
  obtain ⟨MX, HMX⟩ : ∃ t, Hid (x % 2305843009213693951 = t) := ⟨_, rfl⟩
  obtain ⟨MY, HMY⟩ : ∃ t, Hid (y % 2305843009213693951 = t) := ⟨_, rfl⟩
  have tx : x.tmod 2305843009213693951 = MX := by rw [← HMX.out, Int.tmod_eq_emod_of_nonneg x0]
  have ty : y.tmod 2305843009213693951 = MY := by rw [← HMY.out, Int.tmod_eq_emod_of_nonneg y0]
  have ex : x % 2305843009213693951 = MX := HMX.out
  have ey : y % 2305843009213693951 = MY := HMY.out
  rw [ex, ey]
  clear HMX HMY
  go_enter Try.func28, Try.ntmps28
  go_wp2
  go_ret
  exact ⟨by rfl, rfl⟩

theorem size_calls (n i : Int) (hi : 0 ≤ i ∧ i ≤ 50) (hn : 0 ≤ n ∧ n ≤ 200) (w : World) :
    Calls Try.prog 25 #[.int .i64 n, .int .i64 i] w fun e w' => e = .returned (.int .i64 (min 4 (n - 4 * i))) ∧ w' = w := by
  obtain ⟨i0, i1⟩ := hi
  obtain ⟨n0, n1⟩ := hn
  by_cases h : n - i * 4 < 4
  · have e : min 4 (n - 4 * i) = n - i * 4 := by omega
    rw [e]
    go_enter Try.func25, Try.ntmps25
    go_wp2
    go_ret
    exact ⟨rfl, rfl⟩
  · have e : min 4 (n - 4 * i) = 4 := by omega
    rw [e]
    go_enter Try.func25, Try.ntmps25
    go_wp2
    go_ret
    exact ⟨rfl, rfl⟩
end Go.Proofs.Ytfkalnehomgccaa.Fx
