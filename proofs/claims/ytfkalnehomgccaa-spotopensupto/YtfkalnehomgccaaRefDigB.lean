/- What coachref.mixed returns, called with three numbers below P. -/
import Derived.Test.YtfkalnehomgccaaRefDigA
import Derived.Deep.RegionHeld3
namespace Go.Proofs.Ytfkalnehomgccaa.Fx
open Go.RowKit

theorem Tri.at_ok {s : Tri} (h : s.ok) (k : Nat) : okP (s.at k) := by
  unfold Tri.at
  split
  · exact h.1
  · split
    · exact h.2.1
    · exact h.2.2

/-- The part of a turn in which the powers are laid: j of them are there. -/
structure PowRel (t : Nat) (w : World) (s p : Tri) (b j : Nat) (wr : World) : Prop where
  mix : MixRel t w s wr
  row : wr.rowIs b t 3 (rowToW p.at j)
  ge : w.heap.size + 1 < b
theorem PowRel.start {t : Nat} {w wr : World} {s : Tri} (h : MixRel t w s wr) (p : Tri) : PowRel t w s p wr.heap.size 0 (wr.alloc (.cells #[.int .u64 0, .int .u64 0, .int .u64 0] t)) := by
  have h1 := h.res.lt
  refine ⟨⟨h.box.alloc _, h.res.alloc _, h.old.alloc h.old.size _⟩, rowToW_made ((fnT_alloc wr 0 0 0 t).congr (fun i hi => ?_)), h1⟩
  rcases lt3 hi with rfl | rfl | rfl <;> rfl
theorem PowRel.step {t : Nat} {w wr : World} {s p : Tri} {b j : Nat} (h : PowRel t w s p b j wr) {x : Int} (hx : p.at j = x) : PowRel t w s p b (j + 1) (wr.setCell ⟨b, j, none⟩ (.int .u64 x)) := by
  have hge := h.ge
  subst hx
  exact ⟨⟨h.mix.box.setOther (by simp; omega) _, h.mix.res.setOther (by simp; omega) _, h.mix.old.setCell (by simp; omega) _⟩, rowToW_step h.row, hge⟩
/-- The part in which the sums are laid. -/
def half (s q : Tri) (j i : Nat) : Value := if i < j then .int .u64 (q.at i) else .int .u64 (s.at i)
structure SumRel (t : Nat) (w : World) (s p q : Tri) (b j : Nat) (wr : World) : Prop where
  box : wr.rowIs w.heap.size t 3 (half s q j)
  res : wr.rowIs (w.heap.size + 1) t 3 (fnT ⟨0, 0, 0⟩)
  row : wr.rowIs b t 3 (fnT p)
  ge : w.heap.size + 1 < b
  old : Below w.heap.size w wr
theorem SumRel.start {t : Nat} {w wr : World} {s p : Tri} {b : Nat} (h : PowRel t w s p b 3 wr) (q : Tri) : SumRel t w s p q b 0 wr := by
  refine ⟨h.mix.box.congr (fun i hi => ?_), h.mix.res, h.row.congr (fun i hi => ?_), h.ge, h.mix.old⟩
  · rcases lt3 hi with rfl | rfl | rfl <;> rfl
  · rcases lt3 hi with rfl | rfl | rfl <;> rfl
theorem SumRel.step {t : Nat} {w wr : World} {s p q : Tri} {b j : Nat} (h : SumRel t w s p q b j wr) {x : Int} (hx : q.at j = x) (d : Nat) : SumRel t w s p q b (j + 1) ((wr.setCell ⟨w.heap.size, j, none⟩ (.int .u64 x)).drewN d) := by
  have hge := h.ge
  subst hx
  refine ⟨rowIs_drewN ((h.box.set j _).congr (fun i hi => ?_)) d, rowIs_drewN (h.res.setOther (by simp) _) d, rowIs_drewN (h.row.setOther (by simp; omega) _) d, hge, below_drewN (h.old.setCell (Nat.le_refl _) _) d⟩
  unfold half
  by_cases e : i = j
  · subst e; rw [if_pos rfl, if_pos (by omega)]
  · rw [if_neg e]
    by_cases e2 : i < j
    · rw [if_pos e2, if_pos (by omega)]
    · rw [if_neg e2, if_neg (by omega)]
theorem SumRel.end {t : Nat} {w wr : World} {s p q : Tri} {b : Nat} (h : SumRel t w s p q b 3 wr) : MixRel t w q wr := by
  refine ⟨h.box.congr (fun i hi => ?_), h.res, h.old⟩
  rcases lt3 hi with rfl | rfl | rfl <;> rfl
theorem half_cell {t : Nat} {w wr : World} {s p q : Tri} {b j : Nat} (h : SumRel t w s p q b j wr) (hj : j < 3) : wr.cell? ⟨w.heap.size, j, none⟩ = some (.int .u64 (s.at j)) := by
  rw [h.box.cell hj]; unfold half; rw [if_neg (by omega)]
theorem pows_at (n : Int) (s : Tri) {j : Nat} (h : j < 3) {m : Int} (hm : m = n * ((j : Int) + 1)) : (pows n s).at j = powP (addP (s.at j) m) := by
  subst hm
  rcases lt3 h with rfl | rfl | rfl
  · show powP (addP s.x n) = powP (addP s.x (n * (((0 : Nat) : Int) + 1)))
    rw [show n * (((0 : Nat) : Int) + 1) = n from by omega]
  · show powP (addP s.y (2 * n)) = powP (addP s.y (n * (((1 : Nat) : Int) + 1)))
    rw [show n * (((1 : Nat) : Int) + 1) = 2 * n from by omega]
  · show powP (addP s.z (3 * n)) = powP (addP s.z (n * (((2 : Nat) : Int) + 1)))
    rw [show n * (((2 : Nat) : Int) + 1) = 3 * n from by omega]
theorem sums_at (t : Tri) {j : Nat} (h : j < 3) : (sums t).at j = addP (addP t.x t.y) (addP t.z (t.at j)) := by
  rw [four_add]
  rcases lt3 h with rfl | rfl | rfl <;> rfl

set_option maxHeartbeats 3200000 in
theorem rmixed_calls (s : Tri) (hs : s.ok) (w : World) : Calls Try.prog 33 #[.agg #[.int .u64 s.x, .int .u64 s.y, .int .u64 s.z]] w fun e w' => e = .returned (aggT (mixP s)) ∧ Below w.heap.size w w' := by
  have HS : Hid s.ok := hs
  clear hs
  go_enter Try.func33, Try.ntmps33
  go_wp2
  go_loopw [3] (fun i wr => ∃ (k : Nat) (n : Int) (t : Tri), k ≤ 6 ∧ i = .int .i64 n ∧ n = (k : Int) + 1 ∧ Hid (t = mixTo s k) ∧ MixRel 59 w t wr) (fun i _ => 7 - (intOf i).toNat)
  case atStart => exact ⟨0, 1, s, by omega, rfl, rfl, rfl, MixRel.start _ _ _ _ _⟩
  case round =>
    obtain ⟨k, n, t, hk, rfl, hn, HT, R⟩ := hrel
    have HN : Hid (n = (k : Int) + 1) := hn
    by_cases hlt : n ≤ 6
    · have ht : t.ok := by rw [HT.out]; exact mixTo_ok HS.out k
      have HO : Hid t.ok := ht
      have m0 : 1 ≤ n := by omega
      have HM : Hid (sums (pows n t) = mixTo s (k + 1)) := by rw [hn, HT.out]; rfl
      clear hn ht
      go_wp2
      generalize hwr : wr = w1 at *
      clear hwr
      go_loopw [5] (fun i wr => ∃ j : Nat, j ≤ 3 ∧ i = .int .i64 j ∧ PowRel 59 w t (pows n t) w1.heap.size j wr) (fun i _ => 3 - (intOf i).toNat)
      case atStart => exact ⟨0, by omega, rfl, PowRel.start R _⟩
      case round =>
        clear R
        obtain ⟨j, hj, rfl, R⟩ := hrel
        by_cases hj3 : j < 3
        · have c1 : wr.cell? ⟨w.heap.size, j, none⟩ = some (.int .u64 (t.at j)) := by rw [R.mix.box.cell hj3, fnT_at hj3]
          obtain ⟨m, hm⟩ : ∃ m, n * ((j : Int) + 1) = m := ⟨_, rfl⟩
          have HP : Hid ((pows n t).at j = powP (addP (t.at j) m)) := pows_at n t hj3 hm.symm
          have bm : 0 ≤ m ∧ m ≤ 18 := by
            rcases lt3 hj3 with rfl | rfl | rfl <;> omega
          obtain ⟨bm0, bm1⟩ := bm
          have o1 : okW (t.at j) := okP_W (Tri.at_ok HO.out j)
          have o2 : okW m := ⟨by omega, by omega⟩
          have c3 := rowToW_cell R.row hj3
          have f3 := R.row.frozen j
          go_wp2_with (go_at_call 34; refine (rplus_calls _ _ o1 o2 _).mono ?_; rintro e w' ⟨rfl, hw'⟩; replace hw' := hw'.symm; subst hw')
          have oX := addP_ok (t.at j) m
          have HQ := HP.out
          generalize addP (t.at j) m = X at *
          replace HQ : Hid ((pows n t).at j = powP X) := HQ
          clear HP hm
          go_loop [7, 8] (fun y i => ∃ (q : Nat) (x : Int), q ≤ 4 ∧ i = .int .i64 q ∧ y = .int .u64 x ∧ Hid (x = sqTo X q)) (fun _ i => 4 - (intOf i).toNat)
          case atStart => exact ⟨0, X, by omega, rfl, rfl, rfl⟩
          case round =>
            obtain ⟨q, x, hq, rfl, rfl, HX⟩ := hrel
            have ox : okP x := by rw [HX.out]; exact sqTo_ok oX q
            by_cases hq4 : q < 4
            · go_wp2_with (go_at_call 43; refine (rtimes_calls _ _ ox ox _).mono ?_; rintro e w' ⟨rfl, hw'⟩; replace hw' := hw'.symm; subst hw')
              go_round
              case rel => exact ⟨q + 1, _, by omega, by go_num, rfl, by rw [HX.out]; rfl⟩
              case measure => simp [intOf]; omega
            · obtain rfl : q = 4 := by omega
              go_wp2_with (go_at_call 43; refine (rtimes_calls _ _ ox oX _).mono ?_; rintro e w' ⟨rfl, hw'⟩; replace hw' := hw'.symm; subst hw')
              go_roundw
              case rel => exact ⟨j + 1, by omega, by go_num, R.step (by rw [HQ.out, HX.out]; rfl)⟩
              case measure => simp [intOf]; omega
        · have e3 : j = 3 := by omega
          have S := SumRel.start (e3 ▸ R) (sums (pows n t))
          clear e3
          have hp := pows_ok n t
          have HQ : Hid (∀ i, i < 3 → (sums (pows n t)).at i = addP (addP (pows n t).x (pows n t).y) (addP (pows n t).z ((pows n t).at i))) := fun i hi => sums_at _ hi
          clear R
          generalize pows n t = p at *
          generalize hwr : wr = w2 at *
          clear hwr
          go_wp2
          go_loopw [9] (fun i wr => ∃ j : Nat, j ≤ 3 ∧ i = .int .i64 j ∧ SumRel 59 w t p (sums p) w1.heap.size j wr) (fun i _ => 3 - (intOf i).toNat)
          case atStart => exact ⟨0, by omega, rfl, S⟩
          case round =>
            clear S
            obtain ⟨j, hj, rfl, S⟩ := hrel
            by_cases hj3 : j < 3
            · have c1 := half_cell S hj3
              have f1 := S.box.frozen j
              obtain ⟨r0, r1, r2⟩ := fnT_cells S.row
              have r3 : wr.cell? ⟨w1.heap.size, j, none⟩ = some (.int .u64 (p.at j)) := by rw [S.row.cell hj3, fnT_at hj3]
              have o0 := okP_W hp.1
              have o1 := okP_W hp.2.1
              have o2 := okP_W hp.2.2
              have o3 := okP_W (Tri.at_ok hp j)
              have o4 := okP_W (addP_ok p.x p.y)
              have o5 := okP_W (addP_ok p.z (p.at j))
              have HR : Hid ((sums p).at j = addP (addP p.x p.y) (addP p.z (p.at j))) := HQ.out j hj3
              have T1 : ∀ v : Value, (wr.setCell ⟨w.heap.size, j, none⟩ v).drew.cell? ⟨w1.heap.size, 0, none⟩ = some (.int .u64 p.x) ∧ (wr.setCell ⟨w.heap.size, j, none⟩ v).drew.cell? ⟨w1.heap.size, 1, none⟩ = some (.int .u64 p.y) ∧ (wr.setCell ⟨w.heap.size, j, none⟩ v).drew.cell? ⟨w1.heap.size, 2, none⟩ = some (.int .u64 p.z) ∧ (wr.setCell ⟨w.heap.size, j, none⟩ v).drew.cell? ⟨w1.heap.size, j, none⟩ = some (.int .u64 (p.at j)) := by
                intro v
                have hge := S.ge
                have h : (wr.setCell ⟨w.heap.size, j, none⟩ v).drew.rowIs w1.heap.size 59 3 (fnT p) := rowIs_drewN (S.row.setOther (by simp; omega) v) 1
                obtain ⟨z0, z1, z2⟩ := fnT_cells h
                exact ⟨z0, z1, z2, by rw [h.cell hj3, fnT_at hj3]⟩
              go_wp2
              go_region_held3 (fun q => q.cell? ⟨w1.heap.size, 0, none⟩ = some (.int .u64 p.x) ∧ q.cell? ⟨w1.heap.size, 1, none⟩ = some (.int .u64 p.y) ∧ q.cell? ⟨w1.heap.size, 2, none⟩ = some (.int .u64 p.z) ∧ q.cell? ⟨w1.heap.size, j, none⟩ = some (.int .u64 (p.at j))) (first | go_keep | with_reducible exact T1 _)
                (first | (go_at_call 34; refine (rplus_calls _ _ (by with_reducible assumption) (by with_reducible assumption) _).mono ?_; rintro e w' ⟨rfl, rfl⟩))
              go_wp2
              go_roundw
              case rel => exact ⟨j + 1, by omega, by go_num, S.step HR.out 1⟩
              case measure => simp [intOf]; omega
            · obtain rfl : j = 3 := by omega
              go_wp2
              go_roundw
              case rel =>
                have hn := HN.out
                exact ⟨k + 1, _, _, by omega, rfl, by omega, HM.out, S.end⟩
              case measure => simp [intOf]; omega
    · have e7 : n = 7 := by omega
      subst e7
      obtain rfl : k = 6 := by omega
      obtain ⟨c0, c1, c2⟩ := fnT_cells R.box
      obtain ⟨r0, r1, r2⟩ := fnT_cells R.res
      have f0 := R.res.frozen 0
      have f1 := R.res.frozen 1
      have f2 := R.res.frozen 2
      go_wp2
      have hq := fnT_set3 R.res t.x t.y t.z
      obtain ⟨q0, q1, q2⟩ := fnT_cells hq
      refine bodyPost_ret (v := aggT t) (by simp [results, Try.results33, go_sem, q0, q1, q2, aggT]) rfl ⟨by rw [HT.out]; rfl, ?_⟩
      exact ((R.old.setCell (Nat.le_succ _) _).setCell (Nat.le_succ _) _).setCell (Nat.le_succ _) _

theorem rmixed3 (x y z : Int) (hx : okP x) (hy : okP y) (hz : okP z) (w : World) : Calls Try.prog 33 #[.agg #[.int .u64 x, .int .u64 y, .int .u64 z]] w fun e w' =>
    ∃ m : Tri, Hid (m = mixP ⟨x, y, z⟩) ∧ e = .returned (.agg #[.int .u64 m.x, .int .u64 m.y, .int .u64 m.z]) ∧ Below w.heap.size w w' := by
  refine (rmixed_calls ⟨x, y, z⟩ ⟨hx, hy, hz⟩ w).mono ?_
  rintro e w' ⟨rfl, h⟩
  exact ⟨_, rfl, rfl, h⟩

end Go.Proofs.Ytfkalnehomgccaa.Fx
