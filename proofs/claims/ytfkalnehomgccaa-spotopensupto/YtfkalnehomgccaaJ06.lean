/- What coachref.plus and times return: sums and products by P. -/
import Derived.Test.YtfkalnehomgccaaJ01
import Derived.Deep.RegionHeld3
import Derived.Test.YtfkalnehomgccaaJ02
import Derived.BigRegion
import Derived.Deep.RegionWith
namespace Go.Proofs.Ytfkalnehomgccaa.Fx
open Go.RowKit

theorem rplus_calls (a b : Int) (ha : okW a) (hb : okW b) (w : World) : Calls Try.prog 34 #[.int .u64 a, .int .u64 b] w fun e w' => e = .returned (.int .u64 (addP a b)) ∧ w' = w := by
  obtain ⟨a0, a1⟩ := ha
  obtain ⟨b0, b1⟩ := hb
  go_enter Try.func34, Try.ntmps34
  go_wp2
  go_ret
  exact ⟨ret_word (rest_add a b), rfl⟩

set_option maxHeartbeats 1600000 in
theorem rtimes_calls (a b : Int) (ha : okP a) (hb : okP b) (w : World) : Calls Try.prog 43 #[.int .u64 a, .int .u64 b] w fun e w' => e = .returned (.int .u64 (mulP a b)) ∧ w' = w := by
  have HB : Hid (okP b) := hb
  obtain ⟨a0, a1⟩ := ha
  obtain ⟨b0, b1⟩ := hb
  have am : a % 2305843009213693951 = a := by omega
  have bm : b % 2305843009213693951 = b := by omega
  go_enter Try.func43, Try.ntmps43
  go_wp2
  go_loop [5, 6] (fun s i => ∃ (k : Nat) (x : Int), k ≤ 61 ∧ i = .int .i64 ((k : Int) - 1) ∧ s = .int .u64 x ∧ Hid (x = dblTo a b k)) (fun _ i => ((intOf i) + 1).toNat)
  case atStart => exact ⟨61, 0, by omega, rfl, rfl, (dbl_top a b HB.out).symm⟩
  case round =>
    obtain ⟨k, x, hk, rfl, rfl, HX⟩ := hrel
    have hx : okP x := by rw [HX.out]; exact dbl_ok _ _ _
    obtain ⟨x0, x1⟩ := hx
    cases k with
    | zero =>
      go_wp2
      go_ret
      exact ⟨ret_word (by rw [HX.out, dbl_end]), rfl⟩
    | succ j =>
      go_wp2
      all_goals
        rename_i hc
        have q0 : 0 ≤ b / 2 ^ j := Int.ediv_nonneg b0 (Int.pow_nonneg (by omega))
        rw [Int.tmod_eq_emod_of_nonneg q0] at hc
        simp only [beq_iff_eq, beq_eq_false_iff_ne, ne_eq] at hc
        go_round
        case measure => simp [intOf]
      · exact ⟨j, _, by omega, rfl, rfl, by rw [HX.out]; exact dbl_step1 _ _ _ hc⟩
      · exact ⟨j, _, by omega, rfl, rfl, by rw [HX.out]; exact dbl_step0 _ _ _ (by omega)⟩

end Go.Proofs.Ytfkalnehomgccaa.Fx

/- What coachref.mixed returns, called with three numbers below P. -/
namespace Go.Proofs.Ytfkalnehomgccaa.Fx
open Go.RowKit

theorem Tri.at_ok {s : Tri} (h : s.ok) (k : Nat) : okP (s.at k) := by
  unfold Tri.at
  split
  · exact h.1
  · split
    · exact h.2.1
    · exact h.2.2

/-- The part of a turn in which the powers are laid: j of them are there. -/
structure PowRel (t : Nat) (w : World) (s p : Tri) (b j : Nat) (wr : World) : Prop where
  mix : MixRel t w s wr
  row : wr.rowIs b t 3 (rowToW p.at j)
  ge : w.heap.size + 1 < b
theorem PowRel.start {t : Nat} {w wr : World} {s : Tri} (h : MixRel t w s wr) (p : Tri) : PowRel t w s p wr.heap.size 0 (wr.alloc (.cells #[.int .u64 0, .int .u64 0, .int .u64 0] t)) := by
  have h1 := h.res.lt
  refine ⟨⟨h.box.alloc _, h.res.alloc _, h.old.alloc h.old.size _⟩, rowToW_made ((fnT_alloc wr 0 0 0 t).congr (fun i hi => ?_)), h1⟩
  rcases lt3 hi with rfl | rfl | rfl <;> rfl
theorem PowRel.step {t : Nat} {w wr : World} {s p : Tri} {b j : Nat} (h : PowRel t w s p b j wr) {x : Int} (hx : p.at j = x) : PowRel t w s p b (j + 1) (wr.setCell ⟨b, j, none⟩ (.int .u64 x)) := by
  have hge := h.ge
  subst hx
  exact ⟨⟨h.mix.box.setOther (by simp; omega) _, h.mix.res.setOther (by simp; omega) _, h.mix.old.setCell (by simp; omega) _⟩, rowToW_step h.row, hge⟩
/-- The part in which the sums are laid. -/
def half (s q : Tri) (j i : Nat) : Value := if i < j then .int .u64 (q.at i) else .int .u64 (s.at i)
structure SumRel (t : Nat) (w : World) (s p q : Tri) (b j : Nat) (wr : World) : Prop where
  box : wr.rowIs w.heap.size t 3 (half s q j)
  res : wr.rowIs (w.heap.size + 1) t 3 (fnT ⟨0, 0, 0⟩)
  row : wr.rowIs b t 3 (fnT p)
  ge : w.heap.size + 1 < b
  old : Below w.heap.size w wr
theorem SumRel.start {t : Nat} {w wr : World} {s p : Tri} {b : Nat} (h : PowRel t w s p b 3 wr) (q : Tri) : SumRel t w s p q b 0 wr := by
  refine ⟨h.mix.box.congr (fun i hi => ?_), h.mix.res, h.row.congr (fun i hi => ?_), h.ge, h.mix.old⟩
  · rcases lt3 hi with rfl | rfl | rfl <;> rfl
  · rcases lt3 hi with rfl | rfl | rfl <;> rfl
theorem SumRel.step {t : Nat} {w wr : World} {s p q : Tri} {b j : Nat} (h : SumRel t w s p q b j wr) {x : Int} (hx : q.at j = x) (d : Nat) : SumRel t w s p q b (j + 1) ((wr.setCell ⟨w.heap.size, j, none⟩ (.int .u64 x)).drewN d) := by
  have hge := h.ge
  subst hx
  refine ⟨rowIs_drewN ((h.box.set j _).congr (fun i hi => ?_)) d, rowIs_drewN (h.res.setOther (by simp) _) d, rowIs_drewN (h.row.setOther (by simp; omega) _) d, hge, below_drewN (h.old.setCell (Nat.le_refl _) _) d⟩
  unfold half
  by_cases e : i = j
  · subst e; rw [if_pos rfl, if_pos (by omega)]
  · rw [if_neg e]
    by_cases e2 : i < j
    · rw [if_pos e2, if_pos (by omega)]
    · rw [if_neg e2, if_neg (by omega)]
theorem SumRel.end {t : Nat} {w wr : World} {s p q : Tri} {b : Nat} (h : SumRel t w s p q b 3 wr) : MixRel t w q wr := by
  refine ⟨h.box.congr (fun i hi => ?_), h.res, h.old⟩
  rcases lt3 hi with rfl | rfl | rfl <;> rfl
theorem half_cell {t : Nat} {w wr : World} {s p q : Tri} {b j : Nat} (h : SumRel t w s p q b j wr) (hj : j < 3) : wr.cell? ⟨w.heap.size, j, none⟩ = some (.int .u64 (s.at j)) := by
  rw [h.box.cell hj]; unfold half; rw [if_neg (by omega)]
theorem pows_at (n : Int) (s : Tri) {j : Nat} (h : j < 3) {m : Int} (hm : m = n * ((j : Int) + 1)) : (pows n s).at j = powP (addP (s.at j) m) := by
  subst hm
  rcases lt3 h with rfl | rfl | rfl
  · show powP (addP s.x n) = powP (addP s.x (n * (((0 : Nat) : Int) + 1)))
    rw [show n * (((0 : Nat) : Int) + 1) = n from by omega]
  · show powP (addP s.y (2 * n)) = powP (addP s.y (n * (((1 : Nat) : Int) + 1)))
    rw [show n * (((1 : Nat) : Int) + 1) = 2 * n from by omega]
  · show powP (addP s.z (3 * n)) = powP (addP s.z (n * (((2 : Nat) : Int) + 1)))
    rw [show n * (((2 : Nat) : Int) + 1) = 3 * n from by omega]
theorem sums_at (t : Tri) {j : Nat} (h : j < 3) : (sums t).at j = addP (addP t.x t.y) (addP t.z (t.at j)) := by
  rw [four_add]
  rcases lt3 h with rfl | rfl | rfl <;> rfl

set_option maxHeartbeats 3200000 in
theorem rmixed_calls (s : Tri) (hs : s.ok) (w : World) : Calls Try.prog 33 #[.agg #[.int .u64 s.x, .int .u64 s.y, .int .u64 s.z]] w fun e w' => e = .returned (aggT (mixP s)) ∧ Below w.heap.size w w' := by
  have HS : Hid s.ok := hs
  clear hs
  go_enter Try.func33, Try.ntmps33
  go_wp2
  go_loopw [3] (fun i wr => ∃ (k : Nat) (n : Int) (t : Tri), k ≤ 6 ∧ i = .int .i64 n ∧ n = (k : Int) + 1 ∧ Hid (t = mixTo s k) ∧ MixRel 59 w t wr) (fun i _ => 7 - (intOf i).toNat)
  case atStart => exact ⟨0, 1, s, by omega, rfl, rfl, rfl, MixRel.start _ _ _ _ _⟩
  case round =>
    obtain ⟨k, n, t, hk, rfl, hn, HT, R⟩ := hrel
    have HN : Hid (n = (k : Int) + 1) := hn
    by_cases hlt : n ≤ 6
    · have ht : t.ok := by rw [HT.out]; exact mixTo_ok HS.out k
      have HO : Hid t.ok := ht
      have m0 : 1 ≤ n := by omega
      have HM : Hid (sums (pows n t) = mixTo s (k + 1)) := by rw [hn, HT.out]; rfl
      clear hn ht
      go_wp2
      generalize hwr : wr = w1 at *
      clear hwr
      go_loopw [5] (fun i wr => ∃ j : Nat, j ≤ 3 ∧ i = .int .i64 j ∧ PowRel 59 w t (pows n t) w1.heap.size j wr) (fun i _ => 3 - (intOf i).toNat)
      case atStart => exact ⟨0, by omega, rfl, PowRel.start R _⟩
      case round =>
        clear R
        obtain ⟨j, hj, rfl, R⟩ := hrel
        by_cases hj3 : j < 3
        · have c1 : wr.cell? ⟨w.heap.size, j, none⟩ = some (.int .u64 (t.at j)) := by rw [R.mix.box.cell hj3, fnT_at hj3]
          obtain ⟨m, hm⟩ : ∃ m, n * ((j : Int) + 1) = m := ⟨_, rfl⟩
          have HP : Hid ((pows n t).at j = powP (addP (t.at j) m)) := pows_at n t hj3 hm.symm
          have bm : 0 ≤ m ∧ m ≤ 18 := by
            rcases lt3 hj3 with rfl | rfl | rfl <;> omega
          obtain ⟨bm0, bm1⟩ := bm
          have o1 : okW (t.at j) := okP_W (Tri.at_ok HO.out j)
          have o2 : okW m := ⟨by omega, by omega⟩
          have c3 := rowToW_cell R.row hj3
          have f3 := R.row.frozen j
          go_wp2_with (go_at_call 34; refine (rplus_calls _ _ o1 o2 _).mono ?_; rintro e w' ⟨rfl, hw'⟩; replace hw' := hw'.symm; subst hw')
          have oX := addP_ok (t.at j) m
          have HQ := HP.out
          generalize addP (t.at j) m = X at *
          replace HQ : Hid ((pows n t).at j = powP X) := HQ
          clear HP hm
          go_loop [7, 8] (fun y i => ∃ (q : Nat) (x : Int), q ≤ 4 ∧ i = .int .i64 q ∧ y = .int .u64 x ∧ Hid (x = sqTo X q)) (fun _ i => 4 - (intOf i).toNat)
          case atStart => exact ⟨0, X, by omega, rfl, rfl, rfl⟩
          case round =>
            obtain ⟨q, x, hq, rfl, rfl, HX⟩ := hrel
            have ox : okP x := by rw [HX.out]; exact sqTo_ok oX q
            by_cases hq4 : q < 4
            · go_wp2_with (go_at_call 43; refine (rtimes_calls _ _ ox ox _).mono ?_; rintro e w' ⟨rfl, hw'⟩; replace hw' := hw'.symm; subst hw')
              go_round
              case rel => exact ⟨q + 1, _, by omega, by go_num, rfl, by rw [HX.out]; rfl⟩
              case measure => simp [intOf]; omega
            · obtain rfl : q = 4 := by omega
              go_wp2_with (go_at_call 43; refine (rtimes_calls _ _ ox oX _).mono ?_; rintro e w' ⟨rfl, hw'⟩; replace hw' := hw'.symm; subst hw')
              go_roundw
              case rel => exact ⟨j + 1, by omega, by go_num, R.step (by rw [HQ.out, HX.out]; rfl)⟩
              case measure => simp [intOf]; omega
        · have e3 : j = 3 := by omega
          have S := SumRel.start (e3 ▸ R) (sums (pows n t))
          clear e3
          have hp := pows_ok n t
          have HQ : Hid (∀ i, i < 3 → (sums (pows n t)).at i = addP (addP (pows n t).x (pows n t).y) (addP (pows n t).z ((pows n t).at i))) := fun i hi => sums_at _ hi
          clear R
          generalize pows n t = p at *
          generalize hwr : wr = w2 at *
          clear hwr
          go_wp2
          go_loopw [9] (fun i wr => ∃ j : Nat, j ≤ 3 ∧ i = .int .i64 j ∧ SumRel 59 w t p (sums p) w1.heap.size j wr) (fun i _ => 3 - (intOf i).toNat)
          case atStart => exact ⟨0, by omega, rfl, S⟩
          case round =>
            clear S
            obtain ⟨j, hj, rfl, S⟩ := hrel
            by_cases hj3 : j < 3
            · have c1 := half_cell S hj3
              have f1 := S.box.frozen j
              obtain ⟨r0, r1, r2⟩ := fnT_cells S.row
              have r3 : wr.cell? ⟨w1.heap.size, j, none⟩ = some (.int .u64 (p.at j)) := by rw [S.row.cell hj3, fnT_at hj3]
              have o0 := okP_W hp.1
              have o1 := okP_W hp.2.1
              have o2 := okP_W hp.2.2
              have o3 := okP_W (Tri.at_ok hp j)
              have o4 := okP_W (addP_ok p.x p.y)
              have o5 := okP_W (addP_ok p.z (p.at j))
              have HR : Hid ((sums p).at j = addP (addP p.x p.y) (addP p.z (p.at j))) := HQ.out j hj3
              have T1 : ∀ v : Value, (wr.setCell ⟨w.heap.size, j, none⟩ v).drew.cell? ⟨w1.heap.size, 0, none⟩ = some (.int .u64 p.x) ∧ (wr.setCell ⟨w.heap.size, j, none⟩ v).drew.cell? ⟨w1.heap.size, 1, none⟩ = some (.int .u64 p.y) ∧ (wr.setCell ⟨w.heap.size, j, none⟩ v).drew.cell? ⟨w1.heap.size, 2, none⟩ = some (.int .u64 p.z) ∧ (wr.setCell ⟨w.heap.size, j, none⟩ v).drew.cell? ⟨w1.heap.size, j, none⟩ = some (.int .u64 (p.at j)) := by
                intro v
                have hge := S.ge
                have h : (wr.setCell ⟨w.heap.size, j, none⟩ v).drew.rowIs w1.heap.size 59 3 (fnT p) := rowIs_drewN (S.row.setOther (by simp; omega) v) 1
                obtain ⟨z0, z1, z2⟩ := fnT_cells h
                exact ⟨z0, z1, z2, by rw [h.cell hj3, fnT_at hj3]⟩
              go_wp2
              go_region_held3 (fun q => q.cell? ⟨w1.heap.size, 0, none⟩ = some (.int .u64 p.x) ∧ q.cell? ⟨w1.heap.size, 1, none⟩ = some (.int .u64 p.y) ∧ q.cell? ⟨w1.heap.size, 2, none⟩ = some (.int .u64 p.z) ∧ q.cell? ⟨w1.heap.size, j, none⟩ = some (.int .u64 (p.at j))) (first | go_keep | with_reducible exact T1 _)
                (first | (go_at_call 34; refine (rplus_calls _ _ (by with_reducible assumption) (by with_reducible assumption) _).mono ?_; rintro e w' ⟨rfl, rfl⟩))
              go_wp2
              go_roundw
              case rel => exact ⟨j + 1, by omega, by go_num, S.step HR.out 1⟩
              case measure => simp [intOf]; omega
            · obtain rfl : j = 3 := by omega
              go_wp2
              go_roundw
              case rel =>
                have hn := HN.out
                exact ⟨k + 1, _, _, by omega, rfl, by omega, HM.out, S.end⟩
              case measure => simp [intOf]; omega
    · have e7 : n = 7 := by omega
      subst e7
      obtain rfl : k = 6 := by omega
      obtain ⟨c0, c1, c2⟩ := fnT_cells R.box
      obtain ⟨r0, r1, r2⟩ := fnT_cells R.res
      have f0 := R.res.frozen 0
      have f1 := R.res.frozen 1
      have f2 := R.res.frozen 2
      go_wp2
      have hq := fnT_set3 R.res t.x t.y t.z
      obtain ⟨q0, q1, q2⟩ := fnT_cells hq
      refine bodyPost_ret (v := aggT t) (by simp [results, Try.results33, go_sem, q0, q1, q2, aggT]) rfl ⟨by rw [HT.out]; rfl, ?_⟩
      exact ((R.old.setCell (Nat.le_succ _) _).setCell (Nat.le_succ _) _).setCell (Nat.le_succ _) _

theorem rmixed3 (x y z : Int) (hx : okP x) (hy : okP y) (hz : okP z) (w : World) : Calls Try.prog 33 #[.agg #[.int .u64 x, .int .u64 y, .int .u64 z]] w fun e w' =>
    ∃ m : Tri, Hid (m = mixP ⟨x, y, z⟩) ∧ e = .returned (.agg #[.int .u64 m.x, .int .u64 m.y, .int .u64 m.z]) ∧ Below w.heap.size w w' := by
  refine (rmixed_calls ⟨x, y, z⟩ ⟨hx, hy, hz⟩ w).mono ?_
  rintro e w' ⟨rfl, h⟩
  exact ⟨_, rfl, rfl, h⟩

end Go.Proofs.Ytfkalnehomgccaa.Fx

/- What coachref.Of, Pair, Word and Numbers return, whatever words or integers lie there. -/
namespace Go.Proofs.Ytfkalnehomgccaa.Fx
open Go.RowKit

set_option maxHeartbeats 1600000 in
theorem rof_calls (kind : Int) (hk : okW kind) (a : Option Addr) (len cap : Nat) (xs : List Int) (w : World) (ha : LstW w a len cap xs) (hx : okL xs) (hlen : len ≤ 200) :
    Calls Try.prog 21 #[.int .u64 kind, .slice a len cap] w fun e w' => e = .returned (.int .u64 (ofP kind xs)) ∧ Below w.heap.size w w' := by
  obtain ⟨k0, k1⟩ := hk
  have p0 : okP (kind % 2305843009213693951) := ⟨by omega, by omega⟩
  have p1 : okP (len : Int) := ⟨by omega, by omega⟩
  have p2 : okP 1 := ⟨by omega, by omega⟩
  have HX : Hid (okL xs) := hx
  have HL : Hid (xs.length = len) := ha.len
  clear hx
  go_enter Try.func21, Try.ntmps21
  go_wp2_with (go_at_call 33; refine (rmixed3 _ _ _ p0 p1 p2 _).mono ?_; rintro e w1 ⟨m, HM, rfl, hw1⟩)
  go_loopw [6] (fun i wr => ∃ (k : Nat) (t : Tri), k ≤ len ∧ i = .int .i64 k ∧ Hid (t = ofTo kind xs k) ∧ OfRel 59 w w1.heap.size t wr) (fun i _ => len - (intOf i).toNat)
  case atStart => exact ⟨0, m, Nat.zero_le _, rfl, by rw [HM.out, ← HL.out]; rfl, OfRel.start hw1 _ _ _⟩
  case round =>
    obtain ⟨k, t, hk, rfl, HT, R⟩ := hrel
    obtain ⟨c0, c1, c2⟩ := fnT_cells R.box
    by_cases hlt : k < len
    · obtain ⟨b1, o1, y, rfl, s1, g1, HY⟩ := ha.at1b R.old (Nat.le_refl _) hlt
      have ht : t.ok := by rw [HT.out]; exact ofTo_ok _ _ _
      obtain ⟨t0, t1, t2⟩ := ht
      have hy : okW y := by rw [← HY.out]; exact HX.out k (by rw [HL.out]; exact hlt)
      have t0' := okP_W t0
      have f0 := R.box.frozen 0
      have hne : b1 ≠ w1.heap.size := by have := R.ge; omega
      clear ha
      go_wp2
      go_region_with ((go_at_call 34; refine (rplus_calls _ _ t0' hy _).mono ?_; rintro e w' ⟨rfl, rfl⟩))
      all_goals
        have R1 : OfRel 59 w w1.heap.size ⟨addP t.x y, t.y, t.z⟩ (wr.setCell ⟨w1.heap.size, 0, none⟩ (.int .u64 (addP t.x y))).drew := (R.set0 _).drewN 1
        generalize hq : (wr.setCell ⟨w1.heap.size, 0, none⟩ (.int .u64 (addP t.x y))).drew = wq at *
        clear hq c0 c1 c2 f0 g1 R
        obtain ⟨d0, d1, d2⟩ := fnT_cells R1.box
        go_wp2_with (go_at_call 33; refine (rmixed3 _ _ _ (addP_ok _ _) t1 t2 _).mono ?_; rintro e w2 ⟨m2, HM2, rfl, hw2⟩; have R2 := R1.below hw2; obtain ⟨e0, e1, e2⟩ := fnT_cells R2.box; have z0 := R2.box.frozen 0; have z1 := R2.box.frozen 1; have z2 := R2.box.frozen 2)
        go_roundw
        case rel => exact ⟨k + 1, _, by omega, by go_num, by rw [HM2.out, HT.out, ← HY.out]; rfl, R2.set _ _ _⟩
        case measure => simp [intOf]; omega
    · obtain rfl : k = len := by omega
      go_wp2
      go_ret
      exact ⟨ret_word (by rw [HT.out]; unfold ofP; rw [HL.out]), R.old⟩

theorem rPair_calls (a b : Int) (ha : okW a) (hb : okW b) (w : World) : Calls Try.prog 13 #[.int .u64 a, .int .u64 b] w fun e w' => e = .returned (.int .u64 (ofP 3 [a, b])) ∧ Below w.heap.size w w' := by
  go_enter Try.func13, Try.ntmps13
  go_wp2_with (go_at_call 21; refine (rof_calls _ ⟨by omega, by omega⟩ _ _ _ [a, b] _ (LstW.two _ _ _ _) (okL_two ha hb) (by omega)).mono ?_; rintro e w' ⟨rfl, hw⟩)
  go_ret
  exact ⟨rfl, ((Below.refl _ _).alloc (Nat.le_refl _) _).trans (hw.mono (by simp))⟩

theorem bound_hi {x : Int} (h : 4294967296 < x) : boundP x = 8589934592 := by unfold boundP; rw [if_neg (by omega), if_pos h]; rfl
theorem bound_lo {x : Int} (h : x < -4294967296) : boundP x = 0 := by unfold boundP; rw [if_pos h]; rfl
theorem bound_in {x : Int} (h : ¬ 4294967296 < x) (h2 : ¬ x < -4294967296) : boundP x = x + 4294967296 := by unfold boundP; rw [if_neg h2, if_neg h]

set_option maxHeartbeats 1600000 in
theorem rNumbers_calls (a : Option Addr) (la ca : Nat) (xs : List Int) (w : World) (ha : Lst w a la ca xs) (hl : la ≤ 200) :
    Calls Try.prog 22 #[.slice a la ca] w fun e w' => ∃ a' c', e = .returned (.slice a' la c') ∧ LstW w' a' la c' ((List.range la).map (numG xs)) ∧ Below w.heap.size w w' := by
  go_enter Try.func22, Try.ntmps22
  go_wp2
  go_loopw [3, 4] (fun v i wr => ∃ k : Nat, k ≤ la ∧ i = .int .i64 k ∧ OwnW w.heap.size wr v ((List.range k).map (numG xs)) ∧ Below w.heap.size w wr) (fun _ i _ => la - (intOf i).toNat)
  case atStart => exact ⟨0, Nat.zero_le _, rfl, OwnW.nil _ _, Below.refl _ _⟩
  case round =>
    obtain ⟨k, hk, rfl, hown, hbel⟩ := hrel
    have hsz := hbel.size
    by_cases hlt : k < la
    · obtain ⟨b1, o1, x, rfl, s1, c1, HX⟩ := ha.at1b hbel (Nat.le_refl _) hlt
      clear ha
      by_cases h1 : 4294967296 < x
      · have HB : Hid (numG xs k = 8589934592) := by unfold numG; rw [HX.out]; exact bound_hi h1
        go_wp2_with (at_builtin; refine wpList_append_word (by rfl) _ _ (by rfl) w.heap.size _ ((List.range k).map (numG xs)) 8589934592 wr.heap.size wr (by rfl) (by rfl) (by exact hown.alloc _) (by exact cell_new _ _ _) (by simp; omega) (by simp; omega) (by exact (Below.refl _ _).alloc (by omega) _) ?_; intro v1 w3 hown1 hbel1)
        go_roundw
        case rel => exact ⟨k + 1, by omega, by go_num, hown1.congr (range_snocW _ _ _ HB.out), hbel.trans hbel1⟩
        case measure => simp [intOf]; omega
      · by_cases h2 : x < -4294967296
        · have HB : Hid (numG xs k = 0) := by unfold numG; rw [HX.out]; exact bound_lo h2
          go_wp2_with (at_builtin; refine wpList_append_word (by rfl) _ _ (by rfl) w.heap.size _ ((List.range k).map (numG xs)) 0 wr.heap.size wr (by rfl) (by rfl) (by exact hown.alloc _) (by exact cell_new _ _ _) (by simp; omega) (by simp; omega) (by exact (Below.refl _ _).alloc (by omega) _) ?_; intro v1 w3 hown1 hbel1)
          go_roundw
          case rel => exact ⟨k + 1, by omega, by go_num, hown1.congr (range_snocW _ _ _ HB.out), hbel.trans hbel1⟩
          case measure => simp [intOf]; omega
        · have HB : Hid (numG xs k = x + 4294967296) := by unfold numG; rw [HX.out]; exact bound_in h1 h2
          go_wp2_with (at_builtin; refine wpList_append_word (by rfl) _ _ (by rfl) w.heap.size _ ((List.range k).map (numG xs)) (x + 4294967296) wr.heap.size wr (by rfl) (by rfl) (by exact hown.alloc _) (by exact cell_new _ _ _) (by simp; omega) (by simp; omega) (by exact (Below.refl _ _).alloc (by omega) _) ?_; intro v1 w3 hown1 hbel1)
          go_roundw
          case rel => exact ⟨k + 1, by omega, by go_num, hown1.congr (range_snocW _ _ _ HB.out), hbel.trans hbel1⟩
          case measure => simp [intOf]; omega
    · obtain rfl : k = la := by omega
      obtain ⟨a1, c1, rfl, hl1⟩ := hown.lst' (n := k) (by simp)
      go_wp2
      go_ret
      exact ⟨_, _, rfl, hl1, hbel⟩

end Go.Proofs.Ytfkalnehomgccaa.Fx

/- What coachref.cut and coachref.Tree return: where a tree is cut, and the tree of a list of leaves. -/
namespace Go.Proofs.Ytfkalnehomgccaa.Fx
open Go.RowKit

theorem rcut_calls (n : Nat) (h1 : 2 ≤ n) (h2 : n ≤ 50) (w : World) : Calls Try.prog 19 #[.int .i64 n] w fun e w' => e = .returned (.int .i64 (cutN n)) ∧ w' = w := by
  go_enter Try.func19, Try.ntmps19
  go_wp2
  go_loop [3] (fun v => ∃ j k : Nat, v = .int .i64 k ∧ Hid (k = 2 ^ j) ∧ 1 ≤ k ∧ k < n) (fun v => n - (intOf v).toNat)
  case atStart => exact ⟨0, 1, rfl, rfl, by omega, by omega⟩
  case round =>
    obtain ⟨j, k, rfl, HJ, k1, k2⟩ := hrel
    by_cases hlt : k + k < n
    · go_wp2
      go_roundw
      case rel => exact ⟨j + 1, k + k, by go_num, by show k + k = 2 ^ (j + 1); rw [HJ.out, Nat.pow_succ]; omega, by omega, hlt⟩
      case measure => simp [intOf]; omega
    · go_wp2
      go_ret
      exact ⟨ret_word (by rw [HJ.out] at k2 hlt ⊢; rw [cutN_is k2 (by omega)]), rfl⟩

theorem rTree_calls : ∀ (m : Nat) (a : Option Addr) (n c : Nat) (xs : List Int) (w : World), n ≤ m → 1 ≤ n → n ≤ 50 → LstW w a n c xs → okL xs →
    Calls Try.prog 20 #[.slice a n c] w fun e w' => e = .returned (.int .u64 (treeP xs)) ∧ Below w.heap.size w w'
  | 0, a, n, c, xs, w, h, h1, h2, ha, hx => by omega
  | m + 1, a, n, c, xs, w, h, h1, h2, ha, hx => by
    have IH : Hid (∀ (a : Option Addr) (n c : Nat) (xs : List Int) (w : World), n ≤ m → 1 ≤ n → n ≤ 50 → LstW w a n c xs → okL xs →
      Calls Try.prog 20 #[.slice a n c] w fun e w' => e = .returned (.int .u64 (treeP xs)) ∧ Below w.heap.size w w') := rTree_calls m
    have HL := ha.len
    have HK := ha.cap
    obtain ⟨b, off, x, rfl, hb, h0, HX⟩ := ha.at1 (k := 0) (by omega)
    rw [Nat.add_zero] at h0
    by_cases h3 : n = 1
    · have n1 : ((n : Int) == 1) = true := by rw [beq_iff_eq]; omega
      have HT : Hid (treeP xs = x) := by rw [treeP_one (by omega)]; exact HX.out
      clear ha h3
      go_enter Try.func20, Try.ntmps20
      go_wp2
      go_ret
      exact ⟨ret_word HT.out.symm, Below.refl _ _⟩
    · have hc := cutN_lt (n := n) (by omega)
      have HT : Hid (treeP xs = ofP 3 [treeP (xs.take (cutN n)), treeP (xs.drop (cutN n))]) := by rw [← HL]; exact treeP_two (by omega)
      have HC : Hid (∀ w, Calls Try.prog 19 #[.int .i64 n] w fun e w' => e = .returned (.int .i64 (cutN n)) ∧ w' = w) := rcut_calls n (by omega) (by omega)
      generalize cutN n = k at *
      have hA := ha.head (by omega) (k := k) (by omega)
      have hB := ha.tail (by omega) (k := k) (by omega)
      have oA := okL_take hx k
      have oB := okL_drop hx k
      have tA : Hid (okW (treeP (xs.take k))) := treeP_ok oA (by rw [hA.len]; omega)
      have tB : Hid (okW (treeP (xs.drop k))) := treeP_ok oB (by rw [hB.len]; omega)
      have n1 : ((n : Int) == 1) = false := by rw [beq_eq_false_iff_ne]; omega
      have k4 : ¬ c = k := by omega
      clear ha
      go_enter Try.func20, Try.ntmps20
      go_wp2_with (first | (go_at_call 19; refine (HC.out _).mono ?_; rintro e w' ⟨rfl, hw'⟩; replace hw' := hw'.symm; subst hw') | (go_at_call 20; refine (IH.out _ _ _ (xs.take k) _ (by omega) (by omega) (by omega) (by exact hA) oA).mono ?_; rintro e w1 ⟨rfl, hw1⟩) | (go_at_call 20; refine (IH.out _ _ _ (xs.drop k) _ (by omega) (by omega) (by omega) (by exact hB.below hw1 (Nat.le_refl _)) oB).mono ?_; rintro e w2 ⟨rfl, hw2⟩) | (go_at_call 13; refine (rPair_calls _ _ tA.out tB.out _).mono ?_; rintro e w3 ⟨rfl, hw3⟩))
      go_ret
      have e2 := hw1.trans (hw2.mono hw1.size)
      exact ⟨ret_word HT.out.symm, e2.trans (hw3.mono e2.size)⟩

end Go.Proofs.Ytfkalnehomgccaa.Fx

/- What coachref.Deep and coachref.Way return: how deep a leaf lies, and its way. -/
namespace Go.Proofs.Ytfkalnehomgccaa.Fx
open Go.RowKit

theorem rDeep_calls : ∀ (m i n : Nat) (w : World), n ≤ m → 1 ≤ n → n ≤ 50 → i < n →
    Calls Try.prog 12 #[.int .i64 i, .int .i64 n] w fun e w' => e = .returned (.int .i64 (deepP i n)) ∧ w' = w
  | 0, i, n, w, h, h1, h2, h3 => by omega
  | m + 1, i, n, w, h, h1, h2, h3 => by
    have IH : Hid (∀ (i n : Nat) (w : World), n ≤ m → 1 ≤ n → n ≤ 50 → i < n →
      Calls Try.prog 12 #[.int .i64 i, .int .i64 n] w fun e w' => e = .returned (.int .i64 (deepP i n)) ∧ w' = w) := rDeep_calls m
    by_cases h4 : n = 1
    · have n1 : ((n : Int) == 1) = true := by rw [beq_iff_eq]; omega
      have HT : Hid (deepP i n = 0) := deepP_one (by omega) i
      clear h4
      go_enter Try.func12, Try.ntmps12
      go_wp2
      go_ret
      exact ⟨ret_word (by rw [HT.out]; rfl), rfl⟩
    · have hc := cutN_lt (n := n) (by omega)
      have HC : Hid (∀ w, Calls Try.prog 19 #[.int .i64 n] w fun e w' => e = .returned (.int .i64 (cutN n)) ∧ w' = w) := rcut_calls n (by omega) (by omega)
      have HL : Hid (i < cutN n → deepP i n = 1 + deepP i (cutN n)) := deepP_left (by omega)
      have HR : Hid (¬ i < cutN n → deepP i n = 1 + deepP (i - cutN n) (n - cutN n)) := deepP_right (by omega)
      have n1 : ((n : Int) == 1) = false := by rw [beq_eq_false_iff_ne]; omega
      generalize cutN n = k at *
      by_cases h5 : i < k
      · have HD := HL.out h5
        have hd := deepP_le i k
        generalize hq : deepP i k = q at *
        have HQ : Hid (deepP i k = q) := hq
        clear HL HR hq
        go_enter Try.func12, Try.ntmps12
        go_wp2_with (first | (go_at_call 19; refine (HC.out _).mono ?_; rintro e w' ⟨rfl, hw'⟩; replace hw' := hw'.symm; subst hw') | (go_at_call 12; refine (IH.out _ _ _ (by omega) (by omega) (by omega) (by omega)).mono ?_; rintro e w' ⟨rfl, hw'⟩; replace hw' := hw'.symm; subst hw'; rw [HQ.out]))
        go_ret
        exact ⟨ret_word (by rw [HD]; omega), rfl⟩
      · have HD := HR.out h5
        have hd := deepP_le (i - k) (n - k)
        generalize hq : deepP (i - k) (n - k) = q at *
        have HQ : Hid (deepP (i - k) (n - k) = q) := hq
        have e1 : (i : Int) - (k : Int) = ((i - k : Nat) : Int) := by omega
        have e2 : (n : Int) - (k : Int) = ((n - k : Nat) : Int) := by omega
        clear HL HR hq
        go_enter Try.func12, Try.ntmps12
        go_wp2_with (first | (go_at_call 19; refine (HC.out _).mono ?_; rintro e w' ⟨rfl, hw'⟩; replace hw' := hw'.symm; subst hw') | (go_at_call 12; refine (IH.out _ _ _ (by omega) (by omega) (by omega) (by omega)).mono ?_; rintro e w' ⟨rfl, hw'⟩; replace hw' := hw'.symm; subst hw'; rw [HQ.out]))
        go_ret
        exact ⟨ret_word (by rw [HD]; omega), rfl⟩

theorem rWay_calls : ∀ (m : Nat) (a : Option Addr) (n c : Nat) (xs : List Int) (i : Nat) (w : World), n ≤ m → 1 ≤ n → n ≤ 50 → i < n → LstW w a n c xs → okL xs →
    Calls Try.prog 6 #[.slice a n c, .int .i64 i] w fun e w' => ∃ v, e = .returned v ∧ OwnW w.heap.size w' v (wayP xs i) ∧ Below w.heap.size w w'
  | 0, a, n, c, xs, i, w, h, h1, h2, h3, ha, hx => by omega
  | m + 1, a, n, c, xs, i, w, h, h1, h2, h3, ha, hx => by
    have IH : Hid (∀ (a : Option Addr) (n c : Nat) (xs : List Int) (i : Nat) (w : World), n ≤ m → 1 ≤ n → n ≤ 50 → i < n → LstW w a n c xs → okL xs →
      Calls Try.prog 6 #[.slice a n c, .int .i64 i] w fun e w' => ∃ v, e = .returned v ∧ OwnW w.heap.size w' v (wayP xs i) ∧ Below w.heap.size w w') := rWay_calls m
    have HL := ha.len
    have HK := ha.cap
    obtain ⟨b, off, x, rfl, hb, h0, HX⟩ := ha.at1 (k := 0) (by omega)
    by_cases h4 : n = 1
    · have n1 : ((n : Int) == 1) = true := by rw [beq_iff_eq]; omega
      have HT : Hid (wayP xs i = []) := wayP_one (by omega) i
      clear ha h4
      go_enter Try.func6, Try.ntmps6
      go_wp2
      go_ret
      exact ⟨_, rfl, by rw [HT.out]; exact OwnW.nil _ _, Below.refl _ _⟩
    · have hc := cutN_lt (n := n) (by omega)
      have HC : Hid (∀ w, Calls Try.prog 19 #[.int .i64 n] w fun e w' => e = .returned (.int .i64 (cutN n)) ∧ w' = w) := rcut_calls n (by omega) (by omega)
      have WL : Hid (i < cutN n → wayP xs i = wayP (xs.take (cutN n)) i ++ [treeP (xs.drop (cutN n))]) := by rw [← HL]; exact wayP_left (by omega)
      have WR : Hid (¬ i < cutN n → wayP xs i = wayP (xs.drop (cutN n)) (i - cutN n) ++ [treeP (xs.take (cutN n))]) := by rw [← HL]; exact wayP_right (by omega)
      have n1 : ((n : Int) == 1) = false := by rw [beq_eq_false_iff_ne]; omega
      generalize cutN n = k at *
      have hA := ha.head (by omega) (k := k) (by omega)
      have hB := ha.tail (by omega) (k := k) (by omega)
      have oA := okL_take hx k
      have oB := okL_drop hx k
      have k0 : (0 : Int) ≤ (k : Int) := by omega
      have k1 : (k : Int) ≤ (n : Int) := by omega
      have k2 : (n : Int) ≤ (c : Int) := by omega
      have k3 : (k : Int) ≤ (c : Int) := by omega
      have k4 : ¬ c = k := by omega
      have lA := (way_deep _ (xs.take k) i (Nat.le_refl _) oA).1
      have lB := (way_deep _ (xs.drop k) (i - k) (Nat.le_refl _) oB).1
      have dA := deepP_le i (xs.take k).length
      have dB := deepP_le (i - k) (xs.drop k).length
      rw [← lA, hA.len] at dA
      rw [← lB, hB.len] at dB
      have TOP := rTree_calls 50
      have HTOP : Hid (∀ (a : Option Addr) (n c : Nat) (xs : List Int) (w : World), n ≤ 50 → 1 ≤ n → n ≤ 50 → LstW w a n c xs → okL xs →
        Calls Try.prog 20 #[.slice a n c] w fun e w' => e = .returned (.int .u64 (treeP xs)) ∧ Below w.heap.size w w') := TOP
      clear ha lA lB TOP
      by_cases h5 : i < k
      · have HW : Hid (wayP xs i = wayP (xs.take k) i ++ [treeP (xs.drop k)]) := WL.out h5
        clear WL WR
        go_enter Try.func6, Try.ntmps6
        go_wp2_with (go_at_call 19; refine (HC.out _).mono ?_; rintro e w' ⟨rfl, hw'⟩; replace hw' := hw'.symm; subst hw')
        go_region_held3 (fun _ => True) (exact True.intro) (first | (refine step_append_word (by rfl) _ _ (by rfl) w.heap.size _ (wayP (xs.take k) i) (treeP (xs.drop k)) w2.heap.size w (by rfl) (by rfl) (by exact hown2.alloc _) (by exact cell_new _ _ _) (by omega) (by simp; omega) (by exact hbel2.alloc hsz3 _) ?_; intro v3 w3 hown3 hbel3) | (go_at_call 6; refine (IH.out _ _ _ (xs.take k) i _ (by omega) (by omega) (by omega) h5 (by first | exact hA | exact hA.drewN _) oA).mono ?_; rintro e w1 ⟨v1, rfl, hown1, hw1⟩) | (go_at_call 20; refine (HTOP.out _ _ _ (xs.drop k) _ (by omega) (by omega) (by omega) (by first | exact hB.below hw1 (Nat.le_refl _) | exact (hB.drewN _).below hw1 (Nat.le_refl _)) oB).mono ?_; rintro e w2 ⟨rfl, hw2⟩; have hown2 := hown1.below hw2; have hbel1 : Below w.heap.size w w1 := (below_drewN (Below.refl _ _) 1).trans hw1; have hbel2 := hbel1.trans (hw2.mono hbel1.size); have hsz3 := hbel2.size))
        go_wp2
        go_ret
        exact ⟨_, rfl, hown3.congr HW.out.symm, hbel3⟩
      · have HW : Hid (wayP xs i = wayP (xs.drop k) (i - k) ++ [treeP (xs.take k)]) := WR.out h5
        clear WL WR
        have e1 : IntKind.i64.wrap ((i : Int) - (k : Int)) = ((i - k : Nat) : Int) := by rw [wrap_in _ (by omega) (by omega)]; omega
        go_enter Try.func6, Try.ntmps6
        go_wp2_with (go_at_call 19; refine (HC.out _).mono ?_; rintro e w' ⟨rfl, hw'⟩; replace hw' := hw'.symm; subst hw')
        go_region_held3 (fun _ => True) (exact True.intro) (first | (refine step_append_word (by rfl) _ _ (by rfl) w.heap.size _ (wayP (xs.drop k) (i - k)) (treeP (xs.take k)) w2.heap.size w (by rfl) (by rfl) (by exact hown2.alloc _) (by exact cell_new _ _ _) (by omega) (by simp; omega) (by exact hbel2.alloc hsz3 _) ?_; intro v3 w3 hown3 hbel3) | (go_at_call 6; refine (IH.out _ _ _ (xs.drop k) (i - k) _ (by omega) (by omega) (by omega) (by omega) (by first | exact hB | exact hB.drewN _) oB).mono ?_; rintro e w1 ⟨v1, rfl, hown1, hw1⟩) | (go_at_call 20; refine (HTOP.out _ _ _ (xs.take k) _ (by omega) (by omega) (by omega) (by first | exact hA.below hw1 (Nat.le_refl _) | exact (hA.drewN _).below hw1 (Nat.le_refl _)) oA).mono ?_; rintro e w2 ⟨rfl, hw2⟩; have hown2 := hown1.below hw2; have hbel1 : Below w.heap.size w w1 := (below_drewN (Below.refl _ _) 1).trans hw1; have hbel2 := hbel1.trans (hw2.mono hbel1.size); have hsz3 := hbel2.size))
        go_wp2
        go_ret
        exact ⟨_, rfl, hown3.congr HW.out.symm, hbel3⟩

end Go.Proofs.Ytfkalnehomgccaa.Fx
