/- What digest.mix returns, called with three numbers below P. -/
import Derived.Test.YtnlcheebdkjpbabGreatJ01
namespace Go.Proofs.YtnlcheebdkjpbabGreat.Fx
open Go.RowKit

set_option maxHeartbeats 1600000 in
theorem dmix_calls (s : Tri) (hs : s.ok) (w : World) : Calls Tryz.prog 124 #[.agg #[.int .u64 s.x, .int .u64 s.y, .int .u64 s.z]] w fun e w' => e = .returned (aggT (mixP s)) ∧ Below w.heap.size w w' := by
  have HS : Hid s.ok := hs
  clear hs
  go_enter Tryz.func124, Tryz.ntmps124
  go_wp2
  go_loopw [3] (fun i wr => ∃ (k : Nat) (n : Int) (t : Tri), k ≤ 6 ∧ i = .int .u64 n ∧ n = (k : Int) + 1 ∧ Hid (t = mixTo s k) ∧ MixRel 142 w t wr) (fun i _ => 7 - (intOf i).toNat)
  case atStart => exact ⟨0, 1, s, by omega, rfl, rfl, rfl, MixRel.start _ _ _ _ _⟩
  case round =>
    obtain ⟨k, n, t, hk, rfl, hn, HT, R⟩ := hrel
    obtain ⟨c0, c1, c2⟩ := fnT_cells R.box
    have HN : Hid (n = (k : Int) + 1) := hn
    by_cases hlt : n ≤ 6
    · have ht : t.ok := by rw [HT.out]; exact mixTo_ok HS.out k
      obtain ⟨t0, t1, t2⟩ := ht
      have n1 : okP n := ⟨by omega, by omega⟩
      have n2 : okP (2 * n) := ⟨by omega, by omega⟩
      have n3 : okP (3 * n) := ⟨by omega, by omega⟩
      have m0 : 1 ≤ n := by omega
      have f0 := R.box.frozen 0
      have f1 := R.box.frozen 1
      have f2 := R.box.frozen 2
      have HM : Hid (sums (pows n t) = mixTo s (k + 1)) := by rw [hn, HT.out]; rfl
      clear hn
      go_wp2_with (first | (go_at_call 125; refine (dadd_calls _ _ (by with_reducible first | exact powP_ok _ | exact addP_ok _ _ | assumption) (by with_reducible first | exact powP_ok _ | exact addP_ok _ _ | assumption) _).mono ?_; rintro e w' ⟨rfl, hw'⟩; replace hw' := hw'.symm; subst hw') | (go_at_call 134; refine (dpower_calls _ (by with_reducible exact addP_ok _ _) _).mono ?_; rintro e w' ⟨rfl, d, rfl⟩))
      go_roundw
      case rel =>
        have hn := HN.out
        exact ⟨k + 1, _, _, by omega, rfl, by omega, HM.out, (R.drewN _).set _ _ _⟩
      case measure => simp [intOf]; omega
    · have e7 : n = 7 := by omega
      subst e7
      obtain rfl : k = 6 := by omega
      obtain ⟨r0, r1, r2⟩ := fnT_cells R.res
      have f0 := R.res.frozen 0
      have f1 := R.res.frozen 1
      have f2 := R.res.frozen 2
      go_wp2
      have hq := fnT_set3 R.res t.x t.y t.z
      obtain ⟨q0, q1, q2⟩ := fnT_cells hq
      refine bodyPost_ret (v := aggT t) (by simp [results, Tryz.results124, go_sem, q0, q1, q2, aggT]) rfl ⟨by rw [HT.out]; rfl, ?_⟩
      exact ((R.old.setCell (Nat.le_succ _) _).setCell (Nat.le_succ _) _).setCell (Nat.le_succ _) _

theorem dmix3 (x y z : Int) (hx : okP x) (hy : okP y) (hz : okP z) (w : World) : Calls Tryz.prog 124 #[.agg #[.int .u64 x, .int .u64 y, .int .u64 z]] w fun e w' =>
    ∃ m : Tri, Hid (m = mixP ⟨x, y, z⟩) ∧ e = .returned (.agg #[.int .u64 m.x, .int .u64 m.y, .int .u64 m.z]) ∧ Below w.heap.size w w' := by
  refine (dmix_calls ⟨x, y, z⟩ ⟨hx, hy, hz⟩ w).mono ?_
  rintro e w' ⟨rfl, h⟩
  exact ⟨_, rfl, rfl, h⟩

end Go.Proofs.YtnlcheebdkjpbabGreat.Fx

/- What digest.of, Of, Pair and Word return, whatever words lie there. -/
namespace Go.Proofs.YtnlcheebdkjpbabGreat.Fx
open Go.RowKit

set_option maxHeartbeats 1600000 in
theorem dof_calls (kind : Int) (hk : okW kind) (a : Option Addr) (len cap : Nat) (xs : List Int) (w : World) (ha : LstW w a len cap xs) (hx : okL xs) (hlen : len ≤ 200) :
    Calls Tryz.prog 104 #[.int .u64 kind, .slice a len cap] w fun e w' => e = .returned (.int .u64 (ofP kind xs)) ∧ Below w.heap.size w w' := by
  obtain ⟨k0, k1⟩ := hk
  have p0 : okP (kind % 2305843009213693951) := ⟨by omega, by omega⟩
  have p1 : okP (len : Int) := ⟨by omega, by omega⟩
  have p2 : okP 1 := ⟨by omega, by omega⟩
  have HX : Hid (okL xs) := hx
  have HL : Hid (xs.length = len) := ha.len
  clear hx
  go_enter Tryz.func104, Tryz.ntmps104
  go_wp2_with (go_at_call 124; refine (dmix3 _ _ _ p0 p1 p2 _).mono ?_; rintro e w1 ⟨m, HM, rfl, hw1⟩)
  go_loopw [17] (fun i wr => ∃ (k : Nat) (t : Tri), k ≤ len ∧ i = .int .i64 k ∧ Hid (t = ofTo kind xs k) ∧ OfRel 142 w w1.heap.size t wr) (fun i _ => len - (intOf i).toNat)
  case atStart => exact ⟨0, m, Nat.zero_le _, rfl, by rw [HM.out, ← HL.out]; rfl, OfRel.start hw1 _ _ _⟩
  case round =>
    obtain ⟨k, t, hk, rfl, HT, R⟩ := hrel
    obtain ⟨c0, c1, c2⟩ := fnT_cells R.box
    by_cases hlt : k < len
    · obtain ⟨b1, o1, y, rfl, s1, g1, HY⟩ := ha.at1b R.old (Nat.le_refl _) hlt
      have ht : t.ok := by rw [HT.out]; exact ofTo_ok _ _ _
      obtain ⟨t0, t1, t2⟩ := ht
      have hy : okW y := by rw [← HY.out]; exact HX.out k (by rw [HL.out]; exact hlt)
      obtain ⟨y0, y1⟩ := hy
      have py : okP (y % 2305843009213693951) := ⟨by omega, by omega⟩
      have f0 := R.box.frozen 0
      clear ha
      go_wp2_with (first | (go_at_call 125; refine (dadd_calls _ _ t0 py _).mono ?_; rintro e w' ⟨rfl, hw'⟩; replace hw' := hw'.symm; subst hw'; rw [addP_mod]) | (go_at_call 124; refine (dmix3 _ _ _ (addP_ok _ _) t1 t2 _).mono ?_; rintro e w2 ⟨m2, HM2, rfl, hw2⟩; have R2 := (R.set0 _).below hw2; obtain ⟨e0, e1, e2⟩ := fnT_cells R2.box; have z0 := R2.box.frozen 0; have z1 := R2.box.frozen 1; have z2 := R2.box.frozen 2))
      go_roundw
      case rel => exact ⟨k + 1, _, by omega, by go_num, by rw [HM2.out, HT.out, ← HY.out]; rfl, R2.set _ _ _⟩
      case measure => simp [intOf]; omega
    · obtain rfl : k = len := by omega
      go_wp2
      go_ret
      exact ⟨ret_word (by rw [HT.out]; unfold ofP; rw [HL.out]), R.old⟩

def bigI (n : Nat) : Int := if 200 < n then 2 else 0
def ofA (kind : Int) (xs : List Int) (n : Nat) : Int := if 200 < n then 0 else ofP kind xs

theorem dOf_calls (kind : Int) (hk : okW kind) (a : Option Addr) (len cap : Nat) (xs : List Int) (w : World) (ha : LstW w a len cap xs) (hx : okL xs) :
    Calls Tryz.prog 79 #[.int .u64 kind, .slice a len cap] w fun e w' => e = .returned (.tuple #[.int .u64 (ofA kind xs len), .int .i64 (bigI len)]) ∧ Below w.heap.size w w' := by
  unfold ofA bigI
  by_cases h : 200 < len
  · rw [if_pos h, if_pos h]
    go_enter Tryz.func79, Tryz.ntmps79
    go_wp2
    go_ret2
    exact ⟨rfl, Below.refl _ _⟩
  · rw [if_neg h, if_neg h]
    go_enter Tryz.func79, Tryz.ntmps79
    go_wp2_with (go_at_call 104; refine (dof_calls _ hk _ _ _ xs _ ha hx (by omega)).mono ?_; rintro e w' ⟨rfl, hw⟩)
    go_ret2
    exact ⟨rfl, hw⟩

theorem okL_two {a b : Int} (ha : okW a) (hb : okW b) : okL [a, b] := by
  intro i hi
  rcases (show i = 0 ∨ i = 1 from by simp at hi; omega) with rfl | rfl
  · exact ha
  · exact hb

theorem dPair_calls (a b : Int) (ha : okW a) (hb : okW b) (w : World) : Calls Tryz.prog 101 #[.int .u64 a, .int .u64 b] w fun e w' => e = .returned (.int .u64 (ofP 3 [a, b])) ∧ Below w.heap.size w w' := by
  go_enter Tryz.func101, Tryz.ntmps101
  go_wp2_with (go_at_call 104; refine (dof_calls _ ⟨by omega, by omega⟩ _ _ _ [a, b] _ (LstW.two _ _ _ _) (okL_two ha hb) (by omega)).mono ?_; rintro e w' ⟨rfl, hw⟩)
  go_ret
  exact ⟨rfl, ((Below.refl _ _).alloc (Nat.le_refl _) _).trans (hw.mono (by simp))⟩

theorem dWord_calls (a b : Int) (ha : okW a) (hb : okW b) (w : World) : Calls Tryz.prog 80 #[.int .u64 a, .int .u64 b] w fun e w' => e = .returned (.int .u64 (ofP 2 [a, b])) ∧ Below w.heap.size w w' := by
  go_enter Tryz.func80, Tryz.ntmps80
  go_wp2_with (go_at_call 104; refine (dof_calls _ ⟨by omega, by omega⟩ _ _ _ [a, b] _ (LstW.two _ _ _ _) (okL_two ha hb) (by omega)).mono ?_; rintro e w' ⟨rfl, hw⟩)
  go_ret
  exact ⟨rfl, ((Below.refl _ _).alloc (Nat.le_refl _) _).trans (hw.mono (by simp))⟩

def numG (xs : List Int) (i : Nat) : Int := boundP (xs.getD i 0)
def numL (xs : List Int) (n : Nat) : List Int := if 200 < n then [] else (List.range n).map (numG xs)
theorem bound_min (x : Int) : (if 4294967296 < if x < -4294967296 then -4294967296 else x then 4294967296 else if x < -4294967296 then -4294967296 else x) + 4294967296 = boundP x := by
  unfold boundP
  by_cases h : x < -4294967296
  · rw [if_pos h, if_pos h, if_neg (by omega)]
  · rw [if_neg h, if_neg h]
theorem infoW : (Tryz.prog.info? 22).map (fun i => (i.zero, i.size, i.bytes)) = some (some (.int .u64 0), 1, 8) := by kernel_rfl

set_option maxHeartbeats 1600000 in
theorem dNumbers_calls (a : Option Addr) (la ca : Nat) (xs : List Int) (w : World) (ha : Lst w a la ca xs) :
    Calls Tryz.prog 132 #[.slice a la ca] w fun e w' => ∃ a' n, e = .returned (.tuple #[.slice a' n n, .int .i64 (bigI la)]) ∧ n ≤ 200 ∧ LstW w' a' n n (numL xs la) ∧ Below w.heap.size w w' := by
  unfold numL bigI
  by_cases hl : 200 < la
  · rw [if_pos hl, if_pos hl]
    clear ha
    go_enter Tryz.func132, Tryz.ntmps132
    go_wp2
    go_ret2
    exact ⟨_, _, rfl, Nat.zero_le _, LstW.nil _ _ _, Below.refl _ _⟩
  · rw [if_neg hl, if_neg hl]
    have hmk := run_make_row' (P := Tryz.prog) 86 22 (.int .u64 0) 8 Tryz.underlying86 infoW rfl .i64 .i64 la (by omega) (by omega)
    go_enter Tryz.func132, Tryz.ntmps132
    go_wp2
    go_loopw [15] (fun i wr => ∃ k : Nat, k ≤ la ∧ i = .int .i64 k ∧ wr.rowIs w.heap.size 22 la (rowToW (numG xs) k) ∧ Below w.heap.size w wr) (fun i _ => la - (intOf i).toNat)
    case atStart => exact ⟨0, Nat.zero_le _, rfl, rowToW_made (World.rowIs_made _ _ _ _), (Below.refl _ _).alloc (Nat.le_refl _) _⟩
    case round =>
      obtain ⟨k, hk, rfl, hrow, hbel⟩ := hrel
      have ha' := ha.below hbel (Nat.le_refl _)
      clear ha hmk
      by_cases hlt : k < la
      · obtain ⟨b1, o1, x, rfl, _, c1, HX⟩ := ha'.at1 hlt
        have c3 := rowToW_cell hrow hlt
        have f3 := hrow.frozen k
        go_wp2
        rw [bound_min]
        go_roundw
        case rel =>
          have st := rowToW_step (g := numG xs) hrow
          simp only [numG, HX.out] at st
          exact ⟨k + 1, by omega, by go_num, st, hbel.setCell (Nat.le_refl _) _⟩
        case measure => simp [intOf]; omega
      · go_wp2
        go_ret2
        obtain rfl : k = la := by omega
        exact ⟨_, _, rfl, by omega, rowToW_lst hrow, hbel⟩

end Go.Proofs.YtnlcheebdkjpbabGreat.Fx
