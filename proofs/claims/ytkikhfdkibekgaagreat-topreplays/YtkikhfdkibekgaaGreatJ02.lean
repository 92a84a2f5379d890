/- What digest.of, Of, Pair and Word return, whatever words lie there. -/
import Derived.Test.YtkikhfdkibekgaaGreatJ01
import Derived.Test.YtkikhfdkibekgaaGreatRows
import Derived.Test.YtkikhfdkibekgaaGreatJ00
import Derived.WalkKit
import Derived.Deep.QuietTactic
import Derived.BigQuiet
import Derived.BigRegion
import Derived.Deep.RegionWith
import Derived.Deep.AppendLies
import Derived.Deep.RegionHeld3
namespace Go.Proofs.YtkikhfdkibekgaaGreat.Fx
open Go.RowKit

set_option maxHeartbeats 1600000 in
theorem dof_calls (kind : Int) (hk : okW kind) (a : Option Addr) (len cap : Nat) (xs : List Int) (w : World) (ha : LstW w a len cap xs) (hx : okL xs) (hlen : len ≤ 200) :
    Calls Tryz.prog 75 #[.int .u64 kind, .slice a len cap] w fun e w' => e = .returned (.int .u64 (ofP kind xs)) ∧ Below w.heap.size w w' := by
  obtain ⟨k0, k1⟩ := hk
  have p0 : okP (kind % 2305843009213693951) := ⟨by omega, by omega⟩
  have p1 : okP (len : Int) := ⟨by omega, by omega⟩
  have p2 : okP 1 := ⟨by omega, by omega⟩
  have HX : Hid (okL xs) := hx
  have HL : Hid (xs.length = len) := ha.len
  clear hx
  go_enter Tryz.func75, Tryz.ntmps75
  go_wp2_with (go_at_call 96; refine (dmix3 _ _ _ p0 p1 p2 _).mono ?_; rintro e w1 ⟨m, HM, rfl, hw1⟩)
  go_loopw [17] (fun i wr => ∃ (k : Nat) (t : Tri), k ≤ len ∧ i = .int .i64 k ∧ Hid (t = ofTo kind xs k) ∧ OfRel 134 w w1.heap.size t wr) (fun i _ => len - (intOf i).toNat)
  case atStart => exact ⟨0, m, Nat.zero_le _, rfl, by rw [HM.out, ← HL.out]; rfl, OfRel.start hw1 _ _ _⟩
  case round =>
    obtain ⟨k, t, hk, rfl, HT, R⟩ := hrel
    obtain ⟨c0, c1, c2⟩ := fnT_cells R.box
    by_cases hlt : k < len
    · obtain ⟨b1, o1, y, rfl, s1, g1, HY⟩ := ha.at1b R.old (Nat.le_refl _) hlt
      have ht : t.ok := by rw [HT.out]; exact ofTo_ok _ _ _
      obtain ⟨t0, t1, t2⟩ := ht
      have hy : okW y := by rw [← HY.out]; exact HX.out k (by rw [HL.out]; exact hlt)
      obtain ⟨y0, y1⟩ := hy
      have py : okP (y % 2305843009213693951) := ⟨by omega, by omega⟩
      have f0 := R.box.frozen 0
      clear ha
      go_wp2_with (first | (go_at_call 97; refine (dadd_calls _ _ t0 py _).mono ?_; rintro e w' ⟨rfl, hw'⟩; replace hw' := hw'.symm; subst hw'; rw [addP_mod]) | (go_at_call 96; refine (dmix3 _ _ _ (addP_ok _ _) t1 t2 _).mono ?_; rintro e w2 ⟨m2, HM2, rfl, hw2⟩; have R2 := (R.set0 _).below hw2; obtain ⟨e0, e1, e2⟩ := fnT_cells R2.box; have z0 := R2.box.frozen 0; have z1 := R2.box.frozen 1; have z2 := R2.box.frozen 2))
      go_roundw
      case rel => exact ⟨k + 1, _, by omega, by go_num, by rw [HM2.out, HT.out, ← HY.out]; rfl, R2.set _ _ _⟩
      case measure => simp [intOf]; omega
    · obtain rfl : k = len := by omega
      go_wp2
      go_ret
      exact ⟨ret_word (by rw [HT.out]; unfold ofP; rw [HL.out]), R.old⟩

def bigI (n : Nat) : Int := if 200 < n then 2 else 0
def ofA (kind : Int) (xs : List Int) (n : Nat) : Int := if 200 < n then 0 else ofP kind xs

theorem dOf_calls (kind : Int) (hk : okW kind) (a : Option Addr) (len cap : Nat) (xs : List Int) (w : World) (ha : LstW w a len cap xs) (hx : okL xs) :
    Calls Tryz.prog 51 #[.int .u64 kind, .slice a len cap] w fun e w' => e = .returned (.tuple #[.int .u64 (ofA kind xs len), .int .i64 (bigI len)]) ∧ Below w.heap.size w w' := by
  unfold ofA bigI
  by_cases h : 200 < len
  · rw [if_pos h, if_pos h]
    go_enter Tryz.func51, Tryz.ntmps51
    go_wp2
    go_ret2
    exact ⟨rfl, Below.refl _ _⟩
  · rw [if_neg h, if_neg h]
    go_enter Tryz.func51, Tryz.ntmps51
    go_wp2_with (go_at_call 75; refine (dof_calls _ hk _ _ _ xs _ ha hx (by omega)).mono ?_; rintro e w' ⟨rfl, hw⟩)
    go_ret2
    exact ⟨rfl, hw⟩

theorem okL_two {a b : Int} (ha : okW a) (hb : okW b) : okL [a, b] := by
  intro i hi
  rcases (show i = 0 ∨ i = 1 from by simp at hi; omega) with rfl | rfl
  · exact ha
  · exact hb

theorem dPair_calls (a b : Int) (ha : okW a) (hb : okW b) (w : World) : Calls Tryz.prog 72 #[.int .u64 a, .int .u64 b] w fun e w' => e = .returned (.int .u64 (ofP 3 [a, b])) ∧ Below w.heap.size w w' := by
  go_enter Tryz.func72, Tryz.ntmps72
  go_wp2_with (go_at_call 75; refine (dof_calls _ ⟨by omega, by omega⟩ _ _ _ [a, b] _ (LstW.two _ _ _ _) (okL_two ha hb) (by omega)).mono ?_; rintro e w' ⟨rfl, hw⟩)
  go_ret
  exact ⟨rfl, ((Below.refl _ _).alloc (Nat.le_refl _) _).trans (hw.mono (by simp))⟩

theorem dWord_calls (a b : Int) (ha : okW a) (hb : okW b) (w : World) : Calls Tryz.prog 55 #[.int .u64 a, .int .u64 b] w fun e w' => e = .returned (.int .u64 (ofP 2 [a, b])) ∧ Below w.heap.size w w' := by
  go_enter Tryz.func55, Tryz.ntmps55
  go_wp2_with (go_at_call 75; refine (dof_calls _ ⟨by omega, by omega⟩ _ _ _ [a, b] _ (LstW.two _ _ _ _) (okL_two ha hb) (by omega)).mono ?_; rintro e w' ⟨rfl, hw⟩)
  go_ret
  exact ⟨rfl, ((Below.refl _ _).alloc (Nat.le_refl _) _).trans (hw.mono (by simp))⟩

def numG (xs : List Int) (i : Nat) : Int := boundP (xs.getD i 0)
def numL (xs : List Int) (n : Nat) : List Int := if 200 < n then [] else (List.range n).map (numG xs)
theorem bound_min (x : Int) : (if 4294967296 < if x < -4294967296 then -4294967296 else x then 4294967296 else if x < -4294967296 then -4294967296 else x) + 4294967296 = boundP x := by
  unfold boundP
  by_cases h : x < -4294967296
  · rw [if_pos h, if_pos h, if_neg (by omega)]
  · rw [if_neg h, if_neg h]
theorem infoW : (Tryz.prog.info? 22).map (fun i => (i.zero, i.size, i.bytes)) = some (some (.int .u64 0), 1, 8) := by kernel_rfl

set_option maxHeartbeats 1600000 in
theorem dNumbers_calls (a : Option Addr) (la ca : Nat) (xs : List Int) (w : World) (ha : Lst w a la ca xs) :
    Calls Tryz.prog 49 #[.slice a la ca] w fun e w' => ∃ a' n, e = .returned (.tuple #[.slice a' n n, .int .i64 (bigI la)]) ∧ n ≤ 200 ∧ LstW w' a' n n (numL xs la) ∧ Below w.heap.size w w' := by
  unfold numL bigI
  by_cases hl : 200 < la
  · rw [if_pos hl, if_pos hl]
    clear ha
    go_enter Tryz.func49, Tryz.ntmps49
    go_wp2
    go_ret2
    exact ⟨_, _, rfl, Nat.zero_le _, LstW.nil _ _ _, Below.refl _ _⟩
  · rw [if_neg hl, if_neg hl]
    have hmk := run_make_row' (P := Tryz.prog) 67 22 (.int .u64 0) 8 Tryz.underlying67 infoW rfl .i64 .i64 la (by omega) (by omega)
    go_enter Tryz.func49, Tryz.ntmps49
    go_wp2
    go_loopw [15] (fun i wr => ∃ k : Nat, k ≤ la ∧ i = .int .i64 k ∧ wr.rowIs w.heap.size 22 la (rowToW (numG xs) k) ∧ Below w.heap.size w wr) (fun i _ => la - (intOf i).toNat)
    case atStart => exact ⟨0, Nat.zero_le _, rfl, rowToW_made (World.rowIs_made _ _ _ _), (Below.refl _ _).alloc (Nat.le_refl _) _⟩
    case round =>
      obtain ⟨k, hk, rfl, hrow, hbel⟩ := hrel
      have ha' := ha.below hbel (Nat.le_refl _)
      clear ha hmk
      by_cases hlt : k < la
      · obtain ⟨b1, o1, x, rfl, _, c1, HX⟩ := ha'.at1 hlt
        have c3 := rowToW_cell hrow hlt
        have f3 := hrow.frozen k
        go_wp2
        rw [bound_min]
        go_roundw
        case rel =>
          have st := rowToW_step (g := numG xs) hrow
          simp only [numG, HX.out] at st
          exact ⟨k + 1, by omega, by go_num, st, hbel.setCell (Nat.le_refl _) _⟩
        case measure => simp [intOf]; omega
      · go_wp2
        go_ret2
        obtain rfl : k = la := by omega
        exact ⟨_, _, rfl, by omega, rowToW_lst hrow, hbel⟩

end Go.Proofs.YtkikhfdkibekgaaGreat.Fx

/- What each function of package fix returns, called with whatever integers: the plain numbers of the text Fix; the world is as it was, but for what was drawn of the open order. -/
namespace Go.Proofs.YtkikhfdkibekgaaGreat.Fx
open Go.RowKit

theorem ret_int {k : IntKind} {a b : Int} (h : a = b) : Ending.returned (.int k a) = .returned (.int k b) := by rw [h]

theorem ret_bool {a b : Bool} (h : a = b) : Ending.returned (.bool a) = .returned (.bool b) := by rw [h]
theorem grown_drewN {W w : World} (h : Grown W w) (n : Nat) : Grown W (w.drewN n) := h

theorem narrow_calls (n : Int) (w : World) : Calls Tryz.prog 76 #[.int .i64 n] w fun e w' => e = .returned (.int .i64 (clampI n)) ∧ w' = w := by
  by_cases h0 : n < -2147483647
  · go_enter Tryz.func76, Tryz.ntmps76
    go_wp2
    go_ret
    exact ⟨ret_int (by unfold clampI; rw [if_pos (by omega)]), rfl⟩
  · by_cases h1 : 2147483647 < n
    · go_enter Tryz.func76, Tryz.ntmps76
      go_wp2
      go_ret
      exact ⟨ret_int (by unfold clampI; rw [if_neg (by omega), if_pos h1]), rfl⟩
    · go_enter Tryz.func76, Tryz.ntmps76
      go_wp2
      go_ret
      exact ⟨ret_int (by unfold clampI; rw [if_neg (by omega), if_neg (by omega)]), rfl⟩

theorem clamp_calls (n : Int) (w : World) : Calls Tryz.prog 54 #[.int .i64 n] w fun e w' => e = .returned (.int .i64 (clampI n)) ∧ w' = w := by
  go_enter Tryz.func54, Tryz.ntmps54
  go_wp2_with (go_at_call 76; refine (narrow_calls _ _).mono ?_; rintro e w' ⟨rfl, rfl⟩)
  go_ret
  exact ⟨rfl, rfl⟩

theorem wide_calls (n : Int) (w : World) : Calls Tryz.prog 79 #[.int .i64 n] w fun e w' => e = .returned (.int .i64 (clampI n)) ∧ w' = w := by
  go_enter Tryz.func79, Tryz.ntmps79
  go_wp2_with (go_at_call 54; refine (clamp_calls _ _).mono ?_; rintro e w' ⟨rfl, rfl⟩)
  go_ret
  exact ⟨rfl, rfl⟩

theorem add_calls (a b : Int) (w : World) : Calls Tryz.prog 91 #[.int .i64 a, .int .i64 b] w fun e w' => e = .returned (.int .i64 (addI a b)) ∧ w' = w := by
  have ha := clampI_bd a
  have hb := clampI_bd b
  go_enter Tryz.func91, Tryz.ntmps91
  go_wp2_with (first | (go_at_call 79; refine (wide_calls _ _).mono ?_; rintro e w' ⟨rfl, rfl⟩) | (go_at_call 76; refine (narrow_calls _ _).mono ?_; rintro e w' ⟨rfl, rfl⟩))
  go_ret
  exact ⟨rfl, rfl⟩

theorem sub_calls (a b : Int) (w : World) : Calls Tryz.prog 92 #[.int .i64 a, .int .i64 b] w fun e w' => e = .returned (.int .i64 (subI a b)) ∧ w' = w := by
  have ha := clampI_bd a
  have hb := clampI_bd b
  go_enter Tryz.func92, Tryz.ntmps92
  go_wp2_with (first | (go_at_call 79; refine (wide_calls _ _).mono ?_; rintro e w' ⟨rfl, rfl⟩) | (go_at_call 76; refine (narrow_calls _ _).mono ?_; rintro e w' ⟨rfl, rfl⟩))
  go_ret
  exact ⟨rfl, rfl⟩

theorem quo_pos (n d : Int) (w : World) (hn0 : 0 ≤ n) (hn1 : n ≤ 4611686018427387904) (hd0 : 0 < d) (hd1 : d ≤ 2147483648) :
    Calls Tryz.prog 78 #[.int .i64 n, .int .i64 d] w fun e w' => e = .returned (.int .i64 (rnd n d)) ∧ ∃ k, w' = w.drewN k := by
  have l := Int.emod_nonneg n (b := d) (by omega)
  have u := Int.emod_lt_of_pos n hd0
  have q0 : 0 ≤ n / d := Int.ediv_nonneg hn0 (by omega)
  have q1 : n / d ≤ n := Int.ediv_le_self _ hn0
  go_enter Tryz.func78, Tryz.ntmps78
  go_wp2
  go_region
  all_goals
    go_wp2
  all_goals
    go_ret
    refine ⟨ret_int (rnd_of rfl rfl ?_ ?_), 1, rfl⟩ <;> intro h <;> (try simp only [bne_iff_ne, bne_eq_false_iff_eq] at *) <;> omega

theorem quo_neg (n d : Int) (w : World) (hn0 : n < 0) (hn1 : -4611686018427387904 ≤ n) (hd0 : 0 < d) (hd1 : d ≤ 2147483648) :
    Calls Tryz.prog 78 #[.int .i64 n, .int .i64 d] w fun e w' => e = .returned (.int .i64 (rnd n d)) ∧ ∃ k, w' = w.drewN k := by
  have t := tmod_bd n d hd0
  have q0 := tdiv_bd n d 4611686018427387904 hn1 (by omega)
  by_cases hr : n.tmod d < 0
  · go_enter Tryz.func78, Tryz.ntmps78
    go_wp2
    go_region
    all_goals
      go_wp2
    all_goals
      go_ret
      have f := (floor_of (n := n) hd0).1 hr
      refine ⟨ret_int (rnd_of f.1 f.2 ?_ ?_), 1, rfl⟩ <;> intro h <;> (try simp only [bne_iff_ne, bne_eq_false_iff_eq, odd_tmod, ne_eq] at *) <;> omega
  · go_enter Tryz.func78, Tryz.ntmps78
    go_wp2
    go_region
    all_goals
      go_wp2
    all_goals
      go_ret
      have f := (floor_of (n := n) hd0).2 (by omega)
      refine ⟨ret_int (rnd_of f.1 f.2 ?_ ?_), 1, rfl⟩ <;> intro h <;> (try simp only [bne_iff_ne, bne_eq_false_iff_eq, odd_tmod, ne_eq] at *) <;> omega

theorem quo_dneg_pos (n d : Int) (w : World) (hn0 : n ≤ 0) (hn1 : -4611686018427387904 ≤ n) (hd0 : d < 0) (hd1 : -2147483648 ≤ d) :
    Calls Tryz.prog 78 #[.int .i64 n, .int .i64 d] w fun e w' => e = .returned (.int .i64 (rnd (-n) (-d))) ∧ ∃ k, w' = w.drewN k := by
  have t := tmod_dneg n d hd0
  have q0 := tdiv_bd n d 4611686018427387904 hn1 (by omega)
  have hs := (tmod_sign n d).1 hn0
  go_enter Tryz.func78, Tryz.ntmps78
  go_wp2
  go_region
  all_goals
    go_wp2
  all_goals
    go_ret
    have f := (floor_dneg (n := n) hd0).2 (by omega)
    refine ⟨ret_int (rnd_of f.1 f.2 ?_ ?_), 1, rfl⟩ <;> intro h <;> (try simp only [bne_iff_ne, bne_eq_false_iff_eq, odd_tmod, ne_eq] at *) <;> omega

theorem quo_dneg_neg (n d : Int) (w : World) (hn0 : 0 < n) (hn1 : n ≤ 4611686018427387904) (hd0 : d < 0) (hd1 : -2147483648 ≤ d) :
    Calls Tryz.prog 78 #[.int .i64 n, .int .i64 d] w fun e w' => e = .returned (.int .i64 (rnd (-n) (-d))) ∧ ∃ k, w' = w.drewN k := by
  have t := tmod_dneg n d hd0
  have q0 := tdiv_bd n d 4611686018427387904 (by omega) hn1
  have hs := ((tmod_sign n d).2 (by omega)).2
  have he := ((tmod_sign n d).2 (by omega)).1
  rw [he] at t hs
  clear he
  by_cases hr : -(n % d) < 0
  · go_enter Tryz.func78, Tryz.ntmps78
    go_wp2
    go_region
    all_goals
      go_wp2
    all_goals
      go_ret
      all_goals
      have f := (floor_dneg (n := n) hd0).1
      rw [((tmod_sign n d).2 (by omega)).1] at f
      have f := f (by omega)
      refine ⟨ret_int (rnd_of f.1 f.2 ?_ ?_), 1, rfl⟩ <;> intro h <;> (try simp only [bne_iff_ne, bne_eq_false_iff_eq, odd_tmod, ne_eq] at *) <;> omega
  · go_enter Tryz.func78, Tryz.ntmps78
    go_wp2
    go_region
    all_goals
      go_wp2
    all_goals
      go_ret
      all_goals
      have f := (floor_dneg (n := n) hd0).2
      rw [((tmod_sign n d).2 (by omega)).1] at f
      have f := f (by omega)
      refine ⟨ret_int (rnd_of f.1 f.2 ?_ ?_), 1, rfl⟩ <;> intro h <;> omega

theorem quo_calls (n d : Int) (w : World) (hn0 : -4611686018427387904 ≤ n) (hn1 : n ≤ 4611686018427387904) (hd : d ≠ 0) (hd0 : -2147483648 ≤ d) (hd1 : d ≤ 2147483648) :
    Calls Tryz.prog 78 #[.int .i64 n, .int .i64 d] w fun e w' => e = .returned (.int .i64 (quoI n d)) ∧ ∃ k, w' = w.drewN k := by
  unfold quoI
  by_cases c : d < 0
  · rw [if_pos c]
    by_cases c2 : n ≤ 0
    · exact quo_dneg_pos n d w c2 hn0 c hd0
    · exact quo_dneg_neg n d w (by omega) hn1 c hd0
  · rw [if_neg c]
    by_cases c2 : 0 ≤ n
    · exact quo_pos n d w c2 hn1 (by omega) hd1
    · exact quo_neg n d w (by omega) hn0 (by omega) hd1

theorem mul_calls (a b : Int) (w : World) : Calls Tryz.prog 66 #[.int .i64 a, .int .i64 b] w fun e w' => e = .returned (.int .i64 (mulI a b)) ∧ ∃ k, w' = w.drewN k := by
  have hp := prod_bd _ _ (clampI_bd a) (clampI_bd b)
  go_enter Tryz.func66, Tryz.ntmps66
  go_wp2_with (first | (go_at_call 79; refine (wide_calls _ _).mono ?_; rintro e w' ⟨rfl, rfl⟩) | (go_at_call 76; refine (narrow_calls _ _).mono ?_; rintro e w' ⟨rfl, rfl⟩) | (go_at_call 78; refine (quo_calls _ _ _ (by omega) (by omega) (by omega) (by omega) (by omega)).mono ?_; rintro e w' ⟨rfl, k, rfl⟩))
  go_ret
  exact ⟨rfl, _, rfl⟩

theorem div_none (a : Int) (w : World) : Calls Tryz.prog 60 #[.int .i64 a, .int .i64 0] w fun e w' => e = .returned (.tuple #[.int .i64 0, .int .i64 1]) ∧ w' = w := by
  go_enter Tryz.func60, Tryz.ntmps60
  go_wp2
  go_ret2
  exact ⟨rfl, rfl⟩

theorem div_zero (a b : Int) (hb : b = 0) (w : World) : Calls Tryz.prog 60 #[.int .i64 a, .int .i64 b] w fun e w' => e = .returned (.tuple #[.int .i64 0, .int .i64 1]) ∧ w' = w := by
  subst hb; exact div_none a w

theorem div_calls (a b : Int) (w : World) (hb : b ≠ 0) : Calls Tryz.prog 60 #[.int .i64 a, .int .i64 b] w fun e w' => e = .returned (.tuple #[.int .i64 (divI a b), .int .i64 0]) ∧ ∃ k, w' = w.drewN k := by
  have ha := clampI_bd a
  have hc := clampI_bd b
  have hz : (b == 0) = false := beq_eq_false_iff_ne.2 hb
  have hn := clampI_ne hb
  go_enter Tryz.func60, Tryz.ntmps60
  go_wp2_with (first | (go_at_call 79; refine (wide_calls _ _).mono ?_; rintro e w' ⟨rfl, rfl⟩) | (go_at_call 76; refine (narrow_calls _ _).mono ?_; rintro e w' ⟨rfl, rfl⟩) | (go_at_call 78; refine (quo_calls _ _ _ (by omega) (by omega) (by omega) (by omega) (by omega)).mono ?_; rintro e w' ⟨rfl, k, rfl⟩))
  go_ret2
  exact ⟨rfl, _, rfl⟩

end Go.Proofs.YtkikhfdkibekgaaGreat.Fx

/- What the small functions of package vec return (tooLong, checkTwo, dot, Dot), and slices.Equal over integers: whatever lists lie there. -/
namespace Go.Proofs.YtkikhfdkibekgaaGreat.Fx
open Go.RowKit

/-- What two lists that should go together are told: too long, not as long, or nothing. -/
def twoI (la lb : Nat) : Int := if 200 < la ∨ 200 < lb then 2 else if la = lb then 0 else 5
def longB (L : Nat → Nat) (n : Nat) : Bool := (List.range n).any fun i => decide (200 < L i)
theorem longB_true {L : Nat → Nat} {n k : Nat} (hk : k < n) (h : 200 < L k) : longB L n = true := by
  unfold longB; rw [List.any_eq_true]; exact ⟨k, List.mem_range.2 hk, by simpa using h⟩
theorem longB_false {L : Nat → Nat} {n : Nat} (h : ∀ j, j < n → L j ≤ 200) : longB L n = false := by
  unfold longB; rw [List.any_eq_false]; intro x hx; have := h x (List.mem_range.1 hx); simp; omega

set_option maxHeartbeats 400000 in
theorem long_calls (n : Nat) (A : Nat → Option Addr) (L C : Nat → Nat) (b : Nat) (w : World) (hn : n ≤ 1000) (hc : ∀ i, i < n → w.cell? ⟨b, i, none⟩ = some (.slice (A i) (L i) (C i))) :
    Calls Tryz.prog 80 #[.slice (some ⟨b, 0, none⟩) n n] w fun e w' => e = .returned (.bool (longB L n)) ∧ w' = w := by
  have HC : Hid (∀ i, i < n → w.cell? ⟨b, i, none⟩ = some (.slice (A i) (L i) (C i))) := hc
  clear hc
  go_enter Tryz.func80, Tryz.ntmps80
  go_wp2
  go_loop [7] (fun i => ∃ k : Nat, k ≤ n ∧ i = .int .i64 k ∧ Hid (∀ j, j < k → L j ≤ 200)) (fun i => n - (intOf i).toNat)
  case atStart => exact ⟨0, Nat.zero_le _, rfl, fun j hj => by omega⟩
  case round =>
    obtain ⟨k, hk, rfl, hb⟩ := hrel
    by_cases hlt : k < n
    · have c := HC.out k hlt
      obtain ⟨l, hl⟩ : ∃ l, L k = l := ⟨_, rfl⟩
      rw [hl] at c
      have HL : Hid (L k = l) := hl
      clear hl
      by_cases h2 : 200 < l
      · go_wp2
        go_ret
        exact ⟨ret_bool (longB_true hlt (by rw [HL.out]; exact h2)).symm, rfl⟩
      · go_wp2
        go_round
        case rel => exact ⟨k + 1, by omega, by go_num, fun j hj => by
          by_cases e : j = k
          · subst e; rw [HL.out]; omega
          · exact hb.out j (by omega)⟩
        case measure => simp [intOf]; omega
    · go_wp2
      go_ret
      exact ⟨ret_bool (longB_false (fun j hj => hb.out j (by omega))).symm, rfl⟩

theorem eq_of_getD {xs ys : List Int} {n : Nat} (hx : xs.length = n) (hy : ys.length = n) (h : ∀ j, j < n → xs.getD j 0 = ys.getD j 0) : xs = ys := by
  refine List.ext_getElem (by omega) (fun i h1 h2 => ?_)
  have := h i (by omega)
  rw [List.getD_eq_getElem?_getD, List.getD_eq_getElem?_getD, List.getElem?_eq_getElem h1, List.getElem?_eq_getElem h2] at this
  exact this

set_option maxHeartbeats 400000 in
theorem eq_calls (a b : Option Addr) (la ca lb cb : Nat) (xs ys : List Int) (w : World) (ha : Lst w a la ca xs) (hb : Lst w b lb cb ys) (h63 : la ≤ 1000000000000000000) :
    Calls Tryz.prog 25 #[.slice a la ca, .slice b lb cb] w fun e w' => e = .returned (.bool (decide (xs = ys))) ∧ ∃ k, w' = w.drewN k := by
  by_cases hl : la = lb
  · subst hl
    have hab : ((la : Int) != (la : Int)) = false := by simp
    go_enter Tryz.func25, Tryz.ntmps25
    go_wp2
    go_loopw [13] (fun i wr => ∃ k n : Nat, k ≤ la ∧ i = .int .i64 k ∧ Hid (∀ j, j < k → xs.getD j 0 = ys.getD j 0) ∧ wr = w.drewN n) (fun i _ => la - (intOf i).toNat)
    case atStart => exact ⟨0, 0, Nat.zero_le _, rfl, fun j hj => by omega, rfl⟩
    case round =>
      obtain ⟨k, n, hk, rfl, he, rfl⟩ := hrel
      by_cases hlt : k < la
      · obtain ⟨b1, o1, x, rfl, _, c1, HX⟩ := ha.at1 hlt
        obtain ⟨b2, o2, y, rfl, _, c2, HY⟩ := hb.at1 hlt
        by_cases hxy : x = y
        · subst hxy
          have hne : (x != x) = false := by simp
          go_wp2
          go_quiet (fail)
          go_wp2
          go_roundw
          case rel => exact ⟨k + 1, _, by omega, by go_num, fun j hj => by
            by_cases e : j = k
            · subst e; rw [HX.out, HY.out]
            · exact he.out j (by omega), rfl⟩
          case measure => simp [intOf]; omega
        · have hne : (x != y) = true := by simpa using hxy
          go_wp2
          go_quiet (fail)
          go_wp2
          go_ret
          refine ⟨ret_bool ?_, _, World.drewN_drewN _ _ _⟩
          exact (decide_eq_false (fun e => hxy (by rw [← HX.out, ← HY.out, e]))).symm
      · go_wp2
        go_ret
        refine ⟨ret_bool ?_, _, rfl⟩
        exact (decide_eq_true (eq_of_getD ha.len hb.len (fun j hj => he.out j (by omega)))).symm
  · have hab : ((la : Int) != (lb : Int)) = true := by rw [bne_iff_ne]; omega
    go_enter Tryz.func25, Tryz.ntmps25
    go_wp2
    go_ret
    refine ⟨ret_bool ?_, 0, rfl⟩
    exact (decide_eq_false (fun e => hl (by rw [← ha.len, ← hb.len, e]))).symm

set_option maxHeartbeats 400000 in
theorem dot_calls (a b : Option Addr) (la ca cb : Nat) (xs ys : List Int) (w : World) (ha : Lst w a la ca xs) (hb : Lst w b la cb ys) (h63 : la ≤ 1000000000000000000) :
    Calls Tryz.prog 100 #[.slice a la ca, .slice b la cb] w fun e w' => e = .returned (.int .i64 (dotTo xs ys la)) ∧ ∃ k, w' = w.drewN k := by
  go_enter Tryz.func100, Tryz.ntmps100
  go_wp2
  go_loopw [5, 9] (fun s i wr => ∃ k n : Nat, k ≤ la ∧ i = .int .i64 k ∧ s = .int .i64 (dotTo xs ys k) ∧ wr = w.drewN n) (fun _ i _ => la - (intOf i).toNat)
  case atStart => exact ⟨0, 0, Nat.zero_le _, rfl, rfl, rfl⟩
  case round =>
    obtain ⟨k, n, hk, rfl, rfl, hw⟩ := hrel
    have ha' : Lst wr a la ca xs := hw ▸ ha.drewN n
    have hb' : Lst wr b la cb ys := hw ▸ hb.drewN n
    have HW : Hid (wr = w.drewN n) := hw
    clear hw ha hb
    by_cases hlt : k < la
    · obtain ⟨b1, o1, x, rfl, _, c1, HX⟩ := ha'.at1 hlt
      obtain ⟨b2, o2, y, rfl, _, c2, HY⟩ := hb'.at1 hlt
      go_wp2
      go_quiet ((first | (go_at_call 66; exact Calls.quiet_of (mul_calls _ _ _)) | (go_at_call 91; exact Calls.quiet_of_same (add_calls _ _ _))))
      go_wp2
      go_roundw
      case rel => exact ⟨k + 1, _, by omega, by go_num, by simp only [dotTo, HX.out, HY.out], by rw [HW.out, World.drewN_drewN]⟩
      case measure => simp [intOf]; omega
    · go_wp2
      go_ret
      obtain rfl : k = la := by omega
      exact ⟨rfl, _, HW.out⟩

/-- One list, or two, laid for tooLong. -/
theorem long1 (a : Option Addr) (la ca b : Nat) (w : World) (hb : b = w.heap.size) : Calls Tryz.prog 80 #[.slice (some ⟨b, 0, none⟩) 1 1] (w.alloc (.cells #[.slice a la ca] 26)) fun e w' => e = .returned (.bool (decide (200 < la))) ∧ w' = w.alloc (.cells #[.slice a la ca] 26) := by
  subst hb
  have h := World.rowIs_alloc w #[.slice a la ca] 26 (fun _ => .slice a la ca) (by intro i hi; obtain rfl : i = 0 := by simpa using hi
                                                                                   rfl)
  refine (long_calls 1 (fun _ => a) (fun _ => la) (fun _ => ca) w.heap.size _ (by omega) (fun i hi => h.cell hi)).mono ?_
  rintro e w' ⟨rfl, rfl⟩
  exact ⟨ret_bool (by simp [longB]), rfl⟩
theorem long2 (a b : Option Addr) (la ca lb cb g : Nat) (w : World) (hg : g = w.heap.size) : Calls Tryz.prog 80 #[.slice (some ⟨g, 0, none⟩) 2 2] (w.alloc (.cells #[.slice a la ca, .slice b lb cb] 26)) fun e w' => e = .returned (.bool (decide (200 < la ∨ 200 < lb))) ∧ w' = w.alloc (.cells #[.slice a la ca, .slice b lb cb] 26) := by
  subst hg
  have h := World.rowIs_alloc w #[.slice a la ca, .slice b lb cb] 26 (fun i => .slice (if i = 0 then a else b) (if i = 0 then la else lb) (if i = 0 then ca else cb)) (by
    intro i hi
    rcases (show i = 0 ∨ i = 1 from by have : i < 2 := hi
                                       omega) with rfl | rfl <;> rfl)
  refine (long_calls 2 (fun i => if i = 0 then a else b) (fun i => if i = 0 then la else lb) (fun i => if i = 0 then ca else cb) w.heap.size _ (by omega) (fun i hi => h.cell hi)).mono ?_
  rintro e w' ⟨rfl, rfl⟩
  exact ⟨ret_bool (by rw [Bool.eq_iff_iff]; simp [longB, List.range_succ]), rfl⟩

theorem two_calls (a b : Option Addr) (la ca lb cb : Nat) (w : World) :
    Calls Tryz.prog 90 #[.slice a la ca, .slice b lb cb] w fun e w' => e = .returned (.int .i64 (twoI la lb)) ∧ Below w.heap.size w w' := by
  have hb := (Below.refl w.heap.size w).alloc (Nat.le_refl _) (.cells #[.slice a la ca, .slice b lb cb] 26)
  by_cases hl : 200 < la ∨ 200 < lb
  · have hd : decide (200 < la ∨ 200 < lb) = true := decide_eq_true hl
    go_enter Tryz.func90, Tryz.ntmps90
    go_wp2_with (go_at_call 80; refine (long2 _ _ _ _ _ _ _ _ rfl).mono ?_; rintro e w' ⟨rfl, rfl⟩; rw [hd])
    go_ret
    exact ⟨ret_int (by simp only [twoI, if_pos hl]), hb⟩
  · have hd : decide (200 < la ∨ 200 < lb) = false := decide_eq_false hl
    by_cases he : la = lb
    · have ht : ((la : Int) != (lb : Int)) = false := by rw [bne_eq_false_iff_eq]; omega
      have HE : Hid (la = lb) := he
      clear he
      go_enter Tryz.func90, Tryz.ntmps90
      go_wp2_with (go_at_call 80; refine (long2 _ _ _ _ _ _ _ _ rfl).mono ?_; rintro e w' ⟨rfl, rfl⟩; rw [hd])
      go_ret
      exact ⟨ret_int (by simp only [twoI, if_neg hl, if_pos HE.out]), hb⟩
    · have ht : ((la : Int) != (lb : Int)) = true := by rw [bne_iff_ne]; omega
      go_enter Tryz.func90, Tryz.ntmps90
      go_wp2_with (go_at_call 80; refine (long2 _ _ _ _ _ _ _ _ rfl).mono ?_; rintro e w' ⟨rfl, rfl⟩; rw [hd])
      go_ret
      exact ⟨ret_int (by simp only [twoI, if_neg hl, if_neg he]), hb⟩
end Go.Proofs.YtkikhfdkibekgaaGreat.Fx

/- What vec.Dot returns: whatever lists lie there. -/
namespace Go.Proofs.YtkikhfdkibekgaaGreat.Fx
open Go.RowKit

theorem info3 : (Tryz.prog.info? 3).map (fun i => (i.zero, i.size, i.bytes)) = some (some (.int .i64 0), 1, 8) := by kernel_rfl

theorem twoI_cases (la lb : Nat) : (twoI la lb = 0 ∧ la = lb ∧ la ≤ 200) ∨ (twoI la lb ≠ 0 ∧ (twoI la lb != 0) = true) := by
  unfold twoI
  by_cases h : 200 < la ∨ 200 < lb
  · rw [if_pos h]; exact .inr ⟨by decide, by decide⟩
  · rw [if_neg h]
    by_cases e : la = lb
    · rw [if_pos e]; exact .inl ⟨rfl, e, by omega⟩
    · rw [if_neg e]; exact .inr ⟨by decide, by decide⟩

end Go.Proofs.YtkikhfdkibekgaaGreat.Fx

/- A list of integers that the program itself makes by append: what is known of it, and what one append more leaves. -/
namespace Go.Proofs.YtkikhfdkibekgaaGreat.Fx
open Go.RowKit

/-- The slice value v, made from block number base on, owns the integers xs. -/
def OwnI (base : Nat) (w : World) (v : Value) (xs : List Int) : Prop := w.ownsRow base 3 1 v xs.length (xs.map (Value.int .i64))

theorem OwnI.nil (base : Nat) (w : World) : OwnI base w (.slice none 0 0) [] := World.ownsRow_nil _ _ _ _
theorem OwnI.drew {base : Nat} {w : World} {v : Value} {xs : List Int} (h : OwnI base w v xs) : OwnI base w.drew v xs := h
theorem OwnI.drewN {base : Nat} {w : World} {v : Value} {xs : List Int} (h : OwnI base w v xs) (n : Nat) : OwnI base (w.drewN n) v xs := h
theorem OwnI.alloc {base : Nat} {w : World} {v : Value} {xs : List Int} (h : OwnI base w v xs) (o : Obj) : OwnI base (w.alloc o) v xs := World.ownsRow.alloc h o
theorem OwnI.below {base : Nat} {w w' : World} {v : Value} {xs : List Int} (h : OwnI base w v xs) (hb : Below w.heap.size w w') : OwnI base w' v xs := by
  refine ⟨h.1, ?_⟩
  rcases h.2 with h0 | ⟨g, cap, cur, hv, hg, hh, r⟩
  · exact .inl h0
  · exact .inr ⟨g, cap, cur, hv, hg, by rw [hb.block g (Array.getElem?_eq_some_iff.1 hh).1]; exact hh, r⟩
theorem OwnI.lst {base : Nat} {w : World} {v : Value} {xs : List Int} (h : OwnI base w v xs) : ∃ a c, v = .slice a xs.length c ∧ Lst w a xs.length c xs := Lst.owned h
theorem OwnI.lst' {base : Nat} {w : World} {v : Value} {xs : List Int} {n : Nat} (h : OwnI base w v xs) (hn : xs.length = n) : ∃ a c, v = .slice a n c ∧ Lst w a n c xs := by
  subst hn; exact Lst.owned h
theorem OwnI.congr {base : Nat} {w : World} {v : Value} {xs ys : List Int} (h : OwnI base w v xs) (e : xs = ys) : OwnI base w v ys := e ▸ h
theorem range_snoc (g : Nat → Int) (k : Nat) (x : Int) (h : g k = x) : (List.range k).map g ++ [x] = (List.range (k + 1)).map g := by
  rw [List.range_succ, List.map_append, List.map_singleton, h]

section
variable {w' W0 : World} {ops : Array Oper} {o : Oper} {a : Act} {Q : Exit → Act → World → Prop}

theorem run_append_int (ty : TypeId) (base : Nat) (v : Value) (xs : List Int) (z : Int) (g : Nat) (hown : OwnI base w' v xs) (hc : w'.cell? ⟨g, 0, none⟩ = some (.int .i64 z))
    (hn : (xs.length + 1) * 8 ≤ 140737488355328) (hbase : base ≤ w'.heap.size) (hB : Below base W0 w') :
    ∃ v' w1, (Builtin.append_ #[26, 26] ty #[v, .slice (some ⟨g, 0, none⟩) 1 1]).run Tryz.prog w' = .ok v' w1 ∧ OwnI base w1 v' (xs ++ [z]) ∧ Below base W0 w1 := by
  obtain ⟨i0, hi, hz0, hz1, hz2⟩ := info_parts info3
  obtain ⟨v', w1, hrun, h1, h2, _⟩ := run_append_own (P := Tryz.prog) w' base 26 ty 3 i0 (.int .i64 0) 1 8 Tryz.underlying26 hi hz0 hz1 hz2 rfl (by decide) v xs.length _ hown ⟨g, 0, none⟩ 1 1 [.int .i64 z] rfl
    (by intro j u hj
        match j, hj with
        | 0, hj => simp at hj; subst hj; simpa [Addr.add] using hc)
    (by intro u hu; simp at hu; subst hu; rfl) (by unfold maxLen; omega) hn hbase
  refine ⟨v', w1, hrun, by unfold OwnI; rw [List.length_append, List.map_append]; exact h1, hB.grown h2 hbase ?_⟩
  intro k hk
  rcases hown.2 with ⟨rfl, _⟩ | ⟨g', cap, cur, rfl, hg, _⟩
  · simp [Value.ownBlock] at hk
  · simp [Value.ownBlock] at hk; omega

theorem wpList_append_int {rest : List Oper} (hgd : o.guard = none) (s x : Operand) (ho : o.op = .call { callee := .builtin .append, args := #[s, x], argTypes := #[26, 26] })
    (base : Nat) (v : Value) (xs : List Int) (z : Int) (g : Nat) (W0 : World) (hs : a.eval s = v) (hx : a.eval x = .slice (some ⟨g, 0, none⟩) 1 1) (hown : OwnI base w' v xs) (hc : w'.cell? ⟨g, 0, none⟩ = some (.int .i64 z))
    (hn : (xs.length + 1) * 8 ≤ 140737488355328) (hbase : base ≤ w'.heap.size) (hB : Below base W0 w')
    (h : ∀ v' w1, OwnI base w1 v' (xs ++ [z]) → Below base W0 w1 → wpList Tryz.prog ops Q rest (a.put o.dst v') w1) : wpList Tryz.prog ops Q (o :: rest) a w' := by
  obtain ⟨v', w1, hrun, h1, h2⟩ := run_append_int o.type base v xs z g hown hc hn hbase hB
  refine wpList_plain hgd fun K hK => ?_
  unfold Oper.wp
  simp [execOp, ho, resolve, invoke, builtin, hs, hx, hrun, Result.andThen]
  exact hK _ _ (h v' w1 h1 h2)

theorem step_append_int {K : Act → World → Prop} {E : Prop} (hgd : o.guard = none) (s x : Operand) (ho : o.op = .call { callee := .builtin .append, args := #[s, x], argTypes := #[26, 26] })
    (base : Nat) (v : Value) (xs : List Int) (z : Int) (g : Nat) (W0 : World) (hs : a.eval s = v) (hx : a.eval x = .slice (some ⟨g, 0, none⟩) 1 1) (hown : OwnI base w' v xs) (hc : w'.cell? ⟨g, 0, none⟩ = some (.int .i64 z))
    (hn : (xs.length + 1) * 8 ≤ 140737488355328) (hbase : base ≤ w'.heap.size) (hB : Below base W0 w')
    (h : ∀ v' w1, OwnI base w1 v' (xs ++ [z]) → Below base W0 w1 → K (a.put o.dst v') w1) :
    if Region.wanted o (yielded ops a.tmps) = true then Oper.wp Tryz.prog o a w' K Q else E := by
  obtain ⟨v', w1, hrun, h1, h2⟩ := run_append_int o.type base v xs z g hown hc hn hbase hB
  have hw : Region.wanted o (yielded ops a.tmps) = true := by simp [Region.wanted, hgd]
  rw [if_pos hw]
  unfold Oper.wp
  simp [execOp, ho, resolve, invoke, builtin, hs, hx, hrun, Result.andThen]
  exact h v' w1 h1 h2
end
end Go.Proofs.YtkikhfdkibekgaaGreat.Fx
