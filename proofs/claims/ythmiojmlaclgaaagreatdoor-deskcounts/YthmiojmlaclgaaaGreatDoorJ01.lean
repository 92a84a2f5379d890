/- What digest.of, Of, Pair and Word return, whatever words lie there. -/
import Derived.Test.YthmiojmlaclgaaaGreatDoorJ00
import Derived.Test.YthmiojmlaclgaaaGreatDoorRows
import Derived.WalkKit
import Derived.Deep.QuietTactic
import Derived.BigQuiet
import Derived.BigRegion
import Derived.Deep.RegionWith
import Derived.Deep.AppendLies
import Derived.Deep.RegionHeld3
import Derived.RegionTactic
namespace Go.Proofs.YthmiojmlaclgaaaGreatDoor.Fx
open Go.RowKit

set_option maxHeartbeats 1600000 in
theorem dof_calls (kind : Int) (hk : okW kind) (a : Option Addr) (len cap : Nat) (xs : List Int) (w : World) (ha : LstW w a len cap xs) (hx : okL xs) (hlen : len ≤ 200) :
    Calls Tryz.prog 216 #[.int .u64 kind, .slice a len cap] w fun e w' => e = .returned (.int .u64 (ofP kind xs)) ∧ Below w.heap.size w w' := by
  obtain ⟨k0, k1⟩ := hk
  have p0 : okP (kind % 2305843009213693951) := ⟨by omega, by omega⟩
  have p1 : okP (len : Int) := ⟨by omega, by omega⟩
  have p2 : okP 1 := ⟨by omega, by omega⟩
  have HX : Hid (okL xs) := hx
  have HL : Hid (xs.length = len) := ha.len
  clear hx
  go_enter Tryz.func216, Tryz.ntmps216
  go_wp2_with (go_at_call 232; refine (dmix3 _ _ _ p0 p1 p2 _).mono ?_; rintro e w1 ⟨m, HM, rfl, hw1⟩)
  go_loopw [17] (fun i wr => ∃ (k : Nat) (t : Tri), k ≤ len ∧ i = .int .i64 k ∧ Hid (t = ofTo kind xs k) ∧ OfRel 258 w w1.heap.size t wr) (fun i _ => len - (intOf i).toNat)
  case atStart => exact ⟨0, m, Nat.zero_le _, rfl, by rw [HM.out, ← HL.out]; rfl, OfRel.start hw1 _ _ _⟩
  case round =>
    obtain ⟨k, t, hk, rfl, HT, R⟩ := hrel
    obtain ⟨c0, c1, c2⟩ := fnT_cells R.box
    by_cases hlt : k < len
    · obtain ⟨b1, o1, y, rfl, s1, g1, HY⟩ := ha.at1b R.old (Nat.le_refl _) hlt
      have ht : t.ok := by rw [HT.out]; exact ofTo_ok _ _ _
      obtain ⟨t0, t1, t2⟩ := ht
      have hy : okW y := by rw [← HY.out]; exact HX.out k (by rw [HL.out]; exact hlt)
      obtain ⟨y0, y1⟩ := hy
      have py : okP (y % 2305843009213693951) := ⟨by omega, by omega⟩
      have f0 := R.box.frozen 0
      clear ha
      go_wp2_with (first | (go_at_call 233; refine (dadd_calls _ _ t0 py _).mono ?_; rintro e w' ⟨rfl, hw'⟩; replace hw' := hw'.symm; subst hw'; rw [addP_mod]) | (go_at_call 232; refine (dmix3 _ _ _ (addP_ok _ _) t1 t2 _).mono ?_; rintro e w2 ⟨m2, HM2, rfl, hw2⟩; have R2 := (R.set0 _).below hw2; obtain ⟨e0, e1, e2⟩ := fnT_cells R2.box; have z0 := R2.box.frozen 0; have z1 := R2.box.frozen 1; have z2 := R2.box.frozen 2))
      go_roundw
      case rel => exact ⟨k + 1, _, by omega, by go_num, by rw [HM2.out, HT.out, ← HY.out]; rfl, R2.set _ _ _⟩
      case measure => simp [intOf]; omega
    · obtain rfl : k = len := by omega
      go_wp2
      go_ret
      exact ⟨ret_word (by rw [HT.out]; unfold ofP; rw [HL.out]), R.old⟩

def bigI (n : Nat) : Int := if 200 < n then 2 else 0
def ofA (kind : Int) (xs : List Int) (n : Nat) : Int := if 200 < n then 0 else ofP kind xs

theorem dOf_calls (kind : Int) (hk : okW kind) (a : Option Addr) (len cap : Nat) (xs : List Int) (w : World) (ha : LstW w a len cap xs) (hx : okL xs) :
    Calls Tryz.prog 210 #[.int .u64 kind, .slice a len cap] w fun e w' => e = .returned (.tuple #[.int .u64 (ofA kind xs len), .int .i64 (bigI len)]) ∧ Below w.heap.size w w' := by
  unfold ofA bigI
  by_cases h : 200 < len
  · rw [if_pos h, if_pos h]
    go_enter Tryz.func210, Tryz.ntmps210
    go_wp2
    go_ret2
    exact ⟨rfl, Below.refl _ _⟩
  · rw [if_neg h, if_neg h]
    go_enter Tryz.func210, Tryz.ntmps210
    go_wp2_with (go_at_call 216; refine (dof_calls _ hk _ _ _ xs _ ha hx (by omega)).mono ?_; rintro e w' ⟨rfl, hw⟩)
    go_ret2
    exact ⟨rfl, hw⟩

theorem okL_two {a b : Int} (ha : okW a) (hb : okW b) : okL [a, b] := by
  intro i hi
  rcases (show i = 0 ∨ i = 1 from by simp at hi; omega) with rfl | rfl
  · exact ha
  · exact hb

theorem dPair_calls (a b : Int) (ha : okW a) (hb : okW b) (w : World) : Calls Tryz.prog 237 #[.int .u64 a, .int .u64 b] w fun e w' => e = .returned (.int .u64 (ofP 3 [a, b])) ∧ Below w.heap.size w w' := by
  go_enter Tryz.func237, Tryz.ntmps237
  go_wp2_with (go_at_call 216; refine (dof_calls _ ⟨by omega, by omega⟩ _ _ _ [a, b] _ (LstW.two _ _ _ _) (okL_two ha hb) (by omega)).mono ?_; rintro e w' ⟨rfl, hw⟩)
  go_ret
  exact ⟨rfl, ((Below.refl _ _).alloc (Nat.le_refl _) _).trans (hw.mono (by simp))⟩

theorem dWord_calls (a b : Int) (ha : okW a) (hb : okW b) (w : World) : Calls Tryz.prog 180 #[.int .u64 a, .int .u64 b] w fun e w' => e = .returned (.int .u64 (ofP 2 [a, b])) ∧ Below w.heap.size w w' := by
  go_enter Tryz.func180, Tryz.ntmps180
  go_wp2_with (go_at_call 216; refine (dof_calls _ ⟨by omega, by omega⟩ _ _ _ [a, b] _ (LstW.two _ _ _ _) (okL_two ha hb) (by omega)).mono ?_; rintro e w' ⟨rfl, hw⟩)
  go_ret
  exact ⟨rfl, ((Below.refl _ _).alloc (Nat.le_refl _) _).trans (hw.mono (by simp))⟩

def numG (xs : List Int) (i : Nat) : Int := boundP (xs.getD i 0)
def numL (xs : List Int) (n : Nat) : List Int := if 200 < n then [] else (List.range n).map (numG xs)
theorem bound_min (x : Int) : (if 4294967296 < if x < -4294967296 then -4294967296 else x then 4294967296 else if x < -4294967296 then -4294967296 else x) + 4294967296 = boundP x := by
  unfold boundP
  by_cases h : x < -4294967296
  · rw [if_pos h, if_pos h, if_neg (by omega)]
  · rw [if_neg h, if_neg h]
theorem infoW : (Tryz.prog.info? 48).map (fun i => (i.zero, i.size, i.bytes)) = some (some (.int .u64 0), 1, 8) := by kernel_rfl

set_option maxHeartbeats 1600000 in
theorem dNumbers_calls (a : Option Addr) (la ca : Nat) (xs : List Int) (w : World) (ha : Lst w a la ca xs) :
    Calls Tryz.prog 244 #[.slice a la ca] w fun e w' => ∃ a' n, e = .returned (.tuple #[.slice a' n n, .int .i64 (bigI la)]) ∧ n ≤ 200 ∧ LstW w' a' n n (numL xs la) ∧ Below w.heap.size w w' := by
  unfold numL bigI
  by_cases hl : 200 < la
  · rw [if_pos hl, if_pos hl]
    clear ha
    go_enter Tryz.func244, Tryz.ntmps244
    go_wp2
    go_ret2
    exact ⟨_, _, rfl, Nat.zero_le _, LstW.nil _ _ _, Below.refl _ _⟩
  · rw [if_neg hl, if_neg hl]
    have hmk := run_make_row' (P := Tryz.prog) 144 48 (.int .u64 0) 8 Tryz.underlying144 infoW rfl .i64 .i64 la (by omega) (by omega)
    go_enter Tryz.func244, Tryz.ntmps244
    go_wp2
    go_loopw [15] (fun i wr => ∃ k : Nat, k ≤ la ∧ i = .int .i64 k ∧ wr.rowIs w.heap.size 48 la (rowToW (numG xs) k) ∧ Below w.heap.size w wr) (fun i _ => la - (intOf i).toNat)
    case atStart => exact ⟨0, Nat.zero_le _, rfl, rowToW_made (World.rowIs_made _ _ _ _), (Below.refl _ _).alloc (Nat.le_refl _) _⟩
    case round =>
      obtain ⟨k, hk, rfl, hrow, hbel⟩ := hrel
      have ha' := ha.below hbel (Nat.le_refl _)
      clear ha hmk
      by_cases hlt : k < la
      · obtain ⟨b1, o1, x, rfl, _, c1, HX⟩ := ha'.at1 hlt
        have c3 := rowToW_cell hrow hlt
        have f3 := hrow.frozen k
        go_wp2
        rw [bound_min]
        go_roundw
        case rel =>
          have st := rowToW_step (g := numG xs) hrow
          simp only [numG, HX.out] at st
          exact ⟨k + 1, by omega, by go_num, st, hbel.setCell (Nat.le_refl _) _⟩
        case measure => simp [intOf]; omega
      · go_wp2
        go_ret2
        obtain rfl : k = la := by omega
        exact ⟨_, _, rfl, by omega, rowToW_lst hrow, hbel⟩

end Go.Proofs.YthmiojmlaclgaaaGreatDoor.Fx

/- What each function of package fix returns, called with whatever integers: the plain numbers of the text Fix; the world is as it was, but for what was drawn of the open order. -/
namespace Go.Proofs.YthmiojmlaclgaaaGreatDoor.Fx
open Go.RowKit

theorem ret_int {k : IntKind} {a b : Int} (h : a = b) : Ending.returned (.int k a) = .returned (.int k b) := by rw [h]

theorem ret_bool {a b : Bool} (h : a = b) : Ending.returned (.bool a) = .returned (.bool b) := by rw [h]
theorem narrow_calls (n : Int) (w : World) : Calls Tryz.prog 195 #[.int .i64 n] w fun e w' => e = .returned (.int .i64 (clampI n)) ∧ w' = w := by
  by_cases h0 : n < -2147483647
  · go_enter Tryz.func195, Tryz.ntmps195
    go_wp2
    go_ret
    exact ⟨ret_int (by unfold clampI; rw [if_pos (by omega)]), rfl⟩
  · by_cases h1 : 2147483647 < n
    · go_enter Tryz.func195, Tryz.ntmps195
      go_wp2
      go_ret
      exact ⟨ret_int (by unfold clampI; rw [if_neg (by omega), if_pos h1]), rfl⟩
    · go_enter Tryz.func195, Tryz.ntmps195
      go_wp2
      go_ret
      exact ⟨ret_int (by unfold clampI; rw [if_neg (by omega), if_neg (by omega)]), rfl⟩

theorem clamp_calls (n : Int) (w : World) : Calls Tryz.prog 137 #[.int .i64 n] w fun e w' => e = .returned (.int .i64 (clampI n)) ∧ w' = w := by
  go_enter Tryz.func137, Tryz.ntmps137
  go_wp2_with (go_at_call 195; refine (narrow_calls _ _).mono ?_; rintro e w' ⟨rfl, rfl⟩)
  go_ret
  exact ⟨rfl, rfl⟩

theorem wide_calls (n : Int) (w : World) : Calls Tryz.prog 198 #[.int .i64 n] w fun e w' => e = .returned (.int .i64 (clampI n)) ∧ w' = w := by
  go_enter Tryz.func198, Tryz.ntmps198
  go_wp2_with (go_at_call 137; refine (clamp_calls _ _).mono ?_; rintro e w' ⟨rfl, rfl⟩)
  go_ret
  exact ⟨rfl, rfl⟩

theorem add_calls (a b : Int) (w : World) : Calls Tryz.prog 200 #[.int .i64 a, .int .i64 b] w fun e w' => e = .returned (.int .i64 (addI a b)) ∧ w' = w := by
  have ha := clampI_bd a
  have hb := clampI_bd b
  go_enter Tryz.func200, Tryz.ntmps200
  go_wp2_with (first | (go_at_call 198; refine (wide_calls _ _).mono ?_; rintro e w' ⟨rfl, rfl⟩) | (go_at_call 195; refine (narrow_calls _ _).mono ?_; rintro e w' ⟨rfl, rfl⟩))
  go_ret
  exact ⟨rfl, rfl⟩

theorem sub_calls (a b : Int) (w : World) : Calls Tryz.prog 140 #[.int .i64 a, .int .i64 b] w fun e w' => e = .returned (.int .i64 (subI a b)) ∧ w' = w := by
  have ha := clampI_bd a
  have hb := clampI_bd b
  go_enter Tryz.func140, Tryz.ntmps140
  go_wp2_with (first | (go_at_call 198; refine (wide_calls _ _).mono ?_; rintro e w' ⟨rfl, rfl⟩) | (go_at_call 195; refine (narrow_calls _ _).mono ?_; rintro e w' ⟨rfl, rfl⟩))
  go_ret
  exact ⟨rfl, rfl⟩

theorem quo_pos (n d : Int) (w : World) (hn0 : 0 ≤ n) (hn1 : n ≤ 4611686018427387904) (hd0 : 0 < d) (hd1 : d ≤ 2147483648) :
    Calls Tryz.prog 218 #[.int .i64 n, .int .i64 d] w fun e w' => e = .returned (.int .i64 (rnd n d)) ∧ ∃ k, w' = w.drewN k := by
  have l := Int.emod_nonneg n (b := d) (by omega)
  have u := Int.emod_lt_of_pos n hd0
  have q0 : 0 ≤ n / d := Int.ediv_nonneg hn0 (by omega)
  have q1 : n / d ≤ n := Int.ediv_le_self _ hn0
  go_enter Tryz.func218, Tryz.ntmps218
  go_wp2
  go_region
  all_goals
    go_wp2
  all_goals
    go_ret
    refine ⟨ret_int (rnd_of rfl rfl ?_ ?_), 1, rfl⟩ <;> intro h <;> (try simp only [bne_iff_ne, bne_eq_false_iff_eq] at *) <;> omega

theorem quo_neg (n d : Int) (w : World) (hn0 : n < 0) (hn1 : -4611686018427387904 ≤ n) (hd0 : 0 < d) (hd1 : d ≤ 2147483648) :
    Calls Tryz.prog 218 #[.int .i64 n, .int .i64 d] w fun e w' => e = .returned (.int .i64 (rnd n d)) ∧ ∃ k, w' = w.drewN k := by
  have t := tmod_bd n d hd0
  have q0 := tdiv_bd n d 4611686018427387904 hn1 (by omega)
  by_cases hr : n.tmod d < 0
  · go_enter Tryz.func218, Tryz.ntmps218
    go_wp2
    go_region
    all_goals
      go_wp2
    all_goals
      go_ret
      have f := (floor_of (n := n) hd0).1 hr
      refine ⟨ret_int (rnd_of f.1 f.2 ?_ ?_), 1, rfl⟩ <;> intro h <;> (try simp only [bne_iff_ne, bne_eq_false_iff_eq, odd_tmod, ne_eq] at *) <;> omega
  · go_enter Tryz.func218, Tryz.ntmps218
    go_wp2
    go_region
    all_goals
      go_wp2
    all_goals
      go_ret
      have f := (floor_of (n := n) hd0).2 (by omega)
      refine ⟨ret_int (rnd_of f.1 f.2 ?_ ?_), 1, rfl⟩ <;> intro h <;> (try simp only [bne_iff_ne, bne_eq_false_iff_eq, odd_tmod, ne_eq] at *) <;> omega

theorem quo_dneg_pos (n d : Int) (w : World) (hn0 : n ≤ 0) (hn1 : -4611686018427387904 ≤ n) (hd0 : d < 0) (hd1 : -2147483648 ≤ d) :
    Calls Tryz.prog 218 #[.int .i64 n, .int .i64 d] w fun e w' => e = .returned (.int .i64 (rnd (-n) (-d))) ∧ ∃ k, w' = w.drewN k := by
  have t := tmod_dneg n d hd0
  have q0 := tdiv_bd n d 4611686018427387904 hn1 (by omega)
  have hs := (tmod_sign n d).1 hn0
  go_enter Tryz.func218, Tryz.ntmps218
  go_wp2
  go_region
  all_goals
    go_wp2
  all_goals
    go_ret
    have f := (floor_dneg (n := n) hd0).2 (by omega)
    refine ⟨ret_int (rnd_of f.1 f.2 ?_ ?_), 1, rfl⟩ <;> intro h <;> (try simp only [bne_iff_ne, bne_eq_false_iff_eq, odd_tmod, ne_eq] at *) <;> omega

theorem quo_dneg_neg (n d : Int) (w : World) (hn0 : 0 < n) (hn1 : n ≤ 4611686018427387904) (hd0 : d < 0) (hd1 : -2147483648 ≤ d) :
    Calls Tryz.prog 218 #[.int .i64 n, .int .i64 d] w fun e w' => e = .returned (.int .i64 (rnd (-n) (-d))) ∧ ∃ k, w' = w.drewN k := by
  have t := tmod_dneg n d hd0
  have q0 := tdiv_bd n d 4611686018427387904 (by omega) hn1
  have hs := ((tmod_sign n d).2 (by omega)).2
  have he := ((tmod_sign n d).2 (by omega)).1
  rw [he] at t hs
  clear he
  by_cases hr : -(n % d) < 0
  · go_enter Tryz.func218, Tryz.ntmps218
    go_wp2
    go_region
    all_goals
      go_wp2
    all_goals
      go_ret
      all_goals
      have f := (floor_dneg (n := n) hd0).1
      rw [((tmod_sign n d).2 (by omega)).1] at f
      have f := f (by omega)
      refine ⟨ret_int (rnd_of f.1 f.2 ?_ ?_), 1, rfl⟩ <;> intro h <;> (try simp only [bne_iff_ne, bne_eq_false_iff_eq, odd_tmod, ne_eq] at *) <;> omega
  · go_enter Tryz.func218, Tryz.ntmps218
    go_wp2
    go_region
    all_goals
      go_wp2
    all_goals
      go_ret
      all_goals
      have f := (floor_dneg (n := n) hd0).2
      rw [((tmod_sign n d).2 (by omega)).1] at f
      have f := f (by omega)
      refine ⟨ret_int (rnd_of f.1 f.2 ?_ ?_), 1, rfl⟩ <;> intro h <;> omega

theorem quo_calls (n d : Int) (w : World) (hn0 : -4611686018427387904 ≤ n) (hn1 : n ≤ 4611686018427387904) (hd : d ≠ 0) (hd0 : -2147483648 ≤ d) (hd1 : d ≤ 2147483648) :
    Calls Tryz.prog 218 #[.int .i64 n, .int .i64 d] w fun e w' => e = .returned (.int .i64 (quoI n d)) ∧ ∃ k, w' = w.drewN k := by
  unfold quoI
  by_cases c : d < 0
  · rw [if_pos c]
    by_cases c2 : n ≤ 0
    · exact quo_dneg_pos n d w c2 hn0 c hd0
    · exact quo_dneg_neg n d w (by omega) hn1 c hd0
  · rw [if_neg c]
    by_cases c2 : 0 ≤ n
    · exact quo_pos n d w c2 hn1 (by omega) hd1
    · exact quo_neg n d w (by omega) hn0 (by omega) hd1

theorem mul_calls (a b : Int) (w : World) : Calls Tryz.prog 190 #[.int .i64 a, .int .i64 b] w fun e w' => e = .returned (.int .i64 (mulI a b)) ∧ ∃ k, w' = w.drewN k := by
  have hp := prod_bd _ _ (clampI_bd a) (clampI_bd b)
  go_enter Tryz.func190, Tryz.ntmps190
  go_wp2_with (first | (go_at_call 198; refine (wide_calls _ _).mono ?_; rintro e w' ⟨rfl, rfl⟩) | (go_at_call 195; refine (narrow_calls _ _).mono ?_; rintro e w' ⟨rfl, rfl⟩) | (go_at_call 218; refine (quo_calls _ _ _ (by omega) (by omega) (by omega) (by omega) (by omega)).mono ?_; rintro e w' ⟨rfl, k, rfl⟩))
  go_ret
  exact ⟨rfl, _, rfl⟩

theorem div_calls (a b : Int) (w : World) (hb : b ≠ 0) : Calls Tryz.prog 185 #[.int .i64 a, .int .i64 b] w fun e w' => e = .returned (.tuple #[.int .i64 (divI a b), .int .i64 0]) ∧ ∃ k, w' = w.drewN k := by
  have ha := clampI_bd a
  have hc := clampI_bd b
  have hz : (b == 0) = false := beq_eq_false_iff_ne.2 hb
  have hn := clampI_ne hb
  go_enter Tryz.func185, Tryz.ntmps185
  go_wp2_with (first | (go_at_call 198; refine (wide_calls _ _).mono ?_; rintro e w' ⟨rfl, rfl⟩) | (go_at_call 195; refine (narrow_calls _ _).mono ?_; rintro e w' ⟨rfl, rfl⟩) | (go_at_call 218; refine (quo_calls _ _ _ (by omega) (by omega) (by omega) (by omega) (by omega)).mono ?_; rintro e w' ⟨rfl, k, rfl⟩))
  go_ret2
  exact ⟨rfl, _, rfl⟩

end Go.Proofs.YthmiojmlaclgaaaGreatDoor.Fx

/- What the small functions of package vec return (tooLong, checkTwo, dot, Dot), and slices.Equal over integers: whatever lists lie there. -/
namespace Go.Proofs.YthmiojmlaclgaaaGreatDoor.Fx
open Go.RowKit

/-- What two lists that should go together are told: too long, not as long, or nothing. -/
def twoI (la lb : Nat) : Int := if 200 < la ∨ 200 < lb then 2 else if la = lb then 0 else 5
def longB (L : Nat → Nat) (n : Nat) : Bool := (List.range n).any fun i => decide (200 < L i)
theorem longB_true {L : Nat → Nat} {n k : Nat} (hk : k < n) (h : 200 < L k) : longB L n = true := by
  unfold longB; rw [List.any_eq_true]; exact ⟨k, List.mem_range.2 hk, by simpa using h⟩
theorem longB_false {L : Nat → Nat} {n : Nat} (h : ∀ j, j < n → L j ≤ 200) : longB L n = false := by
  unfold longB; rw [List.any_eq_false]; intro x hx; have := h x (List.mem_range.1 hx); simp; omega

set_option maxHeartbeats 400000 in
theorem long_calls (n : Nat) (A : Nat → Option Addr) (L C : Nat → Nat) (b : Nat) (w : World) (hn : n ≤ 1000) (hc : ∀ i, i < n → w.cell? ⟨b, i, none⟩ = some (.slice (A i) (L i) (C i))) :
    Calls Tryz.prog 199 #[.slice (some ⟨b, 0, none⟩) n n] w fun e w' => e = .returned (.bool (longB L n)) ∧ w' = w := by
  have HC : Hid (∀ i, i < n → w.cell? ⟨b, i, none⟩ = some (.slice (A i) (L i) (C i))) := hc
  clear hc
  go_enter Tryz.func199, Tryz.ntmps199
  go_wp2
  go_loop [7] (fun i => ∃ k : Nat, k ≤ n ∧ i = .int .i64 k ∧ Hid (∀ j, j < k → L j ≤ 200)) (fun i => n - (intOf i).toNat)
  case atStart => exact ⟨0, Nat.zero_le _, rfl, fun j hj => by omega⟩
  case round =>
    obtain ⟨k, hk, rfl, hb⟩ := hrel
    by_cases hlt : k < n
    · have c := HC.out k hlt
      obtain ⟨l, hl⟩ : ∃ l, L k = l := ⟨_, rfl⟩
      rw [hl] at c
      have HL : Hid (L k = l) := hl
      clear hl
      by_cases h2 : 200 < l
      · go_wp2
        go_ret
        exact ⟨ret_bool (longB_true hlt (by rw [HL.out]; exact h2)).symm, rfl⟩
      · go_wp2
        go_round
        case rel => exact ⟨k + 1, by omega, by go_num, fun j hj => by
          by_cases e : j = k
          · subst e; rw [HL.out]; omega
          · exact hb.out j (by omega)⟩
        case measure => simp [intOf]; omega
    · go_wp2
      go_ret
      exact ⟨ret_bool (longB_false (fun j hj => hb.out j (by omega))).symm, rfl⟩

theorem eq_of_getD {xs ys : List Int} {n : Nat} (hx : xs.length = n) (hy : ys.length = n) (h : ∀ j, j < n → xs.getD j 0 = ys.getD j 0) : xs = ys := by
  refine List.ext_getElem (by omega) (fun i h1 h2 => ?_)
  have := h i (by omega)
  rw [List.getD_eq_getElem?_getD, List.getD_eq_getElem?_getD, List.getElem?_eq_getElem h1, List.getElem?_eq_getElem h2] at this
  exact this

set_option maxHeartbeats 400000 in
theorem dot_calls (a b : Option Addr) (la ca cb : Nat) (xs ys : List Int) (w : World) (ha : Lst w a la ca xs) (hb : Lst w b la cb ys) (h63 : la ≤ 1000000000000000000) :
    Calls Tryz.prog 142 #[.slice a la ca, .slice b la cb] w fun e w' => e = .returned (.int .i64 (dotTo xs ys la)) ∧ ∃ k, w' = w.drewN k := by
  go_enter Tryz.func142, Tryz.ntmps142
  go_wp2
  go_loopw [5, 9] (fun s i wr => ∃ k n : Nat, k ≤ la ∧ i = .int .i64 k ∧ s = .int .i64 (dotTo xs ys k) ∧ wr = w.drewN n) (fun _ i _ => la - (intOf i).toNat)
  case atStart => exact ⟨0, 0, Nat.zero_le _, rfl, rfl, rfl⟩
  case round =>
    obtain ⟨k, n, hk, rfl, rfl, hw⟩ := hrel
    have ha' : Lst wr a la ca xs := hw ▸ ha.drewN n
    have hb' : Lst wr b la cb ys := hw ▸ hb.drewN n
    have HW : Hid (wr = w.drewN n) := hw
    clear hw ha hb
    by_cases hlt : k < la
    · obtain ⟨b1, o1, x, rfl, _, c1, HX⟩ := ha'.at1 hlt
      obtain ⟨b2, o2, y, rfl, _, c2, HY⟩ := hb'.at1 hlt
      go_wp2
      go_quiet ((first | (go_at_call 190; exact Calls.quiet_of (mul_calls _ _ _)) | (go_at_call 200; exact Calls.quiet_of_same (add_calls _ _ _))))
      go_wp2
      go_roundw
      case rel => exact ⟨k + 1, _, by omega, by go_num, by simp only [dotTo, HX.out, HY.out], by rw [HW.out, World.drewN_drewN]⟩
      case measure => simp [intOf]; omega
    · go_wp2
      go_ret
      obtain rfl : k = la := by omega
      exact ⟨rfl, _, HW.out⟩

/-- One list, or two, laid for tooLong. -/
theorem long1 (a : Option Addr) (la ca b : Nat) (w : World) (hb : b = w.heap.size) : Calls Tryz.prog 199 #[.slice (some ⟨b, 0, none⟩) 1 1] (w.alloc (.cells #[.slice a la ca] 66)) fun e w' => e = .returned (.bool (decide (200 < la))) ∧ w' = w.alloc (.cells #[.slice a la ca] 66) := by
  subst hb
  have h := World.rowIs_alloc w #[.slice a la ca] 66 (fun _ => .slice a la ca) (by intro i hi; obtain rfl : i = 0 := by simpa using hi
                                                                                   rfl)
  refine (long_calls 1 (fun _ => a) (fun _ => la) (fun _ => ca) w.heap.size _ (by omega) (fun i hi => h.cell hi)).mono ?_
  rintro e w' ⟨rfl, rfl⟩
  exact ⟨ret_bool (by simp [longB]), rfl⟩
theorem long2 (a b : Option Addr) (la ca lb cb g : Nat) (w : World) (hg : g = w.heap.size) : Calls Tryz.prog 199 #[.slice (some ⟨g, 0, none⟩) 2 2] (w.alloc (.cells #[.slice a la ca, .slice b lb cb] 66)) fun e w' => e = .returned (.bool (decide (200 < la ∨ 200 < lb))) ∧ w' = w.alloc (.cells #[.slice a la ca, .slice b lb cb] 66) := by
  subst hg
  have h := World.rowIs_alloc w #[.slice a la ca, .slice b lb cb] 66 (fun i => .slice (if i = 0 then a else b) (if i = 0 then la else lb) (if i = 0 then ca else cb)) (by
    intro i hi
    rcases (show i = 0 ∨ i = 1 from by have : i < 2 := hi
                                       omega) with rfl | rfl <;> rfl)
  refine (long_calls 2 (fun i => if i = 0 then a else b) (fun i => if i = 0 then la else lb) (fun i => if i = 0 then ca else cb) w.heap.size _ (by omega) (fun i hi => h.cell hi)).mono ?_
  rintro e w' ⟨rfl, rfl⟩
  exact ⟨ret_bool (by rw [Bool.eq_iff_iff]; simp [longB, List.range_succ]), rfl⟩

theorem two_calls (a b : Option Addr) (la ca lb cb : Nat) (w : World) :
    Calls Tryz.prog 141 #[.slice a la ca, .slice b lb cb] w fun e w' => e = .returned (.int .i64 (twoI la lb)) ∧ Below w.heap.size w w' := by
  have hb := (Below.refl w.heap.size w).alloc (Nat.le_refl _) (.cells #[.slice a la ca, .slice b lb cb] 66)
  by_cases hl : 200 < la ∨ 200 < lb
  · have hd : decide (200 < la ∨ 200 < lb) = true := decide_eq_true hl
    go_enter Tryz.func141, Tryz.ntmps141
    go_wp2_with (go_at_call 199; refine (long2 _ _ _ _ _ _ _ _ rfl).mono ?_; rintro e w' ⟨rfl, rfl⟩; rw [hd])
    go_ret
    exact ⟨ret_int (by simp only [twoI, if_pos hl]), hb⟩
  · have hd : decide (200 < la ∨ 200 < lb) = false := decide_eq_false hl
    by_cases he : la = lb
    · have ht : ((la : Int) != (lb : Int)) = false := by rw [bne_eq_false_iff_eq]; omega
      have HE : Hid (la = lb) := he
      clear he
      go_enter Tryz.func141, Tryz.ntmps141
      go_wp2_with (go_at_call 199; refine (long2 _ _ _ _ _ _ _ _ rfl).mono ?_; rintro e w' ⟨rfl, rfl⟩; rw [hd])
      go_ret
      exact ⟨ret_int (by simp only [twoI, if_neg hl, if_pos HE.out]), hb⟩
    · have ht : ((la : Int) != (lb : Int)) = true := by rw [bne_iff_ne]; omega
      go_enter Tryz.func141, Tryz.ntmps141
      go_wp2_with (go_at_call 199; refine (long2 _ _ _ _ _ _ _ _ rfl).mono ?_; rintro e w' ⟨rfl, rfl⟩; rw [hd])
      go_ret
      exact ⟨ret_int (by simp only [twoI, if_neg hl, if_neg he]), hb⟩
end Go.Proofs.YthmiojmlaclgaaaGreatDoor.Fx

/- What vec.Dot returns: whatever lists lie there. -/
namespace Go.Proofs.YthmiojmlaclgaaaGreatDoor.Fx
open Go.RowKit

theorem info3 : (Tryz.prog.info? 3).map (fun i => (i.zero, i.size, i.bytes)) = some (some (.int .i64 0), 1, 8) := by kernel_rfl

theorem twoI_cases (la lb : Nat) : (twoI la lb = 0 ∧ la = lb ∧ la ≤ 200) ∨ (twoI la lb ≠ 0 ∧ (twoI la lb != 0) = true) := by
  unfold twoI
  by_cases h : 200 < la ∨ 200 < lb
  · rw [if_pos h]; exact .inr ⟨by decide, by decide⟩
  · rw [if_neg h]
    by_cases e : la = lb
    · rw [if_pos e]; exact .inl ⟨rfl, e, by omega⟩
    · rw [if_neg e]; exact .inr ⟨by decide, by decide⟩

theorem vDot_calls (a b : Option Addr) (la ca lb cb : Nat) (xs ys : List Int) (w : World) (ha : Lst w a la ca xs) (hb : Lst w b lb cb ys) :
    Calls Tryz.prog 98 #[.slice a la ca, .slice b lb cb] w fun e w' => e = .returned (.tuple #[.int .i64 (if twoI la lb = 0 then dotTo xs ys la else 0), .int .i64 (twoI la lb)]) ∧ Below w.heap.size w w' := by
  rcases twoI_cases la lb with ⟨h0, rfl, hl⟩ | ⟨h0, h1⟩
  · rw [if_pos h0]
    have H0 : Hid (twoI la la = 0) := h0
    clear h0
    go_enter Tryz.func98, Tryz.ntmps98
    go_wp2_with (first | (go_at_call 141; refine (two_calls _ _ _ _ _ _ _).mono ?_; rintro e w' ⟨rfl, hw⟩; rw [H0.out]) | (go_at_call 142; refine (dot_calls _ _ _ _ _ xs ys _ (ha.below hw (Nat.le_refl _)) (hb.below hw (Nat.le_refl _)) (by omega)).mono ?_; rintro e w' ⟨rfl, k, rfl⟩))
    go_ret2
    exact ⟨by rw [H0.out]; rfl, below_drewN hw _⟩
  · rw [if_neg h0]
    clear ha hb h0
    go_enter Tryz.func98, Tryz.ntmps98
    go_wp2_with (go_at_call 141; refine (two_calls _ _ _ _ _ _ _).mono ?_; rintro e w' ⟨rfl, hw⟩)
    go_ret2
    exact ⟨rfl, hw⟩

end Go.Proofs.YthmiojmlaclgaaaGreatDoor.Fx

/- A list of integers that the program itself makes by append: what is known of it, and what one append more leaves. -/
namespace Go.Proofs.YthmiojmlaclgaaaGreatDoor.Fx
open Go.RowKit

/-- The slice value v, made from block number base on, owns the integers xs. -/
def OwnI (base : Nat) (w : World) (v : Value) (xs : List Int) : Prop := w.ownsRow base 3 1 v xs.length (xs.map (Value.int .i64))

theorem OwnI.nil (base : Nat) (w : World) : OwnI base w (.slice none 0 0) [] := World.ownsRow_nil _ _ _ _
theorem OwnI.drew {base : Nat} {w : World} {v : Value} {xs : List Int} (h : OwnI base w v xs) : OwnI base w.drew v xs := h
theorem OwnI.drewN {base : Nat} {w : World} {v : Value} {xs : List Int} (h : OwnI base w v xs) (n : Nat) : OwnI base (w.drewN n) v xs := h
theorem OwnI.alloc {base : Nat} {w : World} {v : Value} {xs : List Int} (h : OwnI base w v xs) (o : Obj) : OwnI base (w.alloc o) v xs := World.ownsRow.alloc h o
theorem OwnI.below {base : Nat} {w w' : World} {v : Value} {xs : List Int} (h : OwnI base w v xs) (hb : Below w.heap.size w w') : OwnI base w' v xs := by
  refine ⟨h.1, ?_⟩
  rcases h.2 with h0 | ⟨g, cap, cur, hv, hg, hh, r⟩
  · exact .inl h0
  · exact .inr ⟨g, cap, cur, hv, hg, by rw [hb.block g (Array.getElem?_eq_some_iff.1 hh).1]; exact hh, r⟩
theorem OwnI.lst {base : Nat} {w : World} {v : Value} {xs : List Int} (h : OwnI base w v xs) : ∃ a c, v = .slice a xs.length c ∧ Lst w a xs.length c xs := Lst.owned h
theorem OwnI.lst' {base : Nat} {w : World} {v : Value} {xs : List Int} {n : Nat} (h : OwnI base w v xs) (hn : xs.length = n) : ∃ a c, v = .slice a n c ∧ Lst w a n c xs := by
  subst hn; exact Lst.owned h
theorem OwnI.congr {base : Nat} {w : World} {v : Value} {xs ys : List Int} (h : OwnI base w v xs) (e : xs = ys) : OwnI base w v ys := e ▸ h
section
variable {w' W0 : World} {ops : Array Oper} {o : Oper} {a : Act} {Q : Exit → Act → World → Prop}

end
end Go.Proofs.YthmiojmlaclgaaaGreatDoor.Fx

/- Orders and batches as plain numbers, and a row of integers whose cells are changed in whatever order; no program is spoken of. -/
namespace Go.Proofs.YthmiojmlaclgaaaGreatDoor.Fx
open Go.RowKit

/-- The place that place i changes with. -/
def placeP (seed : Int) (epoch i : Nat) : Nat := (ofP 2 [seed, ((64 * epoch + i : Nat) : Int)] % ((i : Int) + 1)).toNat
theorem placeP_le (seed : Int) (epoch i : Nat) : placeP seed epoch i ≤ i := by
  unfold placeP
  have h := Int.emod_lt_of_pos (ofP 2 [seed, ((64 * epoch + i : Nat) : Int)]) (b := (i : Int) + 1) (by omega)
  omega
theorem placeP_eq (seed : Int) (epoch i : Nat) : ofP 2 [seed, ((64 * epoch + i : Nat) : Int)] % ((i : Int) + 1) = (placeP seed epoch i : Int) := by
  unfold placeP
  have h := Int.emod_nonneg (ofP 2 [seed, ((64 * epoch + i : Nat) : Int)]) (b := (i : Int) + 1) (by omega)
  omega

/-- Numbers i and j change places. -/
def swapF (f : Nat → Int) (i j : Nat) : Nat → Int := fun x => if x = j then f i else if x = i then f j else f x
/-- The order behind k changes, from the last place on. -/
def shufTo (seed : Int) (epoch n : Nat) : Nat → Nat → Int
  | 0 => fun x => (x : Int)
  | k + 1 => swapF (shufTo seed epoch n k) (n - 1 - k) (placeP seed epoch (n - 1 - k))
theorem shufTo_step {seed : Int} {epoch n k i : Nat} (h : i + k + 1 = n) : swapF (shufTo seed epoch n k) i (placeP seed epoch i) = shufTo seed epoch n (k + 1) := by
  obtain rfl : i = n - 1 - k := by omega
  rfl
def shufF (seed : Int) (epoch n : Nat) : Nat → Int := shufTo seed epoch n (n - 1)
theorem getD_range (g : Nat → Int) {n i : Nat} (h : i < n) : ((List.range n).map g).getD i 0 = g i := by
  simp [List.getD_eq_getElem?_getD, h]

/-- Number i of a batch that begins at s. -/
def batchG (seed : Int) (n s i : Nat) : Int := shufF seed ((s + i) / n) n ((s + i) % n)
def batchP (seed : Int) (size n s : Nat) : List Int := (List.range size).map (batchG seed n s)

theorem day_goes {n d r s k t : Nat} (ht : s + k = t) (hdm : n * d + r = t) (hrn : r < n) (hk : k ≠ 0) (hr : r ≠ 0) : (s + (k - 1)) / n = d := by
  rw [show s + (k - 1) = (r - 1) + n * d from by omega, Nat.add_mul_div_left _ _ (by omega), Nat.div_eq_of_lt (by omega), Nat.zero_add]

/-- Block b, of c cells, none of them frozen, holds first the n integers of f. -/
def Arr (w : World) (b c n : Nat) (f : Nat → Int) : Prop := n ≤ c ∧ ∃ F, w.rowIs b 3 c F ∧ ∀ i, i < n → F i = .int .i64 (f i)

namespace Arr
variable {w w' : World} {b c n : Nat} {f g : Nat → Int}
theorem cap (h : Arr w b c n f) : n ≤ c := h.1
theorem cell (h : Arr w b c n f) {i : Nat} (hi : i < n) : w.cell? ⟨b, i, none⟩ = some (.int .i64 (f i)) := by
  obtain ⟨hc, F, hr, hf⟩ := h
  rw [hr.cell (by omega), hf i hi]
theorem frozen (h : Arr w b c n f) (i : Nat) : w.frozen? ⟨b, i, none⟩ = false := by
  obtain ⟨hc, F, hr, hf⟩ := h
  exact hr.frozen i
theorem lt (h : Arr w b c n f) : b < w.heap.size := by
  obtain ⟨hc, F, hr, hf⟩ := h
  exact hr.lt
theorem congr (h : Arr w b c n f) (e : ∀ i, i < n → f i = g i) : Arr w b c n g := by
  obtain ⟨hc, F, hr, hf⟩ := h
  exact ⟨hc, F, hr, fun i hi => by rw [hf i hi, e i hi]⟩
theorem set (h : Arr w b c n f) (i : Nat) (x : Int) : Arr (w.setCell ⟨b, i, none⟩ (.int .i64 x)) b c n (fun j => if j = i then x else f j) := by
  obtain ⟨hc, F, hr, hf⟩ := h
  refine ⟨hc, _, hr.set i _, fun j hj => ?_⟩
  by_cases e : j = i
  · simp [e]
  · simp [e, hf j hj]
theorem swap (h : Arr w b c n f) (i j : Nat) (x y : Int) (hx : f j = x) (hy : f i = y) : Arr ((w.setCell ⟨b, i, none⟩ (.int .i64 x)).setCell ⟨b, j, none⟩ (.int .i64 y)) b c n (swapF f i j) := by
  refine ((h.set i x).set j y).congr (fun k _ => ?_)
  unfold swapF
  rw [hx, hy]
theorem below (h : Arr w b c n f) (hb : Below w.heap.size w w') : Arr w' b c n f := by
  have hlt := h.lt
  obtain ⟨hc, F, hr, hf⟩ := h
  exact ⟨hc, F, hr.of_block (hb.block _ hlt), hf⟩
theorem drewN (h : Arr w b c n f) (k : Nat) : Arr (w.drewN k) b c n f := h
theorem drew (h : Arr w b c n f) : Arr w.drew b c n f := h
theorem alloc (h : Arr w b c n f) (o : Obj) : Arr (w.alloc o) b c n f := by
  obtain ⟨hc, F, hr, hf⟩ := h
  exact ⟨hc, F, hr.alloc o, hf⟩
theorem setOther (h : Arr w b c n f) {a : Addr} (ha : b ≠ a.block) (v : Value) : Arr (w.setCell a v) b c n f := by
  obtain ⟨hc, F, hr, hf⟩ := h
  exact ⟨hc, F, hr.setOther ha v, hf⟩
theorem lst (h : Arr w b c n f) : Lst w (some ⟨b, 0, none⟩) n c ((List.range n).map f) :=
  ⟨by simp, h.cap, .inr ⟨b, 0, rfl, h.lt, fun i hi => by rw [Nat.zero_add, h.cell hi, getD_range f hi]⟩⟩
theorem row (h : w.rowIs b 3 n (rowTo f n)) : Arr w b n n f := ⟨Nat.le_refl _, _, h, fun i hi => by unfold rowTo; rw [if_pos hi]⟩
end Arr

/-- A list that was made by append, with one number at least, is such a block. -/
theorem OwnI.arr {base : Nat} {w : World} {v : Value} {n : Nat} {f : Nat → Int} (h : OwnI base w v ((List.range n).map f)) (h1 : 1 ≤ n) :
    ∃ b c, v = .slice (some ⟨b, 0, none⟩) n c ∧ base ≤ b ∧ Arr w b c n f := by
  obtain ⟨hl, h2⟩ := h
  rcases h2 with ⟨_, hn⟩ | ⟨g, cap, cur, rfl, hg, hh, hle, _, hsz, hcur⟩
  · simp at hn; omega
  · simp only [List.length_map, List.length_range, Nat.mul_one] at hle hcur hsz ⊢
    refine ⟨g, cap, rfl, hg, hle, fun i => cur[i]?.getD default, ⟨cur, hh, hsz, fun i hi => ?_⟩, fun i hi => ?_⟩
    · show cur[i]? = some (cur[i]?.getD default)
      rw [Array.getElem?_eq_getElem (by omega)]; rfl
    · have h3 : (((List.range n).map f).map (Value.int .i64))[i]? = some (.int .i64 (f i)) := by simp [hi]
      rw [← hcur, List.getElem?_take_of_lt hi, Array.getElem?_toList] at h3
      show cur[i]?.getD default = _
      rw [h3]; rfl

end Go.Proofs.YthmiojmlaclgaaaGreatDoor.Fx

/- What draw.place and draw.order return: the order of an epoch, within the bounds. -/
namespace Go.Proofs.YthmiojmlaclgaaaGreatDoor.Fx
open Go.RowKit

theorem place_calls (seed : Int) (hs : okW seed) (epoch i : Nat) (he : epoch ≤ 1000) (hi : i ≤ 16) (w : World) :
    Calls Tryz.prog 217 #[.int .u64 seed, .int .i64 epoch, .int .i64 i] w fun e w' => e = .returned (.int .i64 (placeP seed epoch i)) ∧ Below w.heap.size w w' := by
  have HE : Hid (ofP 2 [seed, ((64 * epoch + i : Nat) : Int)] % ((i : Int) + 1) = (placeP seed epoch i : Int)) := placeP_eq _ _ _
  have hle := placeP_le seed epoch i
  have HK : Hid (okP (ofP 2 [seed, ((64 * epoch + i : Nat) : Int)])) := ofP_ok _ _
  generalize placeP seed epoch i = j at *
  obtain ⟨t, ht⟩ : ∃ t : Nat, 64 * epoch + i = t := ⟨_, rfl⟩
  rw [ht] at HE HK
  have e1 : (64 : Int) * (epoch : Int) + (i : Int) = (t : Int) := by omega
  have kt : okW (t : Int) := ⟨by omega, by omega⟩
  go_enter Tryz.func217, Tryz.ntmps217
  go_wp2_with fail
  refine (dWord_calls _ _ hs kt _).mono ?_
  rintro e w1 ⟨rfl, hw1⟩
  obtain ⟨M, hM⟩ : ∃ M, ofP 2 [seed, (t : Int)] = M := ⟨_, rfl⟩
  rw [hM] at HE HK ⊢
  obtain ⟨m0, m1⟩ := HK.out
  have e2 : M.tmod ((i : Int) + 1) = (j : Int) := by rw [Int.tmod_eq_emod_of_nonneg m0]; exact HE.out
  have e3 : M % ((i : Int) + 1) = (j : Int) := HE.out
  clear hM
  go_wp2
  go_ret
  exact ⟨rfl, hw1⟩

set_option maxRecDepth 100000 in
set_option maxHeartbeats 1600000 in
theorem order_calls (seed : Int) (hs : okW seed) (epoch n : Nat) (he : epoch ≤ 1000) (h1 : 1 ≤ n) (h2 : n ≤ 16) (w : World) :
    Calls Tryz.prog 182 #[.int .u64 seed, .int .i64 epoch, .int .i64 n] w fun e w' => ∃ b, e = .returned (.slice (some ⟨b, 0, none⟩) n n) ∧ w.heap.size ≤ b ∧ Arr w' b n n (shufF seed epoch n) ∧ Below w.heap.size w w' := by
  have hmk := run_make_row' (P := Tryz.prog) 66 3 (.int .i64 0) 8 Tryz.underlying66 info3 rfl .i64 .i64 n (by omega) (by omega)
  go_enter Tryz.func182, Tryz.ntmps182
  go_wp2
  go_loopw [15] (fun i wr => ∃ k : Nat, k ≤ n ∧ i = .int .i64 k ∧ wr.rowIs w.heap.size 3 n (rowTo (fun x => (x : Int)) k) ∧ Below w.heap.size w wr) (fun i _ => n - (intOf i).toNat)
  case atStart => exact ⟨0, Nat.zero_le _, rfl, rowTo_made (World.rowIs_made _ _ _ _), (Below.refl _ _).alloc (Nat.le_refl _) _⟩
  case round =>
    obtain ⟨k, hk, rfl, hrow, hbel⟩ := hrel
    clear hmk
    by_cases hlt : k < n
    · have c3 := rowTo_cell hrow hlt
      have f3 := hrow.frozen k
      go_wp2
      go_roundw
      case rel => exact ⟨k + 1, by omega, by go_num, rowTo_step (g := fun x => (x : Int)) hrow, hbel.setCell (Nat.le_refl _) _⟩
      case measure => simp [intOf]; omega
    · obtain rfl : k = n := by omega
      have hA : Arr wr w.heap.size k k (shufTo seed epoch k 0) := Arr.row hrow
      clear hrow
      generalize hwr : wr = w1 at *
      clear hwr
      go_wp2
      go_loopw [9] (fun i wr => ∃ p j : Nat, p + j + 1 = k ∧ i = .int .i64 p ∧ Arr wr w.heap.size k k (shufTo seed epoch k j) ∧ Below w.heap.size w wr) (fun i _ => (intOf i).toNat)
      case atStart => exact ⟨k - 1, 0, by omega, by go_num, hA, hbel⟩
      case round =>
        obtain ⟨p, j, hp, rfl, hR, hB⟩ := hrel
        clear hA hbel
        by_cases hlt2 : 1 ≤ p
        · go_wp2_with fail
          refine (place_calls _ hs _ _ he (by omega) _).mono ?_
          rintro e w2 ⟨rfl, hw2⟩
          have hle := placeP_le seed epoch p
          have HS : Hid (swapF (shufTo seed epoch k j) p (placeP seed epoch p) = shufTo seed epoch k (j + 1)) := shufTo_step hp
          generalize placeP seed epoch p = q at *
          replace hB := hB.trans (hw2.mono hB.size)
          replace hR := hR.below hw2
          have c1 := hR.cell (i := p) (by omega)
          have c2 := hR.cell (i := q) (by omega)
          have f1 := hR.frozen p
          have f2 := hR.frozen q
          have R1 := hR.set p (shufTo seed epoch k j q)
          have f3 := R1.frozen q
          have d3 := R1.cell (i := q) (by omega)
          have hqk : q < k := by omega
          have hpk : p < k := by omega
          generalize (if q = p then shufTo seed epoch k j q else shufTo seed epoch k j q) = z at d3
          obtain ⟨x, hx⟩ : ∃ x, shufTo seed epoch k j q = x := ⟨_, rfl⟩
          obtain ⟨y, hy⟩ : ∃ y, shufTo seed epoch k j p = y := ⟨_, rfl⟩
          have RR := hR.swap p q x y hx hy
          rw [hx] at c2 f3 d3
          rw [hy] at c1
          clear R1 hx hy hw2
          go_wp2
          go_region
          go_wp2
          go_roundw
          case rel => exact ⟨p - 1, j + 1, by omega, by go_num, (HS.out ▸ RR).drew, below_drewN ((hB.setCell (Nat.le_refl _) _).setCell (Nat.le_refl _) _) 1⟩
          case measure => simp [intOf]; omega
        · obtain rfl : p = 0 := by omega
          go_wp2
          go_ret
          obtain rfl : j = k - 1 := by omega
          exact ⟨_, rfl, Nat.le_refl _, hR, hB⟩

end Go.Proofs.YthmiojmlaclgaaaGreatDoor.Fx
