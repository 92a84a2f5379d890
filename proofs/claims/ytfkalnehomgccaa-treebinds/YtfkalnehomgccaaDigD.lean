/- What digest.of, Of, Pair and Word return, whatever words lie there. -/
import Derived.Test.YtfkalnehomgccaaDigC
namespace Go.Proofs.Ytfkalnehomgccaa.Fx
open Go.RowKit

set_option maxHeartbeats 1600000 in
theorem dof_calls (kind : Int) (hk : okW kind) (a : Option Addr) (len cap : Nat) (xs : List Int) (w : World) (ha : LstW w a len cap xs) (hx : okL xs) (hlen : len ≤ 200) :
    Calls Try.prog 42 #[.int .u64 kind, .slice a len cap] w fun e w' => e = .returned (.int .u64 (ofP kind xs)) ∧ Below w.heap.size w w' := by
  obtain ⟨k0, k1⟩ := hk
  have p0 : okP (kind % 2305843009213693951) := ⟨by omega, by omega⟩
  have p1 : okP (len : Int) := ⟨by omega, by omega⟩
  have p2 : okP 1 := ⟨by omega, by omega⟩
  have HX : Hid (okL xs) := hx
  have HL : Hid (xs.length = len) := ha.len
  clear hx
  go_enter Try.func42, Try.ntmps42
  go_wp2_with (go_at_call 45; refine (dmix3 _ _ _ p0 p1 p2 _).mono ?_; rintro e w1 ⟨m, HM, rfl, hw1⟩)
  go_loopw [17] (fun i wr => ∃ (k : Nat) (t : Tri), k ≤ len ∧ i = .int .i64 k ∧ Hid (t = ofTo kind xs k) ∧ OfRel 65 w w1.heap.size t wr) (fun i _ => len - (intOf i).toNat)
  case atStart => exact ⟨0, m, Nat.zero_le _, rfl, by rw [HM.out, ← HL.out]; rfl, OfRel.start hw1 _ _ _⟩
  case round =>
    obtain ⟨k, t, hk, rfl, HT, R⟩ := hrel
    obtain ⟨c0, c1, c2⟩ := fnT_cells R.box
    by_cases hlt : k < len
    · obtain ⟨b1, o1, y, rfl, s1, g1, HY⟩ := ha.at1b R.old (Nat.le_refl _) hlt
      have ht : t.ok := by rw [HT.out]; exact ofTo_ok _ _ _
      obtain ⟨t0, t1, t2⟩ := ht
      have hy : okW y := by rw [← HY.out]; exact HX.out k (by rw [HL.out]; exact hlt)
      obtain ⟨y0, y1⟩ := hy
      have py : okP (y % 2305843009213693951) := ⟨by omega, by omega⟩
      have f0 := R.box.frozen 0
      clear ha
      go_wp2_with (first | (go_at_call 46; refine (dadd_calls _ _ t0 py _).mono ?_; rintro e w' ⟨rfl, hw'⟩; replace hw' := hw'.symm; subst hw'; rw [addP_mod]) | (go_at_call 45; refine (dmix3 _ _ _ (addP_ok _ _) t1 t2 _).mono ?_; rintro e w2 ⟨m2, HM2, rfl, hw2⟩; have R2 := (R.set0 _).below hw2; obtain ⟨e0, e1, e2⟩ := fnT_cells R2.box; have z0 := R2.box.frozen 0; have z1 := R2.box.frozen 1; have z2 := R2.box.frozen 2))
      go_roundw
      case rel => exact ⟨k + 1, _, by omega, by go_num, by rw [HM2.out, HT.out, ← HY.out]; rfl, R2.set _ _ _⟩
      case measure => simp [intOf]; omega
    · obtain rfl : k = len := by omega
      go_wp2
      go_ret
      exact ⟨ret_word (by rw [HT.out]; unfold ofP; rw [HL.out]), R.old⟩

def bigI (n : Nat) : Int := if 200 < n then 2 else 0
def ofA (kind : Int) (xs : List Int) (n : Nat) : Int := if 200 < n then 0 else ofP kind xs

theorem dOf_calls (kind : Int) (hk : okW kind) (a : Option Addr) (len cap : Nat) (xs : List Int) (w : World) (ha : LstW w a len cap xs) (hx : okL xs) :
    Calls Try.prog 31 #[.int .u64 kind, .slice a len cap] w fun e w' => e = .returned (.tuple #[.int .u64 (ofA kind xs len), .int .i64 (bigI len)]) ∧ Below w.heap.size w w' := by
  unfold ofA bigI
  by_cases h : 200 < len
  · rw [if_pos h, if_pos h]
    go_enter Try.func31, Try.ntmps31
    go_wp2
    go_ret2
    exact ⟨rfl, Below.refl _ _⟩
  · rw [if_neg h, if_neg h]
    go_enter Try.func31, Try.ntmps31
    go_wp2_with (go_at_call 42; refine (dof_calls _ hk _ _ _ xs _ ha hx (by omega)).mono ?_; rintro e w' ⟨rfl, hw⟩)
    go_ret2
    exact ⟨rfl, hw⟩

theorem okL_two {a b : Int} (ha : okW a) (hb : okW b) : okL [a, b] := by
  intro i hi
  rcases (show i = 0 ∨ i = 1 from by simp at hi; omega) with rfl | rfl
  · exact ha
  · exact hb

theorem dPair_calls (a b : Int) (ha : okW a) (hb : okW b) (w : World) : Calls Try.prog 32 #[.int .u64 a, .int .u64 b] w fun e w' => e = .returned (.int .u64 (ofP 3 [a, b])) ∧ Below w.heap.size w w' := by
  go_enter Try.func32, Try.ntmps32
  go_wp2_with (go_at_call 42; refine (dof_calls _ ⟨by omega, by omega⟩ _ _ _ [a, b] _ (LstW.two _ _ _ _) (okL_two ha hb) (by omega)).mono ?_; rintro e w' ⟨rfl, hw⟩)
  go_ret
  exact ⟨rfl, ((Below.refl _ _).alloc (Nat.le_refl _) _).trans (hw.mono (by simp))⟩

def numG (xs : List Int) (i : Nat) : Int := boundP (xs.getD i 0)
def numL (xs : List Int) (n : Nat) : List Int := if 200 < n then [] else (List.range n).map (numG xs)
theorem bound_min (x : Int) : (if 4294967296 < if x < -4294967296 then -4294967296 else x then 4294967296 else if x < -4294967296 then -4294967296 else x) + 4294967296 = boundP x := by
  unfold boundP
  by_cases h : x < -4294967296
  · rw [if_pos h, if_pos h, if_neg (by omega)]
  · rw [if_neg h, if_neg h]
theorem infoW : (Try.prog.info? 25).map (fun i => (i.zero, i.size, i.bytes)) = some (some (.int .u64 0), 1, 8) := by kernel_rfl

set_option maxHeartbeats 1600000 in
theorem dNumbers_calls (a : Option Addr) (la ca : Nat) (xs : List Int) (w : World) (ha : Lst w a la ca xs) :
    Calls Try.prog 30 #[.slice a la ca] w fun e w' => ∃ a' n, e = .returned (.tuple #[.slice a' n n, .int .i64 (bigI la)]) ∧ n ≤ 200 ∧ LstW w' a' n n (numL xs la) ∧ Below w.heap.size w w' := by
  unfold numL bigI
  by_cases hl : 200 < la
  · rw [if_pos hl, if_pos hl]
    clear ha
    go_enter Try.func30, Try.ntmps30
    go_wp2
    go_ret2
    exact ⟨_, _, rfl, Nat.zero_le _, LstW.nil _ _ _, Below.refl _ _⟩
  · rw [if_neg hl, if_neg hl]
    have hmk := run_make_row' (P := Try.prog) 26 25 (.int .u64 0) 8 Try.underlying26 infoW rfl .i64 .i64 la (by omega) (by omega)
    go_enter Try.func30, Try.ntmps30
    go_wp2
    go_loopw [15] (fun i wr => ∃ k : Nat, k ≤ la ∧ i = .int .i64 k ∧ wr.rowIs w.heap.size 25 la (rowToW (numG xs) k) ∧ Below w.heap.size w wr) (fun i _ => la - (intOf i).toNat)
    case atStart => exact ⟨0, Nat.zero_le _, rfl, rowToW_made (World.rowIs_made _ _ _ _), (Below.refl _ _).alloc (Nat.le_refl _) _⟩
    case round =>
      obtain ⟨k, hk, rfl, hrow, hbel⟩ := hrel
      have ha' := ha.below hbel (Nat.le_refl _)
      clear ha hmk
      by_cases hlt : k < la
      · obtain ⟨b1, o1, x, rfl, _, c1, HX⟩ := ha'.at1 hlt
        have c3 := rowToW_cell hrow hlt
        have f3 := hrow.frozen k
        go_wp2
        rw [bound_min]
        go_roundw
        case rel =>
          have st := rowToW_step (g := numG xs) hrow
          simp only [numG, HX.out] at st
          exact ⟨k + 1, by omega, by go_num, st, hbel.setCell (Nat.le_refl _) _⟩
        case measure => simp [intOf]; omega
      · go_wp2
        go_ret2
        obtain rfl : k = la := by omega
        exact ⟨_, _, rfl, by omega, rowToW_lst hrow, hbel⟩

end Go.Proofs.Ytfkalnehomgccaa.Fx
