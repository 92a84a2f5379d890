/- What coachref's line and Times return: the rows and the columns of a matrix, and their products with a list. -/
import Derived.Test.YtmoeogecafjcmaaRefMat
namespace Go.Proofs.Ytmoeogecafjcmaa.Fx
open Go.RowKit

/-- Of c numbers those that are asked for; and of r rows of them. -/
def inTo (p : Nat → Bool) (f : Nat → Int) : Nat → List Int
  | 0 => []
  | c + 1 => inTo p f c ++ (if p c = true then [f c] else [])
def outTo (P : Nat → Nat → Bool) (xs : List Int) (C : Nat) : Nat → List Int
  | 0 => []
  | r + 1 => outTo P xs C r ++ inTo (P r) (fun c => xs.getD (r * C + c) 0) C
theorem inTo_yes (p : Nat → Bool) (f : Nat → Int) (c : Nat) (x : Int) (l : List Int) (h : p c = true) (hx : f c = x) : l ++ inTo p f c ++ [x] = l ++ inTo p f (c + 1) := by
  simp [inTo, h, hx]
theorem inTo_no (p : Nat → Bool) (f : Nat → Int) (c : Nat) (h : p c = false) : inTo p f c = inTo p f (c + 1) := by
  simp [inTo, h]
theorem inTo_len (p : Nat → Bool) (f : Nat → Int) (c : Nat) : (inTo p f c).length ≤ c := by
  induction c with
  | zero => exact Nat.le_refl _
  | succ c ih =>
    cases h : p c with
    | true => simp [inTo, h]; omega
    | false => simp [inTo, h]; omega
theorem outTo_len (P : Nat → Nat → Bool) (xs : List Int) (C r : Nat) : (outTo P xs C r).length ≤ r * C := by
  induction r with
  | zero => simp [outTo]
  | succ r ih =>
    have := inTo_len (P r) (fun c => xs.getD (r * C + c) 0) C
    rw [outTo, List.length_append, Nat.succ_mul]; omega
theorem inTo_all (f : Nat → Int) (c : Nat) : inTo (fun _ => true) f c = (List.range c).map f := by
  induction c with
  | zero => rfl
  | succ c ih => rw [inTo, ih, List.range_succ]; simp
theorem inTo_none (f : Nat → Int) (c : Nat) : inTo (fun _ => false) f c = [] := by
  induction c with
  | zero => rfl
  | succ c ih => rw [inTo, ih]; simp
theorem inTo_one (f : Nat → Int) (k c : Nat) : inTo (fun i => decide (i = k)) f c = if k < c then [f k] else [] := by
  induction c with
  | zero => rfl
  | succ c ih =>
    rw [inTo, ih]
    by_cases h : k < c
    · have h1 : ¬ c = k := by omega
      have h2 : k < c + 1 := by omega
      simp [h, h1, h2]
    · by_cases e : c = k
      · subst e; simp
      · have h2 : ¬ k < c + 1 := by omega
        simp [h, e, h2]
def rowP (k r _c : Nat) : Bool := decide (r = k)
def colP (k _r c : Nat) : Bool := decide (c = k)
theorem outTo_row (xs : List Int) (C k r : Nat) : outTo (rowP k) xs C r = if k < r then rowL xs C k else [] := by
  induction r with
  | zero => rfl
  | succ r ih =>
    rw [outTo, ih]
    by_cases e : r = k
    · subst e
      have h1 : rowP r r = fun _ => true := by funext c; simp [rowP]
      rw [h1, inTo_all, if_neg (by omega), if_pos (by omega)]; rfl
    · have h1 : rowP k r = fun _ => false := by funext c; simp [rowP, e]
      rw [h1, inTo_none, List.append_nil]
      by_cases h : k < r
      · rw [if_pos h, if_pos (by omega)]
      · rw [if_neg h, if_neg (by omega)]
theorem outTo_col (xs : List Int) (C k r : Nat) (hk : k < C) : outTo (colP k) xs C r = colL xs r C k := by
  induction r with
  | zero => rfl
  | succ r ih =>
    have h1 : colP k r = fun i => decide (i = k) := by funext c; rfl
    rw [outTo, ih, h1, inTo_one, if_pos hk]
    unfold colL
    rw [List.range_succ, List.map_append]; rfl

set_option maxHeartbeats 1600000 in
theorem rline_row (R C k : Nat) (a : Option Addr) (cap : Nat) (xs : List Int) (w : World) (ha : Lst w a (R * C) cap xs) (hR : R ≤ 4) (hC : C ≤ 4) (hk : k < R) :
    Calls Try.prog 54 #[.agg #[.int .i64 R, .int .i64 C, .slice a (R * C) cap], .int .i64 k, .bool false] w fun e w' => ∃ a' n' c', e = .returned (.slice a' n' c') ∧ Lst w' a' n' c' (rowL xs C k) ∧ Below w.heap.size w w' := by
  have hal := (Below.refl w.heap.size w).alloc (Nat.le_refl _) (.cells #[.int .i64 R, .int .i64 C, .slice a (R * C) cap] 37)
  have h2 := prod_sideN hR hC
  have i3 : (R : Int) * (C : Int) ≤ 16 := by exact_mod_cast h2
  go_enter Try.func54, Try.ntmps54
  go_wp2
  go_loopw [7, 8] (fun v i wr => ∃ r : Nat, r ≤ R ∧ i = .int .i64 r ∧ OwnI (w.heap.size + 1) wr v (outTo (rowP k) xs C r) ∧ Below (w.heap.size + 1) (w.alloc (.cells #[.int .i64 R, .int .i64 C, .slice a (R * C) cap] 37)) wr) (fun _ i _ => R - (intOf i).toNat)
  case atStart => exact ⟨0, Nat.zero_le _, rfl, OwnI.nil _ _, Below.refl _ _⟩
  case round =>
    obtain ⟨r, hr, rfl, hown, hbel⟩ := hrel
    obtain ⟨g0, g1, g2⟩ := box3 _ _ _ _ hbel (Nat.lt_succ_self _)
    by_cases hlt : r < R
    · go_wp2
      generalize hwr : wr = w1 at *
      clear hwr
      go_loopw [7, 9] (fun v i wr => ∃ c : Nat, c ≤ C ∧ i = .int .i64 c ∧ OwnI (w.heap.size + 1) wr v (outTo (rowP k) xs C r ++ inTo (rowP k r) (fun c => xs.getD (r * C + c) 0) c) ∧ Below (w.heap.size + 1) (w.alloc (.cells #[.int .i64 R, .int .i64 C, .slice a (R * C) cap] 37)) wr) (fun _ i _ => C - (intOf i).toNat)
      case atStart => exact ⟨0, Nat.zero_le _, rfl, by rw [inTo, List.append_nil]; exact hown, hbel⟩
      case round =>
        clear hown hbel g0 g1 g2
        obtain ⟨c, hc, rfl, hown, hbel⟩ := hrel
        obtain ⟨g0, g1, g2⟩ := box3 _ _ _ _ hbel (Nat.lt_succ_self _)
        have hsz : w.heap.size + 1 ≤ wr.heap.size := by have := hbel.size; simpa using this
        by_cases hlt2 : c < C
        · have m1 : (r + 1) * C ≤ R * C := Nat.mul_le_mul_right _ hlt
          have m2 : (r + 1) * C = r * C + C := Nat.succ_mul _ _
          have m3 : r * C + c < R * C := by omega
          have i5 : (0 : Int) ≤ (r : Int) * (C : Int) := by exact_mod_cast Nat.zero_le (r * C)
          have i6 : (r : Int) * (C : Int) + (c : Int) < (R : Int) * (C : Int) := by exact_mod_cast m3
          have l1 := outTo_len (rowP k) xs C r
          have l2 := inTo_len (rowP k r) (fun c => xs.getD (r * C + c) 0) c
          obtain ⟨b1, o1, x, rfl, s1, c1, HX⟩ := (ha.below hal (Nat.le_refl _)).at1b hbel (by simp) m3
          by_cases hp : r = k
          · have ht : ((r : Int) == (k : Int)) = true := by rw [beq_iff_eq]; omega
            have HP : Hid (rowP k r c = true) := decide_eq_true hp
            clear m2 hp ha hal
            go_wp2_with (at_builtin; refine wpList_append_int (by rfl) _ _ (by rfl) (w.heap.size + 1) _ (outTo (rowP k) xs C r ++ inTo (rowP k r) (fun c => xs.getD (r * C + c) 0) c) x wr.heap.size wr (by rfl) (by rfl) (by exact hown.alloc _) (by exact cell_new _ _ _) (by rw [List.length_append]; omega) (by simp; omega) (by exact (Below.refl _ _).alloc (by omega) _) ?_; intro v1 w3 hown1 hbel1)
            go_roundw
            case rel => exact ⟨c + 1, by omega, by go_num, hown1.congr (inTo_yes _ _ _ _ _ HP.out HX.out), hbel.trans hbel1⟩
            case measure => simp [intOf]; omega
          · have ht : ((r : Int) == (k : Int)) = false := by rw [beq_eq_false_iff_ne]; omega
            have HP : Hid (rowP k r c = false) := decide_eq_false hp
            clear m2 ha hal
            go_wp2
            go_roundw
            case rel => exact ⟨c + 1, by omega, by go_num, by rw [← inTo_no _ _ _ HP.out]; exact hown, hbel⟩
            case measure => simp [intOf]; omega
        · go_wp2
          go_roundw
          case rel =>
            obtain rfl : c = C := by omega
            exact ⟨r + 1, by omega, by go_num, hown, hbel⟩
          case measure => simp [intOf]; omega
    · obtain rfl : r = R := by omega
      obtain ⟨a1, c1, rfl, hl⟩ := hown.lst
      have hbw := hal.trans (hbel.mono (by omega))
      go_wp2
      go_ret
      exact ⟨_, _, _, rfl, by rw [outTo_row, if_pos hk] at hl; rw [outTo_row, if_pos hk]; exact hl, hbw⟩

set_option maxHeartbeats 1600000 in
theorem rline_col (R C k : Nat) (a : Option Addr) (cap : Nat) (xs : List Int) (w : World) (ha : Lst w a (R * C) cap xs) (hR : R ≤ 4) (hC : C ≤ 4) (hk : k < C) :
    Calls Try.prog 54 #[.agg #[.int .i64 R, .int .i64 C, .slice a (R * C) cap], .int .i64 k, .bool true] w fun e w' => ∃ a' n' c', e = .returned (.slice a' n' c') ∧ Lst w' a' n' c' (colL xs R C k) ∧ Below w.heap.size w w' := by
  have hal := (Below.refl w.heap.size w).alloc (Nat.le_refl _) (.cells #[.int .i64 R, .int .i64 C, .slice a (R * C) cap] 37)
  have h2 := prod_sideN hR hC
  have i3 : (R : Int) * (C : Int) ≤ 16 := by exact_mod_cast h2
  go_enter Try.func54, Try.ntmps54
  go_wp2
  go_loopw [7, 8] (fun v i wr => ∃ r : Nat, r ≤ R ∧ i = .int .i64 r ∧ OwnI (w.heap.size + 1) wr v (outTo (colP k) xs C r) ∧ Below (w.heap.size + 1) (w.alloc (.cells #[.int .i64 R, .int .i64 C, .slice a (R * C) cap] 37)) wr) (fun _ i _ => R - (intOf i).toNat)
  case atStart => exact ⟨0, Nat.zero_le _, rfl, OwnI.nil _ _, Below.refl _ _⟩
  case round =>
    obtain ⟨r, hr, rfl, hown, hbel⟩ := hrel
    obtain ⟨g0, g1, g2⟩ := box3 _ _ _ _ hbel (Nat.lt_succ_self _)
    by_cases hlt : r < R
    · go_wp2
      generalize hwr : wr = w1 at *
      clear hwr
      go_loopw [7, 9] (fun v i wr => ∃ c : Nat, c ≤ C ∧ i = .int .i64 c ∧ OwnI (w.heap.size + 1) wr v (outTo (colP k) xs C r ++ inTo (colP k r) (fun c => xs.getD (r * C + c) 0) c) ∧ Below (w.heap.size + 1) (w.alloc (.cells #[.int .i64 R, .int .i64 C, .slice a (R * C) cap] 37)) wr) (fun _ i _ => C - (intOf i).toNat)
      case atStart => exact ⟨0, Nat.zero_le _, rfl, by rw [inTo, List.append_nil]; exact hown, hbel⟩
      case round =>
        clear hown hbel g0 g1 g2
        obtain ⟨c, hc, rfl, hown, hbel⟩ := hrel
        obtain ⟨g0, g1, g2⟩ := box3 _ _ _ _ hbel (Nat.lt_succ_self _)
        have hsz : w.heap.size + 1 ≤ wr.heap.size := by have := hbel.size; simpa using this
        by_cases hlt2 : c < C
        · have m1 : (r + 1) * C ≤ R * C := Nat.mul_le_mul_right _ hlt
          have m2 : (r + 1) * C = r * C + C := Nat.succ_mul _ _
          have m3 : r * C + c < R * C := by omega
          have i5 : (0 : Int) ≤ (r : Int) * (C : Int) := by exact_mod_cast Nat.zero_le (r * C)
          have i6 : (r : Int) * (C : Int) + (c : Int) < (R : Int) * (C : Int) := by exact_mod_cast m3
          have l1 := outTo_len (colP k) xs C r
          have l2 := inTo_len (colP k r) (fun c => xs.getD (r * C + c) 0) c
          obtain ⟨b1, o1, x, rfl, s1, c1, HX⟩ := (ha.below hal (Nat.le_refl _)).at1b hbel (by simp) m3
          by_cases hp : c = k
          · have ht : ((c : Int) == (k : Int)) = true := by rw [beq_iff_eq]; omega
            have HP : Hid (colP k r c = true) := decide_eq_true hp
            clear m2 hp ha hal
            go_wp2_with (at_builtin; refine wpList_append_int (by rfl) _ _ (by rfl) (w.heap.size + 1) _ (outTo (colP k) xs C r ++ inTo (colP k r) (fun c => xs.getD (r * C + c) 0) c) x wr.heap.size wr (by rfl) (by rfl) (by exact hown.alloc _) (by exact cell_new _ _ _) (by rw [List.length_append]; omega) (by simp; omega) (by exact (Below.refl _ _).alloc (by omega) _) ?_; intro v1 w3 hown1 hbel1)
            go_roundw
            case rel => exact ⟨c + 1, by omega, by go_num, hown1.congr (inTo_yes _ _ _ _ _ HP.out HX.out), hbel.trans hbel1⟩
            case measure => simp [intOf]; omega
          · have ht : ((c : Int) == (k : Int)) = false := by rw [beq_eq_false_iff_ne]; omega
            have HP : Hid (colP k r c = false) := decide_eq_false hp
            clear m2 ha hal
            go_wp2
            go_roundw
            case rel => exact ⟨c + 1, by omega, by go_num, by rw [← inTo_no _ _ _ HP.out]; exact hown, hbel⟩
            case measure => simp [intOf]; omega
        · go_wp2
          go_roundw
          case rel =>
            obtain rfl : c = C := by omega
            exact ⟨r + 1, by omega, by go_num, hown, hbel⟩
          case measure => simp [intOf]; omega
    · obtain rfl : r = R := by omega
      obtain ⟨a1, c1, rfl, hl⟩ := hown.lst
      have hbw := hal.trans (hbel.mono (by omega))
      go_wp2
      go_ret
      exact ⟨_, _, _, rfl, by rw [outTo_col _ _ _ _ hk] at hl; rw [outTo_col _ _ _ _ hk]; exact hl, hbw⟩

end Go.Proofs.Ytmoeogecafjcmaa.Fx
