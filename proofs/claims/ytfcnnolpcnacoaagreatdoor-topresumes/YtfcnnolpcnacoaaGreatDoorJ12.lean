/- A course's states in plain numbers, one after another, and that their numbers are such as may be; no function of the program is spoken of. -/
import Derived.Test.YtfcnnolpcnacoaaGreatDoorJ11
import Derived.Test.YtfcnnolpcnacoaaGreatDoorJ09
import Derived.Test.YtfcnnolpcnacoaaGreatDoorJ04
namespace Go.Proofs.YtfcnnolpcnacoaaGreatDoor.Fx
open Go.RowKit

theorem right_map {g : Nat → Int} {n : Nat} (h : ∀ i, i < n → clampI (g i) = g i) : rightB ((List.range n).map g) = true := by
  refine rightB_true (fun j hj => ?_)
  have hj' : j < n := by simpa using hj
  rw [getD_range g hj', h j hj']
theorem dotTo_in (xs ys : List Int) (n : Nat) : clampI (dotTo xs ys n) = dotTo xs ys n := by
  cases n with
  | zero => rfl
  | succ k => exact clampI_idem _
theorem difL_right (d : PD) (xs ys : List Int) (I H O : Nat) : rightB (difL d xs ys I H O) = true := right_map fun _ _ => clampI_idem _
theorem graL_right (d : PD) (xs ys : List Int) (I H O : Nat) : rightB (graL d xs ys I H O) = true := by
  refine right_map fun i _ => ?_
  unfold graG
  by_cases h : (hidL d xs I H).getD i 0 = 0
  · rw [if_pos h]; rfl
  · rw [if_neg h]; exact dotTo_in _ _ _
theorem graD_right (d : PD) (xs ys : List Int) (I H O : Nat) : RightD (graD d xs ys I H O) :=
  ⟨right_map fun _ _ => clampI_idem _, right_map fun _ _ => clampI_idem _, graL_right d xs ys I H O, difL_right d xs ys I H O⟩
theorem rightB_app {xs ys : List Int} (h : rightB (xs ++ ys) = true) : rightB xs = true ∧ rightB ys = true := by
  unfold rightB at h ⊢
  rw [List.all_append, Bool.and_eq_true] at h
  exact h
theorem cutD_right {I H O : Nat} {xs : List Int} (hl : xs.length = H * I + H + O * H + O) (h : rightB xs = true) : RightD (cutD I H O xs) := by
  rw [← cutD_flat hl] at h
  unfold flatD at h
  have h1 := rightB_app h
  have h2 := rightB_app h1.2
  have h3 := rightB_app h2.2
  exact ⟨h1.1, h3.1, h2.1, h3.2⟩
theorem graD_len (d : PD) (xs ys : List Int) (I H O : Nat) : (flatD (graD d xs ys I H O)).length = H * I + H + O * H + O := by
  unfold flatD graD graL difL
  simp
  omega

/-- What Next makes of a state. -/
def nextW (c : Cfg) (n : Nat) (ws ms : List Int) (DI DO : Nat → List Int) (step : Int) (N : Nat) : List Int := (List.range N).map (goneG c ws ms (pushL c n ws DI DO step N) (rateV c step))
def nextM (c : Cfg) (n : Nat) (ws ms : List Int) (DI DO : Nat → List Int) (step : Int) (N : Nat) : List Int := (List.range N).map (keptG c ms (pushL c n ws DI DO step N))
/-- The states of a course: weights and moves. -/
def stateP (c : Cfg) (n : Nat) (DI DO : Nat → List Int) (N : Nat) : Nat → List Int × List Int
  | 0 => ((List.range N).map (startG c.seed), (List.range N).map zeroG)
  | k + 1 => (nextW c n (stateP c n DI DO N k).1 (stateP c n DI DO N k).2 DI DO (k : Int) N, nextM c n (stateP c n DI DO N k).1 (stateP c n DI DO N k).2 DI DO (k : Int) N)
theorem nextW_right (c : Cfg) (n : Nat) (ws ms : List Int) (DI DO : Nat → List Int) (step : Int) (N : Nat) : rightB (nextW c n ws ms DI DO step N) = true := right_map fun _ _ => clampI_idem _
theorem nextM_right {c : Cfg} {n : Nat} {ws ms : List Int} {DI DO : Nat → List Int} {step : Int} {N : Nat} (h : rightB ms = true) : rightB (nextM c n ws ms DI DO step N) = true := by
  refine right_map fun i _ => ?_
  unfold keptG
  by_cases e : c.how = 1
  · rw [if_pos e]; unfold moveG; rw [if_pos e]; exact clampI_idem _
  · rw [if_neg e]; exact (rightB_get h i).symm
theorem start_right (seed : Int) (N : Nat) : rightB ((List.range N).map (startG seed)) = true := by
  refine right_map fun i _ => ?_
  have := startG_bd seed i
  exact clampI_in (by omega) (by omega)
theorem zero_right (N : Nat) : rightB ((List.range N).map zeroG) = true := right_map fun _ _ => rfl
theorem stateP_right (c : Cfg) (n : Nat) (DI DO : Nat → List Int) (N k : Nat) : rightB (stateP c n DI DO N k).1 = true ∧ rightB (stateP c n DI DO N k).2 = true := by
  induction k with
  | zero => exact ⟨start_right _ _, zero_right _⟩
  | succ k ih => exact ⟨nextW_right _ _ _ _ _ _ _ _, nextM_right ih.2⟩
theorem stateP_len (c : Cfg) (n : Nat) (DI DO : Nat → List Int) (N k : Nat) : (stateP c n DI DO N k).1.length = N ∧ (stateP c n DI DO N k).2.length = N := by
  cases k with
  | zero => exact ⟨by simp [stateP], by simp [stateP]⟩
  | succ k => exact ⟨by simp [stateP, nextW], by simp [stateP, nextM]⟩
theorem rateV_in {c : Cfg} (h : cfgB c = true) (step : Int) (h0 : 0 ≤ step) (h1 : step ≤ c.steps - 1) : inB (rateV c step) 0 2147483647 = true := by
  have b := rateV_bd h (in_yes ⟨h0, h1⟩)
  obtain ⟨_, _, _, _, _, ⟨r1, r2⟩, _⟩ := cfgB_is h
  exact in_yes ⟨b.1, by omega⟩
theorem push_len (c : Cfg) (hc : cfgB c = true) (n : Nat) (ws : List Int) (DI DO : Nat → List Int) (step : Int) (N : Nat) (hN : N ≤ 200) : pushL c n ws DI DO step N = (List.range N).map (clipG ((List.range N).map (meanG (gradG c n ws DI DO step) c.batch)) c.clip N) ∧ (pushL c n ws DI DO step N).length = N := by
  obtain ⟨_, _, _, _, _, _, _, _, _, q1, q2⟩ := cfgB_is hc
  have hE : clipE N c.clip = 0 := by
    unfold clipE
    rw [if_neg (by omega), if_pos (by unfold inB; simp [q1, q2])]
  unfold pushL clipL
  rw [if_pos hE]
  exact ⟨rfl, by simp⟩

theorem batch_in (seed : Int) (B n s : Nat) (h1 : 1 ≤ n) {k : Nat} (hk : k < B) : ∃ j : Nat, j < n ∧ (batchP seed B n s).getD k 0 = (j : Int) := by
  have e : (batchP seed B n s).getD k 0 = shufF seed ((s + k) / n) n ((s + k) % n) := by
    unfold batchP
    rw [getD_range _ hk]
    rfl
  have hm : shufF seed ((s + k) / n) n ((s + k) % n) ∈ (List.range n).map (shufF seed ((s + k) / n) n) := List.mem_map.2 ⟨_, List.mem_range.2 (Nat.mod_lt _ (by omega)), rfl⟩
  have hp := (shufP_perm seed ((s + k) / n) n h1).mem_iff.1 hm
  obtain ⟨j, hj, hj2⟩ := List.mem_map.1 hp
  exact ⟨j, List.mem_range.1 hj, by rw [e, ← hj2]; rfl⟩

end Go.Proofs.YtfcnnolpcnacoaaGreatDoor.Fx

/- What vec.Sum and vec.Times return: whatever lists lie there. -/
namespace Go.Proofs.YtfcnnolpcnacoaaGreatDoor.Fx
open Go.RowKit

def sumG (xs ys : List Int) (i : Nat) : Int := addI (xs.getD i 0) (ys.getD i 0)
def sumL (xs ys : List Int) (la lb : Nat) : List Int := if twoI la lb = 0 then (List.range la).map (sumG xs ys) else []

set_option maxHeartbeats 1600000 in
theorem vSum_calls (a b : Option Addr) (la ca lb cb : Nat) (xs ys : List Int) (w : World) (ha : Lst w a la ca xs) (hb : Lst w b lb cb ys) :
    Calls Tryz.prog 96 #[.slice a la ca, .slice b lb cb] w fun e w' => ∃ a' n, e = .returned (.tuple #[.slice a' n n, .int .i64 (twoI la lb)]) ∧ n ≤ 200 ∧ Lst w' a' n n (sumL xs ys la lb) ∧ Below w.heap.size w w' := by
  unfold sumL
  rcases twoI_cases la lb with ⟨h0, rfl, hl⟩ | ⟨h0, h1⟩
  · rw [if_pos h0]
    have H0 : Hid (twoI la la = 0) := h0
    clear h0
    have hmk := run_make_row' (P := Tryz.prog) 26 3 (.int .i64 0) 8 Tryz.underlying26 info3 rfl .i64 .i64 la (by omega) (by omega)
    go_enter Tryz.func96, Tryz.ntmps96
    go_wp2_with (go_at_call 132; refine (two_calls _ _ _ _ _ _ _).mono ?_; rintro e w1 ⟨rfl, hw⟩; rw [H0.out])
    go_loopw [20] (fun i wr => ∃ k : Nat, k ≤ la ∧ i = .int .i64 k ∧ wr.rowIs w1.heap.size 3 la (rowTo (sumG xs ys) k) ∧ Below w.heap.size w wr) (fun i _ => la - (intOf i).toNat)
    case atStart => exact ⟨0, Nat.zero_le _, rfl, rowTo_made (World.rowIs_made _ _ _ _), hw.alloc hw.size _⟩
    case round =>
      obtain ⟨k, hk, rfl, hrow, hbel⟩ := hrel
      have ha' := ha.below hbel (Nat.le_refl _)
      have hb' := hb.below hbel (Nat.le_refl _)
      have hsz := hw.size
      clear ha hb hw hmk
      by_cases hlt : k < la
      · obtain ⟨b1, o1, x, rfl, _, c1, HX⟩ := ha'.at1 hlt
        obtain ⟨b2, o2, y, rfl, _, c2, HY⟩ := hb'.at1 hlt
        have c3 := rowTo_cell hrow hlt
        have f3 := hrow.frozen k
        go_wp2
        go_region_with ((go_at_call 133; refine (add_calls _ _ _).mono ?_; rintro e w' ⟨rfl, rfl⟩))
        all_goals go_wp2
        all_goals
          go_roundw
          case rel =>
            have st := rowTo_step (g := sumG xs ys) hrow
            simp only [sumG, HX.out, HY.out] at st
            exact ⟨k + 1, by omega, by go_num, st, (hbel.setCell (by omega) _).drew⟩
          case measure => simp [intOf]; omega
      · go_wp2
        go_ret2
        obtain rfl : k = la := by omega
        exact ⟨_, _, by rw [H0.out]; rfl, hl, rowTo_lst hrow, hbel⟩
  · rw [if_neg h0]
    clear ha hb h0
    go_enter Tryz.func96, Tryz.ntmps96
    go_wp2_with (go_at_call 132; refine (two_calls _ _ _ _ _ _ _).mono ?_; rintro e w' ⟨rfl, hw⟩)
    go_ret2
    exact ⟨_, _, rfl, Nat.zero_le _, Lst.nil _ _ _, hw⟩

def oneI (la : Nat) : Int := if 200 < la then 2 else 0
def timesG (xs : List Int) (n : Int) (i : Nat) : Int := mulI (xs.getD i 0) n
def timesL (xs : List Int) (n : Int) (la : Nat) : List Int := if 200 < la then [] else (List.range la).map (timesG xs n)

set_option maxHeartbeats 1600000 in
theorem vTimes_calls (a : Option Addr) (la ca : Nat) (xs : List Int) (m : Int) (w : World) (ha : Lst w a la ca xs) :
    Calls Tryz.prog 92 #[.slice a la ca, .int .i64 m] w fun e w' => ∃ a' n, e = .returned (.tuple #[.slice a' n n, .int .i64 (oneI la)]) ∧ n ≤ 200 ∧ Lst w' a' n n (timesL xs m la) ∧ Below w.heap.size w w' := by
  unfold timesL oneI
  have hal := (Below.refl w.heap.size w).alloc (Nat.le_refl _) (.cells #[.slice a la ca] 26)
  by_cases hl : 200 < la
  · rw [if_pos hl, if_pos hl]
    have hd : decide (200 < la) = true := decide_eq_true hl
    clear ha
    go_enter Tryz.func92, Tryz.ntmps92
    go_wp2_with (go_at_call 122; refine (long1 _ _ _ _ _ rfl).mono ?_; rintro e w' ⟨rfl, rfl⟩; rw [hd])
    go_ret2
    exact ⟨_, _, rfl, Nat.zero_le _, Lst.nil _ _ _, hal⟩
  · rw [if_neg hl, if_neg hl]
    have hd : decide (200 < la) = false := decide_eq_false hl
    have hmk := run_make_row' (P := Tryz.prog) 26 3 (.int .i64 0) 8 Tryz.underlying26 info3 rfl .i64 .i64 la (by omega) (by omega)
    go_enter Tryz.func92, Tryz.ntmps92
    go_wp2_with (go_at_call 122; refine (long1 _ _ _ _ _ rfl).mono ?_; rintro e w' ⟨rfl, rfl⟩; rw [hd])
    go_loopw [16] (fun i wr => ∃ k : Nat, k ≤ la ∧ i = .int .i64 k ∧ wr.rowIs (w.heap.size + 1) 3 la (rowTo (timesG xs m) k) ∧ Below w.heap.size w wr) (fun i _ => la - (intOf i).toNat)
    case atStart => exact ⟨0, Nat.zero_le _, rfl, rowTo_made (by have h := World.rowIs_made (w.alloc (.cells #[.slice a la ca] 26)) (.int .i64 0) la 3; simpa using h), hal.alloc hal.size _⟩
    case round =>
      obtain ⟨k, hk, rfl, hrow, hbel⟩ := hrel
      have ha' := ha.below hbel (Nat.le_refl _)
      clear ha hal hmk
      by_cases hlt : k < la
      · obtain ⟨b1, o1, x, rfl, _, c1, HX⟩ := ha'.at1 hlt
        have c3 := rowTo_cell hrow hlt
        have f3 := hrow.frozen k
        go_wp2_with (go_at_call 97; refine (mul_calls _ _ _).mono ?_; rintro e w' ⟨rfl, nd, rfl⟩)
        go_roundw
        case rel =>
          have st := rowTo_step (g := timesG xs m) hrow
          simp only [timesG, HX.out] at st
          exact ⟨k + 1, by omega, by go_num, rowIs_drewN st _, below_drewN (hbel.setCell (by simp) _) _⟩
        case measure => simp [intOf]; omega
      · go_wp2
        go_ret2
        obtain rfl : k = la := by omega
        exact ⟨_, _, rfl, by omega, rowTo_lst hrow, hbel⟩

end Go.Proofs.YtfcnnolpcnacoaaGreatDoor.Fx
