/- What tree.climb returns: the way up. -/
import Derived.Test.YtimciamfgpdjlaaGreatJ07
import Derived.Deep.RegionHeld3
import Derived.Test.YtimciamfgpdjlaaGreatJ06
import Derived.Test.YtimciamfgpdjlaaGreatJ04
import Derived.Test.YtimciamfgpdjlaaGreatJ01
import Derived.Test.YtimciamfgpdjlaaGreatJ03
import Derived.Lib.AppendZeros
namespace Go.Proofs.YtimciamfgpdjlaaGreat.Fx
open Go.RowKit

theorem climb_calls : ∀ (m i n : Nat) (x : Int) (a : Option Addr) (len c : Nat) (ps : List Int) (w : World), n ≤ m → 1 ≤ n → n ≤ 50 → i < n → okW x → LstW w a len c ps → okL ps → len = deepP i n →
    Calls Tryz.prog 131 #[.int .i64 i, .int .i64 n, .int .u64 x, .slice a len c] w fun e w' => e = .returned (.int .u64 (upP i n x ps)) ∧ Below w.heap.size w w'
  | 0, i, n, x, a, len, c, ps, w, h, h1, h2, h3, hx, ha, hp, hd => by omega
  | m + 1, i, n, x, a, len, c, ps, w, h, h1, h2, h3, hx, ha, hp, hd => by
    have IH : Hid (∀ (i n : Nat) (x : Int) (a : Option Addr) (len c : Nat) (ps : List Int) (w : World), n ≤ m → 1 ≤ n → n ≤ 50 → i < n → okW x → LstW w a len c ps → okL ps → len = deepP i n →
      Calls Tryz.prog 131 #[.int .i64 i, .int .i64 n, .int .u64 x, .slice a len c] w fun e w' => e = .returned (.int .u64 (upP i n x ps)) ∧ Below w.heap.size w w') := climb_calls m
    have HL : Hid (ps.length = len) := ha.len
    have HK := ha.cap
    by_cases h4 : n = 1
    · have n1 : ((n : Int) == 1) = true := by rw [beq_iff_eq]; omega
      have HT : Hid (upP i n x ps = x) := upP_one (by omega) i x ps
      clear ha h4 hd
      go_enter Tryz.func131, Tryz.ntmps131
      go_wp2
      go_ret
      exact ⟨ret_word HT.out.symm, Below.refl _ _⟩
    · have hc := cutN_lt (n := n) (by omega)
      have HC : Hid (∀ w, Calls Tryz.prog 160 #[.int .i64 n] w fun e w' => e = .returned (.int .i64 (cutN n)) ∧ w' = w) := split_calls n (by omega) (by omega)
      have DL : Hid (i < cutN n → len = 1 + deepP i (cutN n)) := fun h => hd.trans (deepP_left (by omega) h)
      have DR : Hid (¬ i < cutN n → len = 1 + deepP (i - cutN n) (n - cutN n)) := fun h => hd.trans (deepP_right (by omega) h)
      have UL : Hid (i < cutN n → upP i n x ps = ofP 3 [upP i (cutN n) x (ps.take (len - 1)), ps.getD (len - 1) 0]) := fun h => by rw [← HL.out]; exact upP_left (by omega) h x ps
      have UR : Hid (¬ i < cutN n → upP i n x ps = ofP 3 [ps.getD (len - 1) 0, upP (i - cutN n) (n - cutN n) x (ps.take (len - 1))]) := fun h => by rw [← HL.out]; exact upP_right (by omega) h x ps
      have n1 : ((n : Int) == 1) = false := by rw [beq_eq_false_iff_ne]; omega
      clear hd
      generalize cutN n = k at *
      have hl1 : 1 ≤ len := by
        by_cases h5 : i < k
        · have := DL.out h5; omega
        · have := DR.out h5; omega
      have hl2 : len ≤ 51 := by
        by_cases h5 : i < k
        · have := DL.out h5; have := deepP_le i k; omega
        · have := DR.out h5; have := deepP_le (i - k) (n - k); omega
      obtain ⟨q, hq⟩ : ∃ q, len - 1 = q := ⟨_, rfl⟩
      rw [hq] at UL UR
      have HD : Hid (len = q + 1) := by show len = q + 1; omega
      obtain ⟨b, off, y, rfl, hb, h0, HY⟩ := ha.at1 (k := q) (by omega)
      rw [HY.out] at UL UR
      have hy : okW y := by rw [← HY.out]; exact hp q (by rw [HL.out]; omega)
      have hA := ha.head (by omega) (k := q) (by omega)
      have oA := okL_take hp q
      have q0 : (0 : Int) ≤ (q : Int) := by omega
      have q1 : (q : Int) < (len : Int) := by omega
      have q2 : (q : Int) ≤ (c : Int) := by omega
      have q3 : (len : Int) - 1 = (q : Int) := by omega
      clear ha hq
      by_cases h5 : i < k
      · have HU : Hid (upP i n x ps = ofP 3 [upP i k x (ps.take q), y]) := UL.out h5
        have HE : Hid (q = deepP i k) := by show q = deepP i k; have := DL.out h5; omega
        have hu : okW (upP i k x (ps.take q)) := upP_ok hx
        clear UL UR DL DR
        go_enter Tryz.func131, Tryz.ntmps131
        go_wp2_with (go_at_call 160; refine (HC.out _).mono ?_; rintro e w' ⟨rfl, hw'⟩; replace hw' := hw'.symm; subst hw')
        go_region_held3 (fun r => r.cell? ⟨b, off + q, none⟩ = some (.int .u64 y)) (first | go_keep | exact (hw1.cell (p := ⟨b, off + q, none⟩) hb).trans h0 | exact (hbel2.cell (p := ⟨b, off + q, none⟩) hb).trans h0) (first | (go_at_call 131; refine (IH.out i k x _ _ _ (ps.take q) _ (by omega) (by omega) (by omega) h5 hx (by first | exact hA | exact hA.drewN _) oA HE.out).mono ?_; rintro e w1 ⟨rfl, hw1⟩) | (go_at_call 77; refine (dPair_calls _ _ hu hy _).mono ?_; rintro e w2 ⟨rfl, hw2⟩; have hbel1 : Below w.heap.size w w1 := (below_drewN (Below.refl _ _) 1).trans hw1; have hbel2 := hbel1.trans (hw2.mono hbel1.size)))
        go_wp2
        go_ret
        exact ⟨ret_word HU.out.symm, hbel2⟩
      · have HU : Hid (upP i n x ps = ofP 3 [y, upP (i - k) (n - k) x (ps.take q)]) := UR.out h5
        have HE : Hid (q = deepP (i - k) (n - k)) := by show q = deepP (i - k) (n - k); have := DR.out h5; omega
        have hu : okW (upP (i - k) (n - k) x (ps.take q)) := upP_ok hx
        have e1 : IntKind.i64.wrap ((i : Int) - (k : Int)) = ((i - k : Nat) : Int) := by rw [wrap_in _ (by omega) (by omega)]; omega
        have e2 : IntKind.i64.wrap ((n : Int) - (k : Int)) = ((n - k : Nat) : Int) := by rw [wrap_in _ (by omega) (by omega)]; omega
        clear UL UR DL DR
        go_enter Tryz.func131, Tryz.ntmps131
        go_wp2_with (go_at_call 160; refine (HC.out _).mono ?_; rintro e w' ⟨rfl, hw'⟩; replace hw' := hw'.symm; subst hw')
        go_region_held3 (fun r => r.cell? ⟨b, off + q, none⟩ = some (.int .u64 y)) (first | go_keep | exact (hw1.cell (p := ⟨b, off + q, none⟩) hb).trans h0 | exact (hbel2.cell (p := ⟨b, off + q, none⟩) hb).trans h0) (first | (go_at_call 131; refine (IH.out (i - k) (n - k) x _ _ _ (ps.take q) _ (by omega) (by omega) (by omega) (by omega) hx (by first | exact hA | exact hA.drewN _) oA HE.out).mono ?_; rintro e w1 ⟨rfl, hw1⟩) | (go_at_call 77; refine (dPair_calls _ _ hy hu _).mono ?_; rintro e w2 ⟨rfl, hw2⟩; have hbel1 : Below w.heap.size w w1 := (below_drewN (Below.refl _ _) 1).trans hw1; have hbel2 := hbel1.trans (hw2.mono hbel1.size)))
        go_wp2
        go_ret
        exact ⟨ret_word HU.out.symm, hbel2⟩

end Go.Proofs.YtimciamfgpdjlaaGreat.Fx

/- What tree.chunks, tree.leaf and tree.Leaves return: the leaves of a list of integers. -/
namespace Go.Proofs.YtimciamfgpdjlaaGreat.Fx
open Go.RowKit

theorem chunks_calls (n : Nat) (h : n ≤ 200) (w : World) : Calls Tryz.prog 129 #[.int .i64 n] w fun e w' => e = .returned (.int .i64 ((n + 3) / 4 : Nat)) ∧ w' = w := by
  have e1 : ((n : Int) + 4 - 1).tdiv 4 = (((n + 3) / 4 : Nat) : Int) := by
    rw [Int.tdiv_eq_ediv_of_nonneg (by omega)]; omega
  go_enter Tryz.func129, Tryz.ntmps129
  go_wp2
  go_ret
  exact ⟨ret_word (by omega), rfl⟩

theorem numL_ok (xs : List Int) (n : Nat) : okL (numL xs n) := by
  unfold numL
  intro i hi
  by_cases h : 200 < n
  · rw [if_pos h] at hi; simp at hi
  · rw [if_neg h] at hi ⊢
    simp at hi
    have := boundP_ok (xs.getD i 0)
    simp only [List.getD_eq_getElem?_getD, List.getElem?_map, List.getElem?_range hi, Option.map_some, Option.getD_some, numG] at this ⊢
    exact ⟨this.1, by omega⟩
theorem numL_len {xs : List Int} {n : Nat} (h : n ≤ 200) : (numL xs n).length = n := by
  unfold numL; rw [if_neg (by omega)]; simp

theorem leaf_calls (a : Option Addr) (la ca : Nat) (xs : List Int) (w : World) (ha : Lst w a la ca xs) (_hl : la ≤ 4) :
    Calls Tryz.prog 132 #[.slice a la ca] w fun e w' => e = .returned (.int .u64 (ofP 4 (numL xs la))) ∧ Below w.heap.size w w' := by
  go_enter Tryz.func132, Tryz.ntmps132
  go_wp2_with (first | (go_at_call 75; refine (dNumbers_calls _ _ _ xs _ ha).mono ?_; rintro e w1 ⟨a1, n1, rfl, hn1, h1, hw1⟩) | (go_at_call 76; refine (dOf_calls 4 ⟨by omega, by omega⟩ _ _ _ (numL xs la) _ h1 (numL_ok _ _)).mono ?_; rintro e w2 ⟨rfl, hw2⟩))
  go_ret
  exact ⟨ret_word (by unfold ofA; rw [if_neg (by omega)]), hw1.trans (hw2.mono hw1.size)⟩

/-- Leaf i of a list of n integers: of its chunk. -/
def hiN (n i : Nat) : Nat := min (i * 4 + 4) n
def leafG (xs : List Int) (n i : Nat) : Int := ofP 4 (numL ((xs.drop (i * 4)).take (hiN n i - i * 4)) (hiN n i - i * 4))
def leavesP (xs : List Int) (n : Nat) : List Int := (List.range ((n + 3) / 4)).map (leafG xs n)
theorem leavesP_len (xs : List Int) (n : Nat) : (leavesP xs n).length = (n + 3) / 4 := by unfold leavesP; simp
theorem leavesP_ok (xs : List Int) (n : Nat) : okL (leavesP xs n) := by
  intro i hi
  rw [leavesP_len] at hi
  unfold leavesP
  simp only [List.getD_eq_getElem?_getD, List.getElem?_map, List.getElem?_range hi, Option.map_some, Option.getD_some]
  exact okW_of_P (ofP_ok _ _)

set_option maxHeartbeats 1600000 in
theorem leaves_calls (a : Option Addr) (n c : Nat) (xs : List Int) (w : World) (ha : Lst w a n c xs) (h1 : 1 ≤ n) (h2 : n ≤ 200) :
    Calls Tryz.prog 73 #[.slice a n c] w fun e w' => ∃ a', e = .returned (.tuple #[.slice a' ((n + 3) / 4 : Nat) ((n + 3) / 4 : Nat), .int .i64 0]) ∧ LstW w' a' ((n + 3) / 4) ((n + 3) / 4) (leavesP xs n) ∧ Below w.heap.size w w' := by
  unfold leavesP
  have n0 : ((n : Int) == 0) = false := by rw [beq_eq_false_iff_ne]; omega
  have HC : Hid (∀ w, Calls Tryz.prog 129 #[.int .i64 n] w fun e w' => e = .returned (.int .i64 ((n + 3) / 4 : Nat)) ∧ w' = w) := chunks_calls n h2
  obtain ⟨N, hN⟩ : ∃ N, (n + 3) / 4 = N := ⟨_, rfl⟩
  rw [hN] at HC ⊢
  have hmk := run_make_row' (P := Tryz.prog) 54 22 (.int .u64 0) 8 Tryz.underlying54 infoW rfl .i64 .i64 N (by omega) (by omega)
  obtain ⟨b, off, x, rfl, hb, h0, HX⟩ := ha.at1 (k := 0) (by omega)
  have HK := ha.cap
  go_enter Tryz.func73, Tryz.ntmps73
  go_wp2_with (go_at_call 129; refine (HC.out _).mono ?_; rintro e w' ⟨rfl, hw'⟩; replace hw' := hw'.symm; subst hw')
  go_loopw [19] (fun i wr => ∃ k : Nat, k ≤ N ∧ i = .int .i64 k ∧ wr.rowIs w.heap.size 22 N (rowToW (leafG xs n) k) ∧ Below w.heap.size w wr) (fun i _ => N - (intOf i).toNat)
  case atStart => exact ⟨0, Nat.zero_le _, rfl, rowToW_made (World.rowIs_made _ _ _ _), (Below.refl _ _).alloc (Nat.le_refl _) _⟩
  case round =>
    obtain ⟨k, hk, rfl, hrow, hbel⟩ := hrel
    have ha' := ha.below hbel (Nat.le_refl _)
    clear ha hmk
    by_cases hlt : k < N
    · obtain ⟨lo, hlo⟩ : ∃ lo, k * 4 = lo := ⟨_, rfl⟩
      obtain ⟨hi, hhi⟩ : ∃ hi, hiN n k = hi := ⟨_, rfl⟩
      have hh : lo ≤ hi ∧ hi ≤ n ∧ hi ≤ lo + 4 := by unfold hiN at hhi; omega
      have hs := ha'.sub (by omega) lo hi (by omega) (by omega)
      have HG : Hid (leafG xs n k = ofP 4 (numL ((xs.drop lo).take (hi - lo)) (hi - lo))) := by show leafG xs n k = _; unfold leafG; rw [hlo, hhi]
      have HM : Hid (hi = min (lo + 4) n) := by show hi = min (lo + 4) n; rw [← hhi, ← hlo]; rfl
      have c3 := rowToW_cell hrow hlt
      have f3 := hrow.frozen k
      have e1 : (k : Int) * 4 = (lo : Int) := by omega
      clear hhi hlo
      have hlr := hrow.lt
      go_wp2_with fail
      all_goals
        first
          | rw [show ((lo : Int) + 4).toNat = hi from by have := HM.out; omega]
          | rw [show n - lo = hi - lo from by have := HM.out; omega]
        refine (leaf_calls _ _ _ _ _ hs (by omega)).mono ?_
        rintro e w1 ⟨rfl, hw1⟩
        have hrow1 := hrow.of_block (hw1.block _ hlr)
        have d3 := rowToW_cell hrow1 hlt
        have g3 := hrow1.frozen k
        clear c3 f3
        go_wp2
        go_roundw
        case rel =>
          have st := rowToW_step (g := leafG xs n) hrow1
          rw [HG.out] at st
          exact ⟨k + 1, by omega, by go_num, st, (hbel.trans (hw1.mono hbel.size)).setCell (Nat.le_refl _) _⟩
        case measure => simp [intOf]; omega
    · go_wp2
      go_ret2
      obtain rfl : k = N := by omega
      exact ⟨_, rfl, rowToW_lst hrow, hbel⟩

/-- The root of two lists, one behind the other. -/
def rootP (ws ms : List Int) (n : Nat) : Int := ofP 3 [(n : Int), treeP (leavesP (ws ++ ms) n)]
end Go.Proofs.YtimciamfgpdjlaaGreat.Fx

/- What tree.Leaves, Root, Path and Climb return, whatever is handed in. -/
namespace Go.Proofs.YtimciamfgpdjlaaGreat.Fx
open Go.RowKit

def errL (n : Nat) : Int := if n = 0 then 1 else if 200 < n then 2 else 0
def leavesL (xs : List Int) (n : Nat) : List Int := if n = 0 ∨ 200 < n then [] else leavesP xs n
def rootL (xs : List Int) (n : Nat) : Int := if n = 0 ∨ 200 < n then 0 else ofP 3 [(n : Int), treeP (leavesP xs n)]
def errP (i : Int) (n : Nat) : Int := if n = 0 ∨ 200 < n then errL n else if 0 ≤ i ∧ i < ((n + 3) / 4 : Nat) then 0 else 1
def wayL (xs : List Int) (n : Nat) (i : Int) : List Int := if ¬ (n = 0 ∨ 200 < n) ∧ 0 ≤ i ∧ i < ((n + 3) / 4 : Nat) then wayP (leavesP xs n) i.toNat else []
def okC (i n : Int) : Prop := 1 ≤ n ∧ n ≤ 200 ∧ 0 ≤ i ∧ i < (n + 3) / 4
instance (i n : Int) : Decidable (okC i n) := by unfold okC; infer_instance
def dpC (i n : Int) : Nat := deepP i.toNat ((n.toNat + 3) / 4)
def errC (i n : Int) (len : Nat) : Int := if okC i n then (if len = dpC i n then 0 else 5) else 1
def upL (i n x : Int) (ps : List Int) (len : Nat) : Int := if okC i n ∧ len = dpC i n then ofP 3 [n, upP i.toNat ((n.toNat + 3) / 4) x ps] else 0

theorem leaves_bad (a : Option Addr) (n c : Nat) (w : World) (h : n = 0 ∨ 200 < n) :
    Calls Tryz.prog 73 #[.slice a n c] w fun e w' => e = .returned (.tuple #[.slice none 0 0, .int .i64 (errL n)]) ∧ w' = w := by
  by_cases h0 : n = 0
  · have HE : Hid (errL n = 1) := if_pos h0
    have n0 : ((n : Int) == 0) = true := by rw [beq_iff_eq]; omega
    go_enter Tryz.func73, Tryz.ntmps73
    go_wp2
    go_ret2
    exact ⟨by rw [HE.out]; rfl, rfl⟩
  · have HE : Hid (errL n = 2) := by show errL n = 2; unfold errL; rw [if_neg h0, if_pos (by omega)]
    have n0 : ((n : Int) == 0) = false := by rw [beq_eq_false_iff_ne]; omega
    have n2 : 200 < n := by omega
    go_enter Tryz.func73, Tryz.ntmps73
    go_wp2
    go_ret2
    exact ⟨by rw [HE.out]; rfl, rfl⟩

theorem Leaves_calls (a : Option Addr) (n c : Nat) (xs : List Int) (w : World) (ha : Lst w a n c xs) :
    Calls Tryz.prog 73 #[.slice a n c] w fun e w' => ∃ a' N, e = .returned (.tuple #[.slice a' N N, .int .i64 (errL n)]) ∧ N ≤ 50 ∧ LstW w' a' N N (leavesL xs n) ∧ Below w.heap.size w w' := by
  unfold leavesL
  by_cases h : n = 0 ∨ 200 < n
  · rw [if_pos h]
    refine (leaves_bad a n c w h).mono ?_
    rintro e w' ⟨rfl, rfl⟩
    exact ⟨_, _, rfl, by omega, LstW.nil _ _ _, Below.refl _ _⟩
  · rw [if_neg h]
    refine (leaves_calls a n c xs w ha (by omega) (by omega)).mono ?_
    rintro e w' ⟨a', rfl, h1, h2⟩
    exact ⟨_, _, by unfold errL; rw [if_neg (by omega), if_neg (by omega)], by omega, h1, h2⟩

theorem root_good (a : Option Addr) (n c : Nat) (xs : List Int) (w : World) (ha : Lst w a n c xs) (h1 : 1 ≤ n) (h2 : n ≤ 200) :
    Calls Tryz.prog 74 #[.slice a n c] w fun e w' => e = .returned (.tuple #[.int .u64 (ofP 3 [(n : Int), treeP (leavesP xs n)]), .int .i64 0]) ∧ Below w.heap.size w w' := by
  have ht := treeP_ok (leavesP_ok xs n) (by rw [leavesP_len]; omega)
  have hn : okW (n : Int) := ⟨by omega, by omega⟩
  go_enter Tryz.func74, Tryz.ntmps74
  go_wp2_with (first | (go_at_call 73; refine (leaves_calls _ _ _ xs _ ha h1 h2).mono ?_; rintro e w1 ⟨a1, rfl, hl1, hw1⟩) | (go_at_call 133; refine (top_calls 50 _ _ _ (leavesP xs n) _ (by omega) (by omega) (by omega) hl1 (leavesP_ok _ _)).mono ?_; rintro e w2 ⟨rfl, hw2⟩) | (go_at_call 77; refine (dPair_calls _ _ hn ht _).mono ?_; rintro e w3 ⟨rfl, hw3⟩))
  go_ret2
  have e2 := hw1.trans (hw2.mono hw1.size)
  exact ⟨rfl, e2.trans (hw3.mono e2.size)⟩

theorem errL_ne {n : Nat} (h : n = 0 ∨ 200 < n) : (errL n != 0) = true := by
  unfold errL
  by_cases h0 : n = 0
  · rw [if_pos h0]; rfl
  · rw [if_neg h0, if_pos (by omega)]; rfl

theorem Root_calls (a : Option Addr) (n c : Nat) (xs : List Int) (w : World) (ha : Lst w a n c xs) :
    Calls Tryz.prog 74 #[.slice a n c] w fun e w' => e = .returned (.tuple #[.int .u64 (rootL xs n), .int .i64 (errL n)]) ∧ Below w.heap.size w w' := by
  unfold rootL
  by_cases h : n = 0 ∨ 200 < n
  · rw [if_pos h]
    have he := errL_ne h
    have HB : Hid (∀ w, Calls Tryz.prog 73 #[.slice a n c] w fun e w' => e = .returned (.tuple #[.slice none 0 0, .int .i64 (errL n)]) ∧ w' = w) := fun w => leaves_bad a n c w h
    generalize errL n = E at *
    clear h
    go_enter Tryz.func74, Tryz.ntmps74
    go_wp2_with (go_at_call 73; refine (HB.out _).mono ?_; rintro e w' ⟨rfl, hw'⟩; replace hw' := hw'.symm; subst hw')
    go_ret2
    exact ⟨rfl, Below.refl _ _⟩
  · rw [if_neg h]
    refine (root_good a n c xs w ha (by omega) (by omega)).mono ?_
    rintro e w' ⟨rfl, h2⟩
    exact ⟨by unfold errL; rw [if_neg (by omega), if_neg (by omega)], h2⟩

theorem path_good (a : Option Addr) (n c : Nat) (xs : List Int) (i : Nat) (w : World) (ha : Lst w a n c xs) (h1 : 1 ≤ n) (h2 : n ≤ 200) (hi : i < (n + 3) / 4) :
    Calls Tryz.prog 70 #[.slice a n c, .int .i64 i] w fun e w' => ∃ a' c', e = .returned (.tuple #[.slice a' (deepP i ((n + 3) / 4)) c', .int .i64 0]) ∧ LstW w' a' (deepP i ((n + 3) / 4)) c' (wayP (leavesP xs n) i) ∧ Below w.heap.size w w' := by
  have hd := (way_deep _ (leavesP xs n) i (Nat.le_refl _) (leavesP_ok _ _)).1
  rw [leavesP_len] at hd
  have HD : Hid ((wayP (leavesP xs n) i).length = deepP i ((n + 3) / 4)) := hd
  have HV : Hid (∀ w, Lst w a n c xs → Calls Tryz.prog 73 #[.slice a n c] w fun e w' => ∃ a', e = .returned (.tuple #[.slice a' ((n + 3) / 4 : Nat) ((n + 3) / 4 : Nat), .int .i64 0]) ∧ LstW w' a' ((n + 3) / 4) ((n + 3) / 4) (leavesP xs n) ∧ Below w.heap.size w w') := fun w ha => leaves_calls a n c xs w ha h1 h2
  have hN : (n + 3) / 4 ≤ 50 := by omega
  clear hd
  generalize (n + 3) / 4 = N at *
  go_enter Tryz.func70, Tryz.ntmps70
  go_wp2_with (first | (go_at_call 73; refine (HV.out _ ha).mono ?_; rintro e w1 ⟨a1, rfl, hl1, hw1⟩) | (go_at_call 128; refine (beside_calls 50 _ _ _ (leavesP xs n) i _ (by omega) (by omega) (by omega) hi hl1 (leavesP_ok _ _)).mono ?_; rintro e w2 ⟨v2, rfl, hown, hw2⟩; obtain ⟨a2, c2, rfl, hl2⟩ := hown.lst' HD.out))
  go_ret2
  exact ⟨_, _, rfl, hl2, hw1.trans (hw2.mono hw1.size)⟩

theorem path_out (a : Option Addr) (n c : Nat) (xs : List Int) (i : Int) (w : World) (ha : Lst w a n c xs) (h1 : 1 ≤ n) (h2 : n ≤ 200) (hi : ¬ (0 ≤ i ∧ i < ((n + 3) / 4 : Nat))) :
    Calls Tryz.prog 70 #[.slice a n c, .int .i64 i] w fun e w' => e = .returned (.tuple #[.slice none 0 0, .int .i64 1]) ∧ Below w.heap.size w w' := by
  have HV : Hid (∀ w, Lst w a n c xs → Calls Tryz.prog 73 #[.slice a n c] w fun e w' => ∃ a', e = .returned (.tuple #[.slice a' ((n + 3) / 4 : Nat) ((n + 3) / 4 : Nat), .int .i64 0]) ∧ LstW w' a' ((n + 3) / 4) ((n + 3) / 4) (leavesP xs n) ∧ Below w.heap.size w w') := fun w ha => leaves_calls a n c xs w ha h1 h2
  generalize (n + 3) / 4 = N at *
  by_cases h0 : i < 0
  · clear hi
    go_enter Tryz.func70, Tryz.ntmps70
    go_wp2_with (first | (go_at_call 73; refine (HV.out _ ha).mono ?_; rintro e w1 ⟨a1, rfl, hl1, hw1⟩))
    go_ret2
    exact ⟨rfl, hw1⟩
  · have h3 : (N : Int) ≤ i := by omega
    clear hi
    go_enter Tryz.func70, Tryz.ntmps70
    go_wp2_with (first | (go_at_call 73; refine (HV.out _ ha).mono ?_; rintro e w1 ⟨a1, rfl, hl1, hw1⟩))
    go_ret2
    exact ⟨rfl, hw1⟩

theorem path_bad (a : Option Addr) (n c : Nat) (i : Int) (w : World) (h : n = 0 ∨ 200 < n) :
    Calls Tryz.prog 70 #[.slice a n c, .int .i64 i] w fun e w' => e = .returned (.tuple #[.slice none 0 0, .int .i64 (errL n)]) ∧ Below w.heap.size w w' := by
  have he := errL_ne h
  have HB : Hid (∀ w, Calls Tryz.prog 73 #[.slice a n c] w fun e w' => e = .returned (.tuple #[.slice none 0 0, .int .i64 (errL n)]) ∧ w' = w) := fun w => leaves_bad a n c w h
  generalize errL n = E at *
  clear h
  go_enter Tryz.func70, Tryz.ntmps70
  go_wp2_with (go_at_call 73; refine (HB.out _).mono ?_; rintro e w' ⟨rfl, hw'⟩; replace hw' := hw'.symm; subst hw')
  go_ret2
  exact ⟨rfl, Below.refl _ _⟩

theorem Path_calls (a : Option Addr) (n c : Nat) (xs : List Int) (i : Int) (w : World) (ha : Lst w a n c xs) :
    Calls Tryz.prog 70 #[.slice a n c, .int .i64 i] w fun e w' => ∃ a' N c', e = .returned (.tuple #[.slice a' N c', .int .i64 (errP i n)]) ∧ N ≤ 50 ∧ LstW w' a' N c' (wayL xs n i) ∧ Below w.heap.size w w' := by
  unfold errP wayL
  by_cases h : n = 0 ∨ 200 < n
  · rw [if_pos h, if_neg (fun h' => h'.1 h)]
    refine (path_bad a n c i w h).mono ?_
    rintro e w' ⟨rfl, h2⟩
    exact ⟨_, _, _, rfl, by omega, LstW.nil _ _ _, h2⟩
  · rw [if_neg h]
    by_cases h3 : 0 ≤ i ∧ i < ((n + 3) / 4 : Nat)
    · rw [if_pos h3, if_pos ⟨h, h3⟩]
      obtain ⟨k, rfl⟩ : ∃ k : Nat, i = k := ⟨i.toNat, by omega⟩
      have hk : k < (n + 3) / 4 := by omega
      refine (path_good a n c xs k w ha (by omega) (by omega) hk).mono ?_
      rintro e w' ⟨a', c', rfl, h4, h5⟩
      have := deepP_le k ((n + 3) / 4)
      exact ⟨_, _, _, rfl, by omega, h4, h5⟩
    · rw [if_neg h3, if_neg (fun h' => h3 h'.2)]
      refine (path_out a n c xs i w ha (by omega) (by omega) h3).mono ?_
      rintro e w' ⟨rfl, h2⟩
      exact ⟨_, _, _, rfl, by omega, LstW.nil _ _ _, h2⟩

set_option maxHeartbeats 1600000 in
theorem Climb_calls (i n x : Int) (a : Option Addr) (len c : Nat) (ps : List Int) (w : World) (hx : okW x) (ha : LstW w a len c ps) (hp : okL ps) :
    Calls Tryz.prog 72 #[.int .i64 i, .int .i64 n, .int .u64 x, .slice a len c] w fun e w' => e = .returned (.tuple #[.int .u64 (upL i n x ps len), .int .i64 (errC i n len)]) ∧ Below w.heap.size w w' := by
  unfold upL errC
  by_cases h : okC i n
  · obtain ⟨h1, h2, h3, h4⟩ := id h
    rw [if_pos h]
    obtain ⟨k, rfl⟩ : ∃ k : Nat, i = k := ⟨i.toNat, by omega⟩
    obtain ⟨m, rfl⟩ : ∃ m : Nat, n = m := ⟨n.toNat, by omega⟩
    have HC : Hid (∀ w, Calls Tryz.prog 129 #[.int .i64 m] w fun e w' => e = .returned (.int .i64 ((m + 3) / 4 : Nat)) ∧ w' = w) := chunks_calls m (by omega)
    have ED : Hid (dpC k m = deepP k ((m + 3) / 4)) := by show dpC k m = _; unfold dpC; simp
    have hk : k < (m + 3) / 4 := by omega
    have hm : (m + 3) / 4 ≤ 50 := by omega
    have hn : okW (m : Int) := ⟨by omega, by omega⟩
    have hu : okW (upP k ((m + 3) / 4) x ps) := upP_ok hx
    have e1 : (k : Int).toNat = k := by omega
    have e2 : (m : Int).toNat = m := by omega
    rw [ED.out, e1, e2]
    clear h4 ED e1 e2
    by_cases h5 : len = deepP k ((m + 3) / 4)
    · rw [if_pos h5, if_pos ⟨h, h5⟩]
      have HQ : Hid (deepP k ((m + 3) / 4) = len) := h5.symm
      have q1 : ((len : Int) != (len : Int)) = false := by simp
      have h6 : len ≤ 50 := by have := deepP_le k ((m + 3) / 4); omega
      clear h h5
      generalize (m + 3) / 4 = N at *
      go_enter Tryz.func72, Tryz.ntmps72
      go_wp2_with (first | (go_at_call 129; refine (HC.out _).mono ?_; rintro e w' ⟨rfl, hw'⟩; replace hw' := hw'.symm; subst hw') | (go_at_call 130; refine (pairs_calls 50 _ _ _ hm (by omega) hm hk).mono ?_; rintro e w' ⟨rfl, hw'⟩; replace hw' := hw'.symm; subst hw'; rw [HQ.out]) | (go_at_call 131; refine (climb_calls 50 _ _ _ _ _ _ ps _ hm (by omega) hm hk hx ha hp HQ.out.symm).mono ?_; rintro e w1 ⟨rfl, hw1⟩) | (go_at_call 77; refine (dPair_calls _ _ hn hu _).mono ?_; rintro e w2 ⟨rfl, hw2⟩))
      go_ret2
      exact ⟨rfl, hw1.trans (hw2.mono hw1.size)⟩
    · rw [if_neg h5, if_neg (fun h' => h5 h'.2)]
      have h6 := deepP_le k ((m + 3) / 4)
      have HQ : Hid (∃ q, q = deepP k ((m + 3) / 4) ∧ ((len : Int) != (q : Int)) = true ∧ q ≤ 50) := ⟨_, rfl, by rw [bne_iff_ne]; omega, by omega⟩
      clear h h5
      generalize (m + 3) / 4 = N at *
      obtain ⟨q, hq, q1, q2⟩ := HQ.out
      have HQ2 : Hid (deepP k N = q) := hq.symm
      clear HQ hq h6
      go_enter Tryz.func72, Tryz.ntmps72
      go_wp2_with (first | (go_at_call 129; refine (HC.out _).mono ?_; rintro e w' ⟨rfl, hw'⟩; replace hw' := hw'.symm; subst hw') | (go_at_call 130; refine (pairs_calls 50 _ _ _ hm (by omega) hm hk).mono ?_; rintro e w' ⟨rfl, hw'⟩; replace hw' := hw'.symm; subst hw'; rw [HQ2.out]))
      go_ret2
      exact ⟨rfl, Below.refl _ _⟩
  · rw [if_neg h, if_neg (fun h' => h h'.1)]
    by_cases h1 : n < 1
    · clear h ha
      go_enter Tryz.func72, Tryz.ntmps72
      go_wp2
      go_ret2
      exact ⟨rfl, Below.refl _ _⟩
    · by_cases h2 : 200 < n
      · clear h ha
        go_enter Tryz.func72, Tryz.ntmps72
        go_wp2
        go_ret2
        exact ⟨rfl, Below.refl _ _⟩
      · by_cases h3 : i < 0
        · clear h ha
          go_enter Tryz.func72, Tryz.ntmps72
          go_wp2
          go_ret2
          exact ⟨rfl, Below.refl _ _⟩
        · obtain ⟨m, rfl⟩ : ∃ m : Nat, n = m := ⟨n.toNat, by omega⟩
          have h4 : (((m + 3) / 4 : Nat) : Int) ≤ i := by
            rcases Int.lt_or_le i (((m + 3) / 4 : Nat) : Int) with h5 | h5
            · exact absurd ⟨by omega, by omega, by omega, by omega⟩ h
            · exact h5
          have HC : Hid (∀ w, Calls Tryz.prog 129 #[.int .i64 m] w fun e w' => e = .returned (.int .i64 ((m + 3) / 4 : Nat)) ∧ w' = w) := chunks_calls m (by omega)
          clear h ha
          generalize (m + 3) / 4 = N at *
          go_enter Tryz.func72, Tryz.ntmps72
          go_wp2_with (go_at_call 129; refine (HC.out _).mono ?_; rintro e w' ⟨rfl, hw'⟩; replace hw' := hw'.symm; subst hw')
          go_ret2
          exact ⟨rfl, Below.refl _ _⟩

end Go.Proofs.YtimciamfgpdjlaaGreat.Fx

/- The walk of TreePaths: it returns true, whatever integers lie there, and nothing that was there is written. -/
namespace Go.Proofs.YtimciamfgpdjlaaGreat.Fx
open Go.RowKit

theorem Lst.one (w : World) (x : Int) (t : TypeId) : Lst (w.alloc (.cells #[.int .i64 x] t)) (some ⟨w.heap.size, 0, none⟩) 1 1 [x] := by
  refine ⟨rfl, Nat.le_refl _, .inr ⟨w.heap.size, 0, rfl, by simp, fun i hi => ?_⟩⟩
  obtain rfl : i = 0 := by omega
  exact cell_new _ _ _

theorem grown_tree : treeP (leavesP [5] 1) = ofA 4 (numL [5] 1) 1 := by decide +kernel
theorem grown_not : (ofP 3 [((1 : Nat) : Int), ofA 4 (numL [5] 1) 1] != 0) = true := by decide +kernel
theorem ofA_ok (kind : Int) (xs : List Int) (n : Nat) : okW (ofA kind xs n) := by
  unfold ofA
  by_cases h : 200 < n
  · rw [if_pos h]; exact ⟨by omega, by omega⟩
  · rw [if_neg h]; exact okW_of_P (ofP_ok _ _)

theorem grown_calls (w : World) : Calls Tryz.prog 25 #[] w fun e w' => e = .returned (.bool true) ∧ Below w.heap.size w w' := by
  have HT : Hid (treeP (leavesP [5] 1) = ofA 4 (numL [5] 1) 1) := grown_tree
  have HN : Hid ((ofP 3 [((1 : Nat) : Int), ofA 4 (numL [5] 1) 1] != 0) = true) := grown_not
  have HO : Hid (okW (ofA 4 (numL [5] 1) 1)) := ofA_ok _ _ _
  have HB : Hid (bigI 1 = 0) := rfl
  generalize hX : ofA 4 (numL [5] 1) 1 = X at *
  have HX : Hid (ofA 4 (numL [5] 1) 1 = X) := hX
  generalize hR : ofP 3 [((1 : Nat) : Int), X] = R at *
  have HR : Hid (ofP 3 [(1 : Int), X] = R) := hR
  have HN2 := HN.out
  clear hX hR HN
  go_enter Tryz.func25, Tryz.ntmps25
  go_wp2_with fail
  refine (root_good _ _ _ [5] _ (Lst.one _ _ _) (by omega) (by omega)).mono ?_
  rintro e w1 ⟨rfl, hw1⟩
  rw [HT.out, show ((1 : Nat) : Int) = 1 from rfl, HR.out]
  have b1 : Below w.heap.size w w1 := ((Below.refl _ _).alloc (Nat.le_refl _) _).trans (hw1.mono (by simp))
  clear hw1
  go_wp2_with fail
  refine (dNumbers_calls _ _ _ [5] _ (Lst.one _ _ _)).mono ?_
  rintro e w2 ⟨a2, n2, rfl, hn2, l2, hw2⟩
  obtain rfl : 1 = n2 := l2.len
  have b2 := (b1.alloc b1.size (.cells #[.int .i64 5] 3)).trans (hw2.mono (by have := b1.size; simp; omega))
  rw [HB.out]
  clear hw2 b1
  go_wp2_with fail
  refine (dOf_calls 4 ⟨by omega, by omega⟩ _ _ _ _ _ l2 (numL_ok _ _)).mono ?_
  rintro e w3 ⟨rfl, hw3⟩
  have b3 := b2.trans (hw3.mono b2.size)
  rw [HB.out, HX.out]
  clear hw3 b2
  go_wp2_with fail
  refine (dPair_calls _ _ ⟨by omega, by omega⟩ HO.out _).mono ?_
  rintro e w4 ⟨rfl, hw4⟩
  rw [HR.out]
  have b4 := b3.trans (hw4.mono b3.size)
  clear hw4 b3
  go_wp2
  go_ret
  exact ⟨rfl, b4⟩

theorem rest_calls (n : Int) (m : Nat) (h1 : 1 ≤ m) (h2 : m ≤ 200) (w : World) :
    Calls Tryz.prog 20 #[.int .i64 n, .int .i64 m] w fun e w' => (∃ k : Nat, k < m ∧ e = .returned (.int .i64 k)) ∧ w' = w := by
  obtain ⟨r, hr⟩ : ∃ r, n.tmod (m : Int) = r := ⟨_, rfl⟩
  have r1 : r < (m : Int) := by rw [← hr]; exact Int.tmod_lt_of_pos _ (by omega)
  have r2 : -(m : Int) < r := by
    rw [← hr]
    have := Int.tmod_lt_of_pos (-n) (b := (m : Int)) (by omega)
    rw [Int.neg_tmod] at this
    omega
  by_cases h : r < 0
  · go_enter Tryz.func20, Tryz.ntmps20
    go_wp2
    go_ret
    exact ⟨⟨(r + m).toNat, by omega, ret_word (by omega)⟩, rfl⟩
  · go_enter Tryz.func20, Tryz.ntmps20
    go_wp2
    go_ret
    exact ⟨⟨r.toNat, by omega, ret_word (by omega)⟩, rfl⟩

theorem list_calls (a : Option Addr) (la ca : Nat) (xs : List Int) (w : World) (ha : Lst w a la ca xs) :
    Calls Tryz.prog 28 #[.slice a la ca] w fun e w' => ∃ a' n c' ys, e = .returned (.slice a' n c') ∧ 1 ≤ n ∧ n ≤ 60 ∧ Lst w' a' n c' ys ∧ Below w.heap.size w w' := by
  by_cases h0 : la = 0
  · have n0 : ((la : Int) == 0) = true := by rw [beq_iff_eq]; omega
    go_enter Tryz.func28, Tryz.ntmps28
    go_wp2
    go_ret
    exact ⟨_, _, _, [7], rfl, by omega, by omega, Lst.one _ _ _, (Below.refl _ _).alloc (Nat.le_refl _) _⟩
  · have n0 : ((la : Int) == 0) = false := by rw [beq_eq_false_iff_ne]; omega
    have hk := ha.cap
    obtain ⟨b, off, x, rfl, hb, _, _⟩ := ha.at1 (k := 0) (by omega)
    have hA : Hid (∀ k, k ≤ la → Lst w (some ⟨b, off, none⟩) k ca (xs.take k)) := fun k hk => by simpa using ha.sub (by omega) 0 k (Nat.zero_le _) hk
    clear ha
    by_cases h1 : la < 60
    · go_enter Tryz.func28, Tryz.ntmps28
      go_wp2
      go_ret
      exact ⟨_, _, _, _, rfl, by omega, by omega, hA.out la (Nat.le_refl _), Below.refl _ _⟩
    · go_enter Tryz.func28, Tryz.ntmps28
      go_wp2
      go_ret
      exact ⟨_, _, _, _, rfl, by omega, by omega, hA.out 60 (by omega), Below.refl _ _⟩

/-- Merkle's law in the program's terms: by a leaf's own way one comes to the root. -/
theorem climb_root (xs : List Int) (n k : Nat) (h1 : 1 ≤ n) (h2 : n ≤ 200) (hk : k < (n + 3) / 4) :
    upL k n ((leavesP xs n).getD k 0) (wayP (leavesP xs n) k) (deepP k ((n + 3) / 4)) = ofP 3 [(n : Int), treeP (leavesP xs n)] ∧ errC k n (deepP k ((n + 3) / 4)) = 0 := by
  have hc : okC k n := ⟨by omega, by omega, by omega, by omega⟩
  have hd : deepP k ((n + 3) / 4) = dpC k n := by unfold dpC; simp
  have hw := way_up _ (leavesP xs n) k (Nat.le_refl _) (by rw [leavesP_len]; exact hk)
  rw [leavesP_len] at hw
  refine ⟨?_, ?_⟩
  · unfold upL
    rw [if_pos (And.intro hc hd)]
    simp only [Int.toNat_natCast]
    rw [hw]
  · unfold errC
    rw [if_pos hc, if_pos hd]

end Go.Proofs.YtimciamfgpdjlaaGreat.Fx

/- What package spot's Chunk and Opens answer, in plain numbers, for every input; what a law may ask of them is said as contracts that are handed in. -/
namespace Go.Proofs.YtimciamfgpdjlaaGreat.Fx
open Go.RowKit

/-- Chunk i of n numbers. -/
def partL (xs : List Int) (n i : Nat) : List Int := (xs.drop (i * 4)).take (hiN n i - i * 4)
def ckP (xs : List Int) (n : Nat) (i : Int) : List Int := if errP i n = 0 then partL xs n i.toNat else []
def opE (n i : Int) (m p : Nat) : Int := if errC i n p = 0 then (if (m : Int) = min 4 (n - 4 * i) then 0 else 5) else errC i n p
def opB (root n i : Int) (m : Nat) (xs : List Int) (p : Nat) (ps : List Int) : Bool := if opE n i m p = 0 then decide (upL i n (ofP 4 (numL xs m)) ps p = root % 2305843009213693951) else false
theorem partL_len {xs : List Int} {n i : Nat} (h : xs.length = n) (hi : i < (n + 3) / 4) : (partL xs n i).length = hiN n i - i * 4 := by
  unfold partL hiN
  rw [List.length_take, List.length_drop, h]
  omega
theorem honest_chunk {xs : List Int} {n k : Nat} (h1 : 1 ≤ n) (h2 : n ≤ 200) (hk : k < (n + 3) / 4) :
    errP k n = 0 ∧ ckP xs n k = partL xs n k ∧ wayL xs n k = wayP (leavesP xs n) k := by
  have e : errP k n = 0 := by
    unfold errP
    rw [if_neg (by omega), if_pos ⟨by omega, by omega⟩]
  refine ⟨e, by unfold ckP; rw [if_pos e]; rfl, ?_⟩
  unfold wayL
  rw [if_pos ⟨by omega, by omega, by omega⟩]
  rfl
theorem honest_opens {xs : List Int} {n k : Nat} (h : xs.length = n) (h1 : 1 ≤ n) (h2 : n ≤ 200) (hk : k < (n + 3) / 4) {r : Int} (hr : ofP 3 [(n : Int), treeP (leavesP xs n)] = r) :
    opE n k (partL xs n k).length (wayP (leavesP xs n) k).length = 0 ∧ opB r n k (partL xs n k).length (partL xs n k) (wayP (leavesP xs n) k).length (wayP (leavesP xs n) k) = true := by
  have hl := leavesP_len xs n
  have hw := (way_deep (leavesP xs n).length (leavesP xs n) k (Nat.le_refl _) (leavesP_ok xs n)).1
  rw [hl] at hw
  obtain ⟨c1, c2⟩ := climb_root xs n k h1 h2 hk
  have hp := partL_len h hk
  have hE : opE n k (partL xs n k).length (wayP (leavesP xs n) k).length = 0 := by
    unfold opE
    rw [hw, if_pos c2, hp, if_pos (by unfold hiN; omega)]
  refine ⟨hE, ?_⟩
  unfold opB
  rw [if_pos hE, hw]
  have hleaf : ofP 4 (numL (partL xs n k) (partL xs n k).length) = (leavesP xs n).getD k 0 := by
    rw [hp]
    unfold leavesP
    rw [List.getD_eq_getElem?_getD, List.getElem?_map, List.getElem?_range hk]
    rfl
  rw [hleaf, c1, hr]
  have ho := ofP_ok 3 [(n : Int), treeP (leavesP xs n)]
  rw [hr] at ho
  rw [decide_eq_true]
  rw [Int.emod_eq_of_lt ho.1 ho.2]

/-- What spot.Chunk is to answer. -/
def ChunkSays : Prop := ∀ (a1 : Option Addr) (n1 k1 : Nat) (ws : List Int) (a2 : Option Addr) (n2 k2 : Nat) (ms : List Int) (i : Int) (w : World), Lst w a1 n1 k1 ws → Lst w a2 n2 k2 ms → n1 + n2 ≤ 1048576 →
  Calls Tryz.prog 23 #[.agg #[.slice a1 n1 k1, .slice a2 n2 k2], .int .i64 i] w fun e w' => ∃ b1 m1 d1 b2 m2 d2, e = .returned (.tuple #[.slice b1 m1 d1, .slice b2 m2 d2, .int .i64 (errP i (n1 + n2))]) ∧ m1 ≤ 200 ∧ m2 ≤ 200 ∧ Lst w' b1 m1 d1 (ckP (ws ++ ms) (n1 + n2) i) ∧ LstW w' b2 m2 d2 (wayL (ws ++ ms) (n1 + n2) i) ∧ Below w.heap.size w w'

/-- What spot.Opens is to answer. -/
def OpensSays : Prop := ∀ (root n i : Int) (a : Option Addr) (m c : Nat) (xs : List Int) (b : Option Addr) (p d : Nat) (ps : List Int) (w : World), okW root → (-9223372036854775808 ≤ n ∧ n ≤ 9223372036854775807) → (-9223372036854775808 ≤ i ∧ i ≤ 9223372036854775807) → Lst w a m c xs → LstW w b p d ps → okL ps → m ≤ 9223372036854775807 → p ≤ 9223372036854775807 →
  Calls Tryz.prog 24 #[.int .u64 root, .int .i64 n, .int .i64 i, .slice a m c, .slice b p d] w fun e w' => e = .returned (.tuple #[.bool (opB root n i m xs p ps), .int .i64 (opE n i m p)]) ∧ Below w.heap.size w w'

end Go.Proofs.YtimciamfgpdjlaaGreat.Fx

/- What spot.sameByP and spot.size return. -/
namespace Go.Proofs.YtimciamfgpdjlaaGreat.Fx
open Go.RowKit

theorem two_cells (w : World) (v0 v1 : Value) (t : TypeId) : (w.alloc (.cells #[v0, v1] t)).cell? ⟨w.heap.size, 0, none⟩ = some v0 ∧ (w.alloc (.cells #[v0, v1] t)).cell? ⟨w.heap.size, 1, none⟩ = some v1 := by
  have h := World.rowIs_alloc w #[v0, v1] t (fun i => if i = 0 then v0 else v1) (by
    intro i hi
    rcases (show i = 0 ∨ i = 1 from by have : i < 2 := hi
                                       omega) with rfl | rfl <;> rfl)
  exact ⟨h.cell (i := 0) (by simp), h.cell (i := 1) (by simp)⟩

theorem sameByP_calls (x y : Int) (hx : okW x) (hy : okW y) (w : World) :
    Calls Tryz.prog 65 #[.int .u64 x, .int .u64 y] w fun e w' => e = .returned (.bool (decide (x % 2305843009213693951 = y % 2305843009213693951))) ∧ w' = w := by
  obtain ⟨x0, x1⟩ := hx
  obtain ⟨y0, y1⟩ := hy
  obtain ⟨MX, HMX⟩ : ∃ t, Hid (x % 2305843009213693951 = t) := ⟨_, rfl⟩
  obtain ⟨MY, HMY⟩ : ∃ t, Hid (y % 2305843009213693951 = t) := ⟨_, rfl⟩
  have tx : x.tmod 2305843009213693951 = MX := by rw [← HMX.out, Int.tmod_eq_emod_of_nonneg x0]
  have ty : y.tmod 2305843009213693951 = MY := by rw [← HMY.out, Int.tmod_eq_emod_of_nonneg y0]
  have ex : x % 2305843009213693951 = MX := HMX.out
  have ey : y % 2305843009213693951 = MY := HMY.out
  rw [ex, ey]
  clear HMX HMY
  go_enter Tryz.func65, Tryz.ntmps65
  go_wp2
  go_ret
  exact ⟨by rfl, rfl⟩

theorem size_calls (n i : Int) (hi : 0 ≤ i ∧ i ≤ 50) (hn : 0 ≤ n ∧ n ≤ 200) (w : World) :
    Calls Tryz.prog 71 #[.int .i64 n, .int .i64 i] w fun e w' => e = .returned (.int .i64 (min 4 (n - 4 * i))) ∧ w' = w := by
  obtain ⟨i0, i1⟩ := hi
  obtain ⟨n0, n1⟩ := hn
  by_cases h : n - i * 4 < 4
  · have e : min 4 (n - 4 * i) = n - i * 4 := by omega
    rw [e]
    go_enter Tryz.func71, Tryz.ntmps71
    go_wp2
    go_ret
    exact ⟨rfl, rfl⟩
  · have e : min 4 (n - 4 * i) = 4 := by omega
    rw [e]
    go_enter Tryz.func71, Tryz.ntmps71
    go_wp2
    go_ret
    exact ⟨rfl, rfl⟩
end Go.Proofs.YtimciamfgpdjlaaGreat.Fx

/- What slices.Grow (of nil), slices.Concat (of four lists) and pupil.Flat return. -/
namespace Go.Proofs.YtimciamfgpdjlaaGreat.Fx
open Go.RowKit

set_option maxRecDepth 100000 in
set_option maxHeartbeats 800000 in
theorem grow_calls (n : Nat) (w : World) (h0 : 0 < n) (h1 : n ≤ 1000) :
    Calls Tryz.prog 127 #[.slice none 0 0, .int .i64 n] w fun e w' => ∃ v, e = .returned v ∧ OwnI w.heap.size w' v [] ∧ Below w.heap.size w w' := by
  obtain ⟨i0, hi, hz0, hz1, hz2⟩ := info_parts info3
  have happ := fun ty => Lib.run_append_nil_zeros (P := Tryz.prog) w 26 3 ty 3 i0 (.int .i64 0) .i64 .i64 Tryz.underlying26 Tryz.underlying3 hi hz0 n h0 (by omega) (by omega) (by rw [hz2]; omega)
  have hge := grownCap_ge w n 0 3
  have hle := grownCap_le_maxLen w n 0 3 (by unfold maxLen; omega)
  generalize grownCap w n 0 3 = G at happ hge hle
  have hG63 : G ≤ 9223372036854775807 := by unfold maxLen at hle; omega
  have hsz : (Builtin.zeroCells (Value.int .i64 0).cells n ++ Builtin.zeroCells (Value.int .i64 0).cells (G - n)).size = G * 1 := by
    simp [size_zeroCells, Value.cells]; omega
  generalize Builtin.zeroCells (Value.int .i64 0).cells n ++ Builtin.zeroCells (Value.int .i64 0).cells (G - n) = cs at happ hsz
  have hpos : (n : Int) > 0 := by omega
  go_enter Tryz.func127, Tryz.ntmps127
  go_wp2_with (at_builtin; refine Lib.wpList_append_run _ rfl _ _ _ _ rfl _ _ rfl rfl _ _ (happ _) ?_)
  go_ret
  refine ⟨_, rfl, ⟨rfl, .inr ⟨w.heap.size, G, cs, rfl, Nat.le_refl _, ?_, Nat.zero_le _, hle, hsz, rfl⟩⟩, ?_⟩
  · exact heap_alloc_new w.drew _
  · exact ((Below.refl _ _).drew).alloc (Nat.le_refl _) _

/-! An append of as many integers as a list has. -/
section
variable {w' W0 : World} {ops : Array Oper} {o : Oper} {a : Act} {Q : Exit → Act → World → Prop}

theorem run_append_ints (ty : TypeId) (base : Nat) (v : Value) (xs ys : List Int) (src : Option Addr) (m c : Nat) (hm : 0 < m) (hown : OwnI base w' v xs) (hsrc : Lst w' src m c ys)
    (hn : (xs.length + m) * 8 ≤ 140737488355328) (hbase : base ≤ w'.heap.size) (hB : Below base W0 w') :
    ∃ v' w1, (Builtin.append_ #[26, 26] ty #[v, .slice src m c]).run Tryz.prog w' = .ok v' w1 ∧ OwnI base w1 v' (xs ++ ys) ∧ Below base W0 w1 := by
  obtain ⟨i0, hi, hz0, hz1, hz2⟩ := info_parts info3
  have hl := hsrc.len
  obtain ⟨b, off, rfl, _, hc⟩ := hsrc.at hm
  obtain ⟨v', w1, hrun, h1, h2, _⟩ := run_append_own (P := Tryz.prog) w' base 26 ty 3 i0 (.int .i64 0) 1 8 Tryz.underlying26 hi hz0 hz1 hz2 rfl (by decide) v xs.length _ hown ⟨b, off, none⟩ m c (ys.map (Value.int .i64)) (by simp [hl])
    (by intro j u hj
        have hj' : j < ys.length := by
          have := (List.getElem?_eq_some_iff.1 hj).1
          simpa using this
        rw [getD_map_int ys j hj'] at hj
        rw [Go.WideShapes.add_plain, hc j (by omega)]
        exact hj)
    (by intro u hu
        obtain ⟨z, _, rfl⟩ := List.mem_map.1 hu
        rfl) (by unfold maxLen; omega) hn hbase
  refine ⟨v', w1, hrun, by unfold OwnI; rw [List.length_append, List.map_append, hl]; exact h1, hB.grown h2 hbase ?_⟩
  intro k hk
  rcases hown.2 with ⟨rfl, _⟩ | ⟨g', cap, cur, rfl, hg, _⟩
  · simp [Value.ownBlock] at hk
  · simp [Value.ownBlock] at hk; omega

theorem wpList_append_ints {rest : List Oper} (hgd : o.guard = none) (s x : Operand) (ho : o.op = .call { callee := .builtin .append, args := #[s, x], argTypes := #[26, 26] })
    (base : Nat) (v : Value) (xs ys : List Int) (src : Option Addr) (m c : Nat) (W0 : World) (hm : 0 < m) (hs : a.eval s = v) (hx : a.eval x = .slice src m c) (hown : OwnI base w' v xs) (hsrc : Lst w' src m c ys)
    (hn : (xs.length + m) * 8 ≤ 140737488355328) (hbase : base ≤ w'.heap.size) (hB : Below base W0 w')
    (h : ∀ v' w1, OwnI base w1 v' (xs ++ ys) → Below base W0 w1 → wpList Tryz.prog ops Q rest (a.put o.dst v') w1) : wpList Tryz.prog ops Q (o :: rest) a w' := by
  obtain ⟨v', w1, hrun, h1, h2⟩ := run_append_ints o.type base v xs ys src m c hm hown hsrc hn hbase hB
  refine wpList_plain hgd fun K hK => ?_
  unfold Oper.wp
  simp [execOp, ho, resolve, invoke, builtin, hs, hx, hrun, Result.andThen]
  exact hK _ _ (h v' w1 h1 h2)
end

def lenTo (L : Nat → Nat) : Nat → Nat
  | 0 => 0
  | k + 1 => lenTo L k + L k
def catTo (X : Nat → List Int) : Nat → List Int
  | 0 => []
  | k + 1 => catTo X k ++ X k
theorem lenTo_le (L : Nat → Nat) {k n : Nat} (h : k ≤ n) : lenTo L k ≤ lenTo L n := by
  induction n with
  | zero => obtain rfl : k = 0 := by omega
            exact Nat.le_refl _
  | succ n ih =>
    by_cases e : k = n + 1
    · subst e; exact Nat.le_refl _
    · have := ih (by omega)
      rw [lenTo]; omega
theorem catTo_len (X : Nat → List Int) (L : Nat → Nat) (n : Nat) (h : ∀ i, i < n → (X i).length = L i) : (catTo X n).length = lenTo L n := by
  induction n with
  | zero => rfl
  | succ n ih => rw [catTo, lenTo, List.length_append, ih (fun i hi => h i (by omega)), h n (by omega)]

set_option maxHeartbeats 1600000 in
theorem concat_calls (n : Nat) (A : Nat → Option Addr) (L C : Nat → Nat) (X : Nat → List Int) (b : Nat) (w : World) (hb : b < w.heap.size) (hn0 : 0 < n) (hn : n ≤ 1000) (hc : ∀ i, i < n → w.cell? ⟨b, i, none⟩ = some (.slice (A i) (L i) (C i)))
    (hl : ∀ i, i < n → Lst w (A i) (L i) (C i) (X i)) (hp : ∀ i, i < n → 0 < L i) (hs : lenTo L n ≤ 1000) :
    Calls Tryz.prog 69 #[.slice (some ⟨b, 0, none⟩) n n] w fun e w' => ∃ v, e = .returned v ∧ OwnI w.heap.size w' v (catTo X n) ∧ Below w.heap.size w w' := by
  have HC : Hid (∀ i, i < n → w.cell? ⟨b, i, none⟩ = some (.slice (A i) (L i) (C i))) := hc
  have HL : Hid (∀ i, i < n → Lst w (A i) (L i) (C i) (X i)) := hl
  have HP : Hid (∀ i, i < n → 0 < L i) := hp
  clear hc hl hp
  go_enter Tryz.func69, Tryz.ntmps69
  go_wp2
  go_loopw [3, 11] (fun s i wr => ∃ k : Nat, k ≤ n ∧ i = .int .i64 k ∧ s = .int .i64 (lenTo L k) ∧ wr = w) (fun _ i _ => n - (intOf i).toNat)
  case atStart => exact ⟨0, Nat.zero_le _, rfl, rfl, rfl⟩
  case round =>
    obtain ⟨k, hk, rfl, rfl, hw⟩ := hrel
    replace hw := hw.symm
    subst hw
    by_cases hlt : k < n
    · have c := HC.out k hlt
      have b1 := lenTo_le L (k := k + 1) (n := n) (by omega)
      have b2 : lenTo L (k + 1) = lenTo L k + L k := rfl
      obtain ⟨l, hl⟩ : ∃ l, Hid (L k = l) := ⟨_, rfl⟩
      obtain ⟨T, hT⟩ : ∃ T, Hid (lenTo L k = T) := ⟨_, rfl⟩
      rw [hl.out] at c b2
      rw [hT.out] at b2
      have b3 : T + l ≤ 1000 := by omega
      rw [hT.out]
      clear b1 b2
      go_wp2
      go_roundw
      case rel => exact ⟨k + 1, by omega, by go_num, by rw [lenTo, hT.out, hl.out]; go_num, by trivial⟩
      case measure => simp [intOf]; omega
    · obtain rfl : k = n := by omega
      have hpos : 0 < lenTo L k := by
        have b1 := lenTo_le L (k := 1) (n := k) (by omega)
        have b2 : lenTo L 1 = 0 + L 0 := rfl
        have := HP.out 0 hn0
        omega
      obtain ⟨T, hT⟩ : ∃ T, Hid (lenTo L k = T) := ⟨_, rfl⟩
      have HS : Hid (lenTo L k ≤ 1000) := hs
      rw [hT.out] at hs hpos ⊢
      go_wp2_with fail
      refine (grow_calls T _ hpos hs).mono ?_
      rintro e w1 ⟨v0, rfl, hown, hw1⟩
      go_wp2
      go_loopw [6, 27] (fun v i wr => ∃ j : Nat, j ≤ k ∧ i = .int .i64 j ∧ OwnI w.heap.size wr v (catTo X j) ∧ Below w.heap.size w wr) (fun _ i _ => k - (intOf i).toNat)
      case atStart => exact ⟨0, Nat.zero_le _, rfl, hown, hw1⟩
      case round =>
        obtain ⟨j, hj, rfl, hown, hbel⟩ := hrel
        have hsz := hbel.size
        by_cases hlt2 : j < k
        · have c := (hbel.cell (p := ⟨b, j, none⟩) (by exact hb)).trans (HC.out j hlt2)
          have hx := (HL.out j hlt2).below hbel (Nat.le_refl _)
          have hp := HP.out j hlt2
          have hlen : (catTo X j).length + L j ≤ 1000 := by
            rw [catTo_len X L j (fun i hi => (HL.out i (by omega)).len)]
            have b1 := lenTo_le L (k := j + 1) (n := k) (by omega)
            have b2 : lenTo L (j + 1) = lenTo L j + L j := rfl
            have := HS.out
            omega
          obtain ⟨l, hl⟩ : ∃ l, Hid (L j = l) := ⟨_, rfl⟩
          rw [hl.out] at c hx hp hlen
          go_wp2_with (at_builtin; refine wpList_append_ints (by rfl) _ _ (by rfl) w.heap.size _ (catTo X j) (X j) (A j) l (C j) w hp (by rfl) (by rfl) (by exact hown) (by exact hx) (by omega) (by exact hsz) (by exact hbel) ?_; intro v1 w3 hown1 hbel1)
          go_roundw
          case rel => exact ⟨j + 1, by omega, by go_num, hown1, hbel1⟩
          case measure => simp [intOf]; omega
        · obtain rfl : j = k := by omega
          go_wp2
          go_ret
          exact ⟨_, rfl, hown, hbel⟩

def four {α : Type} (x0 x1 x2 x3 : α) (i : Nat) : α := if i = 0 then x0 else if i = 1 then x1 else if i = 2 then x2 else x3
theorem lt_four {i : Nat} (h : i < 4) : i = 0 ∨ i = 1 ∨ i = 2 ∨ i = 3 := by omega

theorem concat4 (a0 a1 a2 a3 : Option Addr) (l0 l1 l2 l3 c0 c1 c2 c3 : Nat) (x0 x1 x2 x3 : List Int) (g : Nat) (w : World) (hg : g = w.heap.size) (h0 : Lst w a0 l0 c0 x0) (h1 : Lst w a1 l1 c1 x1) (h2 : Lst w a2 l2 c2 x2) (h3 : Lst w a3 l3 c3 x3)
    (p0 : 0 < l0) (p1 : 0 < l1) (p2 : 0 < l2) (p3 : 0 < l3) (hs : l0 + l1 + l2 + l3 ≤ 1000) :
    Calls Tryz.prog 69 #[.slice (some ⟨g, 0, none⟩) 4 4] (w.alloc (.cells #[.slice a0 l0 c0, .slice a1 l1 c1, .slice a2 l2 c2, .slice a3 l3 c3] 26)) fun e w' => ∃ a n c, e = .returned (.slice a n c) ∧ n = l0 + l1 + l2 + l3 ∧ Lst w' a n c (x0 ++ (x1 ++ (x2 ++ x3))) ∧ Below w.heap.size w w' := by
  subst hg
  have hal := (Below.refl w.heap.size w).alloc (Nat.le_refl _) (.cells #[.slice a0 l0 c0, .slice a1 l1 c1, .slice a2 l2 c2, .slice a3 l3 c3] 26)
  have hr := World.rowIs_alloc w #[.slice a0 l0 c0, .slice a1 l1 c1, .slice a2 l2 c2, .slice a3 l3 c3] 26 (fun i => .slice (four a0 a1 a2 a3 i) (four l0 l1 l2 l3 i) (four c0 c1 c2 c3 i)) (by
    intro i hi
    rcases lt_four hi with rfl | rfl | rfl | rfl <;> rfl)
  refine (concat_calls 4 (four a0 a1 a2 a3) (four l0 l1 l2 l3) (four c0 c1 c2 c3) (four x0 x1 x2 x3) w.heap.size _ (by simp) (by omega) (by omega) (fun i hi => hr.cell hi) ?_ ?_ ?_).mono ?_
  · intro i hi
    rcases lt_four hi with rfl | rfl | rfl | rfl
    · exact h0.below hal (Nat.le_refl _)
    · exact h1.below hal (Nat.le_refl _)
    · exact h2.below hal (Nat.le_refl _)
    · exact h3.below hal (Nat.le_refl _)
  · intro i hi
    rcases lt_four hi with rfl | rfl | rfl | rfl
    · exact p0
    · exact p1
    · exact p2
    · exact p3
  · show 0 + l0 + l1 + l2 + l3 ≤ 1000
    omega
  · rintro e w' ⟨v, rfl, hown, hb⟩
    obtain ⟨a, c, rfl, hl⟩ := hown.lst
    have e1 : catTo (four x0 x1 x2 x3) 4 = x0 ++ (x1 ++ (x2 ++ x3)) := by
      show (([] ++ x0) ++ x1 ++ x2) ++ x3 = _
      simp [List.append_assoc]
    rw [e1] at hl ⊢
    exact ⟨a, _, c, rfl, by simp [h0.len, h1.len, h2.len, h3.len]; omega, hl, hal.trans (hb.mono hal.size)⟩

theorem flatD_len {I H O : Nat} {a1 : Option Addr} {k1 : Nat} {a2 : Option Addr} {k2 : Nat} {d1 : Option Addr} {e1 : Nat} {d2 : Option Addr} {e2 : Nat} {d : PD} {w : World} (h : InPup w (rpup I H O a1 k1 a2 k2 d1 e1 d2 e2) d) :
    d.X1.length = H * I ∧ d.B1.length = H ∧ d.X2.length = O * H ∧ d.B2.length = O := ⟨h.x1.len, h.b1.len, h.x2.len, h.b2.len⟩

set_option maxHeartbeats 1600000 in
theorem pflat_calls (p : Pup) (d : PD) (w : World) (h : InPup w p d) :
    Calls Tryz.prog 30 #[p.val] w fun e w' => ∃ a n c, e = .returned (.tuple #[.slice a n c, .int .i64 (pchk p d)]) ∧ n ≤ 40 ∧ Lst w' a n c (flatL p d) ∧ Below w.heap.size w w' := by
  have hal := (Below.refl w.heap.size w).alloc (Nat.le_refl _) (.cells p.cells 62)
  have h1 := h.below hal (Nat.le_refl _)
  have hck := pcheck_calls p d _ h1
  unfold flatL
  rcases pchk_cases p d with h0 | ⟨h0, t0, _⟩
  · rw [if_pos h0]
    have G : Hid (pchk p d = 0) := h0
    obtain ⟨I, H, O, a1, k1, a2, k2, d1, e1, d2, e2, rfl, i1, i2, j1, j2, o1, o2, hr⟩ := pchk_zero h0
    clear h0 hr h
    obtain ⟨X1, X2, B1, B2⟩ := d
    obtain ⟨hx1, hx2, hb1, hb2⟩ := h1
    simp only [Pup.val, Pup.cells, rpup] at *
    have s1 := prod_sideN j2 i2
    have s2 := prod_sideN o2 j2
    have s3 : 0 < H * I := Nat.mul_pos (by omega) (by omega)
    have s4 : 0 < O * H := Nat.mul_pos (by omega) (by omega)
    go_enter Tryz.func30, Tryz.ntmps30
    go_wp2_with fail
    refine hck.mono ?_
    rintro e w1 ⟨rfl, hw1⟩
    rw [G.out]
    obtain ⟨f0, f1, f2, f3, f4, f5, f6, f7⟩ := box8 hw1 (by simp)
    have hbw := hal.trans (hw1.mono hal.size)
    have hx1 := hx1.below hw1 (Nat.le_refl _)
    have hx2 := hx2.below hw1 (Nat.le_refl _)
    have hb1 := hb1.below hw1 (Nat.le_refl _)
    have hb2 := hb2.below hw1 (Nat.le_refl _)
    clear hal hck hw1
    go_wp2_with fail
    refine (concat4 a1 d1 a2 d2 _ _ _ _ _ _ _ _ X1 B1 X2 B2 _ _ rfl hx1 hb1 hx2 hb2 s3 (by omega) s4 (by omega) (by omega)).mono ?_
    rintro e w2 ⟨a, n, c, rfl, hn, hl, hw2⟩
    have hn40 : n ≤ 40 := by omega
    clear hn
    go_wp2
    go_ret2
    exact ⟨a, n, c, by rw [G.out]; rfl, hn40, hl, hbw.trans (hw2.mono hbw.size)⟩
  · rw [if_neg h0]
    obtain ⟨r1, c1, a1, n1, k1, r2, c2, a2, n2, k2, d1, m1, e1, d2, m2, e2⟩ := p
    simp only [Pup.val, Pup.cells] at *
    clear h h1
    go_enter Tryz.func30, Tryz.ntmps30
    go_wp2_with fail
    refine hck.mono ?_
    rintro e w1 ⟨rfl, hw1⟩
    go_wp2
    go_ret2
    exact ⟨_, _, _, rfl, Nat.zero_le _, Lst.nil _ _ _, hal.trans (hw1.mono hal.size)⟩
end Go.Proofs.YtimciamfgpdjlaaGreat.Fx

/- One append of an integer to a list that the program itself makes, beside blocks of its own that stay as they are. -/
namespace Go.Proofs.YtimciamfgpdjlaaGreat.Fx
open Go.RowKit

section
variable {w' W0 : World} {ops : Array Oper} {o : Oper} {a : Act} {Q : Exit → Act → World → Prop}

theorem run_append_far (ty : TypeId) (base : Nat) (v : Value) (xs : List Int) (z : Int) (g : Nat) (hown : OwnI base w' v xs) (hc : w'.cell? ⟨g, 0, none⟩ = some (.int .i64 z)) (hn : (xs.length + 1) * 8 ≤ 140737488355328) (hbase : base ≤ w'.heap.size) (hB : Below base W0 w') :
    ∃ v' w1, (Builtin.append_ #[26, 26] ty #[v, .slice (some ⟨g, 0, none⟩) 1 1]).run Tryz.prog w' = .ok v' w1 ∧ OwnI base w1 v' (xs ++ [z]) ∧ Below base W0 w1 ∧ w'.grownBy w1 v.ownBlock ∧ (v'.ownBlock = v.ownBlock ∨ v'.ownBlock = some w'.heap.size) := by
  obtain ⟨i0, hi, hz0, hz1, hz2⟩ := info_parts info3
  obtain ⟨v', w1, hrun, h1, h2, _, h3⟩ := run_append_own_at (P := Tryz.prog) w' base 26 ty 3 i0 (.int .i64 0) 1 8 Tryz.underlying26 hi hz0 hz1 hz2 rfl (by decide) v xs.length _ hown ⟨g, 0, none⟩ 1 1 [.int .i64 z] rfl
    (by intro j u hj
        match j, hj with
        | 0, hj => simp at hj; subst hj; simpa [Addr.add] using hc)
    (by intro u hu; simp at hu; subst hu; rfl) (by unfold maxLen; omega) hn hbase
  refine ⟨v', w1, hrun, by unfold OwnI; rw [List.length_append, List.map_append]; exact h1, hB.grown h2 hbase ?_, h2, h3⟩
  intro k hk
  rcases hown.2 with ⟨rfl, _⟩ | ⟨g', cap, cur, rfl, hg, _⟩
  · simp [Value.ownBlock] at hk
  · simp [Value.ownBlock] at hk; omega

theorem wpList_append_far {rest : List Oper} (hgd : o.guard = none) (s x : Operand) (ho : o.op = .call { callee := .builtin .append, args := #[s, x], argTypes := #[26, 26] })
    (base : Nat) (v : Value) (xs : List Int) (z : Int) (g : Nat) (W0 : World) (hs : a.eval s = v) (hx : a.eval x = .slice (some ⟨g, 0, none⟩) 1 1) (hown : OwnI base w' v xs) (hc : w'.cell? ⟨g, 0, none⟩ = some (.int .i64 z)) (hn : (xs.length + 1) * 8 ≤ 140737488355328) (hbase : base ≤ w'.heap.size) (hB : Below base W0 w')
    (h : ∀ v' w1, OwnI base w1 v' (xs ++ [z]) → Below base W0 w1 → w'.grownBy w1 v.ownBlock → (v'.ownBlock = v.ownBlock ∨ v'.ownBlock = some w'.heap.size) → wpList Tryz.prog ops Q rest (a.put o.dst v') w1) : wpList Tryz.prog ops Q (o :: rest) a w' := by
  obtain ⟨v', w1, hrun, h1, h2, h3, h4⟩ := run_append_far o.type base v xs z g hown hc hn hbase hB
  refine wpList_plain hgd fun K hK => ?_
  unfold Oper.wp
  simp [execOp, ho, resolve, invoke, builtin, hs, hx, hrun, Result.andThen]
  exact hK _ _ (h v' w1 h1 h2 h3 h4)
end

theorem OwnI.new {base : Nat} {w : World} {y : Value} {xs : List Int} (h : OwnI base w y xs) {b : Nat} (hb : w.heap.size ≤ b) : some b ≠ y.ownBlock := by
  rcases h.blk with e | ⟨g, e, _, hg⟩
  · rw [e]; simp
  · rw [e]; simp; omega
theorem Arr.grown {w w1 : World} {b c n : Nat} {f : Nat → Int} {row : Option Nat} (h : Arr w b c n f) (hg : w.grownBy w1 row) (hne : some b ≠ row) : Arr w1 b c n f := by
  have hlt := h.lt
  obtain ⟨hc, F, hr, hf⟩ := h
  exact ⟨hc, F, hr.of_block (hg.block b hlt hne), hf⟩

/-- The order that was made last, and of which epoch; it lies apart from the list that is made. -/
def LastIs (seed : Int) (n : Nat) (out last v : Value) (w : World) : Prop :=
  ∃ L : Int, last = .int .i64 L ∧ ∀ d : Nat, L = (d : Int) → ∃ b c, v = .slice (some ⟨b, 0, none⟩) n c ∧ some b ≠ out.ownBlock ∧ Arr w b c n (shufF seed d n)
theorem LastIs.none (seed : Int) (n : Nat) (out v : Value) (w : World) : LastIs seed n out (.int .i64 (-1)) v w := ⟨-1, rfl, fun d h => by omega⟩
theorem LastIs.one {seed : Int} {n b c d : Nat} {out : Value} {w : World} (hne : some b ≠ out.ownBlock) (h : Arr w b c n (shufF seed d n)) : LastIs seed n out (.int .i64 (d : Int)) (.slice (some ⟨b, 0, Option.none⟩) n c) w :=
  ⟨d, rfl, fun d' e => by
    obtain rfl : d' = d := by omega
    exact ⟨b, c, rfl, hne, h⟩⟩
/-- Behind an append to the list beside it. -/
theorem LastIs.push {seed : Int} {n b c d : Nat} {out out1 : Value} {w w1 : World} (hne : some b ≠ out.ownBlock) (h : Arr w b c n (shufF seed d n)) (hg : w.grownBy w1 out.ownBlock) (h3 : out1.ownBlock = out.ownBlock ∨ out1.ownBlock = some w.heap.size) :
    LastIs seed n out1 (.int .i64 (d : Int)) (.slice (some ⟨b, 0, Option.none⟩) n c) w1 := by
  refine LastIs.one ?_ (h.grown hg hne)
  rcases h3 with e | e
  · rw [e]; exact hne
  · rw [e]
    have := h.lt
    simp
    omega

end Go.Proofs.YtimciamfgpdjlaaGreat.Fx
