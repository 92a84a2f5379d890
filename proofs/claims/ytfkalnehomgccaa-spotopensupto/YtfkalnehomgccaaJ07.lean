/- SpotOpens holds where what is handed in is of bulk at most 1048576: whatever state, numbers, word and lists are handed in, it returns true: Chunk and Opens of package spot answer what the document says, and what was handed in stays as it was; the bulk is the statement's own condition, no other is asked. -/
import Derived.Test.YtfkalnehomgccaaJ06
import Derived.Deep.RegionHeld3
import Derived.Test.YtfkalnehomgccaaJ04
import Derived.Test.YtfkalnehomgccaaJ00
import Derived.Test.YtfkalnehomgccaaJ03
import Derived.Test.YtfkalnehomgccaaJ02
import Derived.BigRegion
import Derived.Test.YtfkalnehomgccaaJ05
import Derived.Deep.DeepCutAuto
import Derived.Deep.CutBlock
import Derived.Deep.QuietTactic
import Derived.BigQuiet
import Derived.WalkKit
import Derived.JoinedCond
namespace Go.Proofs.Ytfkalnehomgccaa.Fx
open Go.RowKit

theorem rUp_calls : ∀ (m i n : Nat) (x : Int) (a : Option Addr) (len c : Nat) (ps : List Int) (w : World), n ≤ m → 1 ≤ n → n ≤ 50 → i < n → okW x → LstW w a len c ps → okL ps → len = deepP i n →
    Calls Try.prog 14 #[.int .i64 i, .int .i64 n, .int .u64 x, .slice a len c] w fun e w' => e = .returned (.int .u64 (upP i n x ps)) ∧ Below w.heap.size w w'
  | 0, i, n, x, a, len, c, ps, w, h, h1, h2, h3, hx, ha, hp, hd => by omega
  | m + 1, i, n, x, a, len, c, ps, w, h, h1, h2, h3, hx, ha, hp, hd => by
    have IH : Hid (∀ (i n : Nat) (x : Int) (a : Option Addr) (len c : Nat) (ps : List Int) (w : World), n ≤ m → 1 ≤ n → n ≤ 50 → i < n → okW x → LstW w a len c ps → okL ps → len = deepP i n →
      Calls Try.prog 14 #[.int .i64 i, .int .i64 n, .int .u64 x, .slice a len c] w fun e w' => e = .returned (.int .u64 (upP i n x ps)) ∧ Below w.heap.size w w') := rUp_calls m
    have HL : Hid (ps.length = len) := ha.len
    have HK := ha.cap
    by_cases h4 : n = 1
    · have n1 : ((n : Int) == 1) = true := by rw [beq_iff_eq]; omega
      have HT : Hid (upP i n x ps = x) := upP_one (by omega) i x ps
      clear ha h4 hd
      go_enter Try.func14, Try.ntmps14
      go_wp2
      go_ret
      exact ⟨ret_word HT.out.symm, Below.refl _ _⟩
    · have hc := cutN_lt (n := n) (by omega)
      have HC : Hid (∀ w, Calls Try.prog 19 #[.int .i64 n] w fun e w' => e = .returned (.int .i64 (cutN n)) ∧ w' = w) := rcut_calls n (by omega) (by omega)
      have DL : Hid (i < cutN n → len = 1 + deepP i (cutN n)) := fun h => hd.trans (deepP_left (by omega) h)
      have DR : Hid (¬ i < cutN n → len = 1 + deepP (i - cutN n) (n - cutN n)) := fun h => hd.trans (deepP_right (by omega) h)
      have UL : Hid (i < cutN n → upP i n x ps = ofP 3 [upP i (cutN n) x (ps.take (len - 1)), ps.getD (len - 1) 0]) := fun h => by rw [← HL.out]; exact upP_left (by omega) h x ps
      have UR : Hid (¬ i < cutN n → upP i n x ps = ofP 3 [ps.getD (len - 1) 0, upP (i - cutN n) (n - cutN n) x (ps.take (len - 1))]) := fun h => by rw [← HL.out]; exact upP_right (by omega) h x ps
      have n1 : ((n : Int) == 1) = false := by rw [beq_eq_false_iff_ne]; omega
      clear hd
      generalize cutN n = k at *
      have hl1 : 1 ≤ len := by
        by_cases h5 : i < k
        · have := DL.out h5; omega
        · have := DR.out h5; omega
      have hl2 : len ≤ 51 := by
        by_cases h5 : i < k
        · have := DL.out h5; have := deepP_le i k; omega
        · have := DR.out h5; have := deepP_le (i - k) (n - k); omega
      obtain ⟨q, hq⟩ : ∃ q, len - 1 = q := ⟨_, rfl⟩
      rw [hq] at UL UR
      have HD : Hid (len = q + 1) := by show len = q + 1; omega
      obtain ⟨b, off, y, rfl, hb, h0, HY⟩ := ha.at1 (k := q) (by omega)
      rw [HY.out] at UL UR
      have hy : okW y := by rw [← HY.out]; exact hp q (by rw [HL.out]; omega)
      have hA := ha.head (by omega) (k := q) (by omega)
      have oA := okL_take hp q
      have q0 : (0 : Int) ≤ (q : Int) := by omega
      have q1 : (q : Int) < (len : Int) := by omega
      have q2 : (q : Int) ≤ (c : Int) := by omega
      have q3 : (len : Int) - 1 = (q : Int) := by omega
      clear ha hq
      by_cases h5 : i < k
      · have HU : Hid (upP i n x ps = ofP 3 [upP i k x (ps.take q), y]) := UL.out h5
        have HE : Hid (q = deepP i k) := by show q = deepP i k; have := DL.out h5; omega
        have hu : okW (upP i k x (ps.take q)) := upP_ok hx
        clear UL UR DL DR
        go_enter Try.func14, Try.ntmps14
        go_wp2_with (go_at_call 19; refine (HC.out _).mono ?_; rintro e w' ⟨rfl, hw'⟩; replace hw' := hw'.symm; subst hw')
        go_region_held3 (fun r => r.cell? ⟨b, off + q, none⟩ = some (.int .u64 y)) (first | go_keep | exact (hw1.cell (p := ⟨b, off + q, none⟩) hb).trans h0 | exact (hbel2.cell (p := ⟨b, off + q, none⟩) hb).trans h0) (first | (go_at_call 14; refine (IH.out i k x _ _ _ (ps.take q) _ (by omega) (by omega) (by omega) h5 hx (by first | exact hA | exact hA.drewN _) oA HE.out).mono ?_; rintro e w1 ⟨rfl, hw1⟩) | (go_at_call 13; refine (rPair_calls _ _ hu hy _).mono ?_; rintro e w2 ⟨rfl, hw2⟩; have hbel1 : Below w.heap.size w w1 := (below_drewN (Below.refl _ _) 1).trans hw1; have hbel2 := hbel1.trans (hw2.mono hbel1.size)))
        go_wp2
        go_ret
        exact ⟨ret_word HU.out.symm, hbel2⟩
      · have HU : Hid (upP i n x ps = ofP 3 [y, upP (i - k) (n - k) x (ps.take q)]) := UR.out h5
        have HE : Hid (q = deepP (i - k) (n - k)) := by show q = deepP (i - k) (n - k); have := DR.out h5; omega
        have hu : okW (upP (i - k) (n - k) x (ps.take q)) := upP_ok hx
        have e1 : IntKind.i64.wrap ((i : Int) - (k : Int)) = ((i - k : Nat) : Int) := by rw [wrap_in _ (by omega) (by omega)]; omega
        have e2 : IntKind.i64.wrap ((n : Int) - (k : Int)) = ((n - k : Nat) : Int) := by rw [wrap_in _ (by omega) (by omega)]; omega
        clear UL UR DL DR
        go_enter Try.func14, Try.ntmps14
        go_wp2_with (go_at_call 19; refine (HC.out _).mono ?_; rintro e w' ⟨rfl, hw'⟩; replace hw' := hw'.symm; subst hw')
        go_region_held3 (fun r => r.cell? ⟨b, off + q, none⟩ = some (.int .u64 y)) (first | go_keep | exact (hw1.cell (p := ⟨b, off + q, none⟩) hb).trans h0 | exact (hbel2.cell (p := ⟨b, off + q, none⟩) hb).trans h0) (first | (go_at_call 14; refine (IH.out (i - k) (n - k) x _ _ _ (ps.take q) _ (by omega) (by omega) (by omega) (by omega) hx (by first | exact hA | exact hA.drewN _) oA HE.out).mono ?_; rintro e w1 ⟨rfl, hw1⟩) | (go_at_call 13; refine (rPair_calls _ _ hy hu _).mono ?_; rintro e w2 ⟨rfl, hw2⟩; have hbel1 : Below w.heap.size w w1 := (below_drewN (Below.refl _ _) 1).trans hw1; have hbel2 := hbel1.trans (hw2.mono hbel1.size)))
        go_wp2
        go_ret
        exact ⟨ret_word HU.out.symm, hbel2⟩

end Go.Proofs.Ytfkalnehomgccaa.Fx

/- What the functions of package coachref that speak of fixed points return, called with whatever integers: the same plain numbers as those of package fix. -/
namespace Go.Proofs.Ytfkalnehomgccaa.Fx
open Go.RowKit

theorem sub_as_add (a b : Int) : addI a (-clampI b) = subI a b := by
  unfold addI subI; rw [clampI_neg, clampI_idem]; congr 1

theorem ediv_facts (n d : Int) (hn : 0 ≤ n) (hd : 0 < d) : 0 ≤ n / d ∧ n / d ≤ n ∧ n / d * d = n - n % d ∧ (n / d + 1) * d = n - n % d + d ∧ 0 ≤ n % d ∧ n % d < d := by
  have e := Int.mul_ediv_add_emod n d
  have c : n / d * d = d * (n / d) := Int.mul_comm _ _
  refine ⟨Int.ediv_nonneg hn (by omega), Int.ediv_le_self _ hn, by omega, ?_, Int.emod_nonneg n (by omega), Int.emod_lt_of_pos n hd⟩
  rw [Int.add_mul]; omega

end Go.Proofs.Ytfkalnehomgccaa.Fx

/- What coachref's In and Right return, whatever is handed in. -/
namespace Go.Proofs.Ytfkalnehomgccaa.Fx
open Go.RowKit

theorem rin_calls (n lo hi : Int) (w : World) : Calls Try.prog 11 #[.int .i64 n, .int .i64 lo, .int .i64 hi] w fun e w' => e = .returned (.bool (inB n lo hi)) ∧ w' = w := by
  unfold inB
  by_cases h1 : lo ≤ n
  · by_cases h2 : n ≤ hi
    · go_enter Try.func11, Try.ntmps11
      go_wp2
      go_ret
      exact ⟨ret_bool (by simp [h1, h2]), rfl⟩
    · go_enter Try.func11, Try.ntmps11
      go_wp2
      go_ret
      exact ⟨ret_bool (by simp; omega), rfl⟩
  · go_enter Try.func11, Try.ntmps11
    go_wp2
    go_ret
    exact ⟨ret_bool (by simp; omega), rfl⟩

/-- Whether the first k numbers are such as may be. -/
def okTo (xs : List Int) (k : Nat) (ok : Bool) : Prop := ok = true ↔ ∀ j, j < k → xs.getD j 0 = clampI (xs.getD j 0)
theorem okTo_zero (xs : List Int) : okTo xs 0 true := ⟨fun _ j hj => by omega, fun _ => rfl⟩
theorem okTo_yes {xs : List Int} {k : Nat} {x : Int} (h : okTo xs k true) (hx : xs.getD k 0 = x) (hc : clampI x = x) : okTo xs (k + 1) true :=
  ⟨fun _ j hj => by
    by_cases e : j = k
    · subst e; rw [hx, hc]
    · exact h.1 rfl j (by omega), fun _ => rfl⟩
theorem okTo_no {xs : List Int} {k : Nat} {x : Int} (hx : xs.getD k 0 = x) (hc : ¬ clampI x = x) : okTo xs (k + 1) false :=
  ⟨fun h => (by cases h), fun h => absurd (h k (by omega)) (by rw [hx]; exact fun e => hc e.symm)⟩
theorem okTo_false {xs : List Int} {k : Nat} (h : okTo xs k false) : okTo xs (k + 1) false :=
  ⟨fun h => (by cases h), fun g => h.2 (fun j hj => g j (by omega))⟩
theorem okTo_end {xs : List Int} {k : Nat} {ok : Bool} (h : okTo xs k ok) (hk : xs.length = k) : ok = rightB xs := by
  cases ok with
  | true => exact (rightB_true (fun j hj => h.1 rfl j (by omega))).symm
  | false =>
    cases e : rightB xs with
    | false => rfl
    | true => exact h.2 (fun j _ => rightB_get e j)

end Go.Proofs.Ytfkalnehomgccaa.Fx

/- What coachref.Leaves and coachref.Root return. -/
namespace Go.Proofs.Ytfkalnehomgccaa.Fx
open Go.RowKit

theorem numL_range {xs : List Int} {n : Nat} (h : n ≤ 200) : (List.range n).map (numG xs) = numL xs n := by
  unfold numL; rw [if_neg (by omega)]

set_option maxHeartbeats 1600000 in
theorem rLeaves_calls (a : Option Addr) (n c : Nat) (xs : List Int) (w : World) (ha : Lst w a n c xs) (h1 : 1 ≤ n) (h2 : n ≤ 200) :
    Calls Try.prog 7 #[.slice a n c] w fun e w' => ∃ a' c', e = .returned (.slice a' ((n + 3) / 4 : Nat) c') ∧ LstW w' a' ((n + 3) / 4) c' (leavesP xs n) ∧ Below w.heap.size w w' := by
  unfold leavesP
  obtain ⟨N, hN⟩ : ∃ N, (n + 3) / 4 = N := ⟨_, rfl⟩
  rw [hN]
  obtain ⟨b, off, x, rfl, hb, h0, HX⟩ := ha.at1 (k := 0) (by omega)
  have HK := ha.cap
  go_enter Try.func7, Try.ntmps7
  go_wp2
  go_loopw [3, 4] (fun v i wr => ∃ k lo : Nat, k ≤ N ∧ i = .int .i64 lo ∧ k * 4 = lo ∧ OwnW w.heap.size wr v ((List.range k).map (leafG xs n)) ∧ Below w.heap.size w wr) (fun _ i _ => 204 - (intOf i).toNat)
  case atStart => exact ⟨0, 0, Nat.zero_le _, rfl, rfl, OwnW.nil _ _, Below.refl _ _⟩
  case round =>
    obtain ⟨k, lo, hk, rfl, hlo, hown, hbel⟩ := hrel
    have hsz := hbel.size
    have ha' := ha.below hbel (Nat.le_refl _)
    clear ha
    by_cases hlt : lo < n
    · obtain ⟨hi, hhi⟩ : ∃ hi, hiN n k = hi := ⟨_, rfl⟩
      have hh : lo ≤ hi ∧ hi ≤ n ∧ hi ≤ lo + 4 := by unfold hiN at hhi; omega
      have hs := ha'.sub (by omega) lo hi (by omega) (by omega)
      have HG : Hid (leafG xs n k = ofP 4 (numL ((xs.drop lo).take (hi - lo)) (hi - lo))) := by show leafG xs n k = _; unfold leafG; rw [hlo, hhi]
      have HM : Hid (hi = min (lo + 4) n) := by show hi = min (lo + 4) n; rw [← hhi, ← hlo]; rfl
      clear hhi
      go_wp2_with fail
      all_goals
        first
          | rw [show ((lo : Int) + 4).toNat = hi from by have := HM.out; omega]
          | rw [show n - lo = hi - lo from by have := HM.out; omega]
        refine (rNumbers_calls _ _ _ _ _ hs (by omega)).mono ?_
        rintro e w1 ⟨a1, c1, rfl, hl1, hw1⟩
        rw [numL_range (by omega)] at hl1
        have hown1 := hown.below hw1
        have hbel1 := hbel.trans (hw1.mono hbel.size)
        go_wp2_with fail
        refine (rof_calls 4 ⟨by omega, by omega⟩ _ _ _ _ _ hl1 (numL_ok _ _) (by omega)).mono ?_
        rintro e w2 ⟨rfl, hw2⟩
        have hown2 := hown1.below hw2
        have hbel2 := hbel1.trans (hw2.mono hbel1.size)
        have hsz2 := hbel2.size
        go_wp2_with (at_builtin; refine wpList_append_word (by rfl) _ _ (by rfl) w.heap.size _ ((List.range k).map (leafG xs n)) (ofP 4 (numL ((xs.drop lo).take (hi - lo)) (hi - lo))) w2.heap.size w (by rfl) (by rfl) (by exact hown2.alloc _) (by exact cell_new _ _ _) (by simp; omega) (by simp; omega) (by exact hbel2.alloc hsz2 _) ?_; intro v1 w3 hown3 hbel3)
        go_roundw
        case rel => exact ⟨k + 1, lo + 4, by omega, by go_num, by omega, hown3.congr (range_snocW _ _ _ HG.out), hbel3⟩
        case measure => simp [intOf]; omega
    · obtain rfl : k = N := by omega
      obtain ⟨a1, c1, rfl, hl1⟩ := hown.lst' (n := k) (by simp)
      go_wp2
      go_ret
      exact ⟨_, _, rfl, hl1, hbel⟩

end Go.Proofs.Ytfkalnehomgccaa.Fx

/- What slices.Equal says of two lists of words. -/
namespace Go.Proofs.Ytfkalnehomgccaa.Fx
open Go.RowKit

theorem ret_boolW {a b : Bool} (h : a = b) : Ending.returned (.bool a) = .returned (.bool b) := by rw [h]

theorem weq_of_getD {xs ys : List Int} {n : Nat} (hx : xs.length = n) (hy : ys.length = n) (h : ∀ j, j < n → xs.getD j 0 = ys.getD j 0) : xs = ys := by
  refine List.ext_getElem (by omega) (fun i h1 h2 => ?_)
  have := h i (by omega)
  rw [List.getD_eq_getElem?_getD, List.getD_eq_getElem?_getD, List.getElem?_eq_getElem h1, List.getElem?_eq_getElem h2] at this
  exact this

set_option maxHeartbeats 400000 in
theorem weq_calls (a b : Option Addr) (la ca lb cb : Nat) (xs ys : List Int) (w : World) (ha : LstW w a la ca xs) (hb : LstW w b lb cb ys) (h63 : la ≤ 1000000000000000000) :
    Calls Try.prog 10 #[.slice a la ca, .slice b lb cb] w fun e w' => e = .returned (.bool (decide (xs = ys))) ∧ ∃ k, w' = w.drewN k := by
  by_cases hl : la = lb
  · subst hl
    have hab : ((la : Int) != (la : Int)) = false := by simp
    go_enter Try.func10, Try.ntmps10
    go_wp2
    go_loopw [13] (fun i wr => ∃ k n : Nat, k ≤ la ∧ i = .int .i64 k ∧ Hid (∀ j, j < k → xs.getD j 0 = ys.getD j 0) ∧ wr = w.drewN n) (fun i _ => la - (intOf i).toNat)
    case atStart => exact ⟨0, 0, Nat.zero_le _, rfl, fun j hj => by omega, rfl⟩
    case round =>
      obtain ⟨k, n, hk, rfl, he, rfl⟩ := hrel
      by_cases hlt : k < la
      · obtain ⟨b1, o1, x, rfl, _, c1, HX⟩ := ha.at1 hlt
        obtain ⟨b2, o2, y, rfl, _, c2, HY⟩ := hb.at1 hlt
        by_cases hxy : x = y
        · subst hxy
          have hne : (x != x) = false := by simp
          go_wp2
          go_quiet (fail)
          go_wp2
          go_roundw
          case rel => exact ⟨k + 1, _, by omega, by go_num, fun j hj => by
            by_cases e : j = k
            · subst e; rw [HX.out, HY.out]
            · exact he.out j (by omega), rfl⟩
          case measure => simp [intOf]; omega
        · have hne : (x != y) = true := by simpa using hxy
          go_wp2
          go_quiet (fail)
          go_wp2
          go_ret
          refine ⟨ret_boolW ?_, _, World.drewN_drewN _ _ _⟩
          exact (decide_eq_false (fun e => hxy (by rw [← HX.out, ← HY.out, e]))).symm
      · go_wp2
        go_ret
        refine ⟨ret_boolW ?_, _, rfl⟩
        exact (decide_eq_true (weq_of_getD ha.len hb.len (fun j hj => he.out j (by omega)))).symm
  · have hab : ((la : Int) != (lb : Int)) = true := by rw [bne_iff_ne]; omega
    go_enter Try.func10, Try.ntmps10
    go_wp2
    go_ret
    refine ⟨ret_boolW ?_, 0, rfl⟩
    exact (decide_eq_false (fun e => hl (by rw [← ha.len, ← hb.len, e]))).symm

end Go.Proofs.Ytfkalnehomgccaa.Fx

/- The walk of SpotOpens: it returns true, whatever is handed in of lists that are together no longer than 1048576, and nothing that was there is written. -/
namespace Go.Proofs.Ytfkalnehomgccaa.Fx
open Go.RowKit

/-- What the document's side of the chunk says. -/
structure OpSt (W : World) (F : Int) (PT WY : List Int) (e part way : Value) (q : World) : Prop where
  he : e = .int .i64 F
  hp : ∃ a n c, part = .slice a n c ∧ n ≤ 200 ∧ Lst q a n c PT
  hw : ∃ a n c, way = .slice a n c ∧ n ≤ 50 ∧ LstW q a n c WY
  bel : Below W.heap.size W q
theorem Lst.re {w : World} {b o o' n n' c c' : Nat} {xs : List Int} (h : Lst w (some ⟨b, o, none⟩) n c xs) (e1 : o = o') (e2 : n = n') (e3 : c = c') : Lst w (some ⟨b, o', none⟩) n' c' xs := by subst e1 e2 e3; exact h
theorem errP_zero {i : Int} {n : Nat} (h : n = 0) : errP i n = 1 := by unfold errP errL; rw [if_pos (.inl h), if_pos h]
theorem errP_long {i : Int} {n : Nat} (h : 200 < n) : errP i n = 2 := by unfold errP errL; rw [if_pos (.inr h), if_neg (by omega), if_pos h]
theorem errP_out {i : Int} {n : Nat} (h1 : 1 ≤ n) (h2 : n ≤ 200) (h : ¬ (0 ≤ i ∧ i < ((n + 3) / 4 : Nat))) : errP i n = 1 := by unfold errP; rw [if_neg (by omega), if_neg h]
theorem errP_none {i : Int} {n : Nat} (xs : List Int) (h : errP i n ≠ 0) : ckP xs n i = [] ∧ wayL xs n i = [] := by
  refine ⟨by unfold ckP; rw [if_neg h], ?_⟩
  unfold wayL
  rw [if_neg]
  intro g
  apply h
  unfold errP
  rw [if_neg g.1, if_pos g.2]

set_option maxRecDepth 100000 in
set_option maxHeartbeats 3200000 in
theorem spotOpens_core (a1 : Option Addr) (n1 k1 : Nat) (ws : List Int) (a2 : Option Addr) (n2 k2 : Nat) (ms : List Int) (i root n : Int) (a : Option Addr) (m c : Nat) (xs : List Int) (b : Option Addr) (p d : Nat) (ps : List Int) (w : World) (l1 : Lst w a1 n1 k1 ws) (l2 : Lst w a2 n2 k2 ms) (hi : -9223372036854775808 ≤ i ∧ i ≤ 9223372036854775807) (hrt : okW root) (hn : -9223372036854775808 ≤ n ∧ n ≤ 9223372036854775807) (lx : Lst w a m c xs) (lp : LstW w b p d ps) (hps : okL ps) (hz : n1 + n2 ≤ 1048576) (hm : m ≤ 9223372036854775807) (hp : p ≤ 9223372036854775807) :
    Calls Try.prog 3 #[.agg #[.slice a1 n1 k1, .slice a2 n2 k2], .int .i64 i, .int .u64 root, .int .i64 n, .slice a m c, .slice b p d] w fun e w' => e = .returned (.bool true) ∧ Below w.heap.size w w' := by
  have hal := low_alloc w (.cells #[.slice a1 n1 k1, .slice a2 n2 k2] 24)
  have hcc := two_cells w (.slice a1 n1 k1) (.slice a2 n2 k2) 24
  obtain ⟨W, HW⟩ : ∃ q, Hid (q = w.alloc (.cells #[.slice a1 n1 k1, .slice a2 n2 k2] 24)) := ⟨_, rfl⟩
  rw [← HW.out] at hal hcc
  have hWs : w.heap.size < W.heap.size := by rw [HW.out]; simp
  have m1 := l1.below hal (Nat.le_refl _)
  have m2 := l2.below hal (Nat.le_refl _)
  have KS : Hid (∀ q, Below W.heap.size W q → q.cell? ⟨w.heap.size, 0, none⟩ = some (.slice a1 n1 k1) ∧ q.cell? ⟨w.heap.size, 1, none⟩ = some (.slice a2 n2 k2)) := fun q hq => ⟨(hq.cell (p := ⟨w.heap.size, 0, none⟩) hWs).trans hcc.1, (hq.cell (p := ⟨w.heap.size, 1, none⟩) hWs).trans hcc.2⟩
  have hBd : Below W.heap.size W W.drew := below_drewN (Below.refl _ _) 1
  have S0 := KS.out _ hBd
  have s0 := S0.1
  have s1 := S0.2
  have hl1 := l1.len
  have hl2 := l2.len
  have hlen : (ws ++ ms).length = n1 + n2 := by rw [List.length_append, hl1, hl2]
  have HCK : Hid (∀ q, Below w.heap.size w q → Calls Try.prog 8 #[.agg #[.slice a1 n1 k1, .slice a2 n2 k2], .int .i64 i] q fun e w' => ∃ b1 m1 d1 b2 m2 d2, e = .returned (.tuple #[.slice b1 m1 d1, .slice b2 m2 d2, .int .i64 (errP i (n1 + n2))]) ∧ m1 ≤ 200 ∧ m2 ≤ 200 ∧ Lst w' b1 m1 d1 (ckP (ws ++ ms) (n1 + n2) i) ∧ LstW w' b2 m2 d2 (wayL (ws ++ ms) (n1 + n2) i) ∧ Below q.heap.size q w') := fun q hq => chunk_says a1 n1 k1 ws a2 n2 k2 ms i q (l1.below hq (Nat.le_refl _)) (l2.below hq (Nat.le_refl _)) hz
  have HOP : Hid (∀ q, Below w.heap.size w q → Calls Try.prog 15 #[.int .u64 root, .int .i64 n, .int .i64 i, .slice a m c, .slice b p d] q fun e w' => e = .returned (.tuple #[.bool (opB root n i m xs p ps), .int .i64 (opE n i m p)]) ∧ Below q.heap.size q w') := fun q hq => opens_says root n i a m c xs b p d ps q hrt hn hi (lx.below hq (Nat.le_refl _)) (lp.below hq (Nat.le_refl _)) hps (by omega) (by omega)
  have KX : Hid (∀ q, Below w.heap.size w q → Lst q a m c xs) := fun q hq => lx.below hq (Nat.le_refl _)
  have KP : Hid (∀ q, Below w.heap.size w q → LstW q b p d ps) := fun q hq => lp.below hq (Nat.le_refl _)
  have HPS : Hid (okL ps) := hps
  have HG : Hid (opE n i m p = if errC i n p = 0 then (if (m : Int) = min 4 (n - 4 * i) then 0 else 5) else errC i n p) := rfl
  have HB : Hid (opB root n i m xs p ps = if opE n i m p = 0 then decide (upL i n (ofP 4 (numL xs m)) ps p = root % 2305843009213693951) else false) := rfl
  have HEC : Hid (errC i n p = if okC i n then (if p = dpC i n then 0 else 5) else 1) := rfl
  have HUL : Hid (∀ x, upL i n x ps p = if okC i n ∧ p = dpC i n then ofP 3 [n, upP i.toNat ((n.toNat + 3) / 4) x ps] else 0) := fun x => rfl
  obtain ⟨rt0, rt1⟩ := hrt
  clear l1 l2 lx lp hps hcc
  obtain ⟨N, HN⟩ : ∃ t, Hid (n1 + n2 = t) := ⟨_, rfl⟩
  have hN : N ≤ 1048576 := by have := HN.out; omega
  have hN12 : n1 + n2 = N := HN.out
  obtain ⟨L, HL⟩ : ∃ t, Hid (ws ++ ms = t) := ⟨_, rfl⟩
  rw [HN.out, HL.out] at HCK hlen
  generalize opE n i m p = G at *
  generalize opB root n i m xs p ps = OB at *
  generalize errC i n p = EC at *
  go_enter Try.func3, Try.ntmps3
  go_upto_region 1 with fail
  rw [← HW.out]
  clear HW
  go_cut [13] (fun l q => ∃ va vc, l = .slice va N vc ∧ Lst q va N vc L ∧ Below W.heap.size W q)
  case first =>
    clear HCK HOP KX KP HPS HG HB HEC HUL hlen
    go_region_held3 (fun q => q.cell? ⟨w.heap.size, 0, none⟩ = some (.slice a1 n1 k1) ∧ q.cell? ⟨w.heap.size, 1, none⟩ = some (.slice a2 n2 k2)) (first | with_reducible exact S4 | with_reducible exact S3 | with_reducible exact S0)
      (first | (go_at_call 5; refine (cloneI_any a1 n1 k1 ws _ m1.drew (by omega)).mono ?_; rintro e w3 ⟨v3, rfl, hown3, hbel3⟩; have S3 := KS.out _ (hBd.trans hbel3)) | (refine step_append_any (by rfl) _ _ (by rfl) W.heap.size _ ws ms a2 n2 k2 W (by rfl) (by rfl) (by exact hown3) (by exact m2.below (hBd.trans hbel3) (Nat.le_refl _)) (by omega) (by exact (hBd.trans hbel3).size) (by exact hBd.trans hbel3) ?_; intro v4 w4 hown4 hbel4; have S4 := KS.out _ hbel4; obtain ⟨va, vc, hv4, l4⟩ := hown4.lst' (n := N) (by rw [List.length_append]; omega); subst hv4))
    all_goals
      go_wp2_with fail
      go_meet
      case rel => exact ⟨va, vc, rfl, by rw [← HL.out]; exact l4, hbel4⟩
  case rest =>
  clear S0 s0 s1 hBd m1 m2 HL hN12 HN
  obtain ⟨va, vc, rfl, lv, T1⟩ := hcut
  generalize hwc : wc = q1 at *
  clear hwc
  go_upto_block 0 with fail
  go_cut [14, 15, 16] (fun e pt wy q => OpSt W (errP i N) (ckP L N i) (wayL L N i) e pt wy q)
  case first =>
    clear HCK HOP KX KP HPS HG HB HEC HUL
    have bad : ∀ q, errP i N ≠ 0 → Below W.heap.size W q → OpSt W (errP i N) (ckP L N i) (wayL L N i) (.int .i64 (errP i N)) (.slice none 0 0) (.slice none 0 0) q := fun q h hq => by
      obtain ⟨e1, e2⟩ := errP_none L h
      rw [e1, e2]
      exact ⟨rfl, ⟨none, 0, 0, rfl, by omega, Lst.nil _ _ _⟩, ⟨none, 0, 0, rfl, by omega, LstW.nil _ _ _⟩, hq⟩
    have HBAD : Hid (∀ q, errP i N ≠ 0 → Below W.heap.size W q → OpSt W (errP i N) (ckP L N i) (wayL L N i) (.int .i64 (errP i N)) (.slice none 0 0) (.slice none 0 0) q) := bad
    clear bad
    by_cases h0 : N = 0
    · have n0 : ((N : Int) == 0) = true := by rw [beq_iff_eq]; omega
      have HE : Hid (errP i N = 1) := errP_zero h0
      clear h0
      go_wp2_with fail
      go_meet
      case rel =>
        have h := HBAD.out q1 (by rw [HE.out]; decide) T1
        rw [HE.out] at h ⊢
        exact h
    · have n0 : ((N : Int) == 0) = false := by rw [beq_eq_false_iff_ne]; omega
      by_cases h2 : 200 < N
      · have n2 : (N : Int) > 200 := by omega
        have HE : Hid (errP i N = 2) := errP_long h2
        go_wp2_with fail
        go_meet
        case rel =>
          have h := HBAD.out q1 (by rw [HE.out]; decide) T1
          rw [HE.out] at h ⊢
          exact h
      · have n2 : ¬ (N : Int) > 200 := by omega
        obtain ⟨M, hM⟩ : ∃ M, (N - 1) / 4 = M := ⟨_, rfl⟩
        have e1 : ((N : Int) - 1).tdiv 4 = (M : Int) := by rw [Int.tdiv_eq_ediv_of_nonneg (by omega)]; omega
        have e2 : ((N : Int) - 1) / 4 = (M : Int) := by omega
        by_cases h3 : i < 0
        · have HE : Hid (errP i N = 1) := errP_out (by omega) (by omega) (by omega)
          clear hM
          go_wp2_with fail
          go_meet
          case rel =>
            have h := HBAD.out q1 (by rw [HE.out]; decide) T1
            rw [HE.out] at h ⊢
            exact h
        · obtain ⟨k, rfl⟩ : ∃ k : Nat, i = k := ⟨i.toNat, by omega⟩
          by_cases h4 : M < k
          · have HE : Hid (errP k N = 1) := errP_out (by omega) (by omega) (by omega)
            have h5 : (k : Int) > (M : Int) := by omega
            clear hM
            go_wp2_with fail
            go_meet
            case rel =>
              have h := HBAD.out q1 (by rw [HE.out]; decide) T1
              rw [HE.out] at h ⊢
              exact h
          · have h5 : ¬ (k : Int) > (M : Int) := by omega
            have hk : k < (N + 3) / 4 := by omega
            have HCH := honest_chunk (xs := L) (show 1 ≤ N by omega) (show N ≤ 200 by omega) hk
            obtain ⟨g1, g2, g3⟩ := HCH
            have HE : Hid (errP k N = 0 ∧ ckP L N k = partL L N k ∧ wayL L N k = wayP (leavesP L N) k) := ⟨g1, g2, g3⟩
            obtain ⟨hi, hhi⟩ : ∃ hi, hiN N k = hi := ⟨_, rfl⟩
            have hh : k * 4 < hi ∧ hi ≤ N ∧ hi ≤ k * 4 + 4 := by unfold hiN at hhi; omega
            obtain ⟨vb, vo, rfl, _⟩ := lv.at (by omega)
            have hsub := lv.sub (by omega) (k * 4) hi (Nat.le_of_lt hh.1) hh.2.1
            have HSB : Hid (Lst q1 (some ⟨vb, vo + k * 4, none⟩) (hi - k * 4) (vc - k * 4) (partL L N k)) := by
              show Lst _ _ _ _ _
              unfold partL
              rw [hhi]
              exact hsub
            have hvc := lv.cap
            have HRL : Hid (∀ q, Below q1.heap.size q1 q → Calls Try.prog 7 #[.slice (some ⟨vb, vo, none⟩) N vc] q fun e w' => ∃ a' c', e = .returned (.slice a' ((N + 3) / 4 : Nat) c') ∧ LstW w' a' ((N + 3) / 4) c' (leavesP L N) ∧ Below q.heap.size q w') := fun q hq => rLeaves_calls _ N vc L q (lv.below hq (Nat.le_refl _)) (by omega) (by omega)
            have hmin : min (4 * (k : Int) + 4) (N : Int) = (hi : Int) := by unfold hiN at hhi; omega
            clear g1 g2 g3 hsub HBAD hM
            have hN3 : 1 ≤ (N + 3) / 4 := by omega
            have hN4 : (N + 3) / 4 ≤ 50 := by omega
            have HLN : Hid ((leavesP L N).length = (N + 3) / 4) := leavesP_len L N
            have hBq : Below q1.heap.size q1 q1.drew := below_drewN (Below.refl _ _) 1
            have RL := HRL.out _ hBq
            obtain ⟨lo, HLO⟩ : ∃ lo : Nat, Hid (4 * k = lo) := ⟨_, rfl⟩
            have hlo : 4 * k = lo := HLO.out
            have z1 : 4 * (k : Int) = (lo : Int) := by omega
            have w1 : IntKind.i64.wrap (4 * (k : Int)) = (lo : Int) := by rw [z1]; exact wrap_in _ (by omega) (by omega)
            have w3 : IntKind.i64.wrap (lo : Int) = (lo : Int) := wrap_in _ (by omega) (by omega)
            have x3 : (0 : Int) ≤ (lo : Int) := by omega
            have x4 : ¬ vc = lo := by omega
            have x6 : ¬ vc - lo = 0 := by omega
            have x5 : (lo : Int) ≤ (hi : Int) := by omega
            have x7 : (hi : Int) ≤ (vc : Int) := by omega
            have x8 : lo ≤ hi := by omega
            have x9 : hi ≤ vc := by omega
            have hd1 : hi - k * 4 ≤ 200 := by omega
            generalize (N + 3) / 4 = NL at *
            clear HRL
            by_cases h6 : 4 * k + 4 ≤ N
            · have z2 : (lo : Int) + 4 = (hi : Int) := by unfold hiN at hhi; omega
              have w2 : IntKind.i64.wrap ((lo : Int) + 4) = (hi : Int) := by rw [z2]; exact wrap_in _ (by omega) (by omega)
              have w4 : IntKind.i64.wrap (hi : Int) = (hi : Int) := wrap_in _ (by omega) (by omega)
              have y1 : (hi : Int) ≤ (N : Int) := by omega
              have y2 : ¬ (N : Int) < (hi : Int) := by omega
              have y3 : hi ≤ N := by omega
              have y4 : ¬ N < hi := by omega
              have y5 : decide ((N : Int) < (hi : Int)) = false := decide_eq_false y2
              have y6 : decide (N < hi) = false := decide_eq_false y4
              have y7 : decide ((hi : Int) ≤ (N : Int)) = true := decide_eq_true y1
              have y8 : decide (hi ≤ N) = true := decide_eq_true y3
              clear hlo hh hhi h6 hmin
              go_wp2_with fail
              go_region_held3 (fun _ => True) (exact True.intro) (first | (go_at_call 7; refine RL.mono ?_; rintro e w3 ⟨a3, c3, rfl, l3, hw3⟩) | (go_at_call 6; refine (rWay_calls 50 _ _ _ (leavesP L N) k _ (by omega) (by omega) (by omega) hk l3 (leavesP_ok _ _)).mono ?_; rintro e w4 ⟨v4, rfl, hown, hw4⟩))
              all_goals
                go_wp2_with fail
                go_meet
                case rel =>
                  obtain ⟨e0, e1, e2⟩ := HE.out
                  have hlo := HLO.out
                  obtain ⟨a5, c5, hv, hl5⟩ := hown.lst
                  have hd := (way_deep _ (leavesP L N) k (Nat.le_refl _) (leavesP_ok _ _)).1
                  have hd2 := deepP_le k (leavesP L N).length
                  rw [HLN.out] at hd hd2
                  have T3 := hBq.trans hw3
                  have T4 := T3.trans (hw4.mono T3.size)
                  rw [e0, e1, e2]
                  refine ⟨rfl, ⟨_, _, _, rfl, ?_, Lst.re (HSB.out.below T4 (Nat.le_refl _)) ?_ ?_ ?_⟩, ⟨a5, _, c5, hv, by omega, hl5⟩, T1.trans (T4.mono T1.size)⟩ <;> omega
            · obtain ⟨hj, hhj⟩ : ∃ hj : Nat, lo + 4 = hj := ⟨_, rfl⟩
              have z2 : (lo : Int) + 4 = (hj : Int) := by omega
              have w2 : IntKind.i64.wrap ((lo : Int) + 4) = (hj : Int) := by rw [z2]; exact wrap_in _ (by omega) (by omega)
              have w4 : IntKind.i64.wrap (hj : Int) = (hj : Int) := wrap_in _ (by omega) (by omega)
              have heN : N = hi := by unfold hiN at hhi; omega
              subst heN
              have y1 : (N : Int) < (hj : Int) := by omega
              have y2 : ¬ (hj : Int) ≤ (N : Int) := by omega
              clear hlo hh hhi h6 hmin hhj
              go_wp2_with fail
              go_region_held3 (fun _ => True) (exact True.intro) (first | (go_at_call 7; refine RL.mono ?_; rintro e w3 ⟨a3, c3, rfl, l3, hw3⟩) | (go_at_call 6; refine (rWay_calls 50 _ _ _ (leavesP L N) k _ (by omega) (by omega) (by omega) hk l3 (leavesP_ok _ _)).mono ?_; rintro e w4 ⟨v4, rfl, hown, hw4⟩))
              all_goals
                go_wp2_with fail
                go_meet
                case rel =>
                  obtain ⟨e0, e1, e2⟩ := HE.out
                  have hlo := HLO.out
                  obtain ⟨a5, c5, hv, hl5⟩ := hown.lst
                  have hd := (way_deep _ (leavesP L N) k (Nat.le_refl _) (leavesP_ok _ _)).1
                  have hd2 := deepP_le k (leavesP L N).length
                  rw [HLN.out] at hd hd2
                  have T3 := hBq.trans hw3
                  have T4 := T3.trans (hw4.mono T3.size)
                  rw [e0, e1, e2]
                  refine ⟨rfl, ⟨_, _, _, rfl, ?_, Lst.re (HSB.out.below T4 (Nat.le_refl _)) ?_ ?_ ?_⟩, ⟨a5, _, c5, hv, by omega, hl5⟩, T1.trans (T4.mono T1.size)⟩ <;> omega
  case rest =>
  obtain ⟨rfl, ⟨pa, pn, pc, rfl, hpn, lpt⟩, ⟨wa, wn, wk, rfl, hwn, lwy⟩, T2⟩ := hcut
  generalize hwc : wc = q2 at *
  clear hwc lv T1 hlen
  obtain ⟨t0, t1⟩ := KS.out _ T2
  have U2 := hal.trans (T2.mono hal.size)
  have CK := HCK.out _ U2
  clear HCK
  generalize errP i N = F at *
  generalize ckP L N i = PT at *
  generalize wayL L N i = WY at *
  have hFF : (F != F) = false := by simp
  go_wp2_with fail
  refine CK.mono ?_
  rintro e w5 ⟨b1, m1, d1, b2, m2, d2, rfl, hm1, hm2, lx1, lx2, hw5⟩
  have lpt5 := lpt.below hw5 (Nat.le_refl _)
  have lwy5 := lwy.below hw5 (Nat.le_refl _)
  have U5 := U2.trans (hw5.mono U2.size)
  clear CK t0 t1 lpt lwy hw5 U2 T2
  go_wp2_with fail
  refine (eq_calls _ _ _ _ _ _ _ _ _ lx1 lpt5 (by omega)).mono ?_
  rintro e w6 ⟨rfl, k6, hw6⟩
  rw [decide_eq_true rfl]
  have U6 : Below w.heap.size w w6 := hw6 ▸ below_drewN U5 k6
  have lx26 : LstW w6 b2 m2 d2 WY := hw6 ▸ lx2.drewN k6
  have lwy6 : LstW w6 wa wn wk WY := hw6 ▸ lwy5.drewN k6
  clear hw6 U5 lx1 lx2 lwy5 lpt5
  go_wp2_with fail
  refine (weq_calls _ _ _ _ _ _ _ _ _ lx26 lwy6 (by omega)).mono ?_
  rintro e w7 ⟨rfl, k7, hw7⟩
  rw [decide_eq_true rfl]
  have U7 : Below w.heap.size w w7 := hw7 ▸ below_drewN U6 k7
  clear hw7 U6 lx26 lwy6 KS
  go_upto_block 1 with fail
  go_cut [14, 20] (fun g u q => g = .int .i64 G ∧ u = .bool OB ∧ Below w7.heap.size w7 q)
  case first =>
    have lx7 := KX.out _ U7
    have lp7 := KP.out _ U7
    clear HOP KX KP
    by_cases h1 : 1 ≤ n ∧ n ≤ 200
    · obtain ⟨h1, h2⟩ := h1
      obtain ⟨M0, rfl⟩ : ∃ m : Nat, n = m := ⟨n.toNat, by omega⟩
      have HI : Hid (inB (M0 : Int) 1 200 = true) := by
        show inB (M0 : Int) 1 200 = true
        unfold inB
        rw [decide_eq_true h1, decide_eq_true h2]; rfl
      by_cases h3 : i < 0
      · have HC : Hid (¬ okC i M0) := fun h => by have := h.2.2.1; omega
        have HR : Hid (G = 1 ∧ OB = false) := by
          have e1 : EC = 1 := by rw [HEC.out, if_neg HC.out]
          have e2 : G = 1 := by rw [HG.out, e1, if_neg (by decide)]
          exact ⟨e2, by rw [HB.out, e2, if_neg (by decide)]⟩
        clear HG HB HEC HUL
        go_wp2_with (go_at_call 11; refine (rin_calls _ _ _ _).mono ?_; rintro e w' ⟨rfl, hw'⟩; replace hw' := hw'.symm; subst hw'; rw [HI.out])
        go_meet
        case rel => exact ⟨by rw [HR.out.1], by rw [HR.out.2], Below.refl _ _⟩
      · obtain ⟨k, rfl⟩ : ∃ k : Nat, i = k := ⟨i.toNat, by omega⟩
        obtain ⟨M, hM⟩ : ∃ M, (M0 - 1) / 4 = M := ⟨_, rfl⟩
        have e1 : ((M0 : Int) - 1).tdiv 4 = (M : Int) := by rw [Int.tdiv_eq_ediv_of_nonneg (by omega)]; omega
        have e2 : ((M0 : Int) - 1) / 4 = (M : Int) := by omega
        by_cases h4 : M < k
        · have HC : Hid (¬ okC k M0) := fun h => by have := h.2.2.2; omega
          have HR : Hid (G = 1 ∧ OB = false) := by
            have e1 : EC = 1 := by rw [HEC.out, if_neg HC.out]
            have e2 : G = 1 := by rw [HG.out, e1, if_neg (by decide)]
            exact ⟨e2, by rw [HB.out, e2, if_neg (by decide)]⟩
          clear hM HG HB HEC HUL
          go_wp2_with (go_at_call 11; refine (rin_calls _ _ _ _).mono ?_; rintro e w' ⟨rfl, hw'⟩; replace hw' := hw'.symm; subst hw'; rw [HI.out])
          go_meet
          case rel => exact ⟨by rw [HR.out.1], by rw [HR.out.2], Below.refl _ _⟩
        · have HC : Hid (okC k M0) := ⟨h1, h2, by omega, by omega⟩
          obtain ⟨NL, hNL⟩ : ∃ N, (M0 + 3) / 4 = N := ⟨_, rfl⟩
          have e3 : (M : Int) + 1 = (NL : Int) := by omega
          have hN2 : NL ≤ 50 := by omega
          have hk : k < NL := by omega
          have HD : Hid (dpC k M0 = deepP k NL) := by show dpC k M0 = _; unfold dpC; simp [hNL]
          have HUP : Hid (∀ x, upP (k : Int).toNat (((M0 : Int).toNat + 3) / 4) x ps = upP k NL x ps) := fun x => by show _ = _; simp [hNL]
          have hd := deepP_le k NL
          by_cases h5 : p = deepP k NL
          · have HQ : Hid (deepP k NL = p) := h5.symm
            have q0 : ((p : Int) != (p : Int)) = false := by simp
            have hp50 : p ≤ 50 := by omega
            have hEC : EC = 0 := by rw [HEC.out, if_pos HC.out, if_pos (by rw [HD.out]; exact h5)]
            obtain ⟨mi, HMI⟩ : ∃ t : Int, Hid (min 4 ((M0 : Int) - 4 * (k : Int)) = t) := ⟨_, rfl⟩
            by_cases h6 : (m : Int) = mi
            · have hG : G = 0 := by rw [HG.out, hEC, if_pos rfl, HMI.out, if_pos h6]
              have hm14 : 1 ≤ m ∧ m ≤ 4 := by have := HMI.out; omega
              have hlf : leavesP xs m = [ofP 4 (numL xs m)] := by
                have hlx := lx7.len
                unfold leavesP
                rw [show (m + 3) / 4 = 1 by omega, show List.range 1 = [0] from rfl, List.map_cons, List.map_nil]
                unfold leafG hiN
                rw [Nat.zero_mul, List.drop_zero, show min (0 + 4) m - 0 = m by omega, List.take_of_length_le (by omega)]
              have HLV : Hid (∀ q, Below w7.heap.size w7 q → Calls Try.prog 7 #[.slice a m c] q fun e w' => ∃ g o cc, e = .returned (.slice (some ⟨g, o, none⟩) 1 cc) ∧ 1 ≤ cc ∧ w'.cell? ⟨g, o, none⟩ = some (.int .u64 (ofP 4 (numL xs m))) ∧ Below q.heap.size q w') := fun q hq => by
                refine (rLeaves_calls a m c xs q (lx7.below hq (Nat.le_refl _)) hm14.1 (by omega)).mono ?_
                rintro e w' ⟨a', c', he, lw, hb⟩
                rw [show (m + 3) / 4 = 1 by omega] at he lw
                rw [hlf] at lw
                obtain ⟨b1, o1, e1, _, hc⟩ := lw.at (by omega)
                have hc0 := hc 0 (by omega)
                subst e1
                exact ⟨b1, o1, c', he, lw.cap, by simpa using hc0, hb⟩
              have hOB : OB = decide (ofP 3 [(M0 : Int), upP k NL (ofP 4 (numL xs m)) ps] = root % 2305843009213693951) := by
                rw [HB.out, hG, if_pos rfl, HUL.out, if_pos ⟨HC.out, by rw [HD.out]; exact h5⟩, HUP.out]
              have hxo := okP_W (ofP_ok 4 (numL xs m))
              have huo : okW (upP k NL (ofP 4 (numL xs m)) ps) := upP_ok hxo
              have HUC : Hid (∀ q, Below w7.heap.size w7 q → Calls Try.prog 14 #[.int .i64 k, .int .i64 NL, .int .u64 (ofP 4 (numL xs m)), .slice b p d] q fun e w' => e = .returned (.int .u64 (upP k NL (ofP 4 (numL xs m)) ps)) ∧ Below q.heap.size q w') := fun q hq => rUp_calls 50 k NL _ b p d ps q hN2 (by omega) hN2 hk hxo (lp7.below hq (Nat.le_refl _)) HPS.out h5
              have HPC : Hid (∀ q, Calls Try.prog 13 #[.int .u64 (M0 : Int), .int .u64 (upP k NL (ofP 4 (numL xs m)) ps)] q fun e w' => e = .returned (.int .u64 (ofP 3 [(M0 : Int), upP k NL (ofP 4 (numL xs m)) ps])) ∧ Below q.heap.size q w') := fun q => rPair_calls _ _ ⟨by omega, by omega⟩ huo q
              obtain ⟨RM, HRM⟩ : ∃ t, Hid (root % 2305843009213693951 = t) := ⟨_, rfl⟩
              have tm : root.tmod 2305843009213693951 = RM := by rw [← HRM.out, Int.tmod_eq_emod_of_nonneg rt0]
              have em : root % 2305843009213693951 = RM := HRM.out
              rw [em] at hOB
              have LV := HLV.out _ (Below.refl _ _)
              generalize ofP 3 [(M0 : Int), upP k NL (ofP 4 (numL xs m)) ps] = PR at *
              generalize upP k NL (ofP 4 (numL xs m)) ps = UU at *
              generalize ofP 4 (numL xs m) = LF at *
              have hOB2 : Hid (OB = (PR == RM)) := by show OB = _; rw [hOB]; rfl
              clear hd h5 hM hNL HC HD HUP HG HB HEC HUL hlf hOB huo hxo HLV lx7 lp7 HRM
              by_cases h7 : (M0 : Int) - 4 * (k : Int) < 4
              · have q7 : ((m : Int) != (M0 : Int) - 4 * (k : Int)) = false := by rw [h6, ← HMI.out]; simp; omega
                clear h6 HMI
                go_wp2_with (first | (go_at_call 11; refine (rin_calls _ _ _ _).mono ?_; rintro e w' ⟨rfl, hw'⟩; replace hw' := hw'.symm; subst hw'; rw [HI.out]) | (go_at_call 12; refine (rDeep_calls 50 _ _ _ hN2 (by omega) hN2 hk).mono ?_; rintro e w' ⟨rfl, hw'⟩; replace hw' := hw'.symm; subst hw'; rw [HQ.out]))
                refine LV.mono ?_
                rintro e w8 ⟨g, o, cc, rfl, hcc, hcell, hw8⟩
                have UC := HUC.out _ hw8
                go_wp2_with fail
                refine UC.mono ?_
                rintro e w9 ⟨rfl, hw9⟩
                have PC := HPC.out w9
                go_wp2_with fail
                refine PC.mono ?_
                rintro e w10 ⟨rfl, hw10⟩
                go_wp2_with fail
                go_meet
                case rel =>
                  have v9 := hw8.trans (hw9.mono hw8.size)
                  exact ⟨by rw [hG], by rw [hOB2.out], v9.trans (hw10.mono v9.size)⟩
              · have q7 : ((m : Int) != 4) = false := by rw [h6, ← HMI.out]; simp; omega
                clear h6 HMI
                go_wp2_with (first | (go_at_call 11; refine (rin_calls _ _ _ _).mono ?_; rintro e w' ⟨rfl, hw'⟩; replace hw' := hw'.symm; subst hw'; rw [HI.out]) | (go_at_call 12; refine (rDeep_calls 50 _ _ _ hN2 (by omega) hN2 hk).mono ?_; rintro e w' ⟨rfl, hw'⟩; replace hw' := hw'.symm; subst hw'; rw [HQ.out]))
                refine LV.mono ?_
                rintro e w8 ⟨g, o, cc, rfl, hcc, hcell, hw8⟩
                have UC := HUC.out _ hw8
                go_wp2_with fail
                refine UC.mono ?_
                rintro e w9 ⟨rfl, hw9⟩
                have PC := HPC.out w9
                go_wp2_with fail
                refine PC.mono ?_
                rintro e w10 ⟨rfl, hw10⟩
                go_wp2_with fail
                go_meet
                case rel =>
                  have v9 := hw8.trans (hw9.mono hw8.size)
                  exact ⟨by rw [hG], by rw [hOB2.out], v9.trans (hw10.mono v9.size)⟩
            · have HR : Hid (G = 5 ∧ OB = false) := by
                have e2 : G = 5 := by rw [HG.out, hEC, if_pos rfl, HMI.out, if_neg h6]
                exact ⟨e2, by rw [HB.out, e2, if_neg (by decide)]⟩
              clear hd h5 hM hNL HC HD HUP HG HB HEC HUL hEC
              by_cases h7 : (M0 : Int) - 4 * (k : Int) < 4
              · have q7 : ((m : Int) != (M0 : Int) - 4 * (k : Int)) = true := by rw [bne_iff_ne]; have := HMI.out; omega
                clear h6 HMI
                go_wp2_with (first | (go_at_call 11; refine (rin_calls _ _ _ _).mono ?_; rintro e w' ⟨rfl, hw'⟩; replace hw' := hw'.symm; subst hw'; rw [HI.out]) | (go_at_call 12; refine (rDeep_calls 50 _ _ _ hN2 (by omega) hN2 hk).mono ?_; rintro e w' ⟨rfl, hw'⟩; replace hw' := hw'.symm; subst hw'; rw [HQ.out]))
                go_meet
                case rel => exact ⟨by rw [HR.out.1], by rw [HR.out.2], Below.refl _ _⟩
              · have q7 : ((m : Int) != 4) = true := by rw [bne_iff_ne]; have := HMI.out; omega
                clear h6 HMI
                go_wp2_with (first | (go_at_call 11; refine (rin_calls _ _ _ _).mono ?_; rintro e w' ⟨rfl, hw'⟩; replace hw' := hw'.symm; subst hw'; rw [HI.out]) | (go_at_call 12; refine (rDeep_calls 50 _ _ _ hN2 (by omega) hN2 hk).mono ?_; rintro e w' ⟨rfl, hw'⟩; replace hw' := hw'.symm; subst hw'; rw [HQ.out]))
                go_meet
                case rel => exact ⟨by rw [HR.out.1], by rw [HR.out.2], Below.refl _ _⟩
          · obtain ⟨q, hq⟩ : ∃ q, deepP k NL = q := ⟨_, rfl⟩
            have HQ : Hid (deepP k NL = q) := hq
            have q0 : ((p : Int) != (q : Int)) = true := by rw [bne_iff_ne]; omega
            have q2 : q ≤ 50 := by omega
            have HR : Hid (G = 5 ∧ OB = false) := by
              have e1 : EC = 5 := by rw [HEC.out, if_pos HC.out, if_neg (by rw [HD.out]; exact h5)]
              have e2 : G = 5 := by rw [HG.out, e1, if_neg (by decide)]
              exact ⟨e2, by rw [HB.out, e2, if_neg (by decide)]⟩
            clear hd h5 hM hNL hq HC HD HUP HG HB HEC HUL
            go_wp2_with (first | (go_at_call 11; refine (rin_calls _ _ _ _).mono ?_; rintro e w' ⟨rfl, hw'⟩; replace hw' := hw'.symm; subst hw'; rw [HI.out]) | (go_at_call 12; refine (rDeep_calls 50 _ _ _ hN2 (by omega) hN2 hk).mono ?_; rintro e w' ⟨rfl, hw'⟩; replace hw' := hw'.symm; subst hw'; rw [HQ.out]))
            go_meet
            case rel => exact ⟨by rw [HR.out.1], by rw [HR.out.2], Below.refl _ _⟩
    · have HI : Hid (inB n 1 200 = false) := by
        show inB n 1 200 = false
        unfold inB
        rw [Bool.and_eq_false_iff, decide_eq_false_iff_not, decide_eq_false_iff_not]
        omega
      have HC : Hid (¬ okC i n) := fun h => h1 ⟨h.1, h.2.1⟩
      have HR : Hid (G = 1 ∧ OB = false) := by
        have e1 : EC = 1 := by rw [HEC.out, if_neg HC.out]
        have e2 : G = 1 := by rw [HG.out, e1, if_neg (by decide)]
        exact ⟨e2, by rw [HB.out, e2, if_neg (by decide)]⟩
      clear h1 HG HB HEC HUL
      go_wp2_with (go_at_call 11; refine (rin_calls _ _ _ _).mono ?_; rintro e w' ⟨rfl, hw'⟩; replace hw' := hw'.symm; subst hw'; rw [HI.out])
      go_meet
      case rel => exact ⟨by rw [HR.out.1], by rw [HR.out.2], Below.refl _ _⟩
  case rest =>
  obtain ⟨rfl, rfl, T8⟩ := hcut
  generalize hwc : wc = q3 at *
  clear hwc
  have U8 := U7.trans (T8.mono U7.size)
  have OP := HOP.out _ U8
  clear HOP HG HB HEC HUL KX KP
  have hGG : (G == G) = true := by simp
  have hOO : (OB == OB) = true := by simp
  go_wp2_with fail
  refine OP.mono ?_
  rintro e w9 ⟨rfl, hw9⟩
  go_wp2_with fail
  go_ret
  exact ⟨rfl, U8.trans (hw9.mono U8.size)⟩
end Go.Proofs.Ytfkalnehomgccaa.Fx

/- SpotOpens holds where what is handed in is of bulk at most 1048576: whatever state, numbers, word and lists are handed in, it returns true: Chunk and Opens of package spot answer what the document says, and what was handed in stays as it was; the bulk is the statement's own condition, no other is asked. -/
namespace Go.Proofs.Ytfkalnehomgccaa.spotOpens
open Go.ChangeShapes Go.WideShapes Go.ChangeAt Go.RowKit
set_option linter.unusedVariables false

set_option maxRecDepth 100000 in
theorem lifted (os : Os) (started : os.Started) (H : Type) (enc : TypeId × Value → H) (F : Stop.Interp) :
    ReturnsInHanded {} Try.checked os 3 .any ((Rows.OpenSpec.upto Rows.spotOpensSpec).pre6 enc Try.prog Try.f3 Rows.spotOpensUptoRow.domain false) (((Rows.OpenSpec.upto Rows.spotOpensSpec).at F).post enc Try.prog Try.f3 false true false false) := by
  refine returnsInHanded_of_cond (C := Try.checked) (s := Rows.OpenSpec.upto Rows.spotOpensSpec) (k := Rows.uptoSmall) rfl Fx.own started (by kernel_rfl) Try.func3
    (OpenSpec.witness (enc := enc) (C := Try.checked) (s := Rows.OpenSpec.upto Rows.spotOpensSpec) (k := Rows.uptoSmall) rfl false ⟨#[], #[.agg #[.slice none 0 0, .slice none 0 0], .int .i64 0, .int .u64 0, .int .i64 0, .slice none 0 0, .slice none 0 0], []⟩ 8 (by kernel_rfl) (by kernel_rfl) (by kernel_rfl)
      (x := ([.agg [.nil, .nil], .lit (.int .i64 0), .lit (.int .u64 0), .lit (.int .i64 0), .nil, .nil], [], [])) (by kernel_rfl) rfl (by kernel_rfl)) ?_
  intro W base args ds gs before hval0 hW _ hk0 _
  have hval : ∀ (j : Nat) t v, Try.f3.params[j]? = some t → args[j]? = some v → Value.okWide Try.prog W .any base t v := hval0
  have hW' := hW
  obtain ⟨p, q, hA0, hV, rfl, hfz, hnd⟩ := hW
  have hA : DataW.TrodAll enc Try.prog W 0 (fun _ => true) true Try.f3.params.toList args.toList ds p := hA0
  rw [Try.params3] at hA hval
  obtain ⟨v0, vs0, d0, ds0, p0, q0, hargs, rfl, rfl, h0, r0⟩ := trodAll_cons hA
  obtain ⟨v1, vs1, d1, ds1, p1, q1, rfl, rfl, rfl, h1, r1⟩ := trodAll_cons r0
  obtain ⟨v2, vs2, d2, ds2, p2, q2, rfl, rfl, rfl, h2, r2⟩ := trodAll_cons r1
  obtain ⟨v3, vs3, d3, ds3, p3, q3, rfl, rfl, rfl, h3, r3⟩ := trodAll_cons r2
  obtain ⟨v4, vs4, d4, ds4, p4, q4, rfl, rfl, rfl, h4, r4⟩ := trodAll_cons r3
  obtain ⟨v5, vs5, d5, ds5, p5, q5, rfl, rfl, rfl, h5, r5⟩ := trodAll_cons r4
  obtain ⟨rfl, rfl, rfl⟩ := trodAll_nil r5
  obtain rfl : args = #[v0, v1, v2, v3, v4, v5] := by cases args; simp_all
  obtain ⟨rfl, rfl⟩ := trodVars_none hV
  have k0 := h0
  have lt0 : ∀ x ∈ p0, x.block < W.heap.size := by obtain ⟨m, hm⟩ := k0; exact DataW.trod_lt m _ _ _ hm
  obtain ⟨E0, I0, O0, rfl, w0, y0, y1, hd0, g0, g1⟩ := Fx.openStateD (hval 0 24 v0 rfl rfl) h0
  obtain ⟨a1, rfl, rfl, rfl, w1⟩ := open_int Try.underlying3 (hval 1 3 v1 rfl rfl) h1
  obtain ⟨a2, rfl, rfl, rfl, w2⟩ := open_int Try.underlying25 (hval 2 25 v2 rfl rfl) h2
  obtain ⟨a3, rfl, rfl, rfl, w3⟩ := open_int Try.underlying3 (hval 3 3 v3 rfl rfl) h3
  have k4 := h4
  have lt4 : ∀ x ∈ p4, x.block < W.heap.size := by obtain ⟨m, hm⟩ := k4; exact DataW.trod_lt m _ _ _ hm
  obtain ⟨a4, len4, cap4, z4, rfl, w4⟩ := Fx.openInts (hval 4 22 v4 rfl rfl) h4
  have k5 := h5
  have lt5 : ∀ x ∈ p5, x.block < W.heap.size := by obtain ⟨m, hm⟩ := k5; exact DataW.trod_lt m _ _ _ hm
  obtain ⟨a5, len5, cap5, z5, rfl, w5, w5o, w5m⟩ := Fx.openWordsM (hval 5 26 v5 rfl rfl) h5
  have hz : E0.n + E0.m ≤ 1048576 := by
    have hk := of_decide_eq_true hk0
    have b0 := Fx.bulk_dlen g0
    have b1 := Fx.bulk_dlen g1
    rw [hd0] at hk
    simp only [List.cons_append, Rows.uptoBulkAll, Rows.uptoBulk] at hk
    omega
  clear hA0 hval0
  refine (Fx.spotOpens_core E0.a E0.n E0.k I0 E0.b E0.m E0.t O0 a1 a2 a3 a4 len4 cap4 z4 a5 len5 cap5 z5 W w0.i w0.o (Fx.wf_i64 w1) (Fx.wf_word w2) (Fx.wf_i64 w3) w4.1 w5 w5o hz (Nat.le_trans w4.1.cap (Nat.le_trans w4.2.1 (by decide))) (Nat.le_trans w5.cap (Nat.le_trans w5m (by decide)))).mono fun e W' ⟨he, bel⟩ => ?_
  subst he
  exact ⟨_, rfl, _, _, _, [], _, [], hW', trodAll_mk1 (shut_bool Try.underlying4 _), (trodAll_cons_mk (Below.trod Fx.laidOut (by kernel_rfl) (of_decide_eq_true (by kernel_rfl)) k0 bel lt0) (trodAll_cons_mk (shut_int Try.underlying3 w1) (trodAll_cons_mk (shut_int Try.underlying25 w2) (trodAll_cons_mk (shut_int Try.underlying3 w3) (trodAll_cons_mk (Below.trod Fx.laidOut (by kernel_rfl) (of_decide_eq_true (by kernel_rfl)) k4 bel lt4) (trodAll_cons_mk (Below.trod Fx.laidOut (by kernel_rfl) (of_decide_eq_true (by kernel_rfl)) k5 bel lt5) trodAll_mk0)))))), rfl, bel.frame _, fun h => by cases h⟩

theorem over : Rows.spotOpensUptoRow.holds Try.pinned (Rows.OpenSpec.upto Rows.spotOpensSpec) :=
  OpenClaim.holds_of_cond 3 Try.f3 rfl rfl rfl rfl rfl rfl rfl ⟨rfl, rfl, rfl, rfl, rfl⟩ rfl rfl rfl rfl rfl (by kernel_rfl) Try.func3 (by kernel_rfl)
    (of_decide_eq_true (by kernel_rfl)) (by unfold Func.isWrapper; first | (rw [if_pos (by decide +kernel)]; kernel_rfl) | (rw [if_neg (by decide +kernel)]; exact ⟨rfl, rfl⟩))
    (fun os started H enc _ F => lifted os started H enc F)
end Go.Proofs.Ytfkalnehomgccaa.spotOpens

namespace Go.Proofs.Ytfkalnehomgccaa
theorem spotOpens_holds : Rows.SpotOpensUptoSaid := spotOpens.over
end Go.Proofs.Ytfkalnehomgccaa
