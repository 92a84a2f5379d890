/- A list of words as a literal, the first numbers of a list, and what a head is a digest of: no function of the program is spoken of. -/
import Derived.Test.YtimciamfgpdjlaaGreatJ07
import Derived.Test.YtimciamfgpdjlaaGreatJ18
import Derived.Test.YtimciamfgpdjlaaGreatJ03
import Derived.Test.YtimciamfgpdjlaaGreatJ09
import Derived.Test.YtimciamfgpdjlaaGreatJ08
import Derived.Test.YtimciamfgpdjlaaGreatJ12
import Derived.Test.YtimciamfgpdjlaaGreatJ16
import Derived.Test.YtimciamfgpdjlaaGreatJ15
import Derived.Test.YtimciamfgpdjlaaGreatJ17
namespace Go.Proofs.YtimciamfgpdjlaaGreat.Fx
open Go.RowKit

theorem OwnW.lit (w : World) (xs : List Int) (hm : xs.length ≤ 1000) : OwnW w.heap.size (w.alloc (.cells (xs.map (Value.int .u64)).toArray 22)) (.slice (some ⟨w.heap.size, 0, none⟩) xs.length xs.length) xs :=
  ⟨by simp, .inr ⟨w.heap.size, xs.length, _, rfl, Nat.le_refl _, Go.Deep.blk_alloc_new _ _, Nat.le_refl _, by unfold maxLen; omega, by simp, by simp; exact List.take_of_length_le (by simp)⟩⟩
theorem OwnW.mono {base b2 : Nat} {w : World} {v : Value} {xs : List Int} (h : OwnW base w v xs) (hb : b2 ≤ base) : OwnW b2 w v xs := by
  refine ⟨h.1, ?_⟩
  rcases h.2 with h0 | ⟨g, cap, cur, hv, hg, r⟩
  · exact .inl h0
  · exact .inr ⟨g, cap, cur, hv, by omega, r⟩
theorem take_snocI {xs : List Int} {t : Nat} {x : Int} (h : t < xs.length) (hx : xs.getD t 0 = x) : xs.take t ++ [x] = xs.take (t + 1) := by
  rw [List.take_succ_eq_append_getElem h]
  rw [List.getD_eq_getElem?_getD, List.getElem?_eq_getElem h, Option.getD_some] at hx
  rw [hx]

theorem rootP_W (ws ms : List Int) (n : Nat) : okW (rootP ws ms n) := okP_W (ofP_ok _ _)
def exRoot (DI DO : Nat → List Int) (j : Nat) : Int := rootP (DI j) (DO j) ((DI j).length + (DO j).length)
theorem headL_ok {c : Cfg} (hc : cfgB c = true) (hs : okW c.seed) (n : Nat) (DI DO : Nat → List Int) (N : Nat) : okL (headL c n DI DO N) := by
  obtain ⟨⟨i1, i2⟩, ⟨h1, h2⟩, ⟨o1, o2⟩, ⟨b1, b2⟩, ⟨s1, s2⟩, ⟨r1, r2⟩, ⟨d1, d2⟩, ⟨w1, w2⟩, ⟨k1, k2⟩, ⟨q1, q2⟩⟩ := cfgB_is hc
  unfold headL
  refine okL_app (okL_app ?_ ?_) ?_
  · intro i hi
    have h11 : i < 11 := by simpa using hi
    rcases (show i = 0 ∨ i = 1 ∨ i = 2 ∨ i = 3 ∨ i = 4 ∨ i = 5 ∨ i = 6 ∨ i = 7 ∨ i = 8 ∨ i = 9 ∨ i = 10 by omega) with rfl | rfl | rfl | rfl | rfl | rfl | rfl | rfl | rfl | rfl | rfl
    · exact ⟨by simp; omega, by simp; omega⟩
    · exact ⟨by simp; omega, by simp; omega⟩
    · exact ⟨by simp; omega, by simp; omega⟩
    · exact hs
    · exact ⟨by simp; omega, by simp; omega⟩
    · exact ⟨by simp; omega, by simp; omega⟩
    · exact ⟨by simp; omega, by simp; omega⟩
    · exact ⟨by simp; omega, by simp; omega⟩
    · exact ⟨by simp; omega, by simp; omega⟩
    · exact ⟨by simp; omega, by simp; omega⟩
    · exact ⟨by simp; omega, by simp; omega⟩
  · intro i hi
    have hi' : i < n := by simpa using hi
    rw [getD_range _ hi']
    exact rootP_W _ _ _
  · intro i hi
    obtain rfl : i = 0 := by simpa using hi
    exact rootP_W _ _ _
end Go.Proofs.YtimciamfgpdjlaaGreat.Fx

/- What journal.chain returns, of a record that may be chained, and what journal.Chain returns, whatever is handed in. -/
namespace Go.Proofs.YtimciamfgpdjlaaGreat.Fx
open Go.RowKit

set_option maxRecDepth 100000 in
set_option maxHeartbeats 3200000 in
theorem jchain_calls (before : Int) (hbf : okW before) (x : Rcm) (bs : List Int) (w : World) (l : Lst w x.a x.n x.k bs) (hs : 0 ≤ x.s ∧ x.s ≤ 9223372036854775807) (hr : 0 ≤ x.r ∧ x.r ≤ 9223372036854775807) (hroot : okW x.root) (h8 : x.n ≤ 8) (hbs : ∀ j, j < x.n → 0 ≤ bs.getD j 0 ∧ bs.getD j 0 ≤ 9223372036854775807) :
    Calls Tryz.prog 126 #[.int .u64 before, x.val] w fun e w' => e = .returned (.int .u64 (chainP before x.s x.r x.root bs)) ∧ Below w.heap.size w w' := by
  have hal := low_alloc w (.cells x.cells 30)
  have l' := l.below hal (Nat.le_refl _)
  have hlen := l.len
  have row := fn5_alloc w (.int .i64 x.s) (.slice x.a x.n x.k) (.int .i64 x.r) (.int .u64 x.root) (.int .u64 x.chain) 30
  obtain ⟨s, a, n, k, r, root, chain⟩ := x
  simp only [Rcm.val, Rcm.cells] at *
  obtain ⟨s0, s1⟩ := hs
  obtain ⟨r0, r1⟩ := hr
  have HBS : Hid (∀ j, j < n → 0 ≤ bs.getD j 0 ∧ bs.getD j 0 ≤ 9223372036854775807) := hbs
  have HOK : Hid (okL (chainL before s r root bs)) := by
    show okL _
    unfold chainL
    refine okL_app ?_ (fun i hi => ⟨(hbs i (by omega)).1, by have := (hbs i (by omega)).2; omega⟩)
    intro i hi
    have h5 : i < 5 := by simpa using hi
    rcases lt5 h5 with rfl | rfl | rfl | rfl | rfl
    · exact hbf
    · exact ⟨s0, by simp; omega⟩
    · exact ⟨r0, by simp; omega⟩
    · exact hroot
    · exact ⟨by simp, by simp; omega⟩
  obtain ⟨W, HW⟩ : ∃ q, Hid (q = w.alloc (.cells #[.int .i64 s, .slice a n k, .int .i64 r, .int .u64 root, .int .u64 chain] 30)) := ⟨_, rfl⟩
  have HWS : Hid (w.heap.size + 1 = W.heap.size) := by show _ = _; rw [HW.out]; simp
  rw [← HW.out] at hal l' row
  obtain ⟨c0, c1, c2, c3, c4⟩ := fn5_box row
  have own0 := OwnW.lit W [before, s, r, root, (n : Int)] (by simp)
  have hl0 := low_alloc W (.cells #[.int .u64 before, .int .u64 s, .int .u64 r, .int .u64 root, .int .u64 (n : Int)] 22)
  have KC : Hid (∀ q, Below W.heap.size W q → q.cell? ⟨w.heap.size, 1, none⟩ = some (.slice a n k)) := fun q hq => (fn5_box (row.of_block (hq.block _ row.lt))).c1
  have hlt0 := row.lt
  have d1 := KC.out _ hl0
  clear hbs l hbf hroot
  go_enter Tryz.func126, Tryz.ntmps126
  go_wp2_with fail
  rw [← HW.out]
  clear HW
  go_loopw [5, 27] (fun v i wr => ∃ j : Nat, j ≤ n ∧ i = .int .i64 j ∧ OwnW W.heap.size wr v ([before, s, r, root, (n : Int)] ++ bs.take j) ∧ Below W.heap.size W wr) (fun _ i _ => n - (intOf i).toNat)
  case atStart => exact ⟨0, Nat.zero_le _, rfl, by rw [HWS.out]; simpa using own0, hl0⟩
  case round =>
    clear own0 hl0 c0 c1 c2 c3 c4 d1
    obtain ⟨j, hj, rfl, hown, hbel⟩ := hrel
    have hsz := hbel.size
    by_cases hlt : j < n
    · obtain ⟨b1, o1, y, rfl, _, c5, HX⟩ := l'.at1b hbel (Nat.le_refl _) hlt
      have hy := HBS.out j hlt
      rw [HX.out] at hy
      obtain ⟨y0, y1⟩ := hy
      have hl2 : ([before, s, r, root, (n : Int)] ++ bs.take j).length = 5 + j := by simp; omega
      have al1 := hown.below (low_alloc wr (.cells #[.int .u64 y] 22))
      have bl1 := hbel.alloc hbel.size (.cells #[.int .u64 y] 22)
      have cn := cell_new wr (.int .u64 y) 22
      have HH : Hid (wr.heap.size + 1 = (wr.alloc (.cells #[.int .u64 y] 22)).heap.size) := by show _ = _; simp
      go_wp2_with (at_builtin; refine wpList_append_word (by rfl) _ _ (by rfl) W.heap.size _ ([before, s, r, root, (n : Int)] ++ bs.take j) y wr.heap.size W (by rfl) (by rfl) (by exact al1) (by exact cn) (by rw [hl2]; omega) (by exact bl1.size) (by exact bl1) ?_; intro v1 w2 hown1 hbel1)
      go_roundw
      case rel => exact ⟨j + 1, by omega, by go_num, hown1.congr (by rw [List.append_assoc, take_snocI (by omega) HX.out]), hbel1⟩
      case measure => simp [intOf]; omega
    · obtain rfl : j = n := by omega
      obtain ⟨av, cv, rfl, lw⟩ := hown.lst' (n := 5 + j) (by simp; omega)
      have hl3 : [before, s, r, root, (j : Int)] ++ bs.take j = chainL before s r root bs := by unfold chainL; rw [List.take_of_length_le (by omega), hlen]
      rw [hl3] at lw
      have HO := dOf_calls 6 ⟨by omega, by omega⟩ _ _ _ _ _ lw HOK.out
      rw [show ofA 6 (chainL before s r root bs) (5 + j) = chainP before s r root bs from if_neg (by omega), show bigI (5 + j) = 0 from if_neg (by omega)] at HO
      go_wp2_with fail
      refine HO.mono ?_
      rintro e w3 ⟨rfl, hw3⟩
      go_wp2_with fail
      go_ret
      exact ⟨rfl, hal.trans ((hbel.trans (hw3.mono hbel.size)).mono hal.size)⟩

set_option maxRecDepth 100000 in
set_option maxHeartbeats 1600000 in
theorem jChain_calls (before : Int) (hbf : okW before) (x : Rcm) (bs : List Int) (w : World) (l : Lst w x.a x.n x.k bs) (hs : x.s ≤ 9223372036854775807) (hr : x.r ≤ 9223372036854775807) (hroot : okW x.root) (hn : x.n ≤ 9223372036854775807) (hbs : ∀ j, j < x.n → bs.getD j 0 ≤ 9223372036854775807) :
    Calls Tryz.prog 96 #[.int .u64 before, x.val] w fun e w' => e = .returned (.tuple #[.int .u64 (chV before x.s x.r x.root x.n bs), .int .i64 (chE x.s x.r x.n bs)]) ∧ Below w.heap.size w w' := by
  have hal := low_alloc w (.cells x.cells 30)
  have l' := l.below hal (Nat.le_refl _)
  have hlen := l.len
  have row := fn5_alloc w (.int .i64 x.s) (.slice x.a x.n x.k) (.int .i64 x.r) (.int .u64 x.root) (.int .u64 x.chain) 30
  have key : chB x.s x.r x.n bs = false → chV before x.s x.r x.root x.n bs = 0 ∧ chE x.s x.r x.n bs = 5 := fun h => ⟨by unfold chV; rw [h, if_neg (by decide)], by unfold chE; rw [h, if_neg (by decide)]⟩
  have HCN : Hid (0 ≤ x.s → 0 ≤ x.r → x.n ≤ 8 → nonB bs = true → Calls Tryz.prog 126 #[.int .u64 before, x.val] (w.alloc (.cells x.cells 30)) fun e w' => e = .returned (.int .u64 (chainP before x.s x.r x.root bs)) ∧ Below (w.alloc (.cells x.cells 30)).heap.size (w.alloc (.cells x.cells 30)) w') := fun g1 g2 g3 g4 =>
    jchain_calls before hbf x bs _ l' ⟨g1, hs⟩ ⟨g2, hr⟩ hroot g3 (fun j hj => ⟨nonB_get g4 j, hbs j hj⟩)
  obtain ⟨s, a, n, k, r, root, chain⟩ := x
  simp only [Rcm.val, Rcm.cells] at *
  obtain ⟨W, HW⟩ : ∃ q, Hid (q = w.alloc (.cells #[.int .i64 s, .slice a n k, .int .i64 r, .int .u64 root, .int .u64 chain] 30)) := ⟨_, rfl⟩
  rw [← HW.out] at hal l' row HCN
  obtain ⟨c0, c1, c2, c3, c4⟩ := fn5_box row
  clear l hbf hroot hbs row
  by_cases h1 : s < 0
  · obtain ⟨e1, e2⟩ := key (by unfold chB; rw [decide_eq_false (by omega)]; rfl)
    rw [e1, e2]
    clear key e1 e2 HCN
    go_enter Tryz.func96, Tryz.ntmps96
    go_wp2_with fail
    rw [← HW.out]
    go_ret2
    exact ⟨rfl, hal⟩
  by_cases h2 : r < 0
  · obtain ⟨e1, e2⟩ := key (by unfold chB; rw [decide_eq_false (show ¬ 0 ≤ r by omega), Bool.and_false]; rfl)
    rw [e1, e2]
    clear key e1 e2 HCN
    go_enter Tryz.func96, Tryz.ntmps96
    go_wp2_with fail
    rw [← HW.out]
    go_ret2
    exact ⟨rfl, hal⟩
  by_cases h3 : 8 < n
  · obtain ⟨e1, e2⟩ := key (by unfold chB; rw [decide_eq_false (show ¬ n ≤ 8 by omega), Bool.and_false]; rfl)
    rw [e1, e2]
    have h3i : (n : Int) > 8 := by omega
    clear key e1 e2 HCN
    go_enter Tryz.func96, Tryz.ntmps96
    go_wp2_with fail
    rw [← HW.out]
    go_ret2
    exact ⟨rfl, hal⟩
  have h3i : ¬ (n : Int) > 8 := by omega
  have HK : Hid (nonB bs = false → chV before s r root n bs = 0 ∧ chE s r n bs = 5) := fun h => key (by unfold chB; rw [h, Bool.and_false])
  have HG : Hid (nonB bs = true → chV before s r root n bs = chainP before s r root bs ∧ chE s r n bs = 0) := fun h => by
    have hb : chB s r n bs = true := by unfold chB; rw [h, decide_eq_true (show 0 ≤ s by omega), decide_eq_true (show 0 ≤ r by omega), decide_eq_true (show n ≤ 8 by omega)]; rfl
    exact ⟨by unfold chV; rw [if_pos hb], by unfold chE; rw [if_pos hb]⟩
  generalize chV before s r root n bs = V at *
  generalize chE s r n bs = E at *
  clear key
  go_enter Tryz.func96, Tryz.ntmps96
  go_wp2_with fail
  rw [← HW.out]
  clear HW
  go_loopw [25] (fun i wr => ∃ j : Nat, j ≤ n ∧ i = .int .i64 j ∧ Hid (∀ t, t < j → 0 ≤ bs.getD t 0) ∧ wr = W) (fun i _ => n - (intOf i).toNat)
  case atStart => exact ⟨0, Nat.zero_le _, rfl, (fun t ht => by omega), rfl⟩
  case round =>
    obtain ⟨j, hj, rfl, hok, hw⟩ := hrel
    replace hw := hw.symm
    subst hw
    by_cases hlt : j < n
    · obtain ⟨b1, o1, y, rfl, _, c5, HX⟩ := l'.at1 hlt
      by_cases hy : y < 0
      · obtain ⟨e1, e2⟩ := HK.out (nonB_false (k := j) (by rw [HX.out]; omega))
        subst e1 e2
        go_wp2_with fail
        go_ret2
        exact ⟨rfl, hal⟩
      · have HN : Hid (∀ t, t < j + 1 → 0 ≤ bs.getD t 0) := fun t ht => by
          by_cases e : t = j
          · subst e; rw [HX.out]; omega
          · exact hok.out t (by omega)
        go_wp2_with fail
        go_roundw
        case rel => exact ⟨j + 1, by omega, by go_num, HN, by trivial⟩
        case measure => simp [intOf]; omega
    · obtain rfl : j = n := by omega
      have hnb : nonB bs = true := nonB_true (fun t ht => hok.out t (by omega))
      obtain ⟨e1, e2⟩ := HG.out hnb
      subst e1 e2
      have CC := HCN.out (by omega) (by omega) (by omega) hnb
      go_wp2_with fail
      refine CC.mono ?_
      rintro e w3 ⟨rfl, hw3⟩
      go_wp2_with fail
      go_ret2
      exact ⟨rfl, hal.trans (hw3.mono hal.size)⟩

end Go.Proofs.YtimciamfgpdjlaaGreat.Fx

/- What journal.rootOfBoth and journal.Root return, whatever is handed in. -/
namespace Go.Proofs.YtimciamfgpdjlaaGreat.Fx
open Go.RowKit

theorem rootE_err (n1 n2 : Nat) : rootE n1 n2 = errL (n1 + n2) := rfl
theorem rootV_is (n1 : Nat) (ws : List Int) (n2 : Nat) (ms : List Int) : rootV n1 ws n2 ms = rootL (ws ++ ms) (n1 + n2) := by
  unfold rootV rootL rootE
  by_cases h0 : n1 + n2 = 0
  · rw [if_pos h0, if_neg (by decide), if_pos (.inl h0)]
  · rw [if_neg h0]
    by_cases h2 : 200 < n1 + n2
    · rw [if_pos h2, if_neg (by decide), if_pos (.inr h2)]
    · rw [if_neg h2, if_pos rfl, if_neg (by omega)]
      rfl

set_option maxRecDepth 100000 in
theorem rob_calls (a1 : Option Addr) (n1 k1 : Nat) (ws : List Int) (a2 : Option Addr) (n2 k2 : Nat) (ms : List Int) (w : World) (l1 : Lst w a1 n1 k1 ws) (l2 : Lst w a2 n2 k2 ms) (hz : n1 + n2 ≤ 4611686018427387904) :
    Calls Tryz.prog 68 #[.slice a1 n1 k1, .slice a2 n2 k2] w fun e w' => e = .returned (.tuple #[.int .u64 (rootV n1 ws n2 ms), .int .i64 (rootE n1 n2)]) ∧ Below w.heap.size w w' := by
  rw [rootV_is, rootE_err]
  by_cases h : 200 < n1 + n2
  · have HE : Hid (errL (n1 + n2) = 2) := by show errL (n1 + n2) = 2; unfold errL; rw [if_neg (by omega), if_pos h]
    have HV : Hid (rootL (ws ++ ms) (n1 + n2) = 0) := if_pos (.inr h)
    have h1 : (n1 : Int) + (n2 : Int) > 200 := by omega
    clear l1 l2
    go_enter Tryz.func68, Tryz.ntmps68
    go_wp2
    go_ret2
    exact ⟨by rw [HE.out, HV.out]; rfl, Below.refl _ _⟩
  · have h1 : ¬ (n1 : Int) + (n2 : Int) > 200 := by omega
    go_enter Tryz.func68, Tryz.ntmps68
    go_wp2_with fail
    refine (concat2 a1 a2 n1 n2 k1 k2 ws ms _ _ rfl l1 l2 (by omega)).mono ?_
    rintro e w1 ⟨a, c, rfl, hl, hw1⟩
    go_wp2_with fail
    refine (Root_calls a _ c _ _ hl).mono ?_
    rintro e w2 ⟨rfl, hw2⟩
    go_wp2_with fail
    go_ret2
    exact ⟨rfl, hw1.trans (hw2.mono hw1.size)⟩

theorem jroot_calls (a1 : Option Addr) (n1 k1 : Nat) (ws : List Int) (a2 : Option Addr) (n2 k2 : Nat) (ms : List Int) (w : World) (l1 : Lst w a1 n1 k1 ws) (l2 : Lst w a2 n2 k2 ms) (hz : n1 + n2 ≤ 4611686018427387904) :
    Calls Tryz.prog 22 #[.agg #[.slice a1 n1 k1, .slice a2 n2 k2]] w fun e w' => e = .returned (.tuple #[.int .u64 (rootV n1 ws n2 ms), .int .i64 (rootE n1 n2)]) ∧ Below w.heap.size w w' := by
  have hal := low_alloc w (.cells #[.slice a1 n1 k1, .slice a2 n2 k2] 28)
  have row := fn2_alloc w (.slice a1 n1 k1) (.slice a2 n2 k2) 28
  obtain ⟨c0, c1⟩ := fn2_cells row
  have HR := rob_calls a1 n1 k1 ws a2 n2 k2 ms _ (l1.below hal (Nat.le_refl _)) (l2.below hal (Nat.le_refl _)) hz
  generalize rootV n1 ws n2 ms = V at *
  generalize rootE n1 n2 = E at *
  clear l1 l2 row
  go_enter Tryz.func22, Tryz.ntmps22
  go_wp2_with fail
  refine HR.mono ?_
  rintro e w1 ⟨rfl, hw1⟩
  go_wp2_with fail
  go_ret2
  exact ⟨rfl, hal.trans (hw1.mono hal.size)⟩
end Go.Proofs.YtimciamfgpdjlaaGreat.Fx

/- What journal.head returns, of right things. -/
namespace Go.Proofs.YtimciamfgpdjlaaGreat.Fx
open Go.RowKit

theorem tStart_good (c : Cfg) (hc : cfgB c = true) (hs : okW c.seed) (N : Nat) (hN : (N : Int) = sizeN c) (q : World) :
    Calls Tryz.prog 124 #[c.val] q fun e w' => ∃ ga d1 gb d2, e = .returned (.tuple #[.agg #[.slice ga N d1, .slice gb N d2], .int .i64 0]) ∧ Lst w' ga N d1 ((List.range N).map (startG c.seed)) ∧ Lst w' gb N d2 ((List.range N).map zeroG) ∧ Below q.heap.size q w' := by
  refine (tStart_calls c hs q).mono ?_
  rintro e w' ⟨b1, m1, d1, b2, m2, d2, rfl, _, _, l1, l2, hb⟩
  have hNt : (sizeN c).toNat = N := by omega
  unfold startL at l1
  unfold zeroL0 at l2
  rw [if_pos hc, hNt] at l1 l2
  rw [cfgI_yes hc]
  have e1 : N = m1 := by rw [← l1.len]; simp
  have e2 : N = m2 := by rw [← l2.len]; simp
  subst e1
  rw [← e2] at l2 ⊢
  exact ⟨b1, d1, b2, d2, rfl, l1, l2, hb⟩

set_option maxRecDepth 100000 in
set_option maxHeartbeats 3200000 in
theorem jhead_calls (c : Cfg) (hc : cfgB c = true) (hs : okW c.seed) (N : Nat) (hN : (N : Int) = sizeN c) (a : Option Addr) (n cap : Nat) (X : Nat → Exm) (DI DO : Nat → List Int) (w : World) (hx : Exs w a n cap X DI DO) (hn2 : n ≤ 16) (hex : allEx c n X DI DO = true) :
    Calls Tryz.prog 95 #[c.val, .slice a n cap] w fun e w' => e = .returned (.int .u64 (headP c n DI DO N)) ∧ Below w.heap.size w w' := by
  have HOK : Hid (okL (headL c n DI DO N)) := headL_ok hc hs n DI DO N
  have hNb := sizeN_bd hc
  have N4 : 4 ≤ N := by omega
  have N40 : N ≤ 40 := by omega
  obtain ⟨SL, HSL⟩ : ∃ l, Hid ((List.range N).map (startG c.seed) = l) := ⟨_, rfl⟩
  obtain ⟨ZL, HZL⟩ : ∃ l, Hid ((List.range N).map zeroG = l) := ⟨_, rfl⟩
  obtain ⟨SR, HSR⟩ : ∃ r, Hid (rootP SL ZL (N + N) = r) := ⟨_, rfl⟩
  have HRV : Hid (rootV N SL N ZL = SR) := by show rootV N SL N ZL = SR; unfold rootV; rw [if_pos (show rootE N N = 0 by unfold rootE; rw [if_neg (by omega), if_neg (by omega)])]; exact HSR.out
  have HRE : Hid (rootE N N = 0) := by show rootE N N = 0; unfold rootE; rw [if_neg (by omega), if_neg (by omega)]
  have HRS : Hid (∀ q, Calls Tryz.prog 124 #[c.val] q fun e w' => ∃ ga d1 gb d2, e = .returned (.tuple #[.agg #[.slice ga N d1, .slice gb N d2], .int .i64 0]) ∧ Lst w' ga N d1 SL ∧ Lst w' gb N d2 ZL ∧ Below q.heap.size q w') := fun q => by
    have h := tStart_good c hc hs N hN q
    rw [HSL.out, HZL.out] at h
    exact h
  have HEX : Hid (∀ j, j < n → (X j).n = (DI j).length ∧ (X j).m = (DO j).length ∧ 1 ≤ (X j).n ∧ (X j).n ≤ 4 ∧ (X j).m ≤ 4) := fun j hj => by
    have he := exB_is (allEx_is hex hj)
    obtain ⟨⟨i1, i2⟩, _, ⟨o1, o2⟩, _⟩ := cfgB_is hc
    obtain ⟨b, off, _, _, _, hin⟩ := hx.at hj
    exact ⟨hin.i.len.symm, hin.o.len.symm, by omega, by omega, by omega⟩
  obtain ⟨⟨i1, i2⟩, ⟨h1, h2⟩, ⟨o1, o2⟩, ⟨b1, b2⟩, ⟨s1, s2⟩, ⟨r1, r2⟩, ⟨d1, d2⟩, ⟨w1, w2⟩, ⟨k1, k2⟩, ⟨q1, q2⟩⟩ := cfgB_is hc
  have hal := low_alloc w (.cells c.cells 24)
  have hx0 := hx.below hal (Nat.le_refl _)
  obtain ⟨W, HW⟩ : ∃ q, Hid (q = w.alloc (.cells c.cells 24)) := ⟨_, rfl⟩
  have KB : Hid (∀ q, Below W.heap.size W q → BoxC q w.heap.size c) := fun q hq => by rw [HW.out] at hq; exact boxC hq (by simp)
  have HWS : Hid (w.heap.size + 1 = W.heap.size) := by show _ = _; rw [HW.out]; simp
  rw [← HW.out] at hal hx0
  have hHP : headP c n DI DO N = ofP 5 (headL c n DI DO N) := rfl
  rw [hHP]
  have own0 := OwnW.lit W [c.i, c.h, c.o, c.seed, c.batch, c.steps, c.rate, c.decay, c.how, c.keep, c.clip] (by simp)
  have hl0 := low_alloc W (.cells #[.int .u64 c.i, .int .u64 c.h, .int .u64 c.o, .int .u64 c.seed, .int .u64 c.batch, .int .u64 c.steps, .int .u64 c.rate, .int .u64 c.decay, .int .u64 c.how, .int .u64 c.keep, .int .u64 c.clip] 22)
  have HHL : Hid (headL c n DI DO N = ([c.i, c.h, c.o, c.seed, c.batch, c.steps, c.rate, c.decay, c.how, c.keep, c.clip] ++ (List.range n).map (exRoot DI DO)) ++ [SR]) := by
    show headL c n DI DO N = _
    rw [← HSR.out, ← HSL.out, ← HZL.out]
    rfl
  obtain ⟨HL, hHLe⟩ : ∃ l, headL c n DI DO N = l := ⟨_, rfl⟩
  rw [hHLe] at HOK HHL ⊢
  clear hHLe hHP hx hex hc hNb hN HSR HSL HZL
  obtain ⟨i, h, o, seed, batch, steps, crate, decay, how, keep, clip⟩ := c
  simp only [Cfg.val, Cfg.cells] at *
  obtain ⟨c0, c1, c2, c3, c4, c5, c6, c7, c8, c9, c10⟩ := KB.out _ (Below.refl _ _)
  dsimp only at c0 c1 c2 c3 c4 c5 c6 c7 c8 c9 c10
  go_enter Tryz.func95, Tryz.ntmps95
  go_wp2_with fail
  rw [← HW.out]
  clear HW
  go_loopw [5, 51] (fun v t wr => ∃ k : Nat, k ≤ n ∧ t = .int .i64 k ∧ OwnW W.heap.size wr v ([i, h, o, seed, batch, steps, crate, decay, how, keep, clip] ++ (List.range k).map (exRoot DI DO)) ∧ Below W.heap.size W wr) (fun _ t _ => n - (intOf t).toNat)
  case atStart => exact ⟨0, Nat.zero_le _, rfl, by rw [HWS.out]; simpa using own0, hl0⟩
  case round =>
    clear own0 hl0 c0 c1 c2 c3 c4 c5 c6 c7 c8 c9 c10
    obtain ⟨k, hk, rfl, hown, hbel⟩ := hrel
    have hsz := hbel.size
    have hll : ([i, h, o, seed, batch, steps, crate, decay, how, keep, clip] ++ (List.range k).map (exRoot DI DO)).length = 11 + k := by simp; omega
    by_cases hlt : k < n
    · obtain ⟨g1, g2, g3, g4, g5⟩ := HEX.out k hlt
      obtain ⟨xb, xo, rfl, e1, e2, hin⟩ := hx0.at hlt
      obtain ⟨x, hxk⟩ : ∃ x, X k = x := ⟨_, rfl⟩
      rw [hxk] at e1 e2 hin g1 g2 g3 g4 g5
      obtain ⟨xa, xn, xk, ya, yn, yk⟩ := x
      dsimp only at e1 e2 g1 g2 g3 g4 g5
      obtain ⟨lI, lO⟩ := hin
      dsimp only at lI lO
      obtain ⟨RT, HRT⟩ : ∃ t, Hid (exRoot DI DO k = t) := ⟨_, rfl⟩
      have hE0 : rootE xn yn = 0 := by unfold rootE; rw [if_neg (by omega), if_neg (by omega)]
      have hV0 : rootV xn (DI k) yn (DO k) = RT := by unfold rootV; rw [if_pos hE0, ← HRT.out, g1, g2]; rfl
      have hal1 := low_alloc wr (.cells #[.slice xa xn xk, .slice ya yn yk] 64)
      have RB := rob_calls xa xn xk (DI k) ya yn yk (DO k) _ ((lI.below hbel (Nat.le_refl _)).below hal1 (Nat.le_refl _)) ((lO.below hbel (Nat.le_refl _)).below hal1 (Nat.le_refl _)) (by omega)
      rw [hV0, hE0] at RB
      have t1 := (hbel.cell (p := ⟨xb, xo + k * 2, none⟩) (cell_lt e1)).trans e1
      have t2 := (hbel.cell (p := ⟨xb, xo + k * 2 + 1, none⟩) (cell_lt e2)).trans e2
      obtain ⟨y0, y1⟩ := fn2_cells (fn2_alloc wr (.slice xa xn xk) (.slice ya yn yk) 64)
      clear lI lO e1 e2 hxk g1 g2 hE0 hV0
      go_wp2_with fail
      refine RB.mono ?_
      rintro e u1 ⟨rfl, hu1⟩
      have T1 := hal1.trans (hu1.mono hal1.size)
      have T2 := T1.alloc T1.size (.cells #[.int .u64 RT] 22)
      have O2 := hown.below T2
      have B2 := hbel.trans (T2.mono hbel.size)
      clear y0 y1 t1 t2 RB
      go_wp2_with (at_builtin; refine wpList_append_word (by rfl) _ _ (by rfl) W.heap.size _ ([i, h, o, seed, batch, steps, crate, decay, how, keep, clip] ++ (List.range k).map (exRoot DI DO)) RT u1.heap.size W (by rfl) (by rfl) (by exact O2) (by exact cell_new _ _ _) (by rw [hll]; omega) (by exact B2.size) (by exact B2) ?_; intro v7 w7 hown7 hbel7)
      go_roundw
      case rel => exact ⟨k + 1, by omega, by go_num, hown7.congr (by rw [List.append_assoc, range_snocW (exRoot DI DO) k RT HRT.out]), hbel7⟩
      case measure => simp [intOf]; omega
    · obtain rfl : k = n := by omega
      obtain ⟨c0, c1, c2, c3, c4, c5, c6, c7, c8, c9, c10⟩ := KB.out _ hbel
      dsimp only at c0 c1 c2 c3 c4 c5 c6 c7 c8 c9 c10
      go_wp2_with fail
      refine (HRS.out _).mono ?_
      rintro e u1 ⟨ga, e1, gb, e2, rfl, l1, l2, hu1⟩
      clear c0 c1 c2 c3 c4 c5 c6 c7 c8 c9 c10
      have hal1 := low_alloc u1 (.cells #[.slice ga N e1, .slice gb N e2] 28)
      obtain ⟨y0, y1⟩ := fn2_cells (fn2_alloc u1 (.slice ga N e1) (.slice gb N e2) 28)
      have RR := jroot_calls ga N e1 SL gb N e2 ZL _ (l1.below hal1 (Nat.le_refl _)) (l2.below hal1 (Nat.le_refl _)) (by omega)
      rw [HRV.out, HRE.out] at RR
      clear l1 l2
      go_wp2_with fail
      refine RR.mono ?_
      rintro e u2 ⟨rfl, hu2⟩
      have T1 := hu1.trans ((hal1.trans (hu2.mono hal1.size)).mono hu1.size)
      have T3 := T1.alloc T1.size (.cells #[.int .u64 SR] 22)
      have O3 := hown.below T3
      have B3 := hbel.trans (T3.mono hbel.size)
      clear y0 y1 RR
      go_wp2_with (at_builtin; refine wpList_append_word (by rfl) _ _ (by rfl) W.heap.size _ ([i, h, o, seed, batch, steps, crate, decay, how, keep, clip] ++ (List.range k).map (exRoot DI DO)) SR u2.heap.size W (by rfl) (by rfl) (by exact O3) (by exact cell_new _ _ _) (by rw [hll]; omega) (by exact B3.size) (by exact B3) ?_; intro v7 w7 hown7 hbel7; obtain ⟨va, vc, hv7, l7⟩ := hown7.lst' (n := 12 + k) (by simp; omega); subst hv7; rw [← HHL.out] at l7)
      have HO := dOf_calls 5 ⟨by omega, by omega⟩ _ _ _ _ _ l7 HOK.out
      rw [show ofA 5 HL (12 + k) = ofP 5 HL from if_neg (by omega), show bigI (12 + k) = 0 from if_neg (by omega)] at HO
      refine HO.mono ?_
      rintro e w8 ⟨rfl, hw8⟩
      go_wp2_with fail
      go_ret
      exact ⟨rfl, hal.trans ((hbel7.trans (hw8.mono hbel7.size)).mono hal.size)⟩

set_option maxRecDepth 100000 in
set_option maxHeartbeats 800000 in
theorem jHead_calls (c : Cfg) (hs : okW c.seed) (a : Option Addr) (n cap : Nat) (X : Nat → Exm) (DI DO : Nat → List Int) (w : World) (hx : Exs w a n cap X DI DO) :
    Calls Tryz.prog 40 #[c.val, .slice a n cap] w fun e w' => e = .returned (.tuple #[.int .u64 (headV c n X DI DO), .int .i64 (courseI c n X DI DO)]) ∧ Below w.heap.size w w' := by
  have hal := low_alloc w (.cells c.cells 24)
  have CK := tcheck_calls c a n cap X DI DO _ (hx.below hal (Nat.le_refl _))
  have KB : Hid (∀ q, Below (w.alloc (.cells c.cells 24)).heap.size (w.alloc (.cells c.cells 24)) q → BoxC q w.heap.size c) := fun q hq => boxC hq (by simp)
  by_cases h0 : courseI c n X DI DO = 0
  · obtain ⟨hc, hn1, hn2, hex⟩ := course_ok h0
    have hz := sizeN_bd hc
    have HD : Hid (∀ q, Below w.heap.size w q → Calls Tryz.prog 95 #[c.val, .slice a n cap] q fun e w' => e = .returned (.int .u64 (headV c n X DI DO)) ∧ Below q.heap.size q w') := fun q hq => by
      unfold headV
      rw [if_pos h0]
      exact jhead_calls c hc hs (sizeN c).toNat (by omega) a n cap X DI DO q (hx.below hq (Nat.le_refl _)) hn2 hex
    rw [h0] at CK ⊢
    generalize headV c n X DI DO = V at *
    clear hx hex hc hs h0 hz
    obtain ⟨i, h, o, seed, batch, steps, crate, decay, how, keep, clip⟩ := c
    simp only [Cfg.val, Cfg.cells] at *
    obtain ⟨c0, c1, c2, c3, c4, c5, c6, c7, c8, c9, c10⟩ := KB.out _ (Below.refl _ _)
    dsimp only at c0 c1 c2 c3 c4 c5 c6 c7 c8 c9 c10
    go_enter Tryz.func40, Tryz.ntmps40
    go_wp2_with fail
    refine CK.mono ?_
    rintro e w1 ⟨rfl, hw1⟩
    clear c0 c1 c2 c3 c4 c5 c6 c7 c8 c9 c10
    obtain ⟨c0, c1, c2, c3, c4, c5, c6, c7, c8, c9, c10⟩ := KB.out _ hw1
    dsimp only at c0 c1 c2 c3 c4 c5 c6 c7 c8 c9 c10
    have T1 := hal.trans (hw1.mono hal.size)
    go_wp2_with fail
    refine (HD.out _ T1).mono ?_
    rintro e w2 ⟨rfl, hw2⟩
    go_wp2_with fail
    go_ret2
    exact ⟨rfl, T1.trans (hw2.mono T1.size)⟩
  · have hV : headV c n X DI DO = 0 := if_neg h0
    have hb : (courseI c n X DI DO != 0) = true := by rw [bne_iff_ne]; exact h0
    rw [hV]
    generalize courseI c n X DI DO = E at *
    clear hx hs
    obtain ⟨i, h, o, seed, batch, steps, crate, decay, how, keep, clip⟩ := c
    simp only [Cfg.val, Cfg.cells] at *
    obtain ⟨c0, c1, c2, c3, c4, c5, c6, c7, c8, c9, c10⟩ := KB.out _ (Below.refl _ _)
    dsimp only at c0 c1 c2 c3 c4 c5 c6 c7 c8 c9 c10
    go_enter Tryz.func40, Tryz.ntmps40
    go_wp2_with fail
    refine CK.mono ?_
    rintro e w1 ⟨rfl, hw1⟩
    go_wp2_with fail
    go_ret2
    exact ⟨rfl, hal.trans (hw1.mono hal.size)⟩

end Go.Proofs.YtimciamfgpdjlaaGreat.Fx

/- What journal.records returns, of right things. -/
namespace Go.Proofs.YtimciamfgpdjlaaGreat.Fx
open Go.RowKit

theorem makeR (k : Nat) (hk : k ≤ 1000) (w : World) : (Instr.makeSlice 49 (.int .i64 (k : Int)) (.int .i64 (k : Int))).run Tryz.prog w = .ok (.slice (some ⟨w.heap.size, 0, none⟩) k k) (w.alloc (.cells (madeCells #[.int .i64 0, .slice none 0 0, .int .i64 0, .int .u64 0, .int .u64 0] (k * 5)) 30)) := by
  obtain ⟨i0, hi, hz0, hz1, hz2⟩ := info_parts infoR
  have h := run_make (P := Tryz.prog) w 49 30 i0 _ Tryz.underlying49 hi hz0 .i64 .i64 (k : Int) (k : Int) (by omega) (Int.le_refl _) (by rw [hz2]; omega) (by omega)
  rw [hz1, show (k : Int).toNat = k by omega] at h
  exact h
theorem below_at5 {Bd : Nat} {W q : World} {b : Nat} (h : Below Bd W q) (hb : Bd ≤ b) (i0 i1 i2 i3 i4 : Nat) (v0 v1 v2 v3 v4 : Value) :
    Below Bd W (((((q.setCell ⟨b, i0, none⟩ v0).setCell ⟨b, i1, none⟩ v1).setCell ⟨b, i2, none⟩ v2).setCell ⟨b, i3, none⟩ v3).setCell ⟨b, i4, none⟩ v4) :=
  ((((h.setCell hb v0).setCell hb v1).setCell hb v2).setCell hb v3).setCell hb v4
theorem JrIn.drew {w : World} {OB base B k : Nat} {R : Nat → Rcm} {DG : Nat → Nat → Int} (h : JrIn w OB base B k R DG) : JrIn w.drew OB base B k R DG := h.below (Below.drew (Below.refl _ _))

set_option maxRecDepth 100000 in
set_option maxHeartbeats 6400000 in
theorem jrecords_calls (I H O B : Nat) (seed crate decay how keep clip : Int) (hs : okW seed) (steps : Int) (hc : cfgB ⟨I, H, O, seed, B, steps, crate, decay, how, keep, clip⟩ = true) (N : Nat) (hN : N = H * I + H + O * H + O) (a : Option Addr) (n cap : Nat) (X : Nat → Exm) (DI DO : Nat → List Int) (nn : Nat) (w : World)
    (hx : Exs w a n cap X DI DO) (hn1 : 1 ≤ n) (hn2 : n ≤ 16) (hex : allEx ⟨I, H, O, seed, B, steps, crate, decay, how, keep, clip⟩ n X DI DO = true) (hnn : (nn : Int) ≤ steps) :
    Calls Tryz.prog 67 #[Cfg.val ⟨I, H, O, seed, B, steps, crate, decay, how, keep, clip⟩, .slice a n cap, .int .i64 nn] w fun e w' => ∃ g R, e = .returned (.slice (some ⟨g, 0, none⟩) nn nn) ∧ w.heap.size ≤ g ∧ w'.rowIs g 30 (nn * 5) (rcsR R nn) ∧ JrIn w' g w.heap.size B nn R (jrG ⟨I, H, O, seed, B, steps, crate, decay, how, keep, clip⟩ n) ∧ JrN nn R (fun j => rateV ⟨I, H, O, seed, B, steps, crate, decay, how, keep, clip⟩ j) (jrRoot ⟨I, H, O, seed, B, steps, crate, decay, how, keep, clip⟩ n DI DO N) (jrChain ⟨I, H, O, seed, B, steps, crate, decay, how, keep, clip⟩ n DI DO N) ∧ Below w.heap.size w w' := by
  obtain ⟨⟨i1, i2⟩, ⟨h1, h2⟩, ⟨p1, p2⟩, ⟨b1, b2⟩, ⟨s1, s2⟩, _⟩ := cfgB_is hc
  dsimp only at i1 i2 h1 h2 p1 p2 b1 b2 s1 s2
  have hN4 : 4 ≤ N ∧ N ≤ 40 := by
    have := prod_sideN (show H ≤ 4 by omega) (show I ≤ 4 by omega)
    have := prod_sideN (show O ≤ 4 by omega) (show H ≤ 4 by omega)
    have : 1 ≤ H * I := Nat.mul_pos (by omega) (by omega)
    have : 1 ≤ O * H := Nat.mul_pos (by omega) (by omega)
    omega
  obtain ⟨DW, HDW⟩ : ∃ f : Nat → List Int, Hid (∀ j, f j = (stateP ⟨I, H, O, seed, B, steps, crate, decay, how, keep, clip⟩ n DI DO N j).1) := ⟨_, fun _ => rfl⟩
  obtain ⟨DM, HDM⟩ : ∃ f : Nat → List Int, Hid (∀ j, f j = (stateP ⟨I, H, O, seed, B, steps, crate, decay, how, keep, clip⟩ n DI DO N j).2) := ⟨_, fun _ => rfl⟩
  obtain ⟨DB, HDB⟩ : ∃ f : Nat → List Int, Hid (jrBatch ⟨I, H, O, seed, B, steps, crate, decay, how, keep, clip⟩ n = f) := ⟨_, rfl⟩
  obtain ⟨DG, HDG⟩ : ∃ f : Nat → Nat → Int, Hid (jrG ⟨I, H, O, seed, B, steps, crate, decay, how, keep, clip⟩ n = f) := ⟨_, rfl⟩
  have HDL : Hid (∀ k, (List.range B).map (DG k) = DB k) := fun k => by rw [← HDG.out, ← HDB.out]; rfl
  obtain ⟨RV, HRV⟩ : ∃ f : Nat → Int, Hid ((fun j : Nat => rateV ⟨I, H, O, seed, B, steps, crate, decay, how, keep, clip⟩ j) = f) := ⟨_, rfl⟩
  obtain ⟨RO, HRO⟩ : ∃ f : Nat → Int, Hid (jrRoot ⟨I, H, O, seed, B, steps, crate, decay, how, keep, clip⟩ n DI DO N = f) := ⟨_, rfl⟩
  obtain ⟨CH, HCH⟩ : ∃ f : Nat → Int, Hid (jrChain ⟨I, H, O, seed, B, steps, crate, decay, how, keep, clip⟩ n DI DO N = f) := ⟨_, rfl⟩
  have HCS : Hid (∀ k : Nat, CH (k + 1) = chainP (CH k) (k : Int) (RV k) (RO k) (DB k)) := fun k => by rw [← HCH.out, ← HRV.out, ← HRO.out, ← HDB.out]; rfl
  have HC0 : Hid (headP ⟨I, H, O, seed, B, steps, crate, decay, how, keep, clip⟩ n DI DO N = CH 0) := by show headP ⟨I, H, O, seed, B, steps, crate, decay, how, keep, clip⟩ n DI DO N = CH 0; rw [← HCH.out]; rfl
  have HCW : Hid (∀ k, okW (CH k)) := fun k => by
    rw [← HCH.out]
    cases k with
    | zero => exact okP_W (ofP_ok _ _)
    | succ k => exact okP_W (ofP_ok _ _)
  have HRB : Hid (∀ k : Nat, (k : Int) ≤ steps - 1 → 0 ≤ RV k ∧ RV k ≤ 9223372036854775807) := fun k hk => by
    rw [← HRV.out]
    have := in_is (rateV_in hc k (by omega) hk)
    dsimp only
    exact ⟨this.1, by omega⟩
  have HDN : Hid (∀ k j, j < B → 0 ≤ (DB k).getD j 0 ∧ (DB k).getD j 0 ≤ 9223372036854775807) := fun k j hj => by
    rw [← HDB.out]
    obtain ⟨t, ht, e⟩ := batch_in seed B n (k * B) hn1 hj
    unfold jrBatch
    dsimp only
    rw [show ((B : Int).toNat) = B from rfl, e]
    omega
  rw [HDG.out, HRV.out, HRO.out, HCH.out]
  have hNI : (N : Int) = sizeN ⟨I, H, O, seed, B, steps, crate, decay, how, keep, clip⟩ := by unfold sizeN; dsimp only; rw [hN]; push_cast; rfl
  have hco : courseI ⟨I, H, O, seed, B, steps, crate, decay, how, keep, clip⟩ n X DI DO = 0 := by unfold courseI; rw [if_pos hc, if_neg (by omega), if_neg (by omega), if_pos hex]
  have HS : Hid (∀ q, Calls Tryz.prog 124 #[Cfg.val ⟨I, H, O, seed, B, steps, crate, decay, how, keep, clip⟩] q fun e w' => ∃ ga d1 gb d2, e = .returned (.tuple #[.agg #[.slice ga N d1, .slice gb N d2], .int .i64 0]) ∧ Lst w' ga N d1 (DW 0) ∧ Lst w' gb N d2 (DM 0) ∧ Below q.heap.size q w') := fun q => by
    rw [HDW.out, HDM.out]
    exact tStart_good ⟨I, H, O, seed, B, steps, crate, decay, how, keep, clip⟩ hc hs N hNI q
  have HHD : Hid (∀ q, Below w.heap.size w q → Calls Tryz.prog 95 #[Cfg.val ⟨I, H, O, seed, B, steps, crate, decay, how, keep, clip⟩, .slice a n cap] q fun e w' => e = .returned (.int .u64 (CH 0)) ∧ Below q.heap.size q w') := fun q hq => by
    have := jhead_calls ⟨I, H, O, seed, B, steps, crate, decay, how, keep, clip⟩ hc hs N hNI a n cap X DI DO q (hx.below hq (Nat.le_refl _)) hn2 hex
    rw [HC0.out] at this
    exact this
  have HNX : Hid (∀ (k : Nat), (k : Int) ≤ steps - 1 → ∀ (q : World) (x1 : Option Addr) (k1 : Nat) (x2 : Option Addr) (k2 : Nat), Below w.heap.size w q → Lst q x1 N k1 (DW k) → Lst q x2 N k2 (DM k) → Calls Tryz.prog 125 #[Cfg.val ⟨I, H, O, seed, B, steps, crate, decay, how, keep, clip⟩, .slice a n cap, .agg #[.slice x1 N k1, .slice x2 N k2], .int .i64 k] q fun e w' => ∃ ya d1 yb d2 bg, e = .returned (.tuple #[.agg #[.slice ya N d1, .slice yb N d2], .slice (some ⟨bg, 0, none⟩) B B, .int .i64 (RV k), .int .i64 0]) ∧ Lst w' ya N d1 (DW (k + 1)) ∧ Lst w' yb N d2 (DM (k + 1)) ∧ Arr w' bg B B (DG k) ∧ Below q.heap.size q w' ∧ q.heap.size ≤ bg) := fun k hk q x1 k1 x2 k2 hq l1 l2 => by
    have hr := stateP_right ⟨I, H, O, seed, B, steps, crate, decay, how, keep, clip⟩ n DI DO N k
    rw [← HDW.out, ← HDM.out] at hr
    have f1 : fitB ⟨I, H, O, seed, B, steps, crate, decay, how, keep, clip⟩ N (DW k) = true := by unfold fitB; rw [decide_eq_true hNI, hr.1]; rfl
    have f2 : fitB ⟨I, H, O, seed, B, steps, crate, decay, how, keep, clip⟩ N (DM k) = true := by unfold fitB; rw [decide_eq_true hNI, hr.2]; rfl
    have HC : Hid (∀ q', Below q.heap.size q q' → Calls Tryz.prog 54 #[Cfg.val ⟨I, H, O, seed, B, steps, crate, decay, how, keep, clip⟩, .slice a n cap] q' fun e w' => e = .returned (.int .i64 0) ∧ Below q'.heap.size q' w') := fun q' hq' => by
      have h := tcheck_calls ⟨I, H, O, seed, B, steps, crate, decay, how, keep, clip⟩ a n cap X DI DO q' ((hx.below hq (Nat.le_refl _)).below hq' (Nat.le_refl _))
      rw [hco] at h
      exact h
    refine (tNext_own ⟨I, H, O, seed, B, steps, crate, decay, how, keep, clip⟩ hc a n cap x1 N k1 (DW k) x2 N k2 (DM k) k q l1 l2 HC f1 f2 (in_yes ⟨by omega, hk⟩) B _ _ _ _ (fun q' hq' => tnext_own I H O B k seed crate decay how keep clip hs steps hc N hN a n cap X DI DO x1 k1 (DW k) x2 k2 (DM k) q' ((hx.below hq (Nat.le_refl _)).below hq' (Nat.le_refl _)) hn1 hn2 hex (l1.below hq' (Nat.le_refl _)) (l2.below hq' (Nat.le_refl _)) hr.1 hr.2 hk)).mono ?_
    rintro e w' ⟨y1, d1, y2, d2, bg, he, h⟩
    refine ⟨some ⟨y1, 0, none⟩, d1, some ⟨y2, 0, none⟩, d2, bg, ?_, ?_, ?_, ?_, h.bel, h.f3⟩
    · rw [he, ← HRV.out]
    · have lw := h.a1.lst
      rw [HDW.out (k + 1)]; rw [HDW.out, HDM.out] at lw; exact lw
    · have lm := h.a2.lst
      rw [HDM.out (k + 1)]; rw [HDW.out, HDM.out] at lm; exact lm
    · rw [← HDG.out]; exact h.a3
  have HRR : Hid (∀ (k : Nat) (q : World) (x1 : Option Addr) (k1 : Nat) (x2 : Option Addr) (k2 : Nat), Lst q x1 N k1 (DW (k + 1)) → Lst q x2 N k2 (DM (k + 1)) → Calls Tryz.prog 22 #[.agg #[.slice x1 N k1, .slice x2 N k2]] q fun e w' => e = .returned (.tuple #[.int .u64 (RO k), .int .i64 0]) ∧ Below q.heap.size q w') := fun k q x1 k1 x2 k2 l1 l2 => by
    have h := jroot_calls x1 N k1 (DW (k + 1)) x2 N k2 (DM (k + 1)) q l1 l2 (by omega)
    have hE : rootE N N = 0 := by unfold rootE; rw [if_neg (by omega), if_neg (by omega)]
    have hV : rootV N (DW (k + 1)) N (DM (k + 1)) = RO k := by unfold rootV; rw [if_pos hE, ← HRO.out, HDW.out, HDM.out]; rfl
    rw [hE, hV] at h
    exact h
  have HCN : Hid (∀ (k bg : Nat) (q : World), (k : Int) ≤ steps - 1 → Lst q (some ⟨bg, 0, none⟩) B B (DB k) → Calls Tryz.prog 126 #[.int .u64 (CH k), .agg #[.int .i64 k, .slice (some ⟨bg, 0, none⟩) B B, .int .i64 (RV k), .int .u64 (RO k), .int .u64 0]] q fun e w' => e = .returned (.int .u64 (CH (k + 1))) ∧ Below q.heap.size q w') := fun k bg q hk hl => by
    have hRO : okW (RO k) := by rw [← HRO.out]; exact rootP_W _ _ _
    have := jchain_calls (CH k) (HCW.out k) ⟨(k : Int), some ⟨bg, 0, none⟩, B, B, RV k, RO k, 0⟩ (DB k) q hl ⟨by show (0 : Int) ≤ (k : Int); omega, by show (k : Int) ≤ _; omega⟩ (HRB.out k hk) hRO (by show B ≤ 8; omega) (fun j hj => HDN.out k j hj)
    rw [HCS.out k]
    exact this
  have hal := low_alloc w (.cells (Cfg.cells ⟨I, H, O, seed, B, steps, crate, decay, how, keep, clip⟩) 24)
  obtain ⟨W, HW⟩ : ∃ q, Hid (q = w.alloc (.cells (Cfg.cells ⟨I, H, O, seed, B, steps, crate, decay, how, keep, clip⟩) 24)) := ⟨_, rfl⟩
  have KB : Hid (∀ q, Below W.heap.size W q → BoxC q w.heap.size ⟨I, H, O, seed, B, steps, crate, decay, how, keep, clip⟩) := fun q hq => by rw [HW.out] at hq; exact boxC hq (by simp)
  have hbW : Below w.heap.size w W := by rw [HW.out]; exact hal
  have hltW : w.heap.size < W.heap.size := by rw [HW.out]; simp
  have HWS : Hid (w.heap.size + 1 = W.heap.size) := by show _ = _; rw [HW.out]; simp
  have hmk := makeR nn (by omega)
  clear hx hex hc hN hNI hs HDW HDM HDB HDG HRV HRO HCH HCS HC0 HCW HRB HDN hal hco
  simp only [Cfg.val, Cfg.cells] at *
  have KS : Hid (∀ q, Below W.heap.size W q → q.cell? ⟨w.heap.size, 0, none⟩ = some (.int .i64 I) ∧ q.cell? ⟨w.heap.size, 1, none⟩ = some (.int .i64 H) ∧ q.cell? ⟨w.heap.size, 2, none⟩ = some (.int .i64 O) ∧ q.cell? ⟨w.heap.size, 3, none⟩ = some (.int .u64 seed) ∧ q.cell? ⟨w.heap.size, 4, none⟩ = some (.int .i64 B) ∧ q.cell? ⟨w.heap.size, 5, none⟩ = some (.int .i64 steps) ∧ q.cell? ⟨w.heap.size, 6, none⟩ = some (.int .i64 crate) ∧ q.cell? ⟨w.heap.size, 7, none⟩ = some (.int .i64 decay) ∧ q.cell? ⟨w.heap.size, 8, none⟩ = some (.int .i64 how) ∧ q.cell? ⟨w.heap.size, 9, none⟩ = some (.int .i64 keep) ∧ q.cell? ⟨w.heap.size, 10, none⟩ = some (.int .i64 clip)) := fun q hq => by
    obtain ⟨x0, x1, x2, x3, x4, x5, x6, x7, x8, x9, x10⟩ := KB.out q hq
    exact ⟨x0, x1, x2, x3, x4, x5, x6, x7, x8, x9, x10⟩
  clear KB
  have T0 : Below W.heap.size W (W.alloc (.cells (madeCells #[.int .i64 0, .slice none 0 0, .int .i64 0, .int .u64 0, .int .u64 0] (nn * 5)) 30)) := low_alloc W _
  have rowz := rcsR_zero (R := noRec) (made5 W (.int .i64 0) (.slice none 0 0) (.int .i64 0) (.int .u64 0) (.int .u64 0) (nn * 5) 30)
  obtain ⟨W1, HW1⟩ : ∃ q, Hid (q = W.alloc (.cells (madeCells #[.int .i64 0, .slice none 0 0, .int .i64 0, .int .u64 0, .int .u64 0] (nn * 5)) 30)) := ⟨_, rfl⟩
  rw [← HW1.out] at T0 rowz
  have HWS1 : Hid (W.heap.size + 1 = W1.heap.size) := by show _ = _; rw [HW1.out]; simp
  obtain ⟨c0, c1, c2, c3, c4, c5, c6, c7, c8, c9, c10⟩ := KS.out _ T0
  go_enter Tryz.func67, Tryz.ntmps67
  go_wp2_with fail
  rw [← HW.out]
  clear HW
  rw [← HW1.out, HWS.out]
  clear HW1 hmk
  go_wp2_with fail
  refine (HHD.out W1 (hbW.trans (T0.mono hbW.size))).mono ?_
  rintro e w2 ⟨rfl, hw2⟩
  have T2 := T0.trans (hw2.mono T0.size)
  have row2 := rowz.of_block (hw2.block _ rowz.lt)
  clear c0 c1 c2 c3 c4 c5 c6 c7 c8 c9 c10 rowz hw2 HHD
  obtain ⟨c0, c1, c2, c3, c4, c5, c6, c7, c8, c9, c10⟩ := KS.out _ T2
  go_wp2_with fail
  refine (HS.out w2).mono ?_
  rintro e w3 ⟨ga, d1, gb, d2, rfl, l1, l2, hw3⟩
  have T3 := T2.trans (hw3.mono T2.size)
  have row3 := row2.of_block (hw3.block _ row2.lt)
  clear c0 c1 c2 c3 c4 c5 c6 c7 c8 c9 c10 row2 hw3 HS T2 T0
  have hal4 := low_alloc w3 (.cells #[.slice ga N d1, .slice gb N d2] 28)
  have T4 := T3.trans (hal4.mono T3.size)
  have row4 := row3.alloc (.cells #[.slice ga N d1, .slice gb N d2] 28)
  have srow4 := fn2_alloc w3 (.slice ga N d1) (.slice gb N d2) 28
  have m1 := l1.below hal4 (Nat.le_refl _)
  have m2 := l2.below hal4 (Nat.le_refl _)
  have hWO : W.heap.size < w3.heap.size := row3.lt
  clear row3 T3 l1 l2 hal4
  go_wp2_with fail
  generalize w3.heap.size = SB at *
  generalize w3.alloc (.cells #[.slice ga N d1, .slice gb N d2] 28) = w4 at *
  generalize hOB : W.heap.size = OB at *
  go_loopw [8, 25] (fun cw t wr => ∃ (k : Nat) (xa : Option Addr) (e1 : Nat) (xb : Option Addr) (e2 : Nat) (R : Nat → Rcm), k ≤ nn ∧ t = .int .i64 k ∧ cw = .int .u64 (CH k) ∧ wr.rowIs OB 30 (nn * 5) (rcsR R k) ∧ JrIn wr OB w.heap.size B k R DG ∧ Hid (JrN k R RV RO CH) ∧ wr.rowIs SB 28 2 (fn2 (.slice xa N e1) (.slice xb N e2)) ∧ Lst wr xa N e1 (DW k) ∧ Lst wr xb N e2 (DM k) ∧ Below OB W wr) (fun _ t _ => nn - (intOf t).toNat)
  case atStart => exact ⟨0, ga, d1, gb, d2, noRec, Nat.zero_le _, rfl, rfl, row4, (fun j hj => by omega), (fun j hj => by omega), srow4, m1, m2, T4⟩
  case round =>
    clear row4 srow4 m1 m2 T4
    obtain ⟨k, xa, e1, xb, e2, R, hk, rfl, rfl, orow, hjr, hjn, srow, la, lb, hbel⟩ := hrel
    by_cases hlt : k < nn
    · have hst : (k : Int) ≤ steps - 1 := by omega
      have hSBl := srow.lt
      have hOBl := orow.lt
      have hw0 := low_alloc wr (.cells #[.int .i64 k, .slice none 0 0, .int .i64 0, .int .u64 0, .int .u64 0] 30)
      have bwa := hbel.trans (hw0.mono (by rw [← hOB]; exact hbel.size))
      have bww : Below w.heap.size w (wr.alloc (.cells #[.int .i64 k, .slice none 0 0, .int .i64 0, .int .u64 0, .int .u64 0] 30)) := hbW.trans (bwa.mono (by omega))
      have NX := HNX.out k hst (wr.alloc (.cells #[.int .i64 k, .slice none 0 0, .int .i64 0, .int .u64 0, .int .u64 0] 30)) xa e1 xb e2 bww (la.below hw0 (Nat.le_refl _)) (lb.below hw0 (Nat.le_refl _))
      have HNX2 : Hid (Calls Tryz.prog 125 #[.agg #[.int .i64 I, .int .i64 H, .int .i64 O, .int .u64 seed, .int .i64 B, .int .i64 steps, .int .i64 crate, .int .i64 decay, .int .i64 how, .int .i64 keep, .int .i64 clip], .slice a n cap, .agg #[.slice xa N e1, .slice xb N e2], .int .i64 k] (wr.alloc (.cells #[.int .i64 k, .slice none 0 0, .int .i64 0, .int .u64 0, .int .u64 0] 30)) fun e w' => ∃ ya d1 yb d2 bg, e = .returned (.tuple #[.agg #[.slice ya N d1, .slice yb N d2], .slice (some ⟨bg, 0, none⟩) B B, .int .i64 (RV k), .int .i64 0]) ∧ Lst w' ya N d1 (DW (k + 1)) ∧ Lst w' yb N d2 (DM (k + 1)) ∧ Arr w' bg B B (DG k) ∧ Below (wr.alloc (.cells #[.int .i64 k, .slice none 0 0, .int .i64 0, .int .u64 0, .int .u64 0] 30)).heap.size (wr.alloc (.cells #[.int .i64 k, .slice none 0 0, .int .i64 0, .int .u64 0, .int .u64 0] 30)) w' ∧ (wr.alloc (.cells #[.int .i64 k, .slice none 0 0, .int .i64 0, .int .u64 0, .int .u64 0] 30)).heap.size ≤ bg) := NX
      have rr0 : (wr.alloc (.cells #[.int .i64 k, .slice none 0 0, .int .i64 0, .int .u64 0, .int .u64 0] 30)).rowIs wr.heap.size 30 5 (recC ⟨k, none, 0, 0, 0, 0, 0⟩) := fn5_alloc wr (.int .i64 k) (.slice none 0 0) (.int .i64 0) (.int .u64 0) (.int .u64 0) 30
      obtain ⟨c0, c1, c2, c3, c4, c5, c6, c7, c8, c9, c10⟩ := KS.out _ bwa
      obtain ⟨s0, s1'⟩ := fn2_cells (srow.alloc (.cells #[.int .i64 k, .slice none 0 0, .int .i64 0, .int .u64 0, .int .u64 0] 30))
      clear NX
      go_wp2_with fail
      refine HNX2.out.mono ?_
      rintro e u1 ⟨ya, d1, yb, d2, bg, rfl, g1, g2, g3, hu1, hbg⟩
      simp only [World.size_alloc] at hbg
      have bu1 : Below wr.heap.size wr u1 := hw0.trans (hu1.mono hw0.size)
      clear c0 c1 c2 c3 c4 c5 c6 c7 c8 c9 c10 s0 s1' HNX2
      have srow1 := srow.of_block (bu1.block _ srow.lt)
      have orow1 := orow.of_block (bu1.block _ orow.lt)
      have rr1 := rr0.of_block (hu1.block _ rr0.lt)
      have hno := hjr.no (Nat.le_refl wr.heap.size)
      have hjr1 := hjr.below bu1
      obtain ⟨y0, y1⟩ := fn2_cells srow1
      have f0 := srow1.frozen 0
      have f1 := srow1.frozen 1
      have nSR : wr.heap.size ≠ SB := by omega
      have nOS : OB ≠ SB := by omega
      have nOR : OB ≠ wr.heap.size := by omega
      have nSR' : SB ≠ wr.heap.size := by omega
      have far1 := g1.apart5 (by omega) rr1
      have far2 := g2.apart5 (by omega) rr1
      have far3 : bg ≠ wr.heap.size := by omega
      have far4 : bg ≠ SB := by omega
      have faO1 := g1.apart (by omega) orow1 (fun i x y => rcsR_apart R k i x y)
      have faO2 := g2.apart (by omega) orow1 (fun i x y => rcsR_apart R k i x y)
      have rr2 := (rr1.setOther (a := ⟨SB, 0, none⟩) nSR (.slice ya N d1)).setOther (a := ⟨SB, 1, none⟩) nSR (.slice yb N d2)
      have t1 : ((u1.setCell ⟨SB, 0, none⟩ (.slice ya N d1)).setCell ⟨SB, 1, none⟩ (.slice yb N d2)).cell? ⟨wr.heap.size, 1, none⟩ = some (.slice none 0 0) := rr2.cell (i := 1) (by omega)
      have t2 : ((u1.setCell ⟨SB, 0, none⟩ (.slice ya N d1)).setCell ⟨SB, 1, none⟩ (.slice yb N d2)).cell? ⟨wr.heap.size, 2, none⟩ = some (.int .i64 0) := rr2.cell (i := 2) (by omega)
      have z1 := rr2.frozen 1
      have z2 := rr2.frozen 2
      have rr3 : ((((u1.setCell ⟨SB, 0, none⟩ (.slice ya N d1)).setCell ⟨SB, 1, none⟩ (.slice yb N d2)).setCell ⟨wr.heap.size, 1, none⟩ (.slice (some ⟨bg, 0, none⟩) B B)).setCell ⟨wr.heap.size, 2, none⟩ (.int .i64 (RV k))).rowIs wr.heap.size 30 5 (recC ⟨k, some ⟨bg, 0, none⟩, B, B, RV k, 0, 0⟩) := ((rr2.set 1 (.slice (some ⟨bg, 0, none⟩) B B)).set 2 (.int .i64 (RV k))).congr (fun t ht => by rcases lt5 ht with rfl | rfl | rfl | rfl | rfl <;> rfl)
      have t3 : (((u1.setCell ⟨SB, 0, none⟩ (.slice ya N d1)).setCell ⟨SB, 1, none⟩ (.slice yb N d2)).setCell ⟨wr.heap.size, 1, none⟩ (.slice (some ⟨bg, 0, none⟩) B B)).cell? ⟨wr.heap.size, 2, none⟩ = some (.int .i64 0) := (rr2.set 1 _).cell (i := 2) (by omega)
      have z3 := (rr2.set 1 (.slice (some ⟨bg, 0, none⟩) B B)).frozen 2
      have srow3 : ((((u1.setCell ⟨SB, 0, none⟩ (.slice ya N d1)).setCell ⟨SB, 1, none⟩ (.slice yb N d2)).setCell ⟨wr.heap.size, 1, none⟩ (.slice (some ⟨bg, 0, none⟩) B B)).setCell ⟨wr.heap.size, 2, none⟩ (.int .i64 (RV k))).rowIs SB 28 2 (fn2 (.slice ya N d1) (.slice yb N d2)) := ((fn2_set srow1 (.slice ya N d1) (.slice yb N d2)).setOther (a := ⟨wr.heap.size, 1, none⟩) nSR' _).setOther (a := ⟨wr.heap.size, 2, none⟩) nSR' _
      have orow3 : ((((u1.setCell ⟨SB, 0, none⟩ (.slice ya N d1)).setCell ⟨SB, 1, none⟩ (.slice yb N d2)).setCell ⟨wr.heap.size, 1, none⟩ (.slice (some ⟨bg, 0, none⟩) B B)).setCell ⟨wr.heap.size, 2, none⟩ (.int .i64 (RV k))).rowIs OB 30 (nn * 5) (rcsR R k) := (((orow1.setOther (a := ⟨SB, 0, none⟩) nOS _).setOther (a := ⟨SB, 1, none⟩) nOS _).setOther (a := ⟨wr.heap.size, 1, none⟩) nOR _).setOther (a := ⟨wr.heap.size, 2, none⟩) nOR _
      obtain ⟨q0, q1⟩ := fn2_cells srow3
      have y1' : (u1.setCell ⟨SB, 0, none⟩ (.slice ya N d1)).cell? ⟨SB, 1, none⟩ = some (.slice xb N e2) := (srow1.set 0 _).cell (i := 1) (by omega)
      have la3 : Lst ((((u1.setCell ⟨SB, 0, none⟩ (.slice ya N d1)).setCell ⟨SB, 1, none⟩ (.slice yb N d2)).setCell ⟨wr.heap.size, 1, none⟩ (.slice (some ⟨bg, 0, none⟩) B B)).setCell ⟨wr.heap.size, 2, none⟩ (.int .i64 (RV k))) ya N d1 (DW (k + 1)) := (((g1.setOff y0 _).setOff y1' _).offB far1 1 _).offB far1 2 _
      have lb3 : Lst ((((u1.setCell ⟨SB, 0, none⟩ (.slice ya N d1)).setCell ⟨SB, 1, none⟩ (.slice yb N d2)).setCell ⟨wr.heap.size, 1, none⟩ (.slice (some ⟨bg, 0, none⟩) B B)).setCell ⟨wr.heap.size, 2, none⟩ (.int .i64 (RV k))) yb N d2 (DM (k + 1)) := (((g2.setOff y0 _).setOff y1' _).offB far2 1 _).offB far2 2 _
      have lt3 : Arr ((((u1.setCell ⟨SB, 0, none⟩ (.slice ya N d1)).setCell ⟨SB, 1, none⟩ (.slice yb N d2)).setCell ⟨wr.heap.size, 1, none⟩ (.slice (some ⟨bg, 0, none⟩) B B)).setCell ⟨wr.heap.size, 2, none⟩ (.int .i64 (RV k))) bg B B (DG k) := (((g3.setOther (a := ⟨SB, 0, none⟩) far4 _).setOther (a := ⟨SB, 1, none⟩) far4 _).setOther (a := ⟨wr.heap.size, 1, none⟩) far3 _).setOther (a := ⟨wr.heap.size, 2, none⟩) far3 _
      have jr3 : JrIn ((((u1.setCell ⟨SB, 0, none⟩ (.slice ya N d1)).setCell ⟨SB, 1, none⟩ (.slice yb N d2)).setCell ⟨wr.heap.size, 1, none⟩ (.slice (some ⟨bg, 0, none⟩) B B)).setCell ⟨wr.heap.size, 2, none⟩ (.int .i64 (RV k))) OB w.heap.size B k R DG := (((hjr1.setS y0 _).setS y1' _).setN hno 1 _).setN hno 2 _
      have hOS : OB ≤ SB := by omega
      have hOR : OB ≤ wr.heap.size := by omega
      have bU2 : Below OB W ((((u1.setCell ⟨SB, 0, none⟩ (.slice ya N d1)).setCell ⟨SB, 1, none⟩ (.slice yb N d2)).setCell ⟨wr.heap.size, 1, none⟩ (.slice (some ⟨bg, 0, none⟩) B B)).setCell ⟨wr.heap.size, 2, none⟩ (.int .i64 (RV k))) := ((((hbel.trans (bu1.mono hOR)).setCell hOS _).setCell hOS _).setCell hOR _).setCell hOR _
      clear srow1 orow1 rr1 rr2 hjr1 g1 g2 g3 bu1 hu1 hw0 bwa bww srow orow rr0 la lb hjr y1'
      go_wp2_with fail
      generalize ((((u1.setCell ⟨SB, 0, none⟩ (.slice ya N d1)).setCell ⟨SB, 1, none⟩ (.slice yb N d2)).setCell ⟨wr.heap.size, 1, none⟩ (.slice (some ⟨bg, 0, none⟩) B B)).setCell ⟨wr.heap.size, 2, none⟩ (.int .i64 (RV k))) = u2 at *
      clear t1 t2 t3 z1 z2 z3 q0 q1 y0 y1 f0 f1
      refine (HRR.out k u2 ya d1 yb d2 la3 lb3).mono ?_
      rintro e u3 ⟨rfl, hu3⟩
      generalize hRB : wr.heap.size = RB at *
      have rr4 := rr3.of_block (hu3.block _ rr3.lt)
      have srow4 := srow3.of_block (hu3.block _ srow3.lt)
      have orow4 := orow3.of_block (hu3.block _ orow3.lt)
      have la4 := la3.below hu3 (Nat.le_refl _)
      have lb4 := lb3.below hu3 (Nat.le_refl _)
      have lt4 := lt3.below hu3
      have jr4 := jr3.below hu3
      have bU4 := bU2.trans (hu3.mono (by have := orow3.lt; omega))
      have c3 : u3.cell? ⟨RB, 3, none⟩ = some (.int .u64 0) := rr4.cell (i := 3) (by omega)
      have z3 := rr4.frozen 3
      have rr5 : (u3.setCell ⟨RB, 3, none⟩ (.int .u64 (RO k))).rowIs RB 30 5 (recC ⟨k, some ⟨bg, 0, none⟩, B, B, RV k, RO k, 0⟩) := (rr4.set 3 _).congr (fun t ht => by rcases lt5 ht with rfl | rfl | rfl | rfl | rfl <;> rfl)
      obtain ⟨x0, x1, x2, x3, x4⟩ := fn5_box rr5
      dsimp only at x0 x1 x2 x3 x4
      have srow5 := srow4.setOther (a := ⟨RB, 3, none⟩) nSR' (.int .u64 (RO k))
      have orow5 := orow4.setOther (a := ⟨RB, 3, none⟩) nOR (.int .u64 (RO k))
      have la5 := la4.offB far1 3 (.int .u64 (RO k))
      have lb5 := lb4.offB far2 3 (.int .u64 (RO k))
      have lt5' := lt4.setOther (a := ⟨RB, 3, none⟩) far3 (.int .u64 (RO k))
      have jr5 := jr4.setN hno 3 (.int .u64 (RO k))
      have bU5 : Below OB W (u3.setCell ⟨RB, 3, none⟩ (.int .u64 (RO k))) := bU4.setCell hOR _
      clear rr4 srow4 orow4 la4 lb4 lt4 jr4 bU4 rr3 srow3 orow3 la3 lb3 lt3 jr3 bU2 hu3
      go_wp2_with fail
      generalize u3.setCell ⟨RB, 3, none⟩ (.int .u64 (RO k)) = u4 at *
      clear x0 x1 x2 x3 x4 c3 z3
      refine (HCN.out k bg u4 hst (HDL.out k ▸ lt5'.lst)).mono ?_
      rintro e u5 ⟨rfl, hu5⟩
      have rr6 := rr5.of_block (hu5.block _ rr5.lt)
      have srow6 := srow5.of_block (hu5.block _ srow5.lt)
      have orow6 := orow5.of_block (hu5.block _ orow5.lt)
      have la6 := la5.below hu5 (Nat.le_refl _)
      have lb6 := lb5.below hu5 (Nat.le_refl _)
      have lt6 := lt5'.below hu5
      have jr6 := jr5.below hu5
      have bU6 := bU5.trans (hu5.mono (by have := orow5.lt; omega))
      have c4 : u5.cell? ⟨RB, 4, none⟩ = some (.int .u64 0) := rr6.cell (i := 4) (by omega)
      have z4 := rr6.frozen 4
      have rr7 : (u5.setCell ⟨RB, 4, none⟩ (.int .u64 (CH (k + 1)))).rowIs RB 30 5 (recC ⟨k, some ⟨bg, 0, none⟩, B, B, RV k, RO k, CH (k + 1)⟩) := (rr6.set 4 _).congr (fun t ht => by rcases lt5 ht with rfl | rfl | rfl | rfl | rfl <;> rfl)
      obtain ⟨x0, x1, x2, x3, x4⟩ := fn5_box rr7
      dsimp only at x0 x1 x2 x3 x4
      have srow7 := srow6.setOther (a := ⟨RB, 4, none⟩) nSR' (.int .u64 (CH (k + 1)))
      have orow7 := orow6.setOther (a := ⟨RB, 4, none⟩) nOR (.int .u64 (CH (k + 1)))
      have la7 := la6.offB far1 4 (.int .u64 (CH (k + 1)))
      have lb7 := lb6.offB far2 4 (.int .u64 (CH (k + 1)))
      have lt7 := lt6.setOther (a := ⟨RB, 4, none⟩) far3 (.int .u64 (CH (k + 1)))
      have jr7 := jr6.setN hno 4 (.int .u64 (CH (k + 1)))
      have bU7 : Below OB W (u5.setCell ⟨RB, 4, none⟩ (.int .u64 (CH (k + 1)))) := bU6.setCell hOR _
      clear rr6 srow6 orow6 la6 lb6 lt6 jr6 bU6 rr5 srow5 orow5 la5 lb5 lt5' jr5 bU5 hu5
      go_wp2_with fail
      generalize u5.setCell ⟨RB, 4, none⟩ (.int .u64 (CH (k + 1))) = u6 at *
      clear c4 z4
      have o0 : u6.cell? ⟨OB, k * 5, none⟩ = some (.int .i64 0) := rcsR_new orow7 (Nat.le_refl _) (by omega) (i := 0) (by omega)
      have o1 : u6.cell? ⟨OB, k * 5 + 1, none⟩ = some (.slice none 0 0) := rcsR_new orow7 (Nat.le_refl _) (by omega) (i := 1) (by omega)
      have o2 : u6.cell? ⟨OB, k * 5 + 2, none⟩ = some (.int .i64 0) := rcsR_new orow7 (Nat.le_refl _) (by omega) (i := 2) (by omega)
      have o3 : u6.cell? ⟨OB, k * 5 + 3, none⟩ = some (.int .u64 0) := rcsR_new orow7 (Nat.le_refl _) (by omega) (i := 3) (by omega)
      have o4 : u6.cell? ⟨OB, k * 5 + 4, none⟩ = some (.int .u64 0) := rcsR_new orow7 (Nat.le_refl _) (by omega) (i := 4) (by omega)
      have v0 := orow7.frozen (k * 5)
      have v1 := orow7.frozen (k * 5 + 1)
      have v2 := orow7.frozen (k * 5 + 2)
      have v3 := orow7.frozen (k * 5 + 3)
      have v4 := orow7.frozen (k * 5 + 4)
      obtain ⟨R2, HR2⟩ : ∃ R2 : Nat → Rcm, Hid (R2 k = ⟨(k : Int), some ⟨bg, 0, none⟩, B, B, RV k, RO k, CH (k + 1)⟩ ∧ ∀ j, j < k → R2 j = R j) := ⟨fun j => if j = k then ⟨(k : Int), some ⟨bg, 0, none⟩, B, B, RV k, RO k, CH (k + 1)⟩ else R j, by exact ⟨if_pos rfl, fun j hj => if_neg (by omega)⟩⟩
      have orow8 := rcsR_push orow7 ⟨(k : Int), some ⟨bg, 0, none⟩, B, B, RV k, RO k, CH (k + 1)⟩ HR2.out.1 HR2.out.2
      have srow8 := ((((srow7.setOther (a := ⟨OB, k * 5, none⟩) (Ne.symm nOS) (.int .i64 k)).setOther (a := ⟨OB, k * 5 + 1, none⟩) (Ne.symm nOS) (.slice (some ⟨bg, 0, none⟩) B B)).setOther (a := ⟨OB, k * 5 + 2, none⟩) (Ne.symm nOS) (.int .i64 (RV k))).setOther (a := ⟨OB, k * 5 + 3, none⟩) (Ne.symm nOS) (.int .u64 (RO k))).setOther (a := ⟨OB, k * 5 + 4, none⟩) (Ne.symm nOS) (.int .u64 (CH (k + 1)))
      have la8 := ((((la7.offB faO1 (k * 5) (.int .i64 k)).offB faO1 (k * 5 + 1) (.slice (some ⟨bg, 0, none⟩) B B)).offB faO1 (k * 5 + 2) (.int .i64 (RV k))).offB faO1 (k * 5 + 3) (.int .u64 (RO k))).offB faO1 (k * 5 + 4) (.int .u64 (CH (k + 1)))
      have lb8 := ((((lb7.offB faO2 (k * 5) (.int .i64 k)).offB faO2 (k * 5 + 1) (.slice (some ⟨bg, 0, none⟩) B B)).offB faO2 (k * 5 + 2) (.int .i64 (RV k))).offB faO2 (k * 5 + 3) (.int .u64 (RO k))).offB faO2 (k * 5 + 4) (.int .u64 (CH (k + 1)))
      have jr8 := (((((jr7.push HR2.out.2 HR2.out.1 (by have := hbW.size; omega) (by omega) lt7).setO (k * 5) (.int .i64 k)).setO (k * 5 + 1) (.slice (some ⟨bg, 0, none⟩) B B)).setO (k * 5 + 2) (.int .i64 (RV k))).setO (k * 5 + 3) (.int .u64 (RO k))).setO (k * 5 + 4) (.int .u64 (CH (k + 1)))
      have bU8 := below_at5 bU7 (Nat.le_refl OB) (k * 5) (k * 5 + 1) (k * 5 + 2) (k * 5 + 3) (k * 5 + 4) (.int .i64 k) (.slice (some ⟨bg, 0, none⟩) B B) (.int .i64 (RV k)) (.int .u64 (RO k)) (.int .u64 (CH (k + 1)))
      have HJN : Hid (JrN (k + 1) R2 RV RO CH) := hjn.out.push HR2.out.2 (by rw [HR2.out.1]) (by rw [HR2.out.1]) (by rw [HR2.out.1]) (by rw [HR2.out.1])
      have k0 : (0 : Int) ≤ (k : Int) := by omega
      have kn : (k : Int) < (nn : Int) := by omega
      clear hjn orow7 srow7 la7 lb7 lt7 jr7 bU7 rr7
      go_region
      go_wp2_with fail
      go_roundw
      case rel => exact ⟨k + 1, ya, d1, yb, d2, R2, by omega, by go_num, rfl, orow8.drew, jr8.drew, HJN, srow8.drew, la8.drew, lb8.drew, below_drewN bU8 1⟩
      case measure => simp [intOf]; omega
    · obtain rfl : k = nn := by omega
      go_wp2_with fail
      go_ret
      exact ⟨OB, R, rfl, by omega, orow, hjr, hjn.out, hbW.trans (hbel.mono (by omega))⟩
end Go.Proofs.YtimciamfgpdjlaaGreat.Fx
