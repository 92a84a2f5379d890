/- What coachref.Start returns, of a right config. -/
import Derived.Test.YtimciamfgpdjlaaGreatJ06
import Derived.Test.YtimciamfgpdjlaaGreatJ10
import Derived.Test.YtimciamfgpdjlaaGreatJ29
import Derived.Deep.RegionLaw
import Derived.Test.YtimciamfgpdjlaaGreatJ17
import Derived.Test.YtimciamfgpdjlaaGreatJ12
import Derived.Test.YtimciamfgpdjlaaGreatJ02
import Derived.Test.YtimciamfgpdjlaaGreatJ05
namespace Go.Proofs.YtimciamfgpdjlaaGreat.Fx
open Go.RowKit

theorem LawBox.grown {w : World} {c : Cfg} {v0 v1 : Value} {wr q : World} {G : Nat} (h : LawBox w c v0 v1 wr) (hg : wr.grownBy q (some G)) (hG : w.heap.size + 1 < G) : LawBox w c v0 v1 q := by
  have l2 := h.st.lt
  have k : ∀ {i : Nat} {v : Value}, wr.cell? ⟨w.heap.size, i, none⟩ = some v → q.cell? ⟨w.heap.size, i, none⟩ = some v := fun hc => hg.cell hc (by simp; omega)
  exact ⟨⟨k h.cfg.c0, k h.cfg.c1, k h.cfg.c2, k h.cfg.c3, k h.cfg.c4, k h.cfg.c5, k h.cfg.c6, k h.cfg.c7, k h.cfg.c8, k h.cfg.c9, k h.cfg.c10⟩,
    h.st.of_block (hg.block _ l2 (by simp; omega)), h.bel.grown hg h.bel.size (fun k hk => by simp at hk; omega)⟩

theorem wrapW {x : Int} (h0 : 0 ≤ x) (h1 : x ≤ 18446744073709551615) : IntKind.u64.wrap x = x := by
  rw [IntKind.wrap_u64]; omega

set_option maxRecDepth 100000 in
set_option maxHeartbeats 6400000 in
theorem rstart_calls (c : Cfg) (hc : cfgB c = true) (hs : okW c.seed) (N : Nat) (hN : (N : Int) = sizeN c) (w : World) :
    Calls Tryz.prog 53 #[c.val] w fun e w' => ∃ ga d1 gb d2, e = .returned (.agg #[.slice (some ⟨ga, 0, none⟩) N d1, .slice (some ⟨gb, 0, none⟩) N d2]) ∧ w.heap.size ≤ ga ∧ w.heap.size ≤ gb ∧ Lst w' (some ⟨ga, 0, none⟩) N d1 ((List.range N).map (startG c.seed)) ∧ Lst w' (some ⟨gb, 0, none⟩) N d2 ((List.range N).map zeroG) ∧ Below w.heap.size w w' := by
  have lb := LawBox.start w c (.slice none 0 0) (.slice none 0 0)
  obtain ⟨wm, hwm⟩ : ∃ q, q = (((w.alloc (.cells c.cells 24)).alloc (.cells #[.slice none 0 0, .slice none 0 0] 28)).alloc (.cells #[.slice none 0 0, .slice none 0 0] 28)) := ⟨_, rfl⟩
  have lbm : LawBox w c (.slice none 0 0) (.slice none 0 0) wm := by rw [hwm]; exact lb.below ((Below.refl _ _).alloc (Nat.le_refl _) _)
  have hrm : wm.rowIs (w.heap.size + 1 + 1) 28 2 (fn2 (.slice none 0 0) (.slice none 0 0)) := by
    rw [hwm]
    have h := fn2_alloc ((w.alloc (.cells c.cells 24)).alloc (.cells #[.slice none 0 0, .slice none 0 0] 28)) (.slice none 0 0) (.slice none 0 0) 28
    simpa using h
  have hGlt : w.heap.size + 1 + 1 < wm.heap.size := hrm.lt
  have KQ : Hid (∀ q, wm.grownBy q (some (w.heap.size + 1 + 1)) → LawBox w c (.slice none 0 0) (.slice none 0 0) q) := fun q hq => lbm.grown hq (by omega)
  have st0 : Two wm (w.heap.size + 1 + 1) (.slice none 0 0) (.slice none 0 0) [] [] wm := ⟨hrm, OwnI.nil _ _, OwnI.nil _ _, .inl rfl, World.grownBy.refl _ _⟩
  obtain ⟨⟨i1, i2⟩, ⟨h1, h2⟩, ⟨o1, o2⟩, _⟩ := cfgB_is hc
  have RS : ∀ q, Calls Tryz.prog 110 #[.int .i64 c.i, .int .i64 c.h, .int .i64 c.o] q fun e w' => e = .returned (.int .i64 (N : Int)) ∧ w' = q := fun q => by rw [hN]; exact rsizeI_calls c.i c.h c.o q i1 i2 h1 h2 o1 o2
  have HRS : Hid (∀ q, Calls Tryz.prog 110 #[.int .i64 c.i, .int .i64 c.h, .int .i64 c.o] q fun e w' => e = .returned (.int .i64 (N : Int)) ∧ w' = q) := RS
  have hNb := sizeN_bd hc
  have N4 : 4 ≤ N := by omega
  have N40 : N ≤ 40 := by omega
  have HW : Hid (wm = (((w.alloc (.cells c.cells 24)).alloc (.cells #[.slice none 0 0, .slice none 0 0] 28)).alloc (.cells #[.slice none 0 0, .slice none 0 0] 28))) := hwm
  clear hwm lb lbm hrm RS hNb hN hc i1 i2 h1 h2 o1 o2
  obtain ⟨i, h, o, seed, batch, steps, crate, decay, how, keep, clip⟩ := c
  simp only [Cfg.val, Cfg.cells] at *
  go_enter Tryz.func53, Tryz.ntmps53
  go_wp2_with fail
  rw [← HW.out]
  clear HW
  go_loopw [4] (fun v wr => ∃ k : Nat, k ≤ N ∧ v = .int .i64 k ∧ ∃ ax cx ay cy, Two wm (w.heap.size + 1 + 1) (.slice ax k cx) (.slice ay k cy) ((List.range k).map (startG seed)) ((List.range k).map zeroG) wr) (fun v _ => N - (intOf v).toNat)
  case atStart => exact ⟨0, Nat.zero_le _, rfl, none, 0, none, 0, st0⟩
  case round =>
    obtain ⟨k, hk, rfl, ax, cx, ay, cy, htw⟩ := hrel
    clear st0
    have lb := KQ.out _ htw.gr
    have ⟨⟨c0, c1, c2, c3, c4, c5, c6, c7, c8, c9, c10⟩, hr, hb⟩ := lb
    dsimp only at c0 c1 c2 c3 c4 c5 c6 c7 c8 c9 c10
    by_cases hlt : k < N
    · obtain ⟨T, HT⟩ : ∃ T, Hid (ofP 2 [seed, 1000 + (k : Int)] = T) := ⟨_, rfl⟩
      obtain ⟨r, hr0⟩ : ∃ r, T % 131073 = r := ⟨_, rfl⟩
      have hT0 : 0 ≤ T := by rw [← HT.out]; exact (ofP_ok 2 _).1
      have r0 : 0 ≤ r := by rw [← hr0]; exact Int.emod_nonneg _ (by omega)
      have r1 : r < 131073 := by rw [← hr0]; exact Int.emod_lt_of_pos _ (by omega)
      have HS : Hid (startG seed k = r - 65536) := by
        show startG seed k = _
        unfold startG
        rw [HT.out, hr0]
      have t1 : T.tmod 131073 = r := by rw [tmod_pos hT0]; exact hr0
      have t2 : IntKind.i64.wrap r = r := wrap_in _ (by omega) (by omega)
      have t3 : IntKind.i64.wrap (r - 65536) = r - 65536 := wrap_in _ (by omega) (by omega)
      have t4 : IntKind.u64.wrap (k : Int) = (k : Int) := wrapW (by omega) (by omega)
      have t5 : IntKind.u64.wrap (1000 + (k : Int)) = 1000 + (k : Int) := wrapW (by omega) (by omega)
      have t6 : IntKind.u64.wrap r = r := wrapW (by omega) (by omega)
      have hw2 : okW (1000 + (k : Int)) := ⟨by omega, by omega⟩
      obtain ⟨g0, g1⟩ := fn2_cells htw.row
      have g0f := htw.row.frozen 0
      clear hT0
      go_wp2_with (go_at_call 110; refine (HRS.out _).mono ?_; rintro e w' ⟨rfl, hw'⟩; replace hw' := hw'.symm; subst hw')
      go_region_law (first | (refine step_append_at (by rfl) _ _ (by rfl) wm.heap.size _ ((List.range k).map (startG seed)) (r - 65536) wq.heap.size (by rfl) (by rfl) (by exact hg2.ox) (by exact cell_new _ _ _) (by simp; omega) (by simp; omega) ?_; intro v1 w2 hown1 hgr1 hat1; obtain ⟨av2, cv2, hv2, _⟩ := hown1.lst' (n := k + 1) (by simp); subst hv2; have hrow2 := hg2.still hGlt hgr1; have q0 := (fn2_cells hrow2).1; have q0f := hrow2.frozen 0) | (go_simp; go_at_call 111; refine (rWord_calls _ _ hs hw2 _).mono ?_; rintro e wq ⟨rfl, hwq⟩; rw [HT.out]; have htq := Two.below (show Two _ _ _ _ _ _ wr.drew from htw.below (below_drewN (Below.refl _ _) 1)) hwq; have hszq := htq.gr.size; obtain ⟨y0, y1⟩ := fn2_cells htq.row; have y0f := htq.row.frozen 0; have hg2 := htq.below (low_alloc wq (.cells #[.int .i64 (r - 65536)] 3)); have d0 := (fn2_cells hg2.row).1))
      all_goals
        have htw3 := (hg2.push hGlt hown1 hgr1 hat1).congr (range_snoc (startG seed) k _ HS.out) rfl
        clear hown1 hgr1 hat1 hrow2 q0 q0f hg2 d0 y0 y1 y0f htq hszq hwq g0 g1 g0f htw c0 c1 c2 c3 c4 c5 c6 c7 c8 c9 c10 hr hb lb
        generalize w2.setCell ⟨w.heap.size + 1 + 1, 0, none⟩ (.slice av2 (k + 1) cv2) = w3 at htw3 ⊢
        obtain ⟨y0, y1⟩ := fn2_cells htw3.row
        have y1f := htw3.row.frozen 1
        have hsz3 := htw3.gr.size
        have hg3 := htw3.below (low_alloc w3 (.cells #[.int .i64 0] 3))
        go_wp2_with (at_builtin; refine wpList_append_at (by rfl) _ _ (by rfl) wm.heap.size _ ((List.range k).map zeroG) 0 w3.heap.size (by rfl) (by rfl) (by exact hg3.oy) (by exact cell_new _ _ _) (by simp; omega) (by simp; omega) ?_; intro v3 w4 hown3 hgr3 hat3; obtain ⟨av4, cv4, hv4, _⟩ := hown3.lst' (n := k + 1) (by simp); subst hv4; have hrow4 := hg3.still' hGlt hgr3; have q1 := (fn2_cells hrow4).2; have q1f := hrow4.frozen 1)
        go_roundw
        case rel => exact ⟨k + 1, by omega, by go_num, av2, cv2, av4, cv4, (hg3.push' hGlt hown3 hgr3 hat3).congr rfl (range_snoc zeroG k _ rfl)⟩
        case measure => simp [intOf]; omega
    · obtain rfl : k = N := by omega
      obtain ⟨ga, rfl, hga, hla⟩ := htw.ox.at (by simp) (by omega)
      obtain ⟨gb, rfl, hgb, hlb⟩ := htw.oy.at (by simp) (by omega)
      obtain ⟨g0, g1⟩ := fn2_cells htw.row
      obtain ⟨r0, r1⟩ := fn2_cells hr
      have f0 := hr.frozen 0
      have f1 := hr.frozen 1
      go_wp2_with (go_at_call 110; refine (HRS.out _).mono ?_; rintro e w' ⟨rfl, hw'⟩; replace hw' := hw'.symm; subst hw')
      obtain ⟨q0, q1⟩ := fn2_cells (fn2_set hr (.slice (some ⟨ga, 0, none⟩) k cx) (.slice (some ⟨gb, 0, none⟩) k cy))
      refine bodyPost_ret (v := .agg #[.slice (some ⟨ga, 0, none⟩) k cx, .slice (some ⟨gb, 0, none⟩) k cy]) (by simp [results, Tryz.results53, go_sem, q0, q1]) rfl ⟨_, _, _, _, rfl, by omega, by omega, ?_, ?_, (hb.setCell (show w.heap.size ≤ w.heap.size + 1 by omega) _).setCell (show w.heap.size ≤ w.heap.size + 1 by omega) _⟩
      · exact (hla.setFar (show ga ≠ w.heap.size + 1 by omega) _).setFar (show ga ≠ w.heap.size + 1 by omega) _
      · exact (hlb.setFar (show gb ≠ w.heap.size + 1 by omega) _).setFar (show gb ≠ w.heap.size + 1 by omega) _

end Go.Proofs.YtimciamfgpdjlaaGreat.Fx

/- What coachref.cut and coachref.Tree return: where a tree is cut, and the tree of a list of leaves. -/
namespace Go.Proofs.YtimciamfgpdjlaaGreat.Fx
open Go.RowKit

theorem rcut_calls (n : Nat) (h1 : 2 ≤ n) (h2 : n ≤ 50) (w : World) : Calls Tryz.prog 158 #[.int .i64 n] w fun e w' => e = .returned (.int .i64 (cutN n)) ∧ w' = w := by
  go_enter Tryz.func158, Tryz.ntmps158
  go_wp2
  go_loop [3] (fun v => ∃ j k : Nat, v = .int .i64 k ∧ Hid (k = 2 ^ j) ∧ 1 ≤ k ∧ k < n) (fun v => n - (intOf v).toNat)
  case atStart => exact ⟨0, 1, rfl, rfl, by omega, by omega⟩
  case round =>
    obtain ⟨j, k, rfl, HJ, k1, k2⟩ := hrel
    by_cases hlt : k + k < n
    · go_wp2
      go_roundw
      case rel => exact ⟨j + 1, k + k, by go_num, by show k + k = 2 ^ (j + 1); rw [HJ.out, Nat.pow_succ]; omega, by omega, hlt⟩
      case measure => simp [intOf]; omega
    · go_wp2
      go_ret
      exact ⟨ret_word (by rw [HJ.out] at k2 hlt ⊢; rw [cutN_is k2 (by omega)]), rfl⟩

theorem rTree_calls : ∀ (m : Nat) (a : Option Addr) (n c : Nat) (xs : List Int) (w : World), n ≤ m → 1 ≤ n → n ≤ 50 → LstW w a n c xs → okL xs →
    Calls Tryz.prog 122 #[.slice a n c] w fun e w' => e = .returned (.int .u64 (treeP xs)) ∧ Below w.heap.size w w'
  | 0, a, n, c, xs, w, h, h1, h2, ha, hx => by omega
  | m + 1, a, n, c, xs, w, h, h1, h2, ha, hx => by
    have IH : Hid (∀ (a : Option Addr) (n c : Nat) (xs : List Int) (w : World), n ≤ m → 1 ≤ n → n ≤ 50 → LstW w a n c xs → okL xs →
      Calls Tryz.prog 122 #[.slice a n c] w fun e w' => e = .returned (.int .u64 (treeP xs)) ∧ Below w.heap.size w w') := rTree_calls m
    have HL := ha.len
    have HK := ha.cap
    obtain ⟨b, off, x, rfl, hb, h0, HX⟩ := ha.at1 (k := 0) (by omega)
    rw [Nat.add_zero] at h0
    by_cases h3 : n = 1
    · have n1 : ((n : Int) == 1) = true := by rw [beq_iff_eq]; omega
      have HT : Hid (treeP xs = x) := by rw [treeP_one (by omega)]; exact HX.out
      clear ha h3
      go_enter Tryz.func122, Tryz.ntmps122
      go_wp2
      go_ret
      exact ⟨ret_word HT.out.symm, Below.refl _ _⟩
    · have hc := cutN_lt (n := n) (by omega)
      have HT : Hid (treeP xs = ofP 3 [treeP (xs.take (cutN n)), treeP (xs.drop (cutN n))]) := by rw [← HL]; exact treeP_two (by omega)
      have HC : Hid (∀ w, Calls Tryz.prog 158 #[.int .i64 n] w fun e w' => e = .returned (.int .i64 (cutN n)) ∧ w' = w) := rcut_calls n (by omega) (by omega)
      generalize cutN n = k at *
      have hA := ha.head (by omega) (k := k) (by omega)
      have hB := ha.tail (by omega) (k := k) (by omega)
      have oA := okL_take hx k
      have oB := okL_drop hx k
      have tA : Hid (okW (treeP (xs.take k))) := treeP_ok oA (by rw [hA.len]; omega)
      have tB : Hid (okW (treeP (xs.drop k))) := treeP_ok oB (by rw [hB.len]; omega)
      have n1 : ((n : Int) == 1) = false := by rw [beq_eq_false_iff_ne]; omega
      have k4 : ¬ c = k := by omega
      clear ha
      go_enter Tryz.func122, Tryz.ntmps122
      go_wp2_with (first | (go_at_call 158; refine (HC.out _).mono ?_; rintro e w' ⟨rfl, hw'⟩; replace hw' := hw'.symm; subst hw') | (go_at_call 122; refine (IH.out _ _ _ (xs.take k) _ (by omega) (by omega) (by omega) (by exact hA) oA).mono ?_; rintro e w1 ⟨rfl, hw1⟩) | (go_at_call 122; refine (IH.out _ _ _ (xs.drop k) _ (by omega) (by omega) (by omega) (by exact hB.below hw1 (Nat.le_refl _)) oB).mono ?_; rintro e w2 ⟨rfl, hw2⟩) | (go_at_call 121; refine (rPair_calls _ _ tA.out tB.out _).mono ?_; rintro e w3 ⟨rfl, hw3⟩))
      go_ret
      have e2 := hw1.trans (hw2.mono hw1.size)
      exact ⟨ret_word HT.out.symm, e2.trans (hw3.mono e2.size)⟩

end Go.Proofs.YtimciamfgpdjlaaGreat.Fx

/- What coachref.Leaves and coachref.Root return. -/
namespace Go.Proofs.YtimciamfgpdjlaaGreat.Fx
open Go.RowKit

theorem numL_range {xs : List Int} {n : Nat} (h : n ≤ 200) : (List.range n).map (numG xs) = numL xs n := by
  unfold numL; rw [if_neg (by omega)]

set_option maxHeartbeats 1600000 in
theorem rLeaves_calls (a : Option Addr) (n c : Nat) (xs : List Int) (w : World) (ha : Lst w a n c xs) (h1 : 1 ≤ n) (h2 : n ≤ 200) :
    Calls Tryz.prog 123 #[.slice a n c] w fun e w' => ∃ a' c', e = .returned (.slice a' ((n + 3) / 4 : Nat) c') ∧ LstW w' a' ((n + 3) / 4) c' (leavesP xs n) ∧ Below w.heap.size w w' := by
  unfold leavesP
  obtain ⟨N, hN⟩ : ∃ N, (n + 3) / 4 = N := ⟨_, rfl⟩
  rw [hN]
  obtain ⟨b, off, x, rfl, hb, h0, HX⟩ := ha.at1 (k := 0) (by omega)
  have HK := ha.cap
  go_enter Tryz.func123, Tryz.ntmps123
  go_wp2
  go_loopw [3, 4] (fun v i wr => ∃ k lo : Nat, k ≤ N ∧ i = .int .i64 lo ∧ k * 4 = lo ∧ OwnW w.heap.size wr v ((List.range k).map (leafG xs n)) ∧ Below w.heap.size w wr) (fun _ i _ => 204 - (intOf i).toNat)
  case atStart => exact ⟨0, 0, Nat.zero_le _, rfl, rfl, OwnW.nil _ _, Below.refl _ _⟩
  case round =>
    obtain ⟨k, lo, hk, rfl, hlo, hown, hbel⟩ := hrel
    have hsz := hbel.size
    have ha' := ha.below hbel (Nat.le_refl _)
    clear ha
    by_cases hlt : lo < n
    · obtain ⟨hi, hhi⟩ : ∃ hi, hiN n k = hi := ⟨_, rfl⟩
      have hh : lo ≤ hi ∧ hi ≤ n ∧ hi ≤ lo + 4 := by unfold hiN at hhi; omega
      have hs := ha'.sub (by omega) lo hi (by omega) (by omega)
      have HG : Hid (leafG xs n k = ofP 4 (numL ((xs.drop lo).take (hi - lo)) (hi - lo))) := by show leafG xs n k = _; unfold leafG; rw [hlo, hhi]
      have HM : Hid (hi = min (lo + 4) n) := by show hi = min (lo + 4) n; rw [← hhi, ← hlo]; rfl
      clear hhi
      go_wp2_with fail
      all_goals
        first
          | rw [show ((lo : Int) + 4).toNat = hi from by have := HM.out; omega]
          | rw [show n - lo = hi - lo from by have := HM.out; omega]
        refine (rNumbers_calls _ _ _ _ _ hs (by omega)).mono ?_
        rintro e w1 ⟨a1, c1, rfl, hl1, hw1⟩
        rw [numL_range (by omega)] at hl1
        have hown1 := hown.below hw1
        have hbel1 := hbel.trans (hw1.mono hbel.size)
        go_wp2_with fail
        refine (rof_calls 4 ⟨by omega, by omega⟩ _ _ _ _ _ hl1 (numL_ok _ _) (by omega)).mono ?_
        rintro e w2 ⟨rfl, hw2⟩
        have hown2 := hown1.below hw2
        have hbel2 := hbel1.trans (hw2.mono hbel1.size)
        have hsz2 := hbel2.size
        go_wp2_with (at_builtin; refine wpList_append_word (by rfl) _ _ (by rfl) w.heap.size _ ((List.range k).map (leafG xs n)) (ofP 4 (numL ((xs.drop lo).take (hi - lo)) (hi - lo))) w2.heap.size w (by rfl) (by rfl) (by exact hown2.alloc _) (by exact cell_new _ _ _) (by simp; omega) (by simp; omega) (by exact hbel2.alloc hsz2 _) ?_; intro v1 w3 hown3 hbel3)
        go_roundw
        case rel => exact ⟨k + 1, lo + 4, by omega, by go_num, by omega, hown3.congr (range_snocW _ _ _ HG.out), hbel3⟩
        case measure => simp [intOf]; omega
    · obtain rfl : k = N := by omega
      obtain ⟨a1, c1, rfl, hl1⟩ := hown.lst' (n := k) (by simp)
      go_wp2
      go_ret
      exact ⟨_, _, rfl, hl1, hbel⟩

theorem rRoot_calls (a : Option Addr) (n c : Nat) (xs : List Int) (w : World) (ha : Lst w a n c xs) (h1 : 1 ≤ n) (h2 : n ≤ 200) :
    Calls Tryz.prog 64 #[.slice a n c] w fun e w' => e = .returned (.int .u64 (ofP 3 [(n : Int), treeP (leavesP xs n)])) ∧ Below w.heap.size w w' := by
  have ht := treeP_ok (leavesP_ok xs n) (by rw [leavesP_len]; omega)
  have hn : okW (n : Int) := ⟨by omega, by omega⟩
  go_enter Tryz.func64, Tryz.ntmps64
  go_wp2_with (first | (go_at_call 123; refine (rLeaves_calls _ _ _ xs _ ha h1 h2).mono ?_; rintro e w1 ⟨a1, c1, rfl, hl1, hw1⟩) | (go_at_call 122; refine (rTree_calls 50 _ _ _ (leavesP xs n) _ (by omega) (by omega) (by omega) hl1 (leavesP_ok _ _)).mono ?_; rintro e w2 ⟨rfl, hw2⟩) | (go_at_call 121; refine (rPair_calls _ _ hn ht _).mono ?_; rintro e w3 ⟨rfl, hw3⟩))
  go_ret
  have e2 := hw1.trans (hw2.mono hw1.size)
  exact ⟨rfl, e2.trans (hw3.mono e2.size)⟩

end Go.Proofs.YtimciamfgpdjlaaGreat.Fx

/- What coachref.StateRoot returns, of two lists that are not empty. -/
namespace Go.Proofs.YtimciamfgpdjlaaGreat.Fx
open Go.RowKit

section
variable {w' W0 : World} {ops : Array Oper} {o : Oper} {a : Act} {Q : Exit → Act → World → Prop}
theorem step_append_all {K : Act → World → Prop} {E : Prop} (hgd : o.guard = none) (s x : Operand) (ho : o.op = .call { callee := .builtin .append, args := #[s, x], argTypes := #[26, 26] })
    (base : Nat) (v : Value) (xs zs : List Int) (b off m c : Nat) (W0 : World) (hs : a.eval s = v) (hx : a.eval x = .slice (some ⟨b, off, none⟩) m c) (hown : OwnI base w' v xs) (hz : Lst w' (some ⟨b, off, none⟩) m c zs) (hn : (xs.length + m) * 8 ≤ 140737488355328) (hbase : base ≤ w'.heap.size) (hB : Below base W0 w')
    (h : ∀ v' w1, OwnI base w1 v' (xs ++ zs) → Below base W0 w1 → K (a.put o.dst v') w1) :
    if Region.wanted o (yielded ops a.tmps) = true then Oper.wp Tryz.prog o a w' K Q else E := by
  obtain ⟨v', w1, hrun, h1, h2⟩ := run_append_all o.type base v xs zs b off m c hown hz hn hbase hB
  have hw : Region.wanted o (yielded ops a.tmps) = true := by simp [Region.wanted, hgd]
  rw [if_pos hw]
  unfold Oper.wp
  simp [execOp, ho, resolve, invoke, builtin, hs, hx, hrun, Result.andThen]
  exact h v' w1 h1 h2
end

set_option maxRecDepth 100000 in
set_option maxHeartbeats 1600000 in
theorem rstateRoot_calls (b1 o1 n1 k1 : Nat) (ws : List Int) (b2 o2 n2 k2 : Nat) (ms : List Int) (w : World) (l1 : Lst w (some ⟨b1, o1, none⟩) n1 k1 ws) (l2 : Lst w (some ⟨b2, o2, none⟩) n2 k2 ms) (h1 : 1 ≤ n1) (h2 : 1 ≤ n2) (h3 : n1 + n2 ≤ 200) :
    Calls Tryz.prog 16 #[.agg #[.slice (some ⟨b1, o1, none⟩) n1 k1, .slice (some ⟨b2, o2, none⟩) n2 k2]] w fun e w' => e = .returned (.int .u64 (rootP ws ms (n1 + n2))) ∧ Below w.heap.size w w' := by
  have hal := low_alloc w (.cells #[.slice (some ⟨b1, o1, none⟩) n1 k1, .slice (some ⟨b2, o2, none⟩) n2 k2] 28)
  obtain ⟨W, HW⟩ : ∃ q, Hid (q = w.alloc (.cells #[.slice (some ⟨b1, o1, none⟩) n1 k1, .slice (some ⟨b2, o2, none⟩) n2 k2] 28)) := ⟨_, rfl⟩
  have hW : Below w.heap.size w W := by rw [HW.out]; exact hal
  have m1 := l1.below hW (Nat.le_refl _)
  have m2 := l2.below hW (Nat.le_refl _)
  have hrow : W.rowIs w.heap.size 28 2 (fn2 (.slice (some ⟨b1, o1, none⟩) n1 k1) (.slice (some ⟨b2, o2, none⟩) n2 k2)) := by rw [HW.out]; exact fn2_alloc _ _ _ _
  have hWs : w.heap.size < W.heap.size := hrow.lt
  have S0 : W.drew.cell? ⟨w.heap.size, 0, none⟩ = some (.slice (some ⟨b1, o1, none⟩) n1 k1) ∧ W.drew.cell? ⟨w.heap.size, 1, none⟩ = some (.slice (some ⟨b2, o2, none⟩) n2 k2) := fn2_cells hrow
  have s0 := S0.1
  have s1 := S0.2
  have t0 : W.cell? ⟨w.heap.size, 0, none⟩ = some (.slice (some ⟨b1, o1, none⟩) n1 k1) := (fn2_cells hrow).1
  have t1 : W.cell? ⟨w.heap.size, 1, none⟩ = some (.slice (some ⟨b2, o2, none⟩) n2 k2) := (fn2_cells hrow).2
  have hl1 := l1.len
  have hl2 := l2.len
  have hBd : Below W.heap.size W W.drew := below_drewN (Below.refl _ _) 1
  have KS : Hid (∀ q, Below W.heap.size W q → q.cell? ⟨w.heap.size, 0, none⟩ = some (.slice (some ⟨b1, o1, none⟩) n1 k1) ∧ q.cell? ⟨w.heap.size, 1, none⟩ = some (.slice (some ⟨b2, o2, none⟩) n2 k2)) := fun q hq => fn2_cells (hrow.of_block (hq.block _ hWs))
  unfold rootP
  clear l1 l2 hal
  go_enter Tryz.func16, Tryz.ntmps16
  go_wp2_with fail
  rw [← HW.out]
  clear HW
  go_region_held3 (fun q => q.cell? ⟨w.heap.size, 0, none⟩ = some (.slice (some ⟨b1, o1, none⟩) n1 k1) ∧ q.cell? ⟨w.heap.size, 1, none⟩ = some (.slice (some ⟨b2, o2, none⟩) n2 k2)) (first | with_reducible exact S5 | with_reducible exact S4 | with_reducible exact S3 | with_reducible exact S0)
    (first | (refine step_append_all (by rfl) _ _ (by rfl) W.heap.size _ [] ws b1 o1 n1 k1 W (by rfl) (by rfl) (by exact OwnI.nil _ _) (by exact m1.drew) (by simp; omega) (by simp) (by exact hBd) ?_; intro v3 w3 hown3 hbel3; have S3 := KS.out _ hbel3) | (refine step_append_all (by rfl) _ _ (by rfl) W.heap.size _ ([] ++ ws) ms b2 o2 n2 k2 W (by rfl) (by rfl) (by exact hown3) (by exact m2.below hbel3 (Nat.le_refl _)) (by simp; omega) (by exact hbel3.size) (by exact hbel3) ?_; intro v4 w4 hown4 hbel4; have S4 := KS.out _ hbel4; obtain ⟨va, vc, hv4, l4⟩ := hown4.lst' (n := n1 + n2) (by simp; omega); subst hv4) | (go_at_call 64; refine (rRoot_calls va (n1 + n2) vc (ws ++ ms) _ (by simpa using l4) (by omega) h3).mono ?_; rintro e w5 ⟨rfl, hw5⟩; have S5 := KS.out _ (hbel4.trans (hw5.mono hbel4.size))))
  all_goals
    go_wp2
    go_ret
    exact ⟨rfl, hW.trans ((hbel4.trans (hw5.mono hbel4.size)).mono hW.size)⟩

end Go.Proofs.YtimciamfgpdjlaaGreat.Fx

/- What coachref's Dot returns: the plain number of the text Lists. -/
namespace Go.Proofs.YtimciamfgpdjlaaGreat.Fx
open Go.RowKit

set_option maxHeartbeats 400000 in
theorem rdot_calls (a b : Option Addr) (la ca cb : Nat) (xs ys : List Int) (w : World) (ha : Lst w a la ca xs) (hb : Lst w b la cb ys) (h63 : la ≤ 1000000000000000000) :
    Calls Tryz.prog 118 #[.slice a la ca, .slice b la cb] w fun e w' => e = .returned (.int .i64 (dotTo xs ys la)) ∧ ∃ k, w' = w.drewN k := by
  go_enter Tryz.func118, Tryz.ntmps118
  go_wp2
  go_loopw [5, 6] (fun s i wr => ∃ k n : Nat, k ≤ la ∧ i = .int .i64 k ∧ s = .int .i64 (dotTo xs ys k) ∧ wr = w.drewN n) (fun _ i _ => la - (intOf i).toNat)
  case atStart => exact ⟨0, 0, Nat.zero_le _, rfl, rfl, rfl⟩
  case round =>
    obtain ⟨k, n, hk, rfl, rfl, hw⟩ := hrel
    have ha' : Lst wr a la ca xs := hw ▸ ha.drewN n
    have hb' : Lst wr b la cb ys := hw ▸ hb.drewN n
    have HW : Hid (wr = w.drewN n) := hw
    clear hw ha hb
    by_cases hlt : k < la
    · obtain ⟨b1, o1, x, rfl, _, c1, HX⟩ := ha'.at1 hlt
      obtain ⟨b2, o2, y, rfl, _, c2, HY⟩ := hb'.at1 hlt
      go_wp2
      go_quiet ((first | (go_at_call 115; exact Calls.quiet_of_same (rmul_calls _ _ _)) | (go_at_call 60; exact Calls.quiet_of_same (radd_calls _ _ _))))
      go_wp2
      go_roundw
      case rel => exact ⟨k + 1, _, by omega, by go_num, by simp only [dotTo, HX.out, HY.out], by rw [HW.out, World.drewN_drewN]⟩
      case measure => simp [intOf]; omega
    · go_wp2
      go_ret
      obtain rfl : k = la := by omega
      exact ⟨rfl, _, HW.out⟩
end Go.Proofs.YtimciamfgpdjlaaGreat.Fx

/- What coachref's Matrix and SameMatrix return: the plain answers of the text Mats. -/
namespace Go.Proofs.YtimciamfgpdjlaaGreat.Fx
open Go.RowKit

set_option maxHeartbeats 800000 in
theorem rmat_calls (r c : Int) (a : Option Addr) (len cap : Nat) (xs : List Int) (w : World) (ha : Lst w a len cap xs) :
    Calls Tryz.prog 78 #[.agg #[.int .i64 r, .int .i64 c, .slice a len cap]] w fun e w' => e = .returned (.int .i64 (chkI r c len xs)) ∧ Below w.heap.size w w' := by
  have hal := (Below.refl w.heap.size w).alloc (Nat.le_refl _) (.cells #[.int .i64 r, .int .i64 c, .slice a len cap] 60)
  cases hr : sideB r with
  | false =>
    have hr' : inB r 1 4 = false := hr
    go_enter Tryz.func78, Tryz.ntmps78
    go_wp2_with (go_at_call 10; refine (rin_calls _ _ _ _).mono ?_; rintro e w' ⟨rfl, rfl⟩)
    go_ret
    exact ⟨ret_int (by simp [chkI, hr]), hal⟩
  | true =>
    have hr' : inB r 1 4 = true := hr
    cases hc : sideB c with
    | false =>
      have hc' : inB c 1 4 = false := hc
      go_enter Tryz.func78, Tryz.ntmps78
      go_wp2_with (go_at_call 10; refine (rin_calls _ _ _ _).mono ?_; rintro e w' ⟨rfl, rfl⟩)
      go_ret
      exact ⟨ret_int (by simp [chkI, hc]), hal⟩
    | true =>
      have hc' : inB c 1 4 = true := hc
      have br := sideB_true hr
      have bc := sideB_true hc
      have bp := prod_side br.1 br.2 bc.1 bc.2
      by_cases hl : (len : Int) = r * c
      · have ht : ((len : Int) != r * c) = false := by rw [bne_eq_false_iff_eq]; exact hl
        have HL : Hid ((len : Int) = r * c) := hl
        have hlen : len ≤ 16 := by omega
        clear hl
        have ha' := ha.below hal (Nat.le_refl _)
        clear ha
        cases hx : rightB xs with
        | true =>
          go_enter Tryz.func78, Tryz.ntmps78
          go_wp2_with (first | (go_at_call 10; refine (rin_calls _ _ _ _).mono ?_; rintro e w' ⟨rfl, rfl⟩) | (go_at_call 52; refine (rright_calls _ _ _ xs _ ha' (by omega)).mono ?_; rintro e w' ⟨rfl, nd, rfl⟩))
          go_ret
          exact ⟨ret_int (by simp only [chkI, hr, hc, and_self, if_true, HL.out, hx]), below_drewN hal _⟩
        | false =>
          go_enter Tryz.func78, Tryz.ntmps78
          go_wp2_with (first | (go_at_call 10; refine (rin_calls _ _ _ _).mono ?_; rintro e w' ⟨rfl, rfl⟩) | (go_at_call 52; refine (rright_calls _ _ _ xs _ ha' (by omega)).mono ?_; rintro e w' ⟨rfl, nd, rfl⟩))
          go_ret
          exact ⟨ret_int (by simp only [chkI, hr, hc, and_self, if_true, hx, Bool.false_eq_true, and_false, if_false]), below_drewN hal _⟩
      · have ht : ((len : Int) != r * c) = true := by rw [bne_iff_ne]; exact hl
        go_enter Tryz.func78, Tryz.ntmps78
        go_wp2_with (go_at_call 10; refine (rin_calls _ _ _ _).mono ?_; rintro e w' ⟨rfl, rfl⟩)
        go_ret
        exact ⟨ret_int (by simp only [chkI, hr, hc, and_self, if_true, hl, false_and, if_false]), hal⟩
end Go.Proofs.YtimciamfgpdjlaaGreat.Fx
