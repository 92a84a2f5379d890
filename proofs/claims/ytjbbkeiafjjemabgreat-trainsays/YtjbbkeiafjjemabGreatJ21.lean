/- What coachref.Start returns, of a right config. -/
import Derived.Test.YtjbbkeiafjjemabGreatJ10
import Derived.Test.YtjbbkeiafjjemabGreatJ15
import Derived.Test.YtjbbkeiafjjemabGreatJ19
import Derived.Test.YtjbbkeiafjjemabGreatJ20
import Derived.Deep.RegionLaw
import Derived.Test.YtjbbkeiafjjemabGreatJ00
import Derived.Test.YtjbbkeiafjjemabGreatJ01
namespace Go.Proofs.YtjbbkeiafjjemabGreat.Fx
open Go.RowKit

theorem LawBox.grown {w : World} {c : Cfg} {v0 v1 : Value} {wr q : World} {G : Nat} (h : LawBox w c v0 v1 wr) (hg : wr.grownBy q (some G)) (hG : w.heap.size + 1 < G) : LawBox w c v0 v1 q := by
  have l2 := h.st.lt
  have k : ∀ {i : Nat} {v : Value}, wr.cell? ⟨w.heap.size, i, none⟩ = some v → q.cell? ⟨w.heap.size, i, none⟩ = some v := fun hc => hg.cell hc (by simp; omega)
  exact ⟨⟨k h.cfg.c0, k h.cfg.c1, k h.cfg.c2, k h.cfg.c3, k h.cfg.c4, k h.cfg.c5, k h.cfg.c6, k h.cfg.c7, k h.cfg.c8, k h.cfg.c9, k h.cfg.c10⟩,
    h.st.of_block (hg.block _ l2 (by simp; omega)), h.bel.grown hg h.bel.size (fun k hk => by simp at hk; omega)⟩

theorem wrapW {x : Int} (h0 : 0 ≤ x) (h1 : x ≤ 18446744073709551615) : IntKind.u64.wrap x = x := by
  rw [IntKind.wrap_u64]; omega

set_option maxRecDepth 100000 in
set_option maxHeartbeats 6400000 in
theorem rstart_calls (c : Cfg) (hc : cfgB c = true) (hs : okW c.seed) (N : Nat) (hN : (N : Int) = sizeN c) (w : World) :
    Calls Tryz.prog 6 #[c.val] w fun e w' => ∃ ga d1 gb d2, e = .returned (.agg #[.slice (some ⟨ga, 0, none⟩) N d1, .slice (some ⟨gb, 0, none⟩) N d2]) ∧ w.heap.size ≤ ga ∧ w.heap.size ≤ gb ∧ Lst w' (some ⟨ga, 0, none⟩) N d1 ((List.range N).map (startG c.seed)) ∧ Lst w' (some ⟨gb, 0, none⟩) N d2 ((List.range N).map zeroG) ∧ Below w.heap.size w w' := by
  have lb := LawBox.start w c (.slice none 0 0) (.slice none 0 0)
  obtain ⟨wm, hwm⟩ : ∃ q, q = (((w.alloc (.cells c.cells 24)).alloc (.cells #[.slice none 0 0, .slice none 0 0] 28)).alloc (.cells #[.slice none 0 0, .slice none 0 0] 28)) := ⟨_, rfl⟩
  have lbm : LawBox w c (.slice none 0 0) (.slice none 0 0) wm := by rw [hwm]; exact lb.below ((Below.refl _ _).alloc (Nat.le_refl _) _)
  have hrm : wm.rowIs (w.heap.size + 1 + 1) 28 2 (fn2 (.slice none 0 0) (.slice none 0 0)) := by
    rw [hwm]
    have h := fn2_alloc ((w.alloc (.cells c.cells 24)).alloc (.cells #[.slice none 0 0, .slice none 0 0] 28)) (.slice none 0 0) (.slice none 0 0) 28
    simpa using h
  have hGlt : w.heap.size + 1 + 1 < wm.heap.size := hrm.lt
  have KQ : Hid (∀ q, wm.grownBy q (some (w.heap.size + 1 + 1)) → LawBox w c (.slice none 0 0) (.slice none 0 0) q) := fun q hq => lbm.grown hq (by omega)
  have st0 : Two wm (w.heap.size + 1 + 1) (.slice none 0 0) (.slice none 0 0) [] [] wm := ⟨hrm, OwnI.nil _ _, OwnI.nil _ _, .inl rfl, World.grownBy.refl _ _⟩
  obtain ⟨⟨i1, i2⟩, ⟨h1, h2⟩, ⟨o1, o2⟩, _⟩ := cfgB_is hc
  have RS : ∀ q, Calls Tryz.prog 19 #[.int .i64 c.i, .int .i64 c.h, .int .i64 c.o] q fun e w' => e = .returned (.int .i64 (N : Int)) ∧ w' = q := fun q => by rw [hN]; exact rsizeI_calls c.i c.h c.o q i1 i2 h1 h2 o1 o2
  have HRS : Hid (∀ q, Calls Tryz.prog 19 #[.int .i64 c.i, .int .i64 c.h, .int .i64 c.o] q fun e w' => e = .returned (.int .i64 (N : Int)) ∧ w' = q) := RS
  have hNb := sizeN_bd hc
  have N4 : 4 ≤ N := by omega
  have N40 : N ≤ 40 := by omega
  have HW : Hid (wm = (((w.alloc (.cells c.cells 24)).alloc (.cells #[.slice none 0 0, .slice none 0 0] 28)).alloc (.cells #[.slice none 0 0, .slice none 0 0] 28))) := hwm
  clear hwm lb lbm hrm RS hNb hN hc i1 i2 h1 h2 o1 o2
  obtain ⟨i, h, o, seed, batch, steps, crate, decay, how, keep, clip⟩ := c
  simp only [Cfg.val, Cfg.cells] at *
  go_enter Tryz.func6, Tryz.ntmps6
  go_wp2_with fail
  rw [← HW.out]
  clear HW
  go_loopw [4] (fun v wr => ∃ k : Nat, k ≤ N ∧ v = .int .i64 k ∧ ∃ ax cx ay cy, Two wm (w.heap.size + 1 + 1) (.slice ax k cx) (.slice ay k cy) ((List.range k).map (startG seed)) ((List.range k).map zeroG) wr) (fun v _ => N - (intOf v).toNat)
  case atStart => exact ⟨0, Nat.zero_le _, rfl, none, 0, none, 0, st0⟩
  case round =>
    obtain ⟨k, hk, rfl, ax, cx, ay, cy, htw⟩ := hrel
    clear st0
    have lb := KQ.out _ htw.gr
    have ⟨⟨c0, c1, c2, c3, c4, c5, c6, c7, c8, c9, c10⟩, hr, hb⟩ := lb
    dsimp only at c0 c1 c2 c3 c4 c5 c6 c7 c8 c9 c10
    by_cases hlt : k < N
    · obtain ⟨T, HT⟩ : ∃ T, Hid (ofP 2 [seed, 1000 + (k : Int)] = T) := ⟨_, rfl⟩
      obtain ⟨r, hr0⟩ : ∃ r, T % 131073 = r := ⟨_, rfl⟩
      have hT0 : 0 ≤ T := by rw [← HT.out]; exact (ofP_ok 2 _).1
      have r0 : 0 ≤ r := by rw [← hr0]; exact Int.emod_nonneg _ (by omega)
      have r1 : r < 131073 := by rw [← hr0]; exact Int.emod_lt_of_pos _ (by omega)
      have HS : Hid (startG seed k = r - 65536) := by
        show startG seed k = _
        unfold startG
        rw [HT.out, hr0]
      have t1 : T.tmod 131073 = r := by rw [tmod_pos hT0]; exact hr0
      have t2 : IntKind.i64.wrap r = r := wrap_in _ (by omega) (by omega)
      have t3 : IntKind.i64.wrap (r - 65536) = r - 65536 := wrap_in _ (by omega) (by omega)
      have t4 : IntKind.u64.wrap (k : Int) = (k : Int) := wrapW (by omega) (by omega)
      have t5 : IntKind.u64.wrap (1000 + (k : Int)) = 1000 + (k : Int) := wrapW (by omega) (by omega)
      have t6 : IntKind.u64.wrap r = r := wrapW (by omega) (by omega)
      have hw2 : okW (1000 + (k : Int)) := ⟨by omega, by omega⟩
      obtain ⟨g0, g1⟩ := fn2_cells htw.row
      have g0f := htw.row.frozen 0
      clear hT0
      go_wp2_with (go_at_call 19; refine (HRS.out _).mono ?_; rintro e w' ⟨rfl, hw'⟩; replace hw' := hw'.symm; subst hw')
      go_region_law (first | (refine step_append_at (by rfl) _ _ (by rfl) wm.heap.size _ ((List.range k).map (startG seed)) (r - 65536) wq.heap.size (by rfl) (by rfl) (by exact hg2.ox) (by exact cell_new _ _ _) (by simp; omega) (by simp; omega) ?_; intro v1 w2 hown1 hgr1 hat1; obtain ⟨av2, cv2, hv2, _⟩ := hown1.lst' (n := k + 1) (by simp); subst hv2; have hrow2 := hg2.still hGlt hgr1; have q0 := (fn2_cells hrow2).1; have q0f := hrow2.frozen 0) | (go_simp; go_at_call 20; refine (rWord_calls _ _ hs hw2 _).mono ?_; rintro e wq ⟨rfl, hwq⟩; rw [HT.out]; have htq := Two.below (show Two _ _ _ _ _ _ wr.drew from htw.below (below_drewN (Below.refl _ _) 1)) hwq; have hszq := htq.gr.size; obtain ⟨y0, y1⟩ := fn2_cells htq.row; have y0f := htq.row.frozen 0; have hg2 := htq.below (low_alloc wq (.cells #[.int .i64 (r - 65536)] 3)); have d0 := (fn2_cells hg2.row).1))
      all_goals
        have htw3 := (hg2.push hGlt hown1 hgr1 hat1).congr (range_snoc (startG seed) k _ HS.out) rfl
        clear hown1 hgr1 hat1 hrow2 q0 q0f hg2 d0 y0 y1 y0f htq hszq hwq g0 g1 g0f htw c0 c1 c2 c3 c4 c5 c6 c7 c8 c9 c10 hr hb lb
        generalize w2.setCell ⟨w.heap.size + 1 + 1, 0, none⟩ (.slice av2 (k + 1) cv2) = w3 at htw3 ⊢
        obtain ⟨y0, y1⟩ := fn2_cells htw3.row
        have y1f := htw3.row.frozen 1
        have hsz3 := htw3.gr.size
        have hg3 := htw3.below (low_alloc w3 (.cells #[.int .i64 0] 3))
        go_wp2_with (at_builtin; refine wpList_append_at (by rfl) _ _ (by rfl) wm.heap.size _ ((List.range k).map zeroG) 0 w3.heap.size (by rfl) (by rfl) (by exact hg3.oy) (by exact cell_new _ _ _) (by simp; omega) (by simp; omega) ?_; intro v3 w4 hown3 hgr3 hat3; obtain ⟨av4, cv4, hv4, _⟩ := hown3.lst' (n := k + 1) (by simp); subst hv4; have hrow4 := hg3.still' hGlt hgr3; have q1 := (fn2_cells hrow4).2; have q1f := hrow4.frozen 1)
        go_roundw
        case rel => exact ⟨k + 1, by omega, by go_num, av2, cv2, av4, cv4, (hg3.push' hGlt hown3 hgr3 hat3).congr rfl (range_snoc zeroG k _ rfl)⟩
        case measure => simp [intOf]; omega
    · obtain rfl : k = N := by omega
      obtain ⟨ga, rfl, hga, hla⟩ := htw.ox.at (by simp) (by omega)
      obtain ⟨gb, rfl, hgb, hlb⟩ := htw.oy.at (by simp) (by omega)
      obtain ⟨g0, g1⟩ := fn2_cells htw.row
      obtain ⟨r0, r1⟩ := fn2_cells hr
      have f0 := hr.frozen 0
      have f1 := hr.frozen 1
      go_wp2_with (go_at_call 19; refine (HRS.out _).mono ?_; rintro e w' ⟨rfl, hw'⟩; replace hw' := hw'.symm; subst hw')
      obtain ⟨q0, q1⟩ := fn2_cells (fn2_set hr (.slice (some ⟨ga, 0, none⟩) k cx) (.slice (some ⟨gb, 0, none⟩) k cy))
      refine bodyPost_ret (v := .agg #[.slice (some ⟨ga, 0, none⟩) k cx, .slice (some ⟨gb, 0, none⟩) k cy]) (by simp [results, Tryz.results6, go_sem, q0, q1]) rfl ⟨_, _, _, _, rfl, by omega, by omega, ?_, ?_, (hb.setCell (show w.heap.size ≤ w.heap.size + 1 by omega) _).setCell (show w.heap.size ≤ w.heap.size + 1 by omega) _⟩
      · exact (hla.setFar (show ga ≠ w.heap.size + 1 by omega) _).setFar (show ga ≠ w.heap.size + 1 by omega) _
      · exact (hlb.setFar (show gb ≠ w.heap.size + 1 by omega) _).setFar (show gb ≠ w.heap.size + 1 by omega) _

end Go.Proofs.YtjbbkeiafjjemabGreat.Fx

/- The plain trees of package tree: where leaves are cut, the tree of a list, the way of one leaf, how deep it lies, and the way up; from each leaf by its way one comes to the tree. Nothing here speaks of the program. -/
namespace Go.Proofs.YtjbbkeiafjjemabGreat.Fx

theorem okL_take {xs : List Int} (h : okL xs) (k : Nat) : okL (xs.take k) := by
  intro i hi
  rw [List.length_take] at hi
  have e : (xs.take k).getD i 0 = xs.getD i 0 := by
    rw [List.getD_eq_getElem?_getD, List.getElem?_take_of_lt (by omega), ← List.getD_eq_getElem?_getD]
  rw [e]; exact h i (by omega)
theorem okL_drop {xs : List Int} (h : okL xs) (k : Nat) : okL (xs.drop k) := by
  intro i hi
  rw [List.length_drop] at hi
  have e : (xs.drop k).getD i 0 = xs.getD (k + i) 0 := by
    rw [List.getD_eq_getElem?_getD, List.getElem?_drop, ← List.getD_eq_getElem?_getD]
  rw [e]; exact h _ (by omega)
theorem okL_snoc {xs : List Int} {x : Int} (h : okL xs) (hx : okW x) : okL (xs ++ [x]) := by
  intro i hi
  rw [List.length_append] at hi
  simp at hi
  rw [List.getD_eq_getElem?_getD]
  by_cases c : i < xs.length
  · rw [List.getElem?_append_left c, ← List.getD_eq_getElem?_getD]; exact h i c
  · obtain rfl : i = xs.length := by omega
    simpa using hx
theorem okW_of_P {n : Int} (h : okP n) : okW n := ⟨h.1, by have := h.2; omega⟩

def cutN (n : Nat) : Nat := 2 ^ Nat.log2 (n - 1)
theorem cutN_lt {n : Nat} (h : 2 ≤ n) : 1 ≤ cutN n ∧ cutN n < n ∧ n ≤ cutN n + cutN n := by
  have h1 : 2 ^ Nat.log2 (n - 1) ≤ n - 1 := Nat.log2_self_le (by omega)
  have h2 : n - 1 < 2 ^ (Nat.log2 (n - 1) + 1) := Nat.lt_log2_self
  have h3 : 0 < 2 ^ Nat.log2 (n - 1) := Nat.pow_pos (by omega)
  rw [Nat.pow_succ] at h2
  unfold cutN
  omega
/-- A power of two that is less than n, and no less than half of it, is the cut. -/
theorem cutN_is {n j : Nat} (h : 2 ^ j < n) (h2 : n ≤ 2 ^ j + 2 ^ j) : cutN n = 2 ^ j := by
  unfold cutN
  have e : Nat.log2 (n - 1) = j := by
    rw [Nat.log2_eq_iff (by have : 0 < 2 ^ j := Nat.pow_pos (by omega)
                            omega)]
    rw [Nat.pow_succ]
    omega
  rw [e]

def treeF : Nat → List Int → Int
  | 0, l => l.getD 0 0
  | f + 1, l => if l.length ≤ 1 then l.getD 0 0 else ofP 3 [treeF f (l.take (cutN l.length)), treeF f (l.drop (cutN l.length))]
theorem treeF_same : ∀ (f g : Nat) (l : List Int), l.length ≤ f → l.length ≤ g → treeF f l = treeF g l
  | 0, 0, _, _, _ => rfl
  | 0, g + 1, l, h, _ => by unfold treeF; rw [if_pos (by omega)]
  | f + 1, 0, l, _, h => by unfold treeF; rw [if_pos (by omega)]
  | f + 1, g + 1, l, h1, h2 => by
    unfold treeF
    by_cases c : l.length ≤ 1
    · rw [if_pos c, if_pos c]
    · rw [if_neg c, if_neg c]
      have := cutN_lt (n := l.length) (by omega)
      rw [treeF_same f g (l.take _) (by rw [List.length_take]; omega) (by rw [List.length_take]; omega), treeF_same f g (l.drop _) (by rw [List.length_drop]; omega) (by rw [List.length_drop]; omega)]
/-- The tree of a list of leaves. -/
def treeP (l : List Int) : Int := treeF l.length l
theorem treeP_one {l : List Int} (h : l.length ≤ 1) : treeP l = l.getD 0 0 := by
  unfold treeP
  rw [treeF_same l.length (l.length + 1) l (Nat.le_refl _) (by omega)]
  unfold treeF
  rw [if_pos h]
theorem treeP_two {l : List Int} (h : 2 ≤ l.length) : treeP l = ofP 3 [treeP (l.take (cutN l.length)), treeP (l.drop (cutN l.length))] := by
  have := cutN_lt h
  have e : treeP l = treeF (l.length + 1) l := treeF_same _ _ l (Nat.le_refl _) (by omega)
  rw [e]
  rw [treeF, if_neg (by omega)]
  unfold treeP
  rw [treeF_same l.length (l.take _).length (l.take _) (by rw [List.length_take]; omega) (Nat.le_refl _), treeF_same l.length (l.drop _).length (l.drop _) (by rw [List.length_drop]; omega) (Nat.le_refl _)]
theorem treeP_ok {l : List Int} (h : okL l) (h1 : 1 ≤ l.length) : okW (treeP l) := by
  by_cases c : l.length ≤ 1
  · rw [treeP_one c]; exact h 0 (by omega)
  · rw [treeP_two (by omega)]; exact okW_of_P (ofP_ok _ _)

def wayF : Nat → List Int → Nat → List Int
  | 0, _, _ => []
  | f + 1, l, i => if l.length ≤ 1 then [] else if i < cutN l.length then wayF f (l.take (cutN l.length)) i ++ [treeP (l.drop (cutN l.length))] else wayF f (l.drop (cutN l.length)) (i - cutN l.length) ++ [treeP (l.take (cutN l.length))]
theorem wayF_same : ∀ (f g : Nat) (l : List Int) (i : Nat), l.length ≤ f → l.length ≤ g → wayF f l i = wayF g l i
  | 0, 0, _, _, _, _ => rfl
  | 0, g + 1, l, i, h, _ => by unfold wayF; rw [if_pos (by omega)]
  | f + 1, 0, l, i, _, h => by unfold wayF; rw [if_pos (by omega)]
  | f + 1, g + 1, l, i, h1, h2 => by
    unfold wayF
    by_cases c : l.length ≤ 1
    · rw [if_pos c, if_pos c]
    · rw [if_neg c, if_neg c]
      have := cutN_lt (n := l.length) (by omega)
      rw [wayF_same f g (l.take _) _ (by rw [List.length_take]; omega) (by rw [List.length_take]; omega), wayF_same f g (l.drop _) _ (by rw [List.length_drop]; omega) (by rw [List.length_drop]; omega)]
/-- The way of leaf i. -/
def wayP (l : List Int) (i : Nat) : List Int := wayF l.length l i
theorem wayP_one {l : List Int} (h : l.length ≤ 1) (i : Nat) : wayP l i = [] := by
  unfold wayP
  rw [wayF_same l.length (l.length + 1) l i (Nat.le_refl _) (by omega)]
  unfold wayF
  rw [if_pos h]
theorem wayP_left {l : List Int} (h : 2 ≤ l.length) {i : Nat} (hi : i < cutN l.length) : wayP l i = wayP (l.take (cutN l.length)) i ++ [treeP (l.drop (cutN l.length))] := by
  have := cutN_lt h
  have e : wayP l i = wayF (l.length + 1) l i := wayF_same _ _ l i (Nat.le_refl _) (by omega)
  rw [e]
  rw [wayF, if_neg (by omega), if_pos hi]
  unfold wayP
  rw [wayF_same l.length (l.take _).length (l.take _) _ (by rw [List.length_take]; omega) (Nat.le_refl _)]
theorem wayP_right {l : List Int} (h : 2 ≤ l.length) {i : Nat} (hi : ¬ i < cutN l.length) : wayP l i = wayP (l.drop (cutN l.length)) (i - cutN l.length) ++ [treeP (l.take (cutN l.length))] := by
  have := cutN_lt h
  have e : wayP l i = wayF (l.length + 1) l i := wayF_same _ _ l i (Nat.le_refl _) (by omega)
  rw [e]
  rw [wayF, if_neg (by omega), if_neg hi]
  unfold wayP
  rw [wayF_same l.length (l.drop _).length (l.drop _) _ (by rw [List.length_drop]; omega) (Nat.le_refl _)]

def deepF : Nat → Nat → Nat → Nat
  | 0, _, _ => 0
  | f + 1, i, n => if n ≤ 1 then 0 else if i < cutN n then 1 + deepF f i (cutN n) else 1 + deepF f (i - cutN n) (n - cutN n)
theorem deepF_same : ∀ (f g i n : Nat), n ≤ f → n ≤ g → deepF f i n = deepF g i n
  | 0, 0, _, _, _, _ => rfl
  | 0, g + 1, i, n, h, _ => by unfold deepF; rw [if_pos (by omega)]
  | f + 1, 0, i, n, _, h => by unfold deepF; rw [if_pos (by omega)]
  | f + 1, g + 1, i, n, h1, h2 => by
    unfold deepF
    by_cases c : n ≤ 1
    · rw [if_pos c, if_pos c]
    · rw [if_neg c, if_neg c]
      have := cutN_lt (n := n) (by omega)
      rw [deepF_same f g i (cutN n) (by omega) (by omega), deepF_same f g (i - cutN n) (n - cutN n) (by omega) (by omega)]
/-- How long the way of leaf i of n is. -/
def deepP (i n : Nat) : Nat := deepF n i n
theorem deepP_one {n : Nat} (h : n ≤ 1) (i : Nat) : deepP i n = 0 := by
  unfold deepP
  rw [deepF_same n (n + 1) i n (Nat.le_refl _) (by omega)]
  unfold deepF
  rw [if_pos h]
theorem deepP_left {i n : Nat} (h : 2 ≤ n) (hi : i < cutN n) : deepP i n = 1 + deepP i (cutN n) := by
  have := cutN_lt h
  have e : deepP i n = deepF (n + 1) i n := deepF_same _ _ i n (Nat.le_refl _) (by omega)
  rw [e]
  rw [deepF, if_neg (by omega), if_pos hi]
  unfold deepP
  rw [deepF_same n (cutN n) i (cutN n) (by omega) (Nat.le_refl _)]
theorem deepP_right {i n : Nat} (h : 2 ≤ n) (hi : ¬ i < cutN n) : deepP i n = 1 + deepP (i - cutN n) (n - cutN n) := by
  have := cutN_lt h
  have e : deepP i n = deepF (n + 1) i n := deepF_same _ _ i n (Nat.le_refl _) (by omega)
  rw [e]
  rw [deepF, if_neg (by omega), if_neg hi]
  unfold deepP
  rw [deepF_same n (n - cutN n) _ (n - cutN n) (by omega) (Nat.le_refl _)]
theorem deepF_le : ∀ (f i n : Nat), deepF f i n ≤ f
  | 0, _, _ => Nat.le_refl _
  | f + 1, i, n => by
    unfold deepF
    have h1 := deepF_le f i (cutN n)
    have h2 := deepF_le f (i - cutN n) (n - cutN n)
    by_cases c : n ≤ 1
    · rw [if_pos c]; omega
    · rw [if_neg c]
      by_cases d : i < cutN n
      · rw [if_pos d]; omega
      · rw [if_neg d]; omega
theorem deepP_le (i n : Nat) : deepP i n ≤ n := deepF_le n i n

def upF : Nat → Nat → Nat → Int → List Int → Int
  | 0, _, _, x, _ => x
  | f + 1, i, n, x, p => if n ≤ 1 then x else if i < cutN n then ofP 3 [upF f i (cutN n) x (p.take (p.length - 1)), p.getD (p.length - 1) 0] else ofP 3 [p.getD (p.length - 1) 0, upF f (i - cutN n) (n - cutN n) x (p.take (p.length - 1))]
theorem upF_same : ∀ (f g i n : Nat) (x : Int) (p : List Int), n ≤ f → n ≤ g → upF f i n x p = upF g i n x p
  | 0, 0, _, _, _, _, _, _ => rfl
  | 0, g + 1, i, n, x, p, h, _ => by unfold upF; rw [if_pos (by omega)]
  | f + 1, 0, i, n, x, p, _, h => by unfold upF; rw [if_pos (by omega)]
  | f + 1, g + 1, i, n, x, p, h1, h2 => by
    unfold upF
    by_cases c : n ≤ 1
    · rw [if_pos c, if_pos c]
    · rw [if_neg c, if_neg c]
      have := cutN_lt (n := n) (by omega)
      rw [upF_same f g i (cutN n) x _ (by omega) (by omega), upF_same f g (i - cutN n) (n - cutN n) x _ (by omega) (by omega)]
/-- The tree of n leaves, by leaf i and its way. -/
def upP (i n : Nat) (x : Int) (p : List Int) : Int := upF n i n x p
theorem upP_one {n : Nat} (h : n ≤ 1) (i : Nat) (x : Int) (p : List Int) : upP i n x p = x := by
  unfold upP
  rw [upF_same n (n + 1) i n x p (Nat.le_refl _) (by omega)]
  unfold upF
  rw [if_pos h]
theorem upP_left {i n : Nat} (h : 2 ≤ n) (hi : i < cutN n) (x : Int) (p : List Int) : upP i n x p = ofP 3 [upP i (cutN n) x (p.take (p.length - 1)), p.getD (p.length - 1) 0] := by
  have := cutN_lt h
  have e : upP i n x p = upF (n + 1) i n x p := upF_same _ _ i n x p (Nat.le_refl _) (by omega)
  rw [e]
  rw [upF, if_neg (by omega), if_pos hi]
  unfold upP
  rw [upF_same n (cutN n) i (cutN n) x _ (by omega) (Nat.le_refl _)]
theorem upP_right {i n : Nat} (h : 2 ≤ n) (hi : ¬ i < cutN n) (x : Int) (p : List Int) : upP i n x p = ofP 3 [p.getD (p.length - 1) 0, upP (i - cutN n) (n - cutN n) x (p.take (p.length - 1))] := by
  have := cutN_lt h
  have e : upP i n x p = upF (n + 1) i n x p := upF_same _ _ i n x p (Nat.le_refl _) (by omega)
  rw [e]
  rw [upF, if_neg (by omega), if_neg hi]
  unfold upP
  rw [upF_same n (n - cutN n) _ (n - cutN n) x _ (by omega) (Nat.le_refl _)]
theorem upP_ok {i n : Nat} {x : Int} {p : List Int} (hx : okW x) : okW (upP i n x p) := by
  by_cases c : n ≤ 1
  · rw [upP_one c]; exact hx
  · by_cases d : i < cutN n
    · rw [upP_left (by omega) d]; exact okW_of_P (ofP_ok _ _)
    · rw [upP_right (by omega) d]; exact okW_of_P (ofP_ok _ _)

theorem take_len {l : List Int} (h : 2 ≤ l.length) : (l.take (cutN l.length)).length = cutN l.length := by
  have := cutN_lt h
  rw [List.length_take]; omega
theorem snoc_last (p : List Int) (x : Int) : (p ++ [x]).getD ((p ++ [x]).length - 1) 0 = x ∧ (p ++ [x]).take ((p ++ [x]).length - 1) = p := by
  constructor <;> simp

/-- The way is as long as it is said to be, and of words. -/
theorem way_deep : ∀ (m : Nat) (l : List Int) (i : Nat), l.length ≤ m → okL l → (wayP l i).length = deepP i l.length ∧ okL (wayP l i)
  | 0, l, i, h, _ => by rw [wayP_one (by omega), deepP_one (by omega)]; exact ⟨rfl, fun i hi => by simp at hi⟩
  | m + 1, l, i, h, hl => by
    by_cases c : l.length ≤ 1
    · rw [wayP_one c, deepP_one c]; exact ⟨rfl, fun i hi => by simp at hi⟩
    · have h2 : 2 ≤ l.length := by omega
      have hc := cutN_lt h2
      by_cases d : i < cutN l.length
      · obtain ⟨e1, e2⟩ := way_deep m (l.take (cutN l.length)) i (by rw [take_len h2]; omega) (okL_take hl _)
        rw [wayP_left h2 d, deepP_left h2 d]
        rw [take_len h2] at e1
        exact ⟨by rw [List.length_append, e1, Nat.add_comm]; rfl, okL_snoc e2 (treeP_ok (okL_drop hl _) (by rw [List.length_drop]; omega))⟩
      · obtain ⟨e1, e2⟩ := way_deep m (l.drop (cutN l.length)) (i - cutN l.length) (by rw [List.length_drop]; omega) (okL_drop hl _)
        rw [wayP_right h2 d, deepP_right h2 d]
        rw [List.length_drop] at e1
        exact ⟨by rw [List.length_append, e1, Nat.add_comm]; rfl, okL_snoc e2 (treeP_ok (okL_take hl _) (by rw [take_len h2]; omega))⟩
/-- Merkle: from each leaf by its way one comes to the tree. -/
theorem way_up : ∀ (m : Nat) (l : List Int) (i : Nat), l.length ≤ m → i < l.length → upP i l.length (l.getD i 0) (wayP l i) = treeP l
  | 0, l, i, h, h1 => by omega
  | m + 1, l, i, h, h1 => by
    by_cases c : l.length ≤ 1
    · obtain rfl : i = 0 := by omega
      rw [upP_one c, treeP_one c]
    · have h2 : 2 ≤ l.length := by omega
      have hc := cutN_lt h2
      by_cases d : i < cutN l.length
      · have e := way_up m (l.take (cutN l.length)) i (by rw [take_len h2]; omega) (by rw [take_len h2]; omega)
        rw [take_len h2] at e
        have e3 : (l.take (cutN l.length)).getD i 0 = l.getD i 0 := by
          rw [List.getD_eq_getElem?_getD, List.getElem?_take_of_lt d, ← List.getD_eq_getElem?_getD]
        rw [e3] at e
        rw [upP_left h2 d, wayP_left h2 d, (snoc_last _ _).1, (snoc_last _ _).2, e, ← treeP_two h2]
      · have e := way_up m (l.drop (cutN l.length)) (i - cutN l.length) (by rw [List.length_drop]; omega) (by rw [List.length_drop]; omega)
        rw [List.length_drop] at e
        have e3 : (l.drop (cutN l.length)).getD (i - cutN l.length) 0 = l.getD i 0 := by
          rw [List.getD_eq_getElem?_getD, List.getElem?_drop, ← List.getD_eq_getElem?_getD]
          congr 1; omega
        rw [e3] at e
        rw [upP_right h2 d, wayP_right h2 d, (snoc_last _ _).1, (snoc_last _ _).2, e, ← treeP_two h2]

end Go.Proofs.YtjbbkeiafjjemabGreat.Fx

/- The first words of a list that lies in memory, and the others. -/
namespace Go.Proofs.YtjbbkeiafjjemabGreat.Fx
open Go.RowKit

theorem LstW.head {w : World} {b off n c : Nat} {xs : List Int} (h : LstW w (some ⟨b, off, none⟩) n c xs) (hn : 0 < n) {k : Nat} (hk : k ≤ n) : LstW w (some ⟨b, off, none⟩) k c (xs.take k) := by
  simpa using h.sub hn 0 k (Nat.zero_le _) hk
theorem LstW.tail {w : World} {b off n c : Nat} {xs : List Int} (h : LstW w (some ⟨b, off, none⟩) n c xs) (hn : 0 < n) {k : Nat} (hk : k ≤ n) : LstW w (some ⟨b, off + k, none⟩) (n - k) (c - k) (xs.drop k) := by
  have h1 := h.sub hn k n hk (Nat.le_refl _)
  rwa [List.take_of_length_le (by rw [List.length_drop, h.len]; exact Nat.le_refl _)] at h1

end Go.Proofs.YtjbbkeiafjjemabGreat.Fx

/- What coachref.cut and coachref.Tree return: where a tree is cut, and the tree of a list of leaves. -/
namespace Go.Proofs.YtjbbkeiafjjemabGreat.Fx
open Go.RowKit

theorem rcut_calls (n : Nat) (h1 : 2 ≤ n) (h2 : n ≤ 50) (w : World) : Calls Tryz.prog 78 #[.int .i64 n] w fun e w' => e = .returned (.int .i64 (cutN n)) ∧ w' = w := by
  go_enter Tryz.func78, Tryz.ntmps78
  go_wp2
  go_loop [3] (fun v => ∃ j k : Nat, v = .int .i64 k ∧ Hid (k = 2 ^ j) ∧ 1 ≤ k ∧ k < n) (fun v => n - (intOf v).toNat)
  case atStart => exact ⟨0, 1, rfl, rfl, by omega, by omega⟩
  case round =>
    obtain ⟨j, k, rfl, HJ, k1, k2⟩ := hrel
    by_cases hlt : k + k < n
    · go_wp2
      go_roundw
      case rel => exact ⟨j + 1, k + k, by go_num, by show k + k = 2 ^ (j + 1); rw [HJ.out, Nat.pow_succ]; omega, by omega, hlt⟩
      case measure => simp [intOf]; omega
    · go_wp2
      go_ret
      exact ⟨ret_word (by rw [HJ.out] at k2 hlt ⊢; rw [cutN_is k2 (by omega)]), rfl⟩

theorem rTree_calls : ∀ (m : Nat) (a : Option Addr) (n c : Nat) (xs : List Int) (w : World), n ≤ m → 1 ≤ n → n ≤ 50 → LstW w a n c xs → okL xs →
    Calls Tryz.prog 58 #[.slice a n c] w fun e w' => e = .returned (.int .u64 (treeP xs)) ∧ Below w.heap.size w w'
  | 0, a, n, c, xs, w, h, h1, h2, ha, hx => by omega
  | m + 1, a, n, c, xs, w, h, h1, h2, ha, hx => by
    have IH : Hid (∀ (a : Option Addr) (n c : Nat) (xs : List Int) (w : World), n ≤ m → 1 ≤ n → n ≤ 50 → LstW w a n c xs → okL xs →
      Calls Tryz.prog 58 #[.slice a n c] w fun e w' => e = .returned (.int .u64 (treeP xs)) ∧ Below w.heap.size w w') := rTree_calls m
    have HL := ha.len
    have HK := ha.cap
    obtain ⟨b, off, x, rfl, hb, h0, HX⟩ := ha.at1 (k := 0) (by omega)
    rw [Nat.add_zero] at h0
    by_cases h3 : n = 1
    · have n1 : ((n : Int) == 1) = true := by rw [beq_iff_eq]; omega
      have HT : Hid (treeP xs = x) := by rw [treeP_one (by omega)]; exact HX.out
      clear ha h3
      go_enter Tryz.func58, Tryz.ntmps58
      go_wp2
      go_ret
      exact ⟨ret_word HT.out.symm, Below.refl _ _⟩
    · have hc := cutN_lt (n := n) (by omega)
      have HT : Hid (treeP xs = ofP 3 [treeP (xs.take (cutN n)), treeP (xs.drop (cutN n))]) := by rw [← HL]; exact treeP_two (by omega)
      have HC : Hid (∀ w, Calls Tryz.prog 78 #[.int .i64 n] w fun e w' => e = .returned (.int .i64 (cutN n)) ∧ w' = w) := rcut_calls n (by omega) (by omega)
      generalize cutN n = k at *
      have hA := ha.head (by omega) (k := k) (by omega)
      have hB := ha.tail (by omega) (k := k) (by omega)
      have oA := okL_take hx k
      have oB := okL_drop hx k
      have tA : Hid (okW (treeP (xs.take k))) := treeP_ok oA (by rw [hA.len]; omega)
      have tB : Hid (okW (treeP (xs.drop k))) := treeP_ok oB (by rw [hB.len]; omega)
      have n1 : ((n : Int) == 1) = false := by rw [beq_eq_false_iff_ne]; omega
      have k4 : ¬ c = k := by omega
      clear ha
      go_enter Tryz.func58, Tryz.ntmps58
      go_wp2_with (first | (go_at_call 78; refine (HC.out _).mono ?_; rintro e w' ⟨rfl, hw'⟩; replace hw' := hw'.symm; subst hw') | (go_at_call 58; refine (IH.out _ _ _ (xs.take k) _ (by omega) (by omega) (by omega) (by exact hA) oA).mono ?_; rintro e w1 ⟨rfl, hw1⟩) | (go_at_call 58; refine (IH.out _ _ _ (xs.drop k) _ (by omega) (by omega) (by omega) (by exact hB.below hw1 (Nat.le_refl _)) oB).mono ?_; rintro e w2 ⟨rfl, hw2⟩) | (go_at_call 57; refine (rPair_calls _ _ tA.out tB.out _).mono ?_; rintro e w3 ⟨rfl, hw3⟩))
      go_ret
      have e2 := hw1.trans (hw2.mono hw1.size)
      exact ⟨ret_word HT.out.symm, e2.trans (hw3.mono e2.size)⟩

end Go.Proofs.YtjbbkeiafjjemabGreat.Fx
