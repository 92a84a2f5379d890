/- What coachtop.grown returns, and what it tells through its pointer. -/
import Derived.Test.YtkikhfdkibekgaaGreatJ28
import Derived.Deep.QuietTactic
import Derived.BigQuiet
import Derived.OrdersHeld
import Derived.OrdersIn
import Derived.RangeFuncNested
import Derived.RangeFuncBound
import Derived.RangeFuncCalls
import Derived.RangeFuncLeaves
import Derived.OwnWalkIn
import Derived.Deep.RegionHeld3
import Derived.Test.YtkikhfdkibekgaaGreatJ22
import Derived.Shelf.Abstract
import Derived.Shelf.RegionOpen
import Derived.WalkKit
import Derived.TacticsInMore
import Derived.LoopNIn
import Derived.LoopIn
import Derived.Test.YtkikhfdkibekgaaGreatJ20
namespace Go.Proofs.YtkikhfdkibekgaaGreat.Fx
open Go.RowKit

theorem OwnLL.form {base : Nat} {w : World} {v : Value} {fs : List (List Int)} (h : OwnLL base w v fs) (hn : 0 < fs.length) : ∃ g c, v = .slice (some ⟨g, 0, none⟩) fs.length c := by
  obtain ⟨vs, h1, h2, _⟩ := h
  obtain ⟨g, c, e, _⟩ := h1.row (by omega)
  exact ⟨g, c, by rw [← h2]; exact e⟩
theorem OwnLL.keptG {base : Nat} {w w' : World} {v : Value} {fs : List (List Int)} (h : OwnLL base w v fs) (hs : w.heap.size ≤ w'.heap.size) (hb : ∀ b, base ≤ b → b < w.heap.size → w'.heap[b]? = w.heap[b]?) : OwnLL base w' v fs := by
  obtain ⟨vs, h1, h2, h3⟩ := h
  refine ⟨vs, ⟨h1.1, ?_⟩, h2, fun k hk => ?_⟩
  · rcases h1.2 with h0 | ⟨g, cap, cur, hv, hg, hh, r⟩
    · exact .inl h0
    · exact .inr ⟨g, cap, cur, hv, hg, by rw [hb g hg (Array.getElem?_eq_some_iff.1 hh).1]; exact hh, r⟩
  · obtain ⟨g, c, q1, q2, q3, q4, q5⟩ := h3 k hk
    refine ⟨g, c, q1, ⟨q2.1, q2.2.1, ?_⟩, q3, Nat.lt_of_lt_of_le q4 hs, q5⟩
    rcases q2.2.2 with h0 | ⟨b', off', e, hs', hc⟩
    · exact .inl h0
    · refine .inr ⟨b', off', e, Nat.lt_of_lt_of_le hs' hs, fun i hi => ?_⟩
      simp only [Option.some.injEq, Addr.mk.injEq, and_true] at e
      rw [← hc i hi]
      simp only [World.cell?]
      rw [← e.1, hb g q3 q4]

set_option maxRecDepth 100000 in
set_option maxHeartbeats 3200000 in
theorem tgrown_calls : ∀ (m : Nat) (a : Option Addr) (n c : Nat) (l : List Int) (po base : Nat) (fs : List (List Int)) (v : Value) (w : World), n ≤ m → 1 ≤ n → n ≤ 50 → LstW w a n c l → okL l → (∀ b o, a = some ⟨b, o, none⟩ → b ≠ po ∧ v.ownBlock ≠ some b) → po < base → base ≤ w.heap.size → w.rowIs po 63 1 (fun _ => v) → OwnLL base w v fs → fs.length + n ≤ 500 →
    Calls Tryz.prog 50 #[.slice a n c, .pointer (some ⟨po, 0, none⟩)] w fun e w' => ∃ v', e = .returned (.int .u64 (treeP l)) ∧ w'.rowIs po 63 1 (fun _ => v') ∧ OwnLL base w' v' (fs ++ growL l) ∧ GrowR po w v w' v'
  | 0, a, n, c, l, po, base, fs, v, w, h, h1, _, _, _, _, _, _, _, _, _ => by omega
  | m + 1, a, n, c, l, po, base, fs, v, w, hm, h1, h50, ll, hok, hfar, hpo, hbase, hrow, hown, hlen => by
    have hll := ll.len
    by_cases hn1 : n = 1
    · subst hn1
      obtain ⟨b, off, x, rfl, hb, hc, HX⟩ := ll.at1 (k := 0) (by omega)
      rw [Nat.add_zero] at hc
      have ht : treeP l = x := by
        rw [← HX.out]
        obtain ⟨y, rfl⟩ : ∃ y, l = [y] := List.length_eq_one_iff.1 hll
        rfl
      have hg : growL l = [] := growL_one (by omega)
      rw [ht, hg, List.append_nil]
      clear ht hg HX hfar
      go_enter Tryz.func50, Tryz.ntmps50
      go_wp2_with fail
      go_ret
      exact ⟨v, rfl, hrow, hown, GrowR.refl _ _ _⟩
    · have hn2 : 2 ≤ n := by omega
      obtain ⟨b, off, x, rfl, hb, _, _⟩ := ll.at1 (k := 0) (by omega)
      obtain ⟨hbp, hbv⟩ := hfar b off rfl
      have hcap := ll.cap
      obtain ⟨q1, q2, q3⟩ := cutN_lt hn2
      obtain ⟨C, HC⟩ : ∃ t, Hid (cutN n = t) := ⟨_, rfl⟩
      rw [HC.out] at q1 q2 q3
      have HTT : Hid (treeP l = madeP [3, treeP (l.take C), treeP (l.drop C)]) := by
        show _ = _
        rw [treeP_two (by omega), hll, HC.out]
        rfl
      have HGL : Hid (growL l = growL (l.take C) ++ growL (l.drop C) ++ [[3, treeP (l.take C), treeP (l.drop C)]]) := by
        show _ = _
        rw [growL_two (by omega), hll, HC.out]
      have okt : ∀ k, okL (l.take k) := fun k i hi => by
        rw [List.length_take] at hi
        rw [List.getD_eq_getElem?_getD, List.getElem?_take_of_lt (by omega), ← List.getD_eq_getElem?_getD]
        exact hok i (by omega)
      have okd : ∀ k, okL (l.drop k) := fun k i hi => by
        rw [List.length_drop] at hi
        rw [List.getD_eq_getElem?_getD, List.getElem?_drop, ← List.getD_eq_getElem?_getD]
        exact hok _ (by omega)
      have hBd : Below w.heap.size w w.drew := below_drewN (Below.refl _ _) 1
      have lh := (ll.head (by omega) (k := C) (by omega)).below hBd (Nat.le_refl _)
      have lt := ll.tail (by omega) (k := C) (by omega)
      have gl1 : (growL (l.take C)).length = C - 1 := by rw [growL_len _ _ (Nat.le_refl _), List.length_take]; omega
      have gl2 : (growL (l.drop C)).length = n - C - 1 := by rw [growL_len _ _ (Nat.le_refl _), List.length_drop]; omega
      have G1 := tgrown_calls m (some ⟨b, off, none⟩) C c (l.take C) po base fs v w.drew (by omega) (by omega) (by omega) lh (okt C) (fun b' o' e => by simp only [Option.some.injEq, Addr.mk.injEq, and_true] at e; obtain ⟨rfl, rfl⟩ := e; exact ⟨hbp, hbv⟩) hpo hbase (hrow.of_block (hBd.block _ hrow.lt)) (hown.below hBd) (by omega)
      have HG2 : Hid (∀ v1 w1, w1.rowIs po 63 1 (fun _ => v1) → OwnLL base w1 v1 (fs ++ growL (l.take C)) → GrowR po w.drew v w1 v1 → Calls Tryz.prog 50 #[.slice (some ⟨b, off + C, none⟩) (n - C) (c - C), .pointer (some ⟨po, 0, none⟩)] w1 fun e w' => ∃ v', e = .returned (.int .u64 (treeP (l.drop C))) ∧ w'.rowIs po 63 1 (fun _ => v') ∧ OwnLL base w' v' (fs ++ growL (l.take C) ++ growL (l.drop C)) ∧ GrowR po w1 v1 w' v') := fun v1 w1 r1 o1 g1 => by
        have hs1 := g1.size
        refine tgrown_calls m (some ⟨b, off + C, none⟩) (n - C) (c - C) (l.drop C) po base (fs ++ growL (l.take C)) v1 w1 (by omega) (by omega) (by omega) (g1.lstW (lt.below hBd (Nat.le_refl _)) (fun b' o' e => by simp only [Option.some.injEq, Addr.mk.injEq, and_true] at e; obtain ⟨rfl, rfl⟩ := e; exact ⟨hbp, hbv⟩)) (okd C) (fun b' o' e => ?_) hpo (Nat.le_trans hbase hs1) r1 o1 (by rw [List.length_append, gl1]; omega)
        simp only [Option.some.injEq, Addr.mk.injEq, and_true] at e
        obtain ⟨rfl, rfl⟩ := e
        refine ⟨hbp, fun e => ?_⟩
        rcases g1.own with h | ⟨g, h, hg⟩
        · exact hbv (h.symm.trans e)
        · rw [h] at e
          simp at e
          have : w.drew.heap.size = w.heap.size := rfl
          omega
      have okT1 : okW (treeP (l.take C)) := treeP_ok (okt C) (by rw [List.length_take]; omega)
      have okT2 : okW (treeP (l.drop C)) := treeP_ok (okd C) (by rw [List.length_drop]; omega)
      have hl500 : (fs ++ growL (l.take C) ++ growL (l.drop C)).length ≤ 1000 := by rw [List.length_append, List.length_append, gl1, gl2]; omega
      rw [HTT.out, HGL.out]
      clear HTT HGL lh lt okt okd hok hown hrow hfar ll hll gl1 gl2 hlen
      generalize treeP (l.take C) = X1 at *
      generalize treeP (l.drop C) = X2 at *
      generalize growL (l.take C) = L1 at *
      generalize growL (l.drop C) = L2 at *
      have k1 : (C : Int) ≤ (c : Int) := by omega
      have k2 : (0 : Int) ≤ (C : Int) := by omega
      have k3 : (C : Int) ≤ (n : Int) := by omega
      have k4 : (n : Int) ≤ (c : Int) := by omega
      have k5 : ¬ c = C := by omega
      have k6 : ¬ c - C = 0 := by omega
      have k7 : ((n : Int) == 1) = false := by rw [beq_eq_false_iff_ne]; omega
      go_enter Tryz.func50, Tryz.ntmps50
      go_wp2_with fail
      go_loop [5] (fun u => ∃ j h : Nat, u = .int .i64 h ∧ Hid (h = 2 ^ j) ∧ 1 ≤ h ∧ h < n) (fun u => n - (intOf u).toNat)
      case atStart => exact ⟨0, 1, rfl, rfl, by omega, by omega⟩
      case round =>
        obtain ⟨j, h, rfl, HJ, y1, y2⟩ := hrel
        by_cases hlt : h + h < n
        · go_wp2_with fail
          go_roundw
          case rel => exact ⟨j + 1, h + h, by go_num, by show h + h = 2 ^ (j + 1); rw [HJ.out, Nat.pow_succ]; omega, by omega, hlt⟩
          case measure => simp [intOf]; omega
        · have hC : C = h := by rw [← HC.out]; rw [HJ.out] at y2 hlt ⊢; exact cutN_is y2 (by omega)
          clear HJ HC
          subst hC
          go_wp2_with fail
          refine wp_region_held_drew (S := fun _ => True) (by kernel_rfl) (by with_reducible exact True.intro) (fun hHeld => ?_)
          refine wpAnyH_take (i := 0) (oi := _) (v := ?_) rfl (by kernel_rfl) (by kernel_rfl) (by kernel_rfl) (fun _ _ _ h => h) (Or.inl ⟨by rfl, ?_⟩) (by assumption) ?_
          rotate_left
          · intro w hSw
            try dsimp only at hSw
            go_simp
            try with_reducible rfl
          simp only [Act.put, List.getElem_toArray, List.getElem_cons_zero, List.setIfInBounds_toArray, List.set_cons_zero, List.set_cons_succ]
          refine wpAnyH_take (i := 1) (oi := _) (v := ?_) rfl (by kernel_rfl) (by kernel_rfl) (by kernel_rfl) (fun _ _ _ h => h) (Or.inl ⟨by rfl, ?_⟩) (by assumption) ?_
          rotate_left
          · intro w hSw
            try dsimp only at hSw
            go_simp
            try with_reducible rfl
          simp only [Act.put, List.getElem_toArray, List.getElem_cons_zero, List.getElem_cons_succ, List.setIfInBounds_toArray, List.set_cons_zero, List.set_cons_succ]
          refine wpAnyH_take (i := 2) (oi := _) (v := ?_) rfl (by kernel_rfl) (by kernel_rfl) (by kernel_rfl) (fun _ _ _ h => h) (Or.inl ⟨by rfl, ?_⟩) (by assumption) ?_
          rotate_left
          · intro w hSw
            try dsimp only at hSw
            go_simp
            try with_reducible rfl
          simp only [Act.put, List.getElem_toArray, List.getElem_cons_zero, List.getElem_cons_succ, List.setIfInBounds_toArray, List.set_cons_zero, List.set_cons_succ]
          refine wpAnyH_take (i := 3) (oi := _) (v := ?_) rfl (by kernel_rfl) (by kernel_rfl) (by kernel_rfl) (fun _ _ _ h => h) (Or.inl ⟨by rfl, ?_⟩) (by assumption) ?_
          rotate_left
          · intro w hSw
            try dsimp only at hSw
            go_simp
            try with_reducible rfl
          simp only [Act.put, List.getElem_toArray, List.getElem_cons_zero, List.getElem_cons_succ, List.setIfInBounds_toArray, List.set_cons_zero, List.set_cons_succ]
          refine wpAnyH_take (i := 5) (oi := _) (v := ?_) rfl (by kernel_rfl) (by kernel_rfl) (by kernel_rfl) (fun _ _ _ h => h) (Or.inl ⟨by rfl, ?_⟩) (by assumption) ?_
          rotate_left
          · intro w hSw
            try dsimp only at hSw
            go_simp
            try with_reducible rfl
          simp only [Act.put, List.getElem_toArray, List.getElem_cons_zero, List.getElem_cons_succ, List.setIfInBounds_toArray, List.set_cons_zero, List.set_cons_succ]
          refine wpAnyH_take (i := 6) (oi := _) (v := ?_) rfl (by kernel_rfl) (by kernel_rfl) (by kernel_rfl) (fun _ _ _ h => h) (Or.inl ⟨by rfl, ?_⟩) (by assumption) ?_
          rotate_left
          · intro w hSw
            try dsimp only at hSw
            go_simp
            try with_reducible rfl
          simp only [Act.put, List.getElem_toArray, List.getElem_cons_zero, List.getElem_cons_succ, List.setIfInBounds_toArray, List.set_cons_zero, List.set_cons_succ]
          refine wpAnyH_take (i := 7) (oi := _) (v := ?_) rfl (by kernel_rfl) (by kernel_rfl) (by kernel_rfl) (fun _ _ _ h => h) (Or.inl ⟨by rfl, ?_⟩) (by assumption) ?_
          rotate_left
          · intro w hSw
            try dsimp only at hSw
            go_simp
            try with_reducible rfl
          simp only [Act.put, List.getElem_toArray, List.getElem_cons_zero, List.getElem_cons_succ, List.setIfInBounds_toArray, List.set_cons_zero, List.set_cons_succ]
          refine wpAnyH_take (i := 8) (oi := _) (v := ?_) rfl (by kernel_rfl) (by kernel_rfl) (by kernel_rfl) (fun _ _ _ h => h) (Or.inl ⟨by rfl, ?_⟩) (by assumption) ?_
          rotate_left
          · intro w hSw
            try dsimp only at hSw
            go_simp
            try with_reducible rfl
          simp only [Act.put, List.getElem_toArray, List.getElem_cons_zero, List.getElem_cons_succ, List.setIfInBounds_toArray, List.set_cons_zero, List.set_cons_succ]
          refine wpAnyH_ready (rs := [4]) (by kernel_rfl) (by simp) ?_
          refine AllReadyH.cons (o := _) rfl (fun K hK => ?_) AllReadyH.nil
          clear hHeld
          go_simp
          (go_at_call 50; refine G1.mono ?_; rintro e w1 ⟨v1, rfl, row1, ll1, gr1⟩; have G2 := HG2.out v1 w1 row1 ll1 gr1)
          go_wp2_with fail
          refine hK.out _ _ ?_ (fun hHeld => ?_)
          · with_reducible exact True.intro
          clear hK K
          try simp only [Act.put, List.setIfInBounds_toArray, List.set_cons_zero, List.set_cons_succ]
          refine wpAnyH_ready (rs := [9]) (by kernel_rfl) (by simp) ?_
          refine AllReadyH.cons (o := _) rfl (fun K hK => ?_) AllReadyH.nil
          clear hHeld
          go_simp
          (go_at_call 50; refine G2.mono ?_; rintro e w2 ⟨v2, rfl, row2, ll2, gr2⟩)
          go_wp2_with fail
          refine hK.out _ _ ?_ (fun hHeld => ?_)
          · with_reducible exact True.intro
          clear hK K
          try simp only [Act.put, List.setIfInBounds_toArray, List.set_cons_zero, List.set_cons_succ]
          refine wpAnyH_ready (rs := [10]) (by kernel_rfl) (by simp) ?_
          refine AllReadyH.cons (o := _) rfl (fun K hK => ?_) AllReadyH.nil
          clear hHeld
          go_simp
          refine hK.out _ _ ?_ (fun hHeld => ?_)
          · with_reducible exact True.intro
          clear hK K
          try simp only [Act.put, List.setIfInBounds_toArray, List.set_cons_zero, List.set_cons_succ]
          refine wpAnyH_take (i := 11) (oi := _) (v := ?_) rfl (by kernel_rfl) (by kernel_rfl) (by kernel_rfl) (fun _ _ _ h => h) (Or.inl ⟨by rfl, ?_⟩) (by assumption) ?_
          rotate_left
          · intro w hSw
            try dsimp only at hSw
            go_simp
            try with_reducible rfl
          simp only [Act.put, List.getElem_toArray, List.getElem_cons_zero, List.getElem_cons_succ, List.setIfInBounds_toArray, List.set_cons_zero, List.set_cons_succ]
          refine wpAnyH_done (by kernel_rfl) ?_ _
          clear hHeld G2 HG2 G1
          have sA : w.heap.size ≤ w1.heap.size := gr1.size
          have sB := gr2.size
          have al3 := low_alloc w2 (.cells #[.int .u64 3, .int .u64 X1, .int .u64 X2] 22)
          have l3 := LstW.three w2 3 X1 X2 22
          obtain ⟨W3, HW3⟩ : ∃ q, Hid (q = w2.alloc (.cells #[.int .u64 3, .int .u64 X1, .int .u64 X2] 22)) := ⟨_, rfl⟩
          have row3 := row2.alloc (.cells #[.int .u64 3, .int .u64 X1, .int .u64 X2] 22)
          have sz3 : w2.heap.size < W3.heap.size := by rw [HW3.out]; simp
          rw [← HW3.out] at al3 l3 row3
          have al4 := low_alloc W3 (.cells #[.slice (some ⟨w2.heap.size, 0, none⟩) 3 3] 67)
          have cn4 := cell_new W3 (.slice (some ⟨w2.heap.size, 0, none⟩) 3 3) 67
          have row4 := row3.alloc (.cells #[.slice (some ⟨w2.heap.size, 0, none⟩) 3 3] 67)
          have sz4 : W3.heap.size < (W3.alloc (.cells #[.slice (some ⟨w2.heap.size, 0, none⟩) 3 3] 67)).heap.size := by simp
          have l4 := l3.below al4 (Nat.le_refl _)
          have bel4 := al3.trans (al4.mono al3.size)
          have ll4 := ll2.below bel4
          have cp3 := row3.cell (i := 0) (by omega)
          have hne2 := ovfar ll2 (Nat.le_refl _)
          have hnp : v2.ownBlock ≠ some po := fun e => by
            rcases ll2.blk with e1 | ⟨g, e1, b1, _⟩
            · rw [e1] at e; cases e
            · rw [e1] at e; simp at e; omega
          have okk : okL [3, X1, X2] := fun i hi => by
            rcases (show i = 0 ∨ i = 1 ∨ i = 2 by simp at hi; omega) with rfl | rfl | rfl
            · show okW 3; exact ⟨by decide, by decide⟩
            · exact okT1
            · exact okT2
          have gA : GrowR po w v w2 v2 := ((GrowR.ofBelow v hBd).trans gr1).trans gr2
          have hlt2 := row2.lt
          have hpo2 : ¬ w2.heap.size = po := by omega
          clear row2 ll2 l3 gr1 gr2 row1 ll1 hBd
          rw [← HW3.out]
          clear HW3
          go_wp2_with (at_builtin; refine wpList_append_ll (by rfl) _ _ (by rfl) base _ (fs ++ L1 ++ L2) [3, X1, X2] W3.heap.size w2.heap.size 3 3 (W3.alloc (.cells #[.slice (some ⟨w2.heap.size, 0, none⟩) 3 3] 67)) (by rfl) (by rfl) (by exact ll4) (by exact cn4) (by exact l4) (by omega) (by omega) (by exact hne2) (by exact hl500) (by omega) (by exact Below.refl _ _) ?_; intro v10 w10 ll10 bel10 gr10 ob10; obtain ⟨g10, c10, hv10⟩ := ll10.form (by simp; omega); obtain ⟨N10, HN10⟩ : ∃ t, Hid ((fs ++ L1 ++ L2 ++ [[3, X1, X2]]).length = t) := ⟨_, rfl⟩; rw [HN10.out] at hv10; subst hv10; have row10 := row4.of_block (gr10.block po row4.lt (fun e => hnp e.symm)); have cp10 := row10.cell (i := 0) (by omega); have fp10 := row10.frozen 0)
          have l10 := l4.kept gr10 hne2
          have l11 : LstW (w10.setCell ⟨po, 0, none⟩ (.slice (some ⟨g10, 0, none⟩) N10 c10)) (some ⟨w2.heap.size, 0, none⟩) 3 3 [3, X1, X2] := l10.kept (grown1 (World.grownBy.refl w10 _) 0 _) (by simp; omega)
          have rowZ : (w10.setCell ⟨po, 0, none⟩ (.slice (some ⟨g10, 0, none⟩) N10 c10)).rowIs po 63 1 (fun _ => .slice (some ⟨g10, 0, none⟩) N10 c10) := (row10.set 0 (.slice (some ⟨g10, 0, none⟩) N10 c10)).congr (fun i hi => by
            obtain rfl : i = 0 := by omega
            rfl)
          have llZ : OwnLL base (w10.setCell ⟨po, 0, none⟩ (.slice (some ⟨g10, 0, none⟩) N10 c10)) (.slice (some ⟨g10, 0, none⟩) N10 c10) (fs ++ L1 ++ L2 ++ [[3, X1, X2]]) := ll10.keptG (by rw [World.size_setCell]; exact Nat.le_refl _) (fun b hb _ => Go.Deep.blk_setCell_other w10 ⟨po, 0, none⟩ _ b (by show b ≠ po; omega))
          have gZ : GrowR po (W3.alloc (.cells #[.slice (some ⟨w2.heap.size, 0, none⟩) 3 3] 67)) v2 (w10.setCell ⟨po, 0, none⟩ (.slice (some ⟨g10, 0, none⟩) N10 c10)) (.slice (some ⟨g10, 0, none⟩) N10 c10) := by
            refine ⟨gr10.os, gr10.tape, gr10.output, by rw [World.size_setCell]; exact gr10.size, fun b hb hp hv => ?_, ?_⟩
            · exact (Go.Deep.blk_setCell_other w10 ⟨po, 0, none⟩ _ b hp).trans (gr10.block b hb (fun e => hv e.symm))
            · rcases ob10 with h | h
              · exact .inl h
              · exact .inr ⟨_, h, Nat.le_refl _⟩
          have gT := (gA.trans (GrowR.ofBelow v2 bel4)).trans gZ
          have HAS : Hid (fs ++ L1 ++ L2 ++ [[3, X1, X2]] = fs ++ (L1 ++ L2 ++ [[3, X1, X2]])) := by show _ = _; simp [List.append_assoc]
          have MD := tmade_calls (some ⟨w2.heap.size, 0, none⟩) 3 3 [3, X1, X2] _ l11 (by omega) (by omega) okk
          clear l4 l10 l11 ll4 ll10 row3 row4 row10 cp3 cp10 fp10 gr10 ob10 bel10 gA gZ bel4 al3 al4 cn4
          refine MD.mono ?_
          rintro e w12 ⟨rfl, hw12⟩
          have rowF := rowZ.of_block (hw12.block _ rowZ.lt)
          have llF := llZ.below hw12
          rw [HAS.out] at llF
          have gF := gT.trans (GrowR.ofBelow (.slice (some ⟨g10, 0, none⟩) N10 c10) hw12)
          clear MD
          go_wp2_with fail
          go_ret
          exact ⟨_, rfl, rowF, llF, gF⟩
end Go.Proofs.YtkikhfdkibekgaaGreat.Fx

/- A drawn region in a round of a range over a function, at the wide fence: whatever holds of it outside a round holds there; and what is known while coachtop.told goes from chunk to chunk. -/
namespace Go.Proofs.YtkikhfdkibekgaaGreat.Fx
open Go.RowKit

theorem opIn_round {P : Program} {o : Oper} {a : Act} {w : World} {K : Act → World → Prop} {Q : Exit → Act → World → Prop} {l n : Nat} (hd : ∀ c, o.op ≠ .defer c) (h : o.wp P a w K Q) : o.wpIn (Fence.wide.inRound l) n P a w K Q := by
  refine ⟨fun _ _ => trivial, ?_⟩
  rw [Oper.semAt_eq _ _ _ hd]
  unfold Oper.wp at h
  generalize (execOp a.eval o).run P w = r at *
  cases r with
  | ok x w' =>
    cases x <;> simp only [Oper.upon, Oper.uponIn] at h ⊢
    case value u => exact h
    case skip => exact h
    case defer d => exact h
    case enter f args => exact ⟨fun e => by simp [Fence.wide] at e, CallsIn.inRound l (callsIn_wide.2 h)⟩
    case row row args => exact ⟨fun e => by simp [Fence.wide] at e, fun c cs _ => by
      obtain ⟨v, w'', r, s⟩ := h c cs
      exact ⟨v, w'', r, stepsIn_wide.2 s⟩⟩
  | halt x w' => cases x <;> simp only [Oper.upon, Oper.uponIn] at h ⊢ <;> exact h

def noDefer (ops : Array Oper) : Bool := ops.all fun o => match o.op with | .defer _ => false | _ => true
theorem noDefer_at {ops : Array Oper} (h : noDefer ops = true) {i : Nat} {o : Oper} (ho : ops[i]? = some o) : ∀ c, o.op ≠ .defer c := fun c e => by
  obtain ⟨hi, rfl⟩ := Array.getElem?_eq_some_iff.1 ho
  have := Array.all_eq_true.1 h i hi
  rw [e] at this
  cases this

theorem anyIn_round {P : Program} {ops : Array Oper} {Q : Exit → Act → World → Prop} {md : Region.Mode} {l n : Nat} (hd : noDefer ops = true) (hq : ¬ LetsOut Q) : ∀ (fuel : Nat) (listed : Array Bool) (a : Act) (w : World), wpAny P md ops Q fuel listed a w → wpAnyIn (Fence.wide.inRound l) n P md ops Q fuel listed a w
  | 0, _, _, _, h => h
  | fuel + 1, listed, a, w, h => by
    refine ⟨h.1, fun i hi => ?_⟩
    have h2 := h.2 i hi
    refine wpOpIn_mono (K := wpAny P md ops Q fuel (listed.setIfInBounds i true)) (fun a w h => anyIn_round hd hq fuel _ a w h) ?_
    unfold wpOp at h2
    unfold wpOpIn
    cases ho : ops[i]? with
    | none => simp only [ho] at h2 ⊢; exact h2
    | some o =>
      simp only [ho] at h2 ⊢
      by_cases hw : Region.wanted o (yielded ops a.tmps) = true
      · simp only [hw, if_true] at h2 ⊢
        exact opIn_round (noDefer_at hd ho) (h2.resolve_right (fun h => hq h.2))
      · simp only [hw] at h2 ⊢
        exact ⟨fun _ _ => trivial, h2⟩

theorem wpIn_region_round {P : Program} {ops : Array Oper} {Q : Exit → Act → World → Prop} {id l n : Nat} {a : Act} {w : World} {S : World → Prop} (hm : P.follows .mixedOrders = true) (hd : noDefer ops = true) (hq : ¬ LetsOut Q) (hS : S w.drew)
    (h : S w.drew → wpAnyH P .any ops Q S ops.size (Array.replicate ops.size false) a w.drew) : (Code.region id ops true).wpIn (Fence.wide.inRound l) n P Q a w :=
  wpIn_region_any hm (anyIn_round hd hq _ _ _ _ (wpAny_of_held _ _ _ _ (h hS)))

theorem cell_cells {w : World} {p : Addr} {v : Value} (h : w.cell? p = some v) : ∃ o, w.heap[p.block]? = some o ∧ o.isCells = true := by
  unfold World.cell? at h
  split at h
  · rename_i c t z hc; exact ⟨_, hc, rfl⟩
  · cases h
theorem cell_same {w w' : World} {p : Addr} {v : Value} (h : w.cell? p = some v) (hb : ∀ o, w.heap[p.block]? = some o → o.isCells = true → w'.heap[p.block]? = some o) : w'.cell? p = some v := by
  obtain ⟨o, ho, hc⟩ := cell_cells h
  rw [← h]
  exact World.cell?_of_block ((hb o ho hc).trans ho.symm)

/-- As OwnLL, and none of the blocks is one of X. -/
def OwnLO (base : Nat) (w : World) (v : Value) (fs : List (List Int)) (X : Nat → Prop) : Prop :=
  (∀ g, v.ownBlock = some g → ¬ X g) ∧ ∃ vs, OwnV 67 base w v vs ∧ vs.length = fs.length ∧ ∀ k, k < fs.length → ∃ g c, vs[k]? = some (.slice (some ⟨g, 0, none⟩) (fs.getD k []).length c) ∧ LstW w (some ⟨g, 0, none⟩) (fs.getD k []).length c (fs.getD k []) ∧ base ≤ g ∧ g < w.heap.size ∧ v.ownBlock ≠ some g ∧ ¬ X g
theorem OwnLO.ll {base : Nat} {w : World} {v : Value} {fs : List (List Int)} {X : Nat → Prop} (h : OwnLO base w v fs X) : OwnLL base w v fs := by
  obtain ⟨_, vs, h1, h2, h3⟩ := h
  refine ⟨vs, h1, h2, fun k hk => ?_⟩
  obtain ⟨g, c, q1, q2, q3, q4, q5, _⟩ := h3 k hk
  exact ⟨g, c, q1, q2, q3, q4, q5⟩
theorem OwnLO.nil (base : Nat) (w : World) (X : Nat → Prop) : OwnLO base w (.slice none 0 0) [] X := ⟨fun g e => by simp [Value.ownBlock] at e, [], OwnV.nil _ _ _, rfl, fun k hk => by cases hk⟩
theorem OwnLO.kept {base : Nat} {w w' : World} {v : Value} {fs : List (List Int)} {X : Nat → Prop} (h : OwnLO base w v fs X) (hs : w.heap.size ≤ w'.heap.size) (hb : ∀ b o, base ≤ b → w.heap[b]? = some o → o.isCells = true → ¬ X b → w'.heap[b]? = some o) : OwnLO base w' v fs X := by
  obtain ⟨h0, vs, h1, h2, h3⟩ := h
  refine ⟨h0, vs, ⟨h1.1, ?_⟩, h2, fun k hk => ?_⟩
  · rcases h1.2 with h4 | ⟨g, cap, cur, hv, hg, hh, r⟩
    · exact .inl h4
    · exact .inr ⟨g, cap, cur, hv, hg, hb g _ hg hh rfl (h0 g (by rw [hv]; rfl)), r⟩
  · obtain ⟨g, c, q1, q2, q3, q4, q5, q6⟩ := h3 k hk
    refine ⟨g, c, q1, ⟨q2.1, q2.2.1, ?_⟩, q3, Nat.lt_of_lt_of_le q4 hs, q5, q6⟩
    rcases q2.2.2 with h4 | ⟨b', off', e, hs', hc⟩
    · exact .inl h4
    · refine .inr ⟨b', off', e, Nat.lt_of_lt_of_le hs' hs, fun i hi => ?_⟩
      simp only [Option.some.injEq, Addr.mk.injEq, and_true] at e
      refine cell_same (hc i hi) (fun o ho hoc => hb _ o ?_ ho hoc ?_)
      · show base ≤ b'; omega
      · show ¬ X b'; rw [← e.1]; exact q6
theorem OwnLO.off {base : Nat} {w : World} {v : Value} {fs : List (List Int)} {X Y : Nat → Prop} (h : OwnLO base w v fs X) (hY : ∀ g, g < w.heap.size → Y g → X g) : OwnLO base w v fs Y := by
  obtain ⟨h0, vs, h1, h2, h3⟩ := h
  refine ⟨fun g hg hy => ?_, vs, h1, h2, fun k hk => ?_⟩
  · rcases h1.blk with e | ⟨g', e, _, hlt⟩
    · rw [e] at hg; cases hg
    · rw [e] at hg; simp at hg; subst hg; exact h0 _ e (hY _ hlt hy)
  · obtain ⟨g, c, q1, q2, q3, q4, q5, q6⟩ := h3 k hk
    exact ⟨g, c, q1, q2, q3, q4, q5, fun hy => q6 (hY g q4 hy)⟩
theorem OwnLO.push {base : Nat} {w w1 : World} {v v' : Value} {fs : List (List Int)} {vs : List Value} {g n c : Nat} {l : List Int} {X : Nat → Prop} (h0 : ∀ g, v.ownBlock = some g → ¬ X g) (h2 : vs.length = fs.length)
    (h3 : ∀ k, k < fs.length → ∃ g c, vs[k]? = some (.slice (some ⟨g, 0, none⟩) (fs.getD k []).length c) ∧ LstW w (some ⟨g, 0, none⟩) (fs.getD k []).length c (fs.getD k []) ∧ base ≤ g ∧ g < w.heap.size ∧ v.ownBlock ≠ some g ∧ ¬ X g)
    (hl : LstW w (some ⟨g, 0, none⟩) n c l) (hb : base ≤ g) (hg : g < w.heap.size) (hne : v.ownBlock ≠ some g) (hx : ¬ X g) (hxs : ¬ X w.heap.size)
    (hown : OwnV 67 base w1 v' (vs ++ [.slice (some ⟨g, 0, none⟩) n c])) (hgr : w.grownBy w1 v.ownBlock) (hob : v'.ownBlock = v.ownBlock ∨ v'.ownBlock = some w.heap.size) : OwnLO base w1 v' (fs ++ [l]) X := by
  have far : ∀ x, x < w.heap.size → v.ownBlock ≠ some x → v'.ownBlock ≠ some x := fun x hx h e => by
    rcases hob with h1 | h1
    · exact h (h1.symm.trans e)
    · rw [h1] at e; simp at e; omega
  refine ⟨fun x hx' => ?_, _, hown, by simp [h2], fun k hk => ?_⟩
  · rcases hob with h1 | h1
    · exact h0 x (h1.symm.trans hx')
    · rw [h1] at hx'; simp at hx'; subst hx'; exact hxs
  rw [List.length_append, List.length_singleton] at hk
  by_cases hlt : k < fs.length
  · obtain ⟨g', c', q1, q2, q3, q4, q5, q6⟩ := h3 k hlt
    have e : (fs ++ [l]).getD k [] = fs.getD k [] := by rw [List.getD_eq_getElem?_getD, List.getElem?_append_left hlt, ← List.getD_eq_getElem?_getD]
    rw [e]
    exact ⟨g', c', by rw [List.getElem?_append_left (by omega)]; exact q1, q2.kept hgr q5, q3, Nat.lt_of_lt_of_le q4 hgr.size, far g' q4 q5, q6⟩
  · obtain rfl : k = fs.length := by omega
    have e : (fs ++ [l]).getD fs.length [] = l := by rw [List.getD_eq_getElem?_getD, List.getElem?_append_right (Nat.le_refl _)]; simp
    have hln := hl.len
    rw [e, hln]
    exact ⟨g, c, by rw [List.getElem?_append_right (by omega), h2]; simp, hl.kept hgr hne, hb, Nat.lt_of_lt_of_le hg hgr.size, far g hg hne, hx⟩

/-- What is digested of chunk i. -/
def chL (xs : List Int) (n i : Nat) : List Int := 4 :: numL (chnkL xs n i) (hiN n i - i * 4)

/-- Between two chunks: what is told through the pointer, the leaves so far, what was there. -/
structure TdIn (w : World) (po n : Nat) (xs : List Int) (p1 p2 : List Nat) (v u : Value) (W : World) : Prop where
  gr : w.grownBy W (some po)
  size : w.heap.size + 4 ≤ W.heap.size
  bo : W.rowIs w.heap.size 65 1 (fun _ => .pointer (some ⟨po, 0, none⟩))
  ro : W.rowIs po 63 1 (fun _ => v)
  rl : W.rowIs (w.heap.size + 1) 67 1 (fun _ => u)
  ll : OwnLO (w.heap.size + 4) W v (p1.map (chL xs n)) (fun g => u.ownBlock = some g)
  lw : OwnW (w.heap.size + 4) W u (p2.map (leafG xs n))

theorem rowIs_same {W W' : World} {b t n : Nat} {f : Nat → Value} (h : W.rowIs b t n f) (hb : ∀ o, W.heap[b]? = some o → o.isCells = true → W'.heap[b]? = some o) : W'.rowIs b t n f := by
  obtain ⟨c, h1, h2⟩ := h
  exact ⟨c, hb _ h1 rfl, h2⟩
theorem OwnW.same {base : Nat} {w w' : World} {v : Value} {xs : List Int} (h : OwnW base w v xs) (hb : ∀ (b : Nat) (o : Obj), base ≤ b → v.ownBlock = some b → w.heap[b]? = some o → o.isCells = true → w'.heap[b]? = some o) : OwnW base w' v xs := by
  refine ⟨h.1, ?_⟩
  rcases h.2 with h0 | ⟨g, cap, cur, hv, hg, hh, r⟩
  · exact .inl h0
  · exact .inr ⟨g, cap, cur, hv, hg, hb g _ hg (by rw [hv]; rfl) hh rfl, r⟩
theorem OwnW.isCells {base : Nat} {w : World} {v : Value} {xs : List Int} (h : OwnW base w v xs) {g : Nat} (hg : v.ownBlock = some g) : base ≤ g ∧ ∃ o, w.heap[g]? = some o ∧ o.isCells = true := by
  rcases h.2 with ⟨rfl, _⟩ | ⟨g', cap, cur, rfl, hg', hh, r⟩
  · simp [Value.ownBlock] at hg
  · simp [Value.ownBlock] at hg; subst hg; exact ⟨hg', _, hh, rfl⟩
theorem OwnV.isCells {T : TypeId} {base : Nat} {w : World} {v : Value} {xs : List Value} (h : OwnV T base w v xs) {g : Nat} (hg : v.ownBlock = some g) : base ≤ g ∧ ∃ o, w.heap[g]? = some o ∧ o.isCells = true := by
  rcases h.2 with ⟨rfl, _⟩ | ⟨g', cap, cur, rfl, hg', hh, r⟩
  · simp [Value.ownBlock] at hg
  · simp [Value.ownBlock] at hg; subst hg; exact ⟨hg', _, hh, rfl⟩
theorem OwnW.form {base : Nat} {w : World} {v : Value} {xs : List Int} (h : OwnW base w v xs) (hn : 0 < xs.length) : ∃ g c, v = .slice (some ⟨g, 0, none⟩) xs.length c ∧ base ≤ g ∧ g < w.heap.size := by
  rcases h.2 with ⟨_, h0⟩ | ⟨g, cap, cur, rfl, hg, hh, _⟩
  · omega
  · exact ⟨g, cap, rfl, hg, (Array.getElem?_eq_some_iff.1 hh).1⟩
theorem LstW.ofOwn {base : Nat} {w : World} {g n c : Nat} {xs : List Int} (h : OwnW base w (.slice (some ⟨g, 0, none⟩) n c) xs) (hn : xs.length = n) : LstW w (some ⟨g, 0, none⟩) n c xs := by
  obtain ⟨a, c', e, hl⟩ := h.lst' hn
  cases e
  exact hl

/-- Blocks that are not of X are as they were. -/
structure Ch (X : Nat → Prop) (W W' : World) : Prop where
  os : W'.os = W.os
  tape : W'.tape = W.tape
  output : W'.output = W.output
  size : W.heap.size ≤ W'.heap.size
  block : ∀ b, b < W.heap.size → ¬ X b → W'.heap[b]? = W.heap[b]?
theorem Ch.trans {X : Nat → Prop} {A B C : World} (h : Ch X A B) (k : Ch X B C) : Ch X A C := ⟨k.os.trans h.os, k.tape.trans h.tape, k.output.trans h.output, Nat.le_trans h.size k.size, fun b hb hx => (k.block b (Nat.lt_of_lt_of_le hb h.size) hx).trans (h.block b hb hx)⟩
theorem Ch.ofBelow {X : Nat → Prop} {A B : World} (h : Below A.heap.size A B) : Ch X A B := ⟨h.os, h.tape, h.output, h.size, fun b hb _ => h.block b hb⟩
theorem Ch.mono {X Y : Nat → Prop} {A B : World} (h : Ch X A B) (hy : ∀ b, X b → Y b) : Ch Y A B := ⟨h.os, h.tape, h.output, h.size, fun b hb hx => h.block b hb (fun e => hx (hy b e))⟩
theorem Ch.ofGrown {A B : World} {row : Option Nat} (h : A.grownBy B row) : Ch (fun b => row = some b) A B := ⟨h.os, h.tape, h.output, h.size, fun b hb hx => h.block b hb (fun e => hx e.symm)⟩
theorem Ch.set (A : World) (b i : Nat) (v : Value) : Ch (fun x => x = b) A (A.setCell ⟨b, i, none⟩ v) := ⟨rfl, rfl, rfl, by rw [World.size_setCell]; exact Nat.le_refl _, fun x _ hx => Go.Deep.blk_setCell_other A ⟨b, i, none⟩ v x hx⟩

theorem TdIn.ch {w : World} {po n : Nat} {xs : List Int} {p1 p2 : List Nat} {v u : Value} {W W' : World} (h : TdIn w po n xs p1 p2 v u W) (hc : Ch (fun _ => False) W W') : TdIn w po n xs p1 p2 v u W' := by
  have key : ∀ (b : Nat) (o : Obj), W.heap[b]? = some o → o.isCells = true → W'.heap[b]? = some o := fun b o ho _ => (hc.block b (Array.getElem?_eq_some_iff.1 ho).1 (fun e => e)).trans ho
  exact ⟨⟨hc.os.trans h.gr.os, hc.tape.trans h.gr.tape, hc.output.trans h.gr.output, Nat.le_trans h.gr.size hc.size, fun k hk hne => (hc.block k (Nat.lt_of_lt_of_le hk h.gr.size) (fun e => e)).trans (h.gr.block k hk hne)⟩, Nat.le_trans h.size hc.size, rowIs_same h.bo (key _), rowIs_same h.ro (key _), rowIs_same h.rl (key _), h.ll.kept hc.size (fun b o _ ho hc _ => key b o ho hc), h.lw.same (fun b o _ _ ho hc => key b o ho hc)⟩
theorem TdIn.below {w : World} {po n : Nat} {xs : List Int} {p1 p2 : List Nat} {v u : Value} {W W' : World} (h : TdIn w po n xs p1 p2 v u W) (hb : Below W.heap.size W W') : TdIn w po n xs p1 p2 v u W' := h.ch (Ch.ofBelow hb)
/-- What is no cells, and newer, may turn. -/
theorem TdIn.turn {w : World} {po n : Nat} {xs : List Int} {p1 p2 : List Nat} {v u : Value} {W W' : World} {row : Option Nat} (h : TdIn w po n xs p1 p2 v u W) (hg : W.grownBy W' row) (hr : ∀ r, row = some r → w.heap.size + 4 ≤ r ∧ ∃ o : Obj, W.heap[r]? = some o ∧ o.isCells = false) : TdIn w po n xs p1 p2 v u W' := by
  have key : ∀ (b : Nat) (o : Obj), W.heap[b]? = some o → o.isCells = true → W'.heap[b]? = some o := fun b o ho hc => by
    refine (hg.block b (Array.getElem?_eq_some_iff.1 ho).1 (fun e => ?_)).trans ho
    obtain ⟨_, o', ho', hc'⟩ := hr b e.symm
    rw [ho] at ho'
    cases ho'
    rw [hc] at hc'
    cases hc'
  refine ⟨⟨hg.os.trans h.gr.os, hg.tape.trans h.gr.tape, hg.output.trans h.gr.output, Nat.le_trans h.gr.size hg.size, fun k hk hne => ?_⟩, Nat.le_trans h.size hg.size, rowIs_same h.bo (key _), rowIs_same h.ro (key _), rowIs_same h.rl (key _), h.ll.kept hg.size (fun b o _ ho hc _ => key b o ho hc), h.lw.same (fun b o _ _ ho hc => key b o ho hc)⟩
  refine (hg.block k (Nat.lt_of_lt_of_le hk h.gr.size) (fun e => ?_)).trans (h.gr.block k hk hne)
  have := (hr k e.symm).1
  omega

theorem one_set {W : World} {b t : Nat} {v v' : Value} (h : W.rowIs b t 1 (fun _ => v)) : (W.setCell ⟨b, 0, none⟩ v').rowIs b t 1 (fun _ => v') := (h.set 0 v').congr (fun i hi => by
  obtain rfl : i = 0 := by omega
  rfl)
/-- One chunk more is told. -/
theorem TdIn.chunk {w : World} {po n i : Nat} {xs : List Int} {p1 p2 : List Nat} {v u v5 : Value} {W w5 : World} {vs : List Value} {gk nk ck : Nat} (hpo : po < w.heap.size) (h : TdIn w po n xs p1 p2 v u W) (h2 : vs.length = (p1.map (chL xs n)).length)
    (h3 : ∀ k, k < (p1.map (chL xs n)).length → ∃ g c, vs[k]? = some (.slice (some ⟨g, 0, none⟩) ((p1.map (chL xs n)).getD k []).length c) ∧ LstW W (some ⟨g, 0, none⟩) ((p1.map (chL xs n)).getD k []).length c ((p1.map (chL xs n)).getD k []) ∧ (w.heap.size + 4) ≤ g ∧ g < W.heap.size ∧ v.ownBlock ≠ some g ∧ ¬ u.ownBlock = some g)
    (hl : LstW W (some ⟨gk, 0, none⟩) nk ck (chL xs n i)) (hgk : gk < W.heap.size) (hb : w.heap.size + 4 ≤ gk) (hv : v.ownBlock ≠ some gk) (hu : u.ownBlock ≠ some gk)
    (hown : OwnV 67 (w.heap.size + 4) w5 v5 (vs ++ [.slice (some ⟨gk, 0, none⟩) nk ck])) (hgr : W.grownBy w5 v.ownBlock) (hob : v5.ownBlock = v.ownBlock ∨ v5.ownBlock = some W.heap.size) :
    w5.rowIs po 63 1 (fun _ => v) ∧ w5.cell? ⟨w.heap.size, 0, none⟩ = some (.pointer (some ⟨po, 0, none⟩)) ∧ TdIn w po n xs (p1 ++ [i]) p2 v5 u (w5.setCell ⟨po, 0, none⟩ v5) ∧ Ch (fun b => b = po ∨ v.ownBlock = some b) W (w5.setCell ⟨po, 0, none⟩ v5) := by
  have hvb : ∀ g, v.ownBlock = some g → w.heap.size + 4 ≤ g := fun g e => by
    obtain ⟨_, vs', o1, _⟩ := h.ll
    exact (o1.isCells e).1
  have hub : ∀ g, u.ownBlock = some g → w.heap.size + 4 ≤ g ∧ g < W.heap.size := fun g e => ⟨(h.lw.isCells e).1, by obtain ⟨_, o, ho, _⟩ := h.lw.isCells e; exact (Array.getElem?_eq_some_iff.1 ho).1⟩
  have cA := Ch.ofGrown hgr
  have cB := Ch.set w5 po 0 v5
  have cc : Ch (fun b => b = po ∨ v.ownBlock = some b) W (w5.setCell ⟨po, 0, none⟩ v5) := (cA.mono (fun b e => .inr e)).trans (cB.mono (fun b e => .inl e))
  have r5 : w5.rowIs po 63 1 (fun _ => v) := h.ro.of_block (hgr.block po h.ro.lt (fun e => by have := hvb po e.symm; omega))
  have b5 : w5.rowIs w.heap.size 65 1 (fun _ => .pointer (some ⟨po, 0, none⟩)) := h.bo.of_block (hgr.block _ h.bo.lt (fun e => by have := hvb _ e.symm; omega))
  have L5 := OwnLO.push (X := fun g => u.ownBlock = some g) h.ll.1 h2 h3 hl hb hgk hv hu (fun e => by have := (hub _ e).2; omega) hown hgr hob
  have hvu : ∀ g, u.ownBlock = some g → ¬ (g = po ∨ v.ownBlock = some g) := fun g e hx => by
    rcases hx with hx | hx
    · have := (hub g e).1; omega
    · exact h.ll.1 g hx e
  refine ⟨r5, b5.cell (by omega), ⟨⟨cc.os.trans h.gr.os, cc.tape.trans h.gr.tape, cc.output.trans h.gr.output, Nat.le_trans h.gr.size cc.size, fun k hk hne => (cc.block k (Nat.lt_of_lt_of_le hk h.gr.size) ?_).trans (h.gr.block k hk hne)⟩, Nat.le_trans h.size cc.size, ?_, one_set r5, ?_, ?_, ?_⟩, cc⟩
  · rintro (e | e)
    · exact hne (by rw [e])
    · have := hvb k e; omega
  · exact b5.of_block (cB.block _ b5.lt (by show ¬ _ = _; omega))
  · exact h.rl.of_block (cc.block _ h.rl.lt (fun e => e.elim (fun e => by omega) (fun e => by have := hvb _ e; omega)))
  · rw [List.map_append, List.map_singleton]
    exact L5.kept cB.size (fun b o hbb ho _ _ => (cB.block b (Array.getElem?_eq_some_iff.1 ho).1 (by show ¬ _ = _; omega)).trans ho)
  · exact h.lw.same (fun b o _ e ho _ => (cc.block b (Array.getElem?_eq_some_iff.1 ho).1 (hvu b e)).trans ho)
/-- One leaf more. -/
theorem TdIn.leaf {w : World} {po n i : Nat} {xs : List Int} {p1 p2 : List Nat} {v u u5 : Value} {W w5 : World} (hpo : po < w.heap.size) (h : TdIn w po n xs p1 p2 v u W)
    (hown : OwnV 22 (w.heap.size + 4) w5 u5 ((p2.map (leafG xs n)).map (Value.int .u64) ++ [.int .u64 (leafG xs n i)])) (hgr : W.grownBy w5 u.ownBlock) (hob : u5.ownBlock = u.ownBlock ∨ u5.ownBlock = some W.heap.size) :
    w5.rowIs (w.heap.size + 1) 67 1 (fun _ => u) ∧ TdIn w po n xs p1 (p2 ++ [i]) v u5 (w5.setCell ⟨w.heap.size + 1, 0, none⟩ u5) ∧ Ch (fun b => b = w.heap.size + 1 ∨ u.ownBlock = some b) W (w5.setCell ⟨w.heap.size + 1, 0, none⟩ u5) := by
  have hub : ∀ g, u.ownBlock = some g → w.heap.size + 4 ≤ g := fun g e => (h.lw.isCells e).1
  have cA := Ch.ofGrown hgr
  have cB := Ch.set w5 (w.heap.size + 1) 0 u5
  have cc : Ch (fun b => b = w.heap.size + 1 ∨ u.ownBlock = some b) W (w5.setCell ⟨w.heap.size + 1, 0, none⟩ u5) := (cA.mono (fun b e => .inr e)).trans (cB.mono (fun b e => .inl e))
  have r5 : w5.rowIs (w.heap.size + 1) 67 1 (fun _ => u) := h.rl.of_block (hgr.block _ h.rl.lt (fun e => by have := hub _ e.symm; omega))
  have hown2 : OwnW (w.heap.size + 4) w5 u5 ((p2 ++ [i]).map (leafG xs n)) := by
    unfold OwnW
    rw [List.map_append, List.map_singleton, List.map_append, List.map_singleton, List.length_append, List.length_singleton]
    have := hown
    unfold OwnV at this
    rw [List.length_append, List.length_map, List.length_singleton] at this
    exact this
  have L4 : OwnLO (w.heap.size + 4) W v (p1.map (chL xs n)) (fun g => u.ownBlock = some g ∨ u5.ownBlock = some g) := h.ll.off (fun g hg e => by
    rcases e with e | e
    · exact e
    · rcases hob with h1 | h1
      · rw [← h1]; exact e
      · rw [h1] at e; simp at e; omega)
  refine ⟨r5, ⟨⟨cc.os.trans h.gr.os, cc.tape.trans h.gr.tape, cc.output.trans h.gr.output, Nat.le_trans h.gr.size cc.size, fun k hk hne => (cc.block k (Nat.lt_of_lt_of_le hk h.gr.size) ?_).trans (h.gr.block k hk hne)⟩, Nat.le_trans h.size cc.size, ?_, ?_, one_set r5, ?_, ?_⟩, cc⟩
  · rintro (e | e)
    · omega
    · have := hub k e; omega
  · exact h.bo.of_block (cc.block _ h.bo.lt (fun e => e.elim (fun e => by omega) (fun e => by have := hub _ e; omega)))
  · exact h.ro.of_block (cc.block _ h.ro.lt (fun e => e.elim (fun e => by omega) (fun e => by have := hub _ e; omega)))
  · refine (L4.kept cc.size (fun b o hbb ho _ hx => (cc.block b (Array.getElem?_eq_some_iff.1 ho).1 (fun e => ?_)).trans ho)).off (fun g _ e => .inr e)
    rcases e with e | e
    · omega
    · exact hx (.inl e)
  · exact hown2.same (fun b o hbb _ ho _ => (cB.block b (Array.getElem?_eq_some_iff.1 ho).1 (by show ¬ _ = _; omega)).trans ho)
/-- What a round leaves as it was. -/
theorem TdIn.keeps {w : World} {po n : Nat} {xs : List Int} {p1 p2 : List Nat} {v u : Value} {W W' : World} (hpo : po < w.heap.size) (h : TdIn w po n xs p1 p2 v u W) (hc : Ch (fun b => (b = po ∨ v.ownBlock = some b) ∨ b = w.heap.size + 1 ∨ u.ownBlock = some b) W W') :
    KeepsFrom (w.heap.size + 4) W W' ∧ W'.heap[w.heap.size + 2]? = W.heap[w.heap.size + 2]? ∧ W'.heap[w.heap.size + 3]? = W.heap[w.heap.size + 3]? := by
  obtain ⟨_, vs, o1, _⟩ := h.ll
  have hs := h.size
  have no : ∀ b, w.heap.size + 1 < b → b < w.heap.size + 4 → ¬ ((b = po ∨ v.ownBlock = some b) ∨ b = w.heap.size + 1 ∨ u.ownBlock = some b) := fun b h1 h2 e => by
    rcases e with (e | e) | e | e
    · omega
    · have := (o1.isCells e).1; omega
    · omega
    · have := (h.lw.isCells e).1; omega
  refine ⟨⟨hc.size, fun k o hk ho hcl => (hc.block k (Array.getElem?_eq_some_iff.1 ho).1 (fun e => ?_)).trans ho⟩, hc.block _ (by omega) (no _ (by omega) (by omega)), hc.block _ (by omega) (no _ (by omega) (by omega))⟩
  rcases e with (e | e) | e | e
  · omega
  · obtain ⟨_, o', ho', hc'⟩ := o1.isCells e
    rw [ho] at ho'; cases ho'; rw [hcl] at hc'; cases hc'
  · omega
  · obtain ⟨_, o', ho', hc'⟩ := h.lw.isCells e
    rw [ho] at ho'; cases ho'; rw [hcl] at hc'; cases hc'
theorem OwnLL.lo {base : Nat} {w : World} {v : Value} {fs : List (List Int)} (h : OwnLL base w v fs) : OwnLO base w v fs (fun _ => False) := by
  obtain ⟨vs, h1, h2, h3⟩ := h
  refine ⟨fun _ _ e => e, vs, h1, h2, fun k hk => ?_⟩
  obtain ⟨g, c, q1, q2, q3, q4, q5⟩ := h3 k hk
  exact ⟨g, c, q1, q2, q3, q4, q5, fun e => e⟩
theorem OwnW.asV {base : Nat} {w : World} {v : Value} {xs : List Int} (h : OwnW base w v xs) : OwnV 22 base w v (xs.map (Value.int .u64)) := by
  unfold OwnV
  rw [List.length_map]
  exact h
end Go.Proofs.YtkikhfdkibekgaaGreat.Fx

/- slices.Chunk of a list of integers, four at a time: what it hands to each round. -/
namespace Go.Proofs.YtkikhfdkibekgaaGreat.Fx
open Go.RowKit Go.Shelf

attribute [local go_sem] Oper.semAt_some

set_option maxRecDepth 100000 in
theorem chunk_calls (a : Option Addr) (n c : Nat) (w : World) : Calls Tryz.prog 48 #[.slice a n c, .int .i64 4] w fun e w' =>
    e = .returned (.func (.func 74) #[] #[.pointer (some ⟨w.heap.size, 0, none⟩), .pointer (some ⟨w.heap.size + 1, 0, none⟩)]) ∧ w' = (w.alloc (.cells #[.slice a n c] 26)).alloc (.cells #[.int .i64 4] 3) := by
  go_enter Tryz.func48, Tryz.ntmps48
  go_wp2_with fail
  go_ret
  exact ⟨rfl, rfl⟩

/-- A chunk's number. -/
abbrev Ixm (m : Nat) := { i : Nat // i < m }
def chkV (b off n i : Nat) : Value := .slice (some ⟨b, off + i * 4, none⟩) (hiN n i - i * 4) (hiN n i - i * 4)
/-- What a round keeps. -/
structure KpC (Bs Bn : Nat) (W W' : World) : Prop where
  s : W'.heap[Bs]? = W.heap[Bs]?
  n : W'.heap[Bn]? = W.heap[Bn]?
theorem KpC.trans {Bs Bn : Nat} {A B C : World} (h : KpC Bs Bn A B) (k : KpC Bs Bn B C) : KpC Bs Bn A C := ⟨k.s.trans h.s, k.n.trans h.n⟩
theorem drew_grown (W : World) : W.grownBy W.drew none := ⟨rfl, rfl, rfl, Nat.le_refl _, fun _ _ _ => rfl⟩

set_option maxRecDepth 100000 in
set_option maxHeartbeats 2000000 in
theorem chunk1_in (N : Nat) (hN : 1 ≤ N) (l Bs Bn b off n c m : Nat) (hm : (n + 3) / 4 = m) (h1 : 1 ≤ n) (h80 : n ≤ 80) (hc : n ≤ c) (J Jx : List (Ixm m) → World → Prop)
    (hJd : ∀ pre W k, J pre W → J pre (W.drewN k))
    (hY : ∀ pre x W, J pre W → pre.length < m → YieldAt Fence.wide (N - 1) Tryz.prog l #[chkV b off n x.1] W fun e W' =>
      (e = .returned (.bool true) ∧ J (pre ++ [x]) W' ∧ KpC Bs Bn W W') ∨ (e = .returned (.bool false) ∧ Jx (pre ++ [x]) W'))
    (W : World) (hBs : W.cell? ⟨Bs, 0, none⟩ = some (.slice (some ⟨b, off, none⟩) n c)) (hBn : W.cell? ⟨Bn, 0, none⟩ = some (.int .i64 4)) (h0 : J [] W) :
    CallsIn Fence.wide N Tryz.prog 74 #[.func (.yield l) #[] #[], .pointer (some ⟨Bs, 0, none⟩), .pointer (some ⟨Bn, 0, none⟩)] W fun e W' => (∃ v, e = .returned v) ∧
      ((∃ ys : List (Ixm m), ys.map (·.1) = List.range m ∧ J ys W') ∨ (∃ pre, True ∧ Jx pre W')) := by
  refine callsIn_of_wp Tryz.func74 rfl trivial ?_ rfl
  simp only [Tryz.ntmps74, List.size_toArray, List.length_cons, List.length_nil, Nat.reduceAdd, Nat.reduceSub, Array.replicate_succ, Array.replicate_zero, List.push_toArray, List.append_toArray, List.nil_append, List.cons_append]
  gi_wp2
  gi_loopw [4] (fun i wr => ∃ (k I : Nat) (pre : List (Ixm m)), k ≤ m ∧ i = .int .i64 I ∧ Hid (I = k * 4) ∧ Hid (pre.map (·.1) = List.range k) ∧ Hid (J pre wr) ∧ wr.cell? ⟨Bs, 0, none⟩ = some (.slice (some ⟨b, off, none⟩) n c) ∧ wr.cell? ⟨Bn, 0, none⟩ = some (.int .i64 4))
    (fun i _ => n + 4 - (intOf i).toNat)
  case atStart => exact ⟨0, 0, [], Nat.zero_le _, rfl, rfl, rfl, h0, hBs, hBn⟩
  case round =>
    obtain ⟨k, I, pre, hk, rfl, HI, HP, HJ, cS, cN⟩ := hrel
    by_cases hlt : I < n
    · have hkm : k < m := by have := HI.out; omega
      have hpl : pre.length = k := by have := congrArg List.length HP.out; simpa using this
      obtain ⟨E, hE⟩ : ∃ E, hiN n k - k * 4 = E := ⟨_, rfl⟩
      have hE1 : 1 ≤ E ∧ E ≤ 4 ∧ I + E ≤ n := by have := HI.out; unfold hiN at hE; omega
      have e1 : ((n : Int) - (I : Int)) = ((n - I : Nat) : Int) := by omega
      have t1 : (I : Int) ≤ (n : Int) := by omega
      have t2 : (n : Int) ≤ (c : Int) := by omega
      have t3 : ¬ c = I := by omega
      have t4 : (I : Int) ≤ (I : Int) + (E : Int) := by omega
      have t5 : (I : Int) + (E : Int) ≤ (c : Int) := by omega
      have t6 : (0 : Int) ≤ (I : Int) := by omega
      gi_wp2
      refine wpIn_wide.2 ?_
      go_quiet (fail)
      rw [show (if ((n - I : Nat) : Int) < 4 then ((n - I : Nat) : Int) else 4) = (E : Int) by split <;> (have := HI.out; unfold hiN at hE; omega)]
      obtain ⟨fn, tmps, assign, body, hy, hR⟩ := hY pre ⟨k, hkm⟩ (wr.drewN nq) (hJd _ _ _ HJ.out) (by omega)
      unfold chkV at hy
      rw [hE, ← HI.out] at hy
      have cS2 : (wr.drewN nq).cell? ⟨Bs, 0, none⟩ = some (.slice (some ⟨b, off, none⟩) n c) := cS
      have cN2 : (wr.drewN nq).cell? ⟨Bn, 0, none⟩ = some (.int .i64 4) := cN
      have t7 : ((I : Int) + (E : Int)).toNat - I = E := by omega
      gi_wp2
      refine hR.mono ?_
      rintro e W3 (⟨rfl, hJ3, hk3⟩ | ⟨rfl, hJx3⟩)
      · have cS3 : W3.cell? ⟨Bs, 0, none⟩ = some (.slice (some ⟨b, off, none⟩) n c) := (World.cell?_of_block (a := ⟨Bs, 0, none⟩) hk3.s).trans cS2
        have cN3 : W3.cell? ⟨Bn, 0, none⟩ = some (.int .i64 4) := (World.cell?_of_block (a := ⟨Bn, 0, none⟩) hk3.n).trans cN2
        have HP2 : Hid ((pre ++ [(⟨k, hkm⟩ : Ixm m)]).map (·.1) = List.range (k + 1)) := by
          show _ = _
          rw [List.map_append, HP.out, List.range_succ]; rfl
        have HJ2 : Hid (J (pre ++ [(⟨k, hkm⟩ : Ixm m)]) W3) := hJ3
        have HI2 : Hid (I + 4 = (k + 1) * 4) := by show _ = _; have := HI.out; omega
        clear hR hy hJ3
        gi_wp2
        go_roundw
        case rel => exact ⟨k + 1, I + 4, _, by omega, by go_num, HI2, HP2, HJ2, cS3, cN3⟩
        case measure => simp [intOf]; omega
      · gi_wp2
        refine bodyPost_ret (results_none rfl _ _ _) rfl ?_
        exact ⟨⟨_, rfl⟩, .inr ⟨_, trivial, hJx3⟩⟩
    · have hkm : k = m := by have := HI.out; omega
      gi_wp2
      go_end0
      rw [hkm] at HP
      exact ⟨⟨_, rfl⟩, .inl ⟨_, HP.out, HJ.out⟩⟩

/-- slices.Chunk hands its chunks to the rounds, one by one. -/
theorem chunk_stops (N : Nat) (hN : 1 ≤ N) (Bs Bn b off n c m : Nat) (hm : (n + 3) / 4 = m) (h1 : 1 ≤ n) (h80 : n ≤ 80) (hc : n ≤ c) (w : World) (hBs : Bs < w.heap.size) (hBn : Bn < w.heap.size)
    (cS : w.cell? ⟨Bs, 0, none⟩ = some (.slice (some ⟨b, off, none⟩) n c)) (cN : w.cell? ⟨Bn, 0, none⟩ = some (.int .i64 4)) :
    SeqStopsK Fence.wide N Tryz.prog 74 #[.pointer (some ⟨Bs, 0, none⟩), .pointer (some ⟨Bn, 0, none⟩)] (fun x : Ixm m => #[chkV b off n x.1]) (KpC Bs Bn) (fun ys => ys.map (·.1) = List.range m) (fun _ => True) m w := fun l J Jx W hW hJ _ hY h0 =>
  chunk1_in N hN l Bs Bn b off n c m hm h1 h80 hc J Jx (fun pre W k hJW => hJ pre W _ none hJW ⟨rfl, rfl, rfl, by simp, fun _ _ _ => by simp⟩ (fun r e => by cases e)) hY W ((hW.cell (p := ⟨Bs, 0, none⟩) hBs).trans cS) ((hW.cell (p := ⟨Bn, 0, none⟩) hBn).trans cN) h0
end Go.Proofs.YtkikhfdkibekgaaGreat.Fx

/- What package spot's Chunk and Opens answer, in plain numbers, for every input; what a law may ask of them is said as contracts that are handed in. -/
namespace Go.Proofs.YtkikhfdkibekgaaGreat.Fx
open Go.RowKit

/-- Chunk i of n numbers. -/
def partL (xs : List Int) (n i : Nat) : List Int := (xs.drop (i * 4)).take (hiN n i - i * 4)
def ckP (xs : List Int) (n : Nat) (i : Int) : List Int := if errP i n = 0 then partL xs n i.toNat else []
def opE (n i : Int) (m p : Nat) : Int := if errC i n p = 0 then (if (m : Int) = min 4 (n - 4 * i) then 0 else 5) else errC i n p
def opB (root n i : Int) (m : Nat) (xs : List Int) (p : Nat) (ps : List Int) : Bool := if opE n i m p = 0 then decide (upL i n (ofP 4 (numL xs m)) ps p = root % 2305843009213693951) else false
theorem partL_len {xs : List Int} {n i : Nat} (h : xs.length = n) (hi : i < (n + 3) / 4) : (partL xs n i).length = hiN n i - i * 4 := by
  unfold partL hiN
  rw [List.length_take, List.length_drop, h]
  omega
theorem honest_chunk {xs : List Int} {n k : Nat} (h1 : 1 ≤ n) (h2 : n ≤ 200) (hk : k < (n + 3) / 4) :
    errP k n = 0 ∧ ckP xs n k = partL xs n k ∧ wayL xs n k = wayP (leavesP xs n) k := by
  have e : errP k n = 0 := by
    unfold errP
    rw [if_neg (by omega), if_pos ⟨by omega, by omega⟩]
  refine ⟨e, by unfold ckP; rw [if_pos e]; rfl, ?_⟩
  unfold wayL
  rw [if_pos ⟨by omega, by omega, by omega⟩]
  rfl
theorem honest_opens {xs : List Int} {n k : Nat} (h : xs.length = n) (h1 : 1 ≤ n) (h2 : n ≤ 200) (hk : k < (n + 3) / 4) {r : Int} (hr : ofP 3 [(n : Int), treeP (leavesP xs n)] = r) :
    opE n k (partL xs n k).length (wayP (leavesP xs n) k).length = 0 ∧ opB r n k (partL xs n k).length (partL xs n k) (wayP (leavesP xs n) k).length (wayP (leavesP xs n) k) = true := by
  have hl := leavesP_len xs n
  have hw := (way_deep (leavesP xs n).length (leavesP xs n) k (Nat.le_refl _) (leavesP_ok xs n)).1
  rw [hl] at hw
  obtain ⟨c1, c2⟩ := climb_root xs n k h1 h2 hk
  have hp := partL_len h hk
  have hE : opE n k (partL xs n k).length (wayP (leavesP xs n) k).length = 0 := by
    unfold opE
    rw [hw, if_pos c2, hp, if_pos (by unfold hiN; omega)]
  refine ⟨hE, ?_⟩
  unfold opB
  rw [if_pos hE, hw]
  have hleaf : ofP 4 (numL (partL xs n k) (partL xs n k).length) = (leavesP xs n).getD k 0 := by
    rw [hp]
    unfold leavesP
    rw [List.getD_eq_getElem?_getD, List.getElem?_map, List.getElem?_range hk]
    rfl
  rw [hleaf, c1, hr]
  have ho := ofP_ok 3 [(n : Int), treeP (leavesP xs n)]
  rw [hr] at ho
  rw [decide_eq_true]
  rw [Int.emod_eq_of_lt ho.1 ho.2]

end Go.Proofs.YtkikhfdkibekgaaGreat.Fx

/- What spot.Opens returns, whatever is handed in. -/
namespace Go.Proofs.YtkikhfdkibekgaaGreat.Fx
open Go.RowKit
end Go.Proofs.YtkikhfdkibekgaaGreat.Fx

/- What TreeBinds turns on, in plain numbers: what two openings to one root tell; and how lists of lists lie in memory. -/
namespace Go.Proofs.YtkikhfdkibekgaaGreat.Fx
open Go.RowKit

theorem opE_in {n i : Int} {m p : Nat} (h : opE n i m p = 0) : okC i n ∧ p = dpC i n ∧ (m : Int) = min 4 (n - 4 * i) := by
  unfold opE errC at h
  by_cases h1 : okC i n
  · rw [if_pos h1] at h
    by_cases h2 : p = dpC i n
    · rw [if_pos h2, if_pos rfl] at h
      by_cases h3 : (m : Int) = min 4 (n - 4 * i)
      · exact ⟨h1, h2, h3⟩
      · rw [if_neg h3] at h; cases h
    · rw [if_neg h2, if_neg (by decide)] at h; cases h
  · rw [if_neg h1, if_neg (by decide)] at h; cases h
theorem opens_bound {root : Int} {k M0 m p : Nat} {xs ps : List Int} (hE : opE M0 k m p = 0) (hB : opB root M0 k m xs p ps = true) (hpl : ps.length = p) :
    (1 ≤ M0 ∧ M0 ≤ 200 ∧ k < (M0 + 3) / 4) ∧ (1 ≤ m ∧ m ≤ 4) ∧ p = deepP k ((M0 + 3) / 4) ∧ madeP [3, (M0 : Int), nowB (turnP k ((M0 + 3) / 4)) (ofP 4 (numL xs m)) ps p] = root % 2305843009213693951 := by
  obtain ⟨⟨g1, g2, g3, g4⟩, g5, g6⟩ := opE_in hE
  have g7 : k < (M0 + 3) / 4 := by omega
  have g8 : p = deepP k ((M0 + 3) / 4) := by rw [g5]; unfold dpC; simp
  refine ⟨⟨by omega, by omega, g7⟩, ⟨by omega, by omega⟩, g8, ?_⟩
  unfold opB at hB
  rw [if_pos hE, decide_eq_true_eq] at hB
  rw [← hB]
  unfold upL
  rw [if_pos ⟨⟨g1, g2, g3, g4⟩, g5⟩]
  have hn := now_up ((M0 + 3) / 4) k ((M0 + 3) / 4) (ofP 4 (numL xs m)) ps (Nat.le_refl _) g7 (by rw [hpl]; exact g8)
  rw [hpl] at hn
  rw [hn]
  unfold madeP
  simp
theorem okL_cons {x : Int} {l : List Int} (hx : okW x) (hl : okL l) : okL (x :: l) := fun i hi => by
  cases i with
  | zero => exact hx
  | succ i => exact hl i (by simpa using hi)
theorem okL_nil : okL [] := fun i hi => by simp at hi
theorem nowB_ok (ts : List Bool) {x : Int} (hx : okW x) (ps : List Int) (j : Nat) : okW (nowB ts x ps j) := by
  cases j with
  | zero => exact hx
  | succ j => rw [nowB]; split <;> exact okP_W (ofP_ok _ _)
theorem allB_ok {n : Nat} (hn : n ≤ 200) (ts : List Bool) {low : List Int} (hl : okL low) (h1 : 1 ≤ low.length) (h4 : low.length ≤ 4) {x : Int} (hx : okW x) (ps : List Int) (k : Nat) : okL (allB n ts low x ps k) ∧ 2 ≤ (allB n ts low x ps k).length ∧ (allB n ts low x ps k).length ≤ 5 := by
  have m0 : ∀ y : Int, okW (y % 2305843009213693951) := fun y => ⟨by omega, by omega⟩
  have w3 : okW 3 := ⟨by omega, by omega⟩
  unfold allB
  by_cases h0 : k = 0
  · rw [if_pos h0]
    exact ⟨okL_cons ⟨by omega, by omega⟩ hl, by simp; omega, by simp; omega⟩
  · rw [if_neg h0]
    by_cases h2 : k ≤ ps.length
    · rw [if_pos h2]
      unfold pairB
      split
      · exact ⟨okL_cons w3 (okL_cons (m0 _) (okL_cons (nowB_ok ts hx ps _) okL_nil)), by simp, by simp⟩
      · exact ⟨okL_cons w3 (okL_cons (nowB_ok ts hx ps _) (okL_cons (m0 _) okL_nil)), by simp, by simp⟩
    · rw [if_neg h2]
      exact ⟨okL_cons w3 (okL_cons ⟨by omega, by omega⟩ (okL_cons (nowB_ok ts hx ps _) okL_nil)), by simp, by simp⟩
theorem OwnLL.at {base : Nat} {w : World} {v : Value} {n : Nat} {f : Nat → List Int} (h : OwnLL base w v ((List.range n).map f)) (hn : 0 < n) : ∃ g c, v = .slice (some ⟨g, 0, none⟩) n c ∧ n ≤ c ∧ g < w.heap.size ∧ ∀ k, k < n → ∃ g' c', w.cell? ⟨g, k, none⟩ = some (.slice (some ⟨g', 0, none⟩) (f k).length c') ∧ LstW w (some ⟨g', 0, none⟩) (f k).length c' (f k) := by
  obtain ⟨vs, h1, h2, h3⟩ := h
  rw [List.length_map, List.length_range] at h2
  obtain ⟨g, c, e, _, hg, hc, hcells⟩ := h1.row (by omega)
  rw [h2] at e hc
  refine ⟨g, c, e, hc, hg, fun k hk => ?_⟩
  obtain ⟨g', c', q1, q2, _, _, _⟩ := h3 k (by simpa using hk)
  have e2 : ((List.range n).map f).getD k [] = f k := by rw [List.getD_eq_getElem?_getD, List.getElem?_map, List.getElem?_range hk]; rfl
  rw [e2] at q1 q2
  exact ⟨g', c', hcells k _ q1, q2⟩
end Go.Proofs.YtkikhfdkibekgaaGreat.Fx
