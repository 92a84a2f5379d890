/- What audit.sameStep and audit.Whole return, whatever is handed in. -/
import Derived.Test.YtkikhfdkibekgaaGreatJ09
import Derived.Test.YtkikhfdkibekgaaGreatJ23
import Derived.Deep.QuietTactic
import Derived.BigQuiet
import Derived.Deep.RegionHeld3
namespace Go.Proofs.YtkikhfdkibekgaaGreat.Fx
open Go.RowKit

set_option maxRecDepth 100000 in
set_option maxHeartbeats 1600000 in
theorem sstep_calls (x y : Rcm) (xs ys : List Int) (w : World) (l1 : Lst w x.a x.n x.k xs) (l2 : Lst w y.a y.n y.k ys) (hn : x.n ≤ 9223372036854775807) :
    Calls Tryz.prog 19 #[x.val, y.val] w fun e w' => e = .returned (.bool (likeB x y xs ys)) ∧ Below w.heap.size w w' := by
  have hal := (low_alloc w (.cells x.cells 30)).trans ((low_alloc (w.alloc (.cells x.cells 30)) (.cells y.cells 30)).mono (low_alloc w (.cells x.cells 30)).size)
  have EQ := eq_big _ _ _ _ _ _ xs ys _ (l1.below hal (Nat.le_refl _)) (l2.below hal (Nat.le_refl _)) hn
  obtain ⟨QB, HQ⟩ : ∃ q, Hid (decide (xs = ys) = q) := ⟨_, rfl⟩
  rw [HQ.out] at EQ
  have HL : Hid (likeB x y xs ys = (decide (x.s = y.s) && decide (x.r = y.r) && decide (x.root = y.root) && QB)) := by show _ = _; unfold likeB; rw [HQ.out]
  obtain ⟨LB, HLB⟩ : ∃ q, Hid (likeB x y xs ys = q) := ⟨_, rfl⟩
  rw [HLB.out] at HL ⊢
  clear l1 l2 HQ HLB
  obtain ⟨s, a, n, k, r, root, chain⟩ := x
  obtain ⟨s', a', n', k', r', root', chain'⟩ := y
  simp only [Rcm.val, Rcm.cells] at *
  by_cases h1 : s = s'
  rotate_left
  · have qh1 : (s == s') = false := by simpa using h1
    have hL : LB = false := by rw [HL.out, decide_eq_false h1]; simp
    subst hL
    go_enter Tryz.func19, Tryz.ntmps19
    go_wp2_with fail
    go_ret
    exact ⟨rfl, hal⟩
  have qh1 : (s == s') = true := by simpa using h1
  cases QB with
  | false =>
    have hL : LB = false := by rw [HL.out]; simp
    subst hL
    clear h1
    go_enter Tryz.func19, Tryz.ntmps19
    go_wp2_with fail
    refine EQ.mono ?_
    rintro e w1 ⟨rfl, k5, hw5⟩
    subst hw5
    go_wp2_with fail
    go_ret
    exact ⟨rfl, below_drewN hal _⟩
  | true =>
    by_cases h2 : r = r'
    rotate_left
    · have qh2 : (r == r') = false := by simpa using h2
      have hL : LB = false := by rw [HL.out, decide_eq_false h2]; simp
      subst hL
      clear h1
      go_enter Tryz.func19, Tryz.ntmps19
      go_wp2_with fail
      refine EQ.mono ?_
      rintro e w1 ⟨rfl, k5, hw5⟩
      subst hw5
      go_wp2_with fail
      go_ret
      exact ⟨rfl, below_drewN hal _⟩
    have qh2 : (r == r') = true := by simpa using h2
    have hL : (root == root') = LB := by rw [HL.out, decide_eq_true h1, decide_eq_true h2, beq_dec]; simp
    clear h1 h2
    go_enter Tryz.func19, Tryz.ntmps19
    go_wp2_with fail
    refine EQ.mono ?_
    rintro e w1 ⟨rfl, k5, hw5⟩
    subst hw5
    go_wp2_with fail
    go_ret
    exact ⟨rfl, below_drewN hal _⟩

set_option maxRecDepth 100000 in
set_option maxHeartbeats 3200000 in
theorem whole_good (c : Cfg) (hs : okW c.seed) (a : Option Addr) (n cap : Nat) (X : Nat → Exm) (DI DO : Nat → List Int) (la : Option Addr) (ln lc : Nat) (L : Nat → Rcm) (DL : Nat → List Int) (w : World) (hx : Exs w a n cap X DI DO) (hl : Recs w la ln lc L DL) (hL : ∀ j, j < ln → (L j).n ≤ 9223372036854775807) (h0 : courseI c n X DI DO = 0) (hm : (ln : Int) ≤ c.steps) :
    Calls Tryz.prog 8 #[c.val, .slice a n cap, .slice la ln lc] w fun e w' => e = .returned (.tuple #[.int .i64 (firstNo (auB c n DI DO L DL) ln : Nat), .int .i64 0]) ∧ Below w.heap.size w w' := by
  have hal := low_alloc w (.cells c.cells 24)
  have CK := tcheck_calls c a n cap X DI DO _ (hx.below hal (Nat.le_refl _))
  have KB : Hid (∀ q, Below (w.alloc (.cells c.cells 24)).heap.size (w.alloc (.cells c.cells 24)) q → BoxC q w.heap.size c) := fun q hq => boxC hq (by simp)
  rw [h0] at CK
  have HMK : Hid (∀ q, Below w.heap.size w q → Calls Tryz.prog 7 #[c.val, .slice a n cap, .int .i64 ln] q fun e w' => ∃ g R, e = .returned (.tuple #[.slice (some ⟨g, 0, none⟩) ln ln, .int .i64 0]) ∧ Recs w' (some ⟨g, 0, none⟩) ln ln R (jrBatch c n) ∧ JrN ln R (mkRV c) (mkRO c n DI DO) (mkCH c n DI DO) ∧ Below q.heap.size q w') := fun q hq => by
    refine (jMake_good c a n cap X DI DO ln q hs (hx.below hq (Nat.le_refl _)) h0 hm).mono ?_
    rintro e w' ⟨g, R, he, g1, g2, g3, g4, g5⟩
    exact ⟨g, R, he, recs_of g2 g3, g4, g5⟩
  have HQ : Hid (∀ (R : Nat → Rcm), JrN ln R (mkRV c) (mkRO c n DI DO) (mkCH c n DI DO) → ∀ j, j < ln → auB c n DI DO L DL j = recB (L j) (R j) (DL j) (jrBatch c n j)) := fun R h j hj => auB_is h L DL hj
  have HF : Hid (∀ k, k ≤ ln → (∀ j, j < k → auB c n DI DO L DL j = true) → (k < ln → auB c n DI DO L DL k = false) → firstNo (auB c n DI DO L DL) ln = k) := fun k h1 h2 h3 => firstNo_eq _ ln k h1 h2 h3
  have h40 : ln ≤ 40 := by
    obtain ⟨_, _, _, _, ⟨p1, p2⟩, _⟩ := cfgB_is (course_ok h0).1
    omega
  have HLN : Hid (∀ j, j < ln → (L j).n ≤ 9223372036854775807) := hL
  generalize firstNo (auB c n DI DO L DL) ln = FN at *
  generalize auB c n DI DO L DL = QF at *
  generalize jrBatch c n = DB at *
  generalize mkRV c = RV at *
  generalize mkRO c n DI DO = RO at *
  generalize mkCH c n DI DO = CH at *
  have z1 : ¬ c.steps < (ln : Int) := by omega
  clear hx hs h0 hL
  obtain ⟨i, h, o, seed, batch, steps, crate, decay, how, keep, clip⟩ := c
  simp only [Cfg.val, Cfg.cells] at *
  obtain ⟨c0, c1, c2, c3, c4, c5, c6, c7, c8, c9, c10⟩ := KB.out _ (Below.refl _ _)
  dsimp only at c0 c1 c2 c3 c4 c5 c6 c7 c8 c9 c10
  go_enter Tryz.func8, Tryz.ntmps8
  go_wp2_with fail
  refine CK.mono ?_
  rintro e w1 ⟨rfl, hw1⟩
  clear c0 c1 c2 c3 c4 c5 c6 c7 c8 c9 c10
  obtain ⟨c0, c1, c2, c3, c4, c5, c6, c7, c8, c9, c10⟩ := KB.out _ hw1
  dsimp only at c0 c1 c2 c3 c4 c5 c6 c7 c8 c9 c10
  have T1 := hal.trans (hw1.mono hal.size)
  go_wp2_with fail
  refine (HMK.out _ T1).mono ?_
  rintro e w2 ⟨g, R, rfl, hR, hJ, hw2⟩
  have T2 := T1.trans (hw2.mono T1.size)
  have HQ2 := HQ.out R hJ
  have HQ3 : Hid (∀ j, j < ln → QF j = recB (L j) (R j) (DL j) (DB j)) := HQ2
  have HL2 := hl.below T2 (Nat.le_refl _)
  clear hJ HQ HQ2 HMK CK KB hw1 hw2 c0 c1 c2 c3 c4 c5 c6 c7 c8 c9 c10 hl
  go_wp2_with fail
  go_loopw [34] (fun v wr => ∃ k : Nat, k ≤ ln ∧ v = .int .i64 k ∧ Hid (∀ j, j < k → QF j = true) ∧ Below w2.heap.size w2 wr) (fun v _ => ln - (intOf v).toNat)
  case atStart => exact ⟨0, Nat.zero_le _, rfl, fun j hj => by omega, Below.refl _ _⟩
  case round =>
    obtain ⟨k, hk, rfl, hg, hbel⟩ := hrel
    by_cases hlt : k < ln
    · obtain ⟨xb, xo, rfl, hc⟩ := (HL2.below hbel (Nat.le_refl _)).at (by omega)
      have hR1 := hR.below hbel (Nat.le_refl _)
      obtain ⟨yb, yo, hyb, hd⟩ := hR1.at (by omega)
      simp only [Option.some.injEq, Addr.mk.injEq, and_true] at hyb
      obtain ⟨rfl, rfl⟩ := hyb
      obtain ⟨e0, e1, e2, e3, e4, lx⟩ := hc k hlt
      obtain ⟨f0, f1, f2, f3, f4, ly⟩ := hd k hlt
      have hlen := HLN.out k hlt
      have hqk := HQ3.out k hlt
      have hgood : QF k = true → ∀ j, j < k + 1 → QF j = true := fun q j hj => by
        by_cases e : j = k
        · subst e; exact q
        · exact hg.out j (by omega)
      have hbad : QF k = false → FN = k := fun q => HF.out k hk hg.out (fun _ => q)
      have SM0 : ∀ q, Below wr.heap.size wr q → Calls Tryz.prog 19 #[(L k).val, (R k).val] q fun e w' => e = .returned (.bool (likeB (L k) (R k) (DL k) (DB k))) ∧ Below q.heap.size q w' := fun q hq => sstep_calls _ _ _ _ q (lx.below hq (Nat.le_refl _)) (ly.below hq (Nat.le_refl _)) hlen
      have hrb : recB (L k) (R k) (DL k) (DB k) = (likeB (L k) (R k) (DL k) (DB k) && decide ((L k).chain = (R k).chain)) := rfl
      rw [hrb] at hqk
      rw [hqk] at hgood hbad
      rw [Nat.zero_add] at f0 f1 f2 f3 f4
      obtain ⟨x, hxk⟩ : ∃ x, L k = x := ⟨_, rfl⟩
      obtain ⟨y, hyk⟩ : ∃ y, R k = y := ⟨_, rfl⟩
      rw [hxk] at e0 e1 e2 e3 e4 hgood hbad SM0
      rw [hyk] at f0 f1 f2 f3 f4 hgood hbad SM0
      generalize likeB x y (DL k) (DB k) = LB at *
      obtain ⟨ls, lla, lln, llk, lr, lroot, lchain⟩ := x
      obtain ⟨rs, ra, rn, rk, rr, rroot, rchain⟩ := y
      simp only [Rcm.val, Rcm.cells] at *
      have ha := low_alloc wr (.cells #[.int .i64 ls, .slice lla lln llk, .int .i64 lr, .int .u64 lroot, .int .u64 lchain] 30)
      have row := fn5_alloc wr (.int .i64 ls) (.slice lla lln llk) (.int .i64 lr) (.int .u64 lroot) (.int .u64 lchain) 30
      have SM := SM0 _ (Below.drew ha)
      have KS : Hid (∀ q, Below (wr.alloc (.cells #[.int .i64 ls, .slice lla lln llk, .int .i64 lr, .int .u64 lroot, .int .u64 lchain] 30)).heap.size (wr.alloc (.cells #[.int .i64 ls, .slice lla lln llk, .int .i64 lr, .int .u64 lroot, .int .u64 lchain] 30)) q → q.cell? ⟨wr.heap.size, 0, none⟩ = some (.int .i64 ls) ∧ q.cell? ⟨wr.heap.size, 1, none⟩ = some (.slice lla lln llk) ∧ q.cell? ⟨wr.heap.size, 2, none⟩ = some (.int .i64 lr) ∧ q.cell? ⟨wr.heap.size, 3, none⟩ = some (.int .u64 lroot) ∧ q.cell? ⟨wr.heap.size, 4, none⟩ = some (.int .u64 lchain) ∧ q.cell? ⟨g, k * 5, none⟩ = some (.int .i64 rs) ∧ q.cell? ⟨g, k * 5 + 1, none⟩ = some (.slice ra rn rk) ∧ q.cell? ⟨g, k * 5 + 2, none⟩ = some (.int .i64 rr) ∧ q.cell? ⟨g, k * 5 + 3, none⟩ = some (.int .u64 rroot) ∧ q.cell? ⟨g, k * 5 + 4, none⟩ = some (.int .u64 rchain)) := fun q hq => by
        obtain ⟨b0, b1, b2, b3, b4⟩ := fn5_box (row.of_block (hq.block _ row.lt))
        have hq' := ha.trans (hq.mono ha.size)
        exact ⟨b0, b1, b2, b3, b4, (hq'.cell (p := ⟨g, k * 5, none⟩) (cell_lt f0)).trans f0, (hq'.cell (p := ⟨g, k * 5 + 1, none⟩) (cell_lt f1)).trans f1, (hq'.cell (p := ⟨g, k * 5 + 2, none⟩) (cell_lt f2)).trans f2, (hq'.cell (p := ⟨g, k * 5 + 3, none⟩) (cell_lt f3)).trans f3, (hq'.cell (p := ⟨g, k * 5 + 4, none⟩) (cell_lt f4)).trans f4⟩
      have S0 := KS.out _ (Below.drew (Below.refl _ _))
      have k0 : (0 : Int) ≤ (k : Int) := by omega
      have kn : (k : Int) < (ln : Int) := by omega
      have hVa := hbel.trans (ha.mono hbel.size)
      have HB : Hid ((LB && decide (lchain = rchain)) = false → FN = k) := hbad
      have HG : Hid ((LB && decide (lchain = rchain)) = true → ∀ j, j < k + 1 → QF j = true) := hgood
      clear hR1 hc hd lx ly hlen hqk hgood hbad SM0 hrb hxk hyk f0 f1 f2 f3 f4 hR HL2 HLN HQ3 HF hg row
      cases LB with
      | false =>
        have hF := (HB.out (by rfl)).symm
        subst hF
        go_wp2_with fail
        refine wp_region_held_drew (S := fun q => q.cell? ⟨wr.heap.size, 0, none⟩ = some (.int .i64 ls) ∧ q.cell? ⟨wr.heap.size, 1, none⟩ = some (.slice lla lln llk) ∧ q.cell? ⟨wr.heap.size, 2, none⟩ = some (.int .i64 lr) ∧ q.cell? ⟨wr.heap.size, 3, none⟩ = some (.int .u64 lroot) ∧ q.cell? ⟨wr.heap.size, 4, none⟩ = some (.int .u64 lchain) ∧ q.cell? ⟨g, k * 5, none⟩ = some (.int .i64 rs) ∧ q.cell? ⟨g, k * 5 + 1, none⟩ = some (.slice ra rn rk) ∧ q.cell? ⟨g, k * 5 + 2, none⟩ = some (.int .i64 rr) ∧ q.cell? ⟨g, k * 5 + 3, none⟩ = some (.int .u64 rroot) ∧ q.cell? ⟨g, k * 5 + 4, none⟩ = some (.int .u64 rchain)) (by kernel_rfl) (by with_reducible exact S0) (fun hHeld => ?_)
        refine wpAnyH_take (i := 0) (oi := _) (v := ?_) rfl (by kernel_rfl) (by kernel_rfl) (by kernel_rfl) (fun _ _ _ h => h) (Or.inl ⟨by rfl, ?_⟩) (by assumption) ?_
        rotate_left
        · intro w hSw
          try dsimp only at hSw
          go_simp
          try with_reducible rfl
        simp only [Act.put, List.getElem_toArray, List.getElem_cons_zero, List.setIfInBounds_toArray, List.set_cons_zero, List.set_cons_succ]
        refine wpAnyH_take (i := 1) (oi := _) (v := ?_) rfl (by kernel_rfl) (by kernel_rfl) (by kernel_rfl) (fun _ _ _ h => h) (Or.inl ⟨by rfl, ?_⟩) (by assumption) ?_
        rotate_left
        · intro w hSw
          try dsimp only at hSw
          go_simp
          try with_reducible rfl
        simp only [Act.put, List.getElem_toArray, List.getElem_cons_zero, List.getElem_cons_succ, List.setIfInBounds_toArray, List.set_cons_zero, List.set_cons_succ]
        refine wpAnyH_take (i := 2) (oi := _) (v := ?_) rfl (by kernel_rfl) (by kernel_rfl) (by kernel_rfl) (fun _ _ _ h => h) (Or.inl ⟨by rfl, ?_⟩) (by assumption) ?_
        rotate_left
        · intro w hSw
          try dsimp only at hSw
          go_simp
          try with_reducible rfl
        simp only [Act.put, List.getElem_toArray, List.getElem_cons_zero, List.getElem_cons_succ, List.setIfInBounds_toArray, List.set_cons_zero, List.set_cons_succ]
        refine wpAnyH_take (i := 3) (oi := _) (v := ?_) rfl (by kernel_rfl) (by kernel_rfl) (by kernel_rfl) (fun _ _ _ h => h) (Or.inl ⟨by rfl, ?_⟩) (by assumption) ?_
        rotate_left
        · intro w hSw
          try dsimp only at hSw
          go_simp
          try with_reducible rfl
        simp only [Act.put, List.getElem_toArray, List.getElem_cons_zero, List.getElem_cons_succ, List.setIfInBounds_toArray, List.set_cons_zero, List.set_cons_succ]
        refine wpAnyH_take (i := 4) (oi := _) (v := ?_) rfl (by kernel_rfl) (by kernel_rfl) (by kernel_rfl) (fun _ _ _ h => h) (Or.inl ⟨by rfl, ?_⟩) (by assumption) ?_
        rotate_left
        · intro w hSw
          try dsimp only at hSw
          go_simp
          try with_reducible rfl
        simp only [Act.put, List.getElem_toArray, List.getElem_cons_zero, List.getElem_cons_succ, List.setIfInBounds_toArray, List.set_cons_zero, List.set_cons_succ]
        refine wpAnyH_ready (rs := [5]) (by kernel_rfl) (by simp) ?_
        refine AllReadyH.cons (o := _) rfl (fun K hK => ?_) AllReadyH.nil
        clear hHeld
        go_simp
        (go_at_call 19; refine SM.mono ?_; rintro e q2 ⟨rfl, hq2⟩; have V2 := undrew hq2; have S1' := KS.out _ V2)
        go_wp2_with fail
        refine hK.out _ _ ?_ (fun hHeld => ?_)
        · with_reducible exact S1'
        clear hK K
        try simp only [Act.put, List.setIfInBounds_toArray, List.set_cons_zero, List.set_cons_succ]
        refine wpAnyH_take (i := 6) (oi := _) (v := ?_) rfl (by kernel_rfl) (by kernel_rfl) (by kernel_rfl) (fun _ _ _ h => h) (Or.inl ⟨by rfl, ?_⟩) (by assumption) ?_
        rotate_left
        · intro w hSw
          try dsimp only at hSw
          go_simp
          try with_reducible rfl
        simp only [Act.put, List.getElem_toArray, List.getElem_cons_zero, List.getElem_cons_succ, List.setIfInBounds_toArray, List.set_cons_zero, List.set_cons_succ]
        refine wpAnyH_take (i := 7) (oi := _) (v := ?_) rfl (by kernel_rfl) (by kernel_rfl) (by kernel_rfl) (fun _ _ _ h => h) (Or.inl ⟨by rfl, ?_⟩) (by assumption) ?_
        rotate_left
        · intro w hSw
          try dsimp only at hSw
          go_simp
          try with_reducible rfl
        simp only [Act.put, List.getElem_toArray, List.getElem_cons_zero, List.getElem_cons_succ, List.setIfInBounds_toArray, List.set_cons_zero, List.set_cons_succ]
        refine wpAnyH_take (i := 8) (oi := _) (v := undef) rfl (by kernel_rfl) (by kernel_rfl) (by kernel_rfl) (fun _ _ _ h => h) (Or.inr ⟨by rfl, rfl⟩) (by assumption) ?_
        simp only [Act.put, List.getElem_toArray, List.getElem_cons_zero, List.getElem_cons_succ, List.setIfInBounds_toArray, List.set_cons_zero, List.set_cons_succ]
        refine wpAnyH_take (i := 9) (oi := _) (v := undef) rfl (by kernel_rfl) (by kernel_rfl) (by kernel_rfl) (fun _ _ _ h => h) (Or.inr ⟨by rfl, rfl⟩) (by assumption) ?_
        simp only [Act.put, List.getElem_toArray, List.getElem_cons_zero, List.getElem_cons_succ, List.setIfInBounds_toArray, List.set_cons_zero, List.set_cons_succ]
        refine wpAnyH_take (i := 10) (oi := _) (v := undef) rfl (by kernel_rfl) (by kernel_rfl) (by kernel_rfl) (fun _ _ _ h => h) (Or.inr ⟨by rfl, rfl⟩) (by assumption) ?_
        simp only [Act.put, List.getElem_toArray, List.getElem_cons_zero, List.getElem_cons_succ, List.setIfInBounds_toArray, List.set_cons_zero, List.set_cons_succ]
        refine wpAnyH_take (i := 11) (oi := _) (v := undef) rfl (by kernel_rfl) (by kernel_rfl) (by kernel_rfl) (fun _ _ _ h => h) (Or.inr ⟨by rfl, rfl⟩) (by assumption) ?_
        simp only [Act.put, List.getElem_toArray, List.getElem_cons_zero, List.getElem_cons_succ, List.setIfInBounds_toArray, List.set_cons_zero, List.set_cons_succ]
        refine wpAnyH_take (i := 12) (oi := _) (v := undef) rfl (by kernel_rfl) (by kernel_rfl) (by kernel_rfl) (fun _ _ _ h => h) (Or.inr ⟨by rfl, rfl⟩) (by assumption) ?_
        simp only [Act.put, List.getElem_toArray, List.getElem_cons_zero, List.getElem_cons_succ, List.setIfInBounds_toArray, List.set_cons_zero, List.set_cons_succ]
        refine wpAnyH_take (i := 13) (oi := _) (v := undef) rfl (by kernel_rfl) (by kernel_rfl) (by kernel_rfl) (fun _ _ _ h => h) (Or.inr ⟨by rfl, rfl⟩) (by assumption) ?_
        simp only [Act.put, List.getElem_toArray, List.getElem_cons_zero, List.getElem_cons_succ, List.setIfInBounds_toArray, List.set_cons_zero, List.set_cons_succ]
        refine wpAnyH_take (i := 14) (oi := _) (v := undef) rfl (by kernel_rfl) (by kernel_rfl) (by kernel_rfl) (fun _ _ _ h => h) (Or.inr ⟨by rfl, rfl⟩) (by assumption) ?_
        simp only [Act.put, List.getElem_toArray, List.getElem_cons_zero, List.getElem_cons_succ, List.setIfInBounds_toArray, List.set_cons_zero, List.set_cons_succ]
        refine wpAnyH_take (i := 15) (oi := _) (v := undef) rfl (by kernel_rfl) (by kernel_rfl) (by kernel_rfl) (fun _ _ _ h => h) (Or.inr ⟨by rfl, rfl⟩) (by assumption) ?_
        simp only [Act.put, List.getElem_toArray, List.getElem_cons_zero, List.getElem_cons_succ, List.setIfInBounds_toArray, List.set_cons_zero, List.set_cons_succ]
        refine wpAnyH_take (i := 16) (oi := _) (v := ?_) rfl (by kernel_rfl) (by kernel_rfl) (by kernel_rfl) (fun _ _ _ h => h) (Or.inl ⟨by rfl, ?_⟩) (by assumption) ?_
        rotate_left
        · intro w hSw
          try dsimp only at hSw
          go_simp
          try with_reducible rfl
        simp only [Act.put, List.getElem_toArray, List.getElem_cons_zero, List.getElem_cons_succ, List.setIfInBounds_toArray, List.set_cons_zero, List.set_cons_succ]
        refine wpAnyH_done (by kernel_rfl) ?_ _
        go_wp2_with fail
        go_ret2
        exact ⟨rfl, T2.trans ((hVa.trans (V2.mono hVa.size)).mono T2.size)⟩
      | true =>
        obtain ⟨QN, HQN⟩ : ∃ q, Hid ((lchain != rchain) = q) := ⟨_, rfl⟩
        have q1 : (lchain != rchain) = QN := HQN.out
        have hG : Hid (QN = false → ∀ j, j < k + 1 → QF j = true) := fun h => HG.out (by
          rw [h] at q1
          rw [decide_eq_true (by simpa using q1)]; rfl)
        have hF : Hid (QN = true → k = FN) := fun h => (HB.out (by
          rw [h] at q1
          rw [decide_eq_false (by rw [bne_iff_ne] at q1; exact q1)]; rfl)).symm
        clear HB HG HQN
        go_wp2_with fail
        go_region_held3 (fun q => q.cell? ⟨wr.heap.size, 0, none⟩ = some (.int .i64 ls) ∧ q.cell? ⟨wr.heap.size, 1, none⟩ = some (.slice lla lln llk) ∧ q.cell? ⟨wr.heap.size, 2, none⟩ = some (.int .i64 lr) ∧ q.cell? ⟨wr.heap.size, 3, none⟩ = some (.int .u64 lroot) ∧ q.cell? ⟨wr.heap.size, 4, none⟩ = some (.int .u64 lchain) ∧ q.cell? ⟨g, k * 5, none⟩ = some (.int .i64 rs) ∧ q.cell? ⟨g, k * 5 + 1, none⟩ = some (.slice ra rn rk) ∧ q.cell? ⟨g, k * 5 + 2, none⟩ = some (.int .i64 rr) ∧ q.cell? ⟨g, k * 5 + 3, none⟩ = some (.int .u64 rroot) ∧ q.cell? ⟨g, k * 5 + 4, none⟩ = some (.int .u64 rchain)) (first | with_reducible exact S1' | with_reducible exact S0) (((go_at_call 19; refine SM.mono ?_; rintro e q2 ⟨rfl, hq2⟩; have V2 := undrew hq2; have S1' := KS.out _ V2)))
        all_goals
          cases QN with
          | false =>
            go_wp2_with fail
            go_roundw
            case rel => exact ⟨k + 1, by omega, by go_num, (hG.out (by trivial)), hVa.trans (V2.mono hVa.size)⟩
            case measure => simp [intOf]; omega
          | true =>
            have hF2 := hF.out (by trivial)
            subst hF2
            go_wp2_with fail
            go_ret2
            exact ⟨rfl, T2.trans ((hVa.trans (V2.mono hVa.size)).mono T2.size)⟩
    · obtain rfl : k = ln := by omega
      have hF := (HF.out k (Nat.le_refl _) hg.out (fun h => by omega)).symm
      subst hF
      clear hR HL2 HLN HQ3 HF
      go_wp2_with fail
      go_ret2
      exact ⟨rfl, T2.trans (hbel.mono T2.size)⟩
end Go.Proofs.YtkikhfdkibekgaaGreat.Fx

/- What audit.Whole returns, whatever is handed in. -/
namespace Go.Proofs.YtkikhfdkibekgaaGreat.Fx
open Go.RowKit

set_option maxRecDepth 100000 in
set_option maxHeartbeats 1600000 in
theorem whole_calls (c : Cfg) (hs : okW c.seed) (a : Option Addr) (n cap : Nat) (X : Nat → Exm) (DI DO : Nat → List Int) (la : Option Addr) (ln lc : Nat) (L : Nat → Rcm) (DL : Nat → List Int) (w : World) (hx : Exs w a n cap X DI DO) (hl : Recs w la ln lc L DL) (hL : ∀ j, j < ln → (L j).n ≤ 9223372036854775807) :
    Calls Tryz.prog 8 #[c.val, .slice a n cap, .slice la ln lc] w fun e w' => e = .returned (.tuple #[.int .i64 (whN c n X DI DO ln L DL : Nat), .int .i64 (whE c n X DI DO ln)]) ∧ Below w.heap.size w w' := by
  have hal := low_alloc w (.cells c.cells 24)
  have CK := tcheck_calls c a n cap X DI DO _ (hx.below hal (Nat.le_refl _))
  have KB : Hid (∀ q, Below (w.alloc (.cells c.cells 24)).heap.size (w.alloc (.cells c.cells 24)) q → BoxC q w.heap.size c) := fun q hq => boxC hq (by simp)
  by_cases h0 : courseI c n X DI DO = 0
  · by_cases hm : (ln : Int) ≤ c.steps
    · have hE : whE c n X DI DO ln = 0 := by unfold whE; rw [if_pos h0, if_pos hm]
      have hN : whN c n X DI DO ln L DL = firstNo (auB c n DI DO L DL) ln := by unfold whN; rw [if_pos hE]
      rw [hE, hN]
      exact whole_good c hs a n cap X DI DO la ln lc L DL w hx hl hL h0 hm
    · have hE : whE c n X DI DO ln = 2 := by unfold whE; rw [if_pos h0, if_neg hm]
      have hN : whN c n X DI DO ln L DL = 0 := by unfold whN; rw [hE, if_neg (by decide)]
      rw [hE, hN]
      rw [h0] at CK
      have z1 : c.steps < (ln : Int) := by omega
      clear hE hN hx hl hL hs h0 hm
      obtain ⟨i, h, o, seed, batch, steps, crate, decay, how, keep, clip⟩ := c
      simp only [Cfg.val, Cfg.cells] at *
      obtain ⟨c0, c1, c2, c3, c4, c5, c6, c7, c8, c9, c10⟩ := KB.out _ (Below.refl _ _)
      dsimp only at c0 c1 c2 c3 c4 c5 c6 c7 c8 c9 c10
      go_enter Tryz.func8, Tryz.ntmps8
      go_wp2_with fail
      refine CK.mono ?_
      rintro e w1 ⟨rfl, hw1⟩
      clear c0 c1 c2 c3 c4 c5 c6 c7 c8 c9 c10
      obtain ⟨c0, c1, c2, c3, c4, c5, c6, c7, c8, c9, c10⟩ := KB.out _ hw1
      dsimp only at c0 c1 c2 c3 c4 c5 c6 c7 c8 c9 c10
      have T1 := hal.trans (hw1.mono hal.size)
      go_wp2_with fail
      go_ret2
      exact ⟨rfl, T1⟩
  · have hE : whE c n X DI DO ln = courseI c n X DI DO := by unfold whE; rw [if_neg h0]
    have hN : whN c n X DI DO ln L DL = 0 := by unfold whN; rw [hE, if_neg h0]
    have hb : (courseI c n X DI DO != 0) = true := by rw [bne_iff_ne]; exact h0
    rw [hE, hN]
    generalize courseI c n X DI DO = E at *
    clear hE hN hx hl hL hs
    obtain ⟨i, h, o, seed, batch, steps, crate, decay, how, keep, clip⟩ := c
    simp only [Cfg.val, Cfg.cells] at *
    obtain ⟨c0, c1, c2, c3, c4, c5, c6, c7, c8, c9, c10⟩ := KB.out _ (Below.refl _ _)
    dsimp only at c0 c1 c2 c3 c4 c5 c6 c7 c8 c9 c10
    go_enter Tryz.func8, Tryz.ntmps8
    go_wp2_with fail
    refine CK.mono ?_
    rintro e w1 ⟨rfl, hw1⟩
    go_wp2_with fail
    go_ret2
    exact ⟨rfl, hal.trans (hw1.mono hal.size)⟩
end Go.Proofs.YtkikhfdkibekgaaGreat.Fx

/- Of a journal that is as journal.Make makes it audit.Whole tells how many records there are. -/
namespace Go.Proofs.YtkikhfdkibekgaaGreat.Fx
open Go.RowKit

theorem likeB_same (x y : Rcm) (xs : List Int) (h1 : x.s = y.s) (h2 : x.r = y.r) (h3 : x.root = y.root) : likeB x y xs xs = true := by
  unfold likeB
  rw [decide_eq_true h1, decide_eq_true h2, decide_eq_true h3, decide_eq_true rfl]; rfl
theorem auB_own {c : Cfg} {n : Nat} {DI DO : Nat → List Int} {m : Nat} {R : Nat → Rcm} (h : JrN m R (mkRV c) (mkRO c n DI DO) (mkCH c n DI DO)) {j : Nat} (hj : j < m) : auB c n DI DO R (jrBatch c n) j = true := by
  rw [auB_is h R (jrBatch c n) hj]
  unfold recB
  rw [likeB_same _ _ _ rfl rfl rfl, decide_eq_true rfl]; rfl
theorem whole_own (c : Cfg) (hs : okW c.seed) (a : Option Addr) (n cap : Nat) (X : Nat → Exm) (DI DO : Nat → List Int) (la : Option Addr) (ln lc : Nat) (R : Nat → Rcm) (w : World) (hx : Exs w a n cap X DI DO) (hl : Recs w la ln lc R (jrBatch c n)) (hL : ∀ j, j < ln → (R j).n ≤ 8) (h0 : courseI c n X DI DO = 0) (hm : (ln : Int) ≤ c.steps) (hJ : JrN ln R (mkRV c) (mkRO c n DI DO) (mkCH c n DI DO)) :
    Calls Tryz.prog 8 #[c.val, .slice a n cap, .slice la ln lc] w fun e w' => e = .returned (.tuple #[.int .i64 ln, .int .i64 0]) ∧ Below w.heap.size w w' := by
  have h := whole_good c hs a n cap X DI DO la ln lc R (jrBatch c n) w hx hl (fun j hj => Nat.le_trans (hL j hj) (by decide)) h0 hm
  rw [firstNo_eq _ ln ln (Nat.le_refl _) (fun j hj => auB_own hJ hj) (fun h => by omega)] at h
  exact h
end Go.Proofs.YtkikhfdkibekgaaGreat.Fx

/- A list of records with one bent record in it: how it lies, and which record is the first that is not as it was made. -/
namespace Go.Proofs.YtkikhfdkibekgaaGreat.Fx
open Go.RowKit

/-- The list with that record put in the place of number K. -/
def bentR (R : Nat → Rcm) (K : Nat) (x : Rcm) (j : Nat) : Rcm := if j = K then x else R j
def bentD (D : Nat → List Int) (K : Nat) (xs : List Int) (j : Nat) : List Int := if j = K then xs else D j
theorem rcsR_put {w : World} {b t n K N : Nat} {R : Nat → Rcm} (h : w.rowIs b t n (rcsR R N)) (x : Rcm) (hK : K < N) :
    (((((w.setCell ⟨b, K * 5, none⟩ (.int .i64 x.s)).setCell ⟨b, K * 5 + 1, none⟩ (.slice x.a x.n x.k)).setCell ⟨b, K * 5 + 2, none⟩ (.int .i64 x.r)).setCell ⟨b, K * 5 + 3, none⟩ (.int .u64 x.root)).setCell ⟨b, K * 5 + 4, none⟩ (.int .u64 x.chain)).rowIs b t n (rcsR (bentR R K x) N) := by
  refine (((((h.set (K * 5) (.int .i64 x.s)).set (K * 5 + 1) (.slice x.a x.n x.k)).set (K * 5 + 2) (.int .i64 x.r)).set (K * 5 + 3) (.int .u64 x.root)).set (K * 5 + 4) (.int .u64 x.chain)).congr (fun i hi => ?_)
  unfold rcsR
  by_cases h0 : i < N * 5
  · rw [if_pos h0]
    by_cases e : i / 5 = K
    · have hb : bentR R K x (i / 5) = x := by unfold bentR; rw [if_pos e]
      rw [hb]
      rcases lt5 (Nat.mod_lt i (show 0 < 5 by omega)) with hm | hm | hm | hm | hm
      · rw [if_neg (by omega), if_neg (by omega), if_neg (by omega), if_neg (by omega), if_pos (by omega), hm, if_pos h0]; rfl
      · rw [if_neg (by omega), if_neg (by omega), if_neg (by omega), if_pos (by omega), hm, if_pos h0]; rfl
      · rw [if_neg (by omega), if_neg (by omega), if_pos (by omega), hm, if_pos h0]; rfl
      · rw [if_neg (by omega), if_pos (by omega), hm, if_pos h0]; rfl
      · rw [if_pos (by omega), hm, if_pos h0]; rfl
    · have hb : bentR R K x (i / 5) = R (i / 5) := by unfold bentR; rw [if_neg e]
      rw [hb, if_neg (by omega), if_neg (by omega), if_neg (by omega), if_neg (by omega), if_neg (by omega), if_pos h0]
  · rw [if_neg h0, if_neg (by omega), if_neg (by omega), if_neg (by omega), if_neg (by omega), if_neg (by omega), if_neg h0]
theorem recs_bent {w : World} {g base B N K : Nat} {R : Nat → Rcm} {DG : Nat → Nat → Int} {x : Rcm} {xs : List Int} (h : w.rowIs g 30 (N * 5) (rcsR (bentR R K x) N)) (hj : JrIn w g base B N R DG) (hl : Lst w x.a x.n x.k xs) : Recs w (some ⟨g, 0, none⟩) N N (bentR R K x) (bentD (fun k => (List.range B).map (DG k)) K xs) := by
  refine ⟨Nat.le_refl _, .inr ⟨g, 0, rfl, h.lt, fun i hi => ?_⟩⟩
  rw [Nat.zero_add]
  refine ⟨rcsR_cell h hi (Nat.le_refl _) (i := 0) (by omega), rcsR_cell h hi (Nat.le_refl _) (i := 1) (by omega), rcsR_cell h hi (Nat.le_refl _) (i := 2) (by omega), rcsR_cell h hi (Nat.le_refl _) (i := 3) (by omega), rcsR_cell h hi (Nat.le_refl _) (i := 4) (by omega), ?_⟩
  by_cases e : i = K
  · unfold bentR bentD
    rw [if_pos e, if_pos e]
    exact hl
  · obtain ⟨h1, h2, bg, h3, _, _, ha⟩ := hj i hi
    unfold bentR bentD
    rw [if_neg e, if_neg e, h1, h2, h3]
    exact ha.lst
theorem one_recs {w : World} (x : Rcm) (xs : List Int) (h : Lst w x.a x.n x.k xs) : Recs (w.alloc (.cells x.cells 30)) (some ⟨w.heap.size, 0, none⟩) 1 1 (fun _ => x) (fun _ => xs) := by
  obtain ⟨b0, b1, b2, b3, b4⟩ := fn5_box (fn5_alloc w (.int .i64 x.s) (.slice x.a x.n x.k) (.int .i64 x.r) (.int .u64 x.root) (.int .u64 x.chain) 30)
  refine ⟨Nat.le_refl _, .inr ⟨w.heap.size, 0, rfl, by simp, fun i hi => ?_⟩⟩
  obtain rfl : i = 0 := by omega
  exact ⟨b0, b1, b2, b3, b4, h.below (low_alloc w _) (Nat.le_refl _)⟩
theorem part_recs {w : World} {g N : Nat} {R : Nat → Rcm} {D : Nat → List Int} (h : Recs w (some ⟨g, 0, none⟩) N N R D) (K : Nat) (hK : K < N) : Recs w (some ⟨g, K * 5, none⟩) 1 (N - K) (fun _ => R K) (fun _ => D K) := by
  obtain ⟨b, off, e, hc⟩ := h.at (by omega)
  simp only [Option.some.injEq, Addr.mk.injEq, and_true] at e
  obtain ⟨rfl, rfl⟩ := e
  have hh := hc K hK
  rw [Nat.zero_add] at hh
  refine ⟨by omega, .inr ⟨g, K * 5, rfl, cell_lt hh.1, fun i hi => ?_⟩⟩
  obtain rfl : i = 0 := by omega
  rw [Nat.zero_mul, Nat.add_zero]
  exact hh
theorem one_same (x y : Rcm) (xs ys : List Int) : recsB 1 1 (fun _ => x) (fun _ => y) (fun _ => xs) (fun _ => ys) = recB x y xs ys := by
  unfold recsB
  rw [decide_eq_true rfl, Bool.true_and]
  simp [List.range_succ]
/-- Of a list with one bent record the first that is not as it was made is that one, or there is none. -/
theorem first_bent {c : Cfg} {n : Nat} {DI DO : Nat → List Int} {m : Nat} {R : Nat → Rcm} (h : JrN m R (mkRV c) (mkRO c n DI DO) (mkCH c n DI DO)) (x : Rcm) (xs : List Int) {K : Nat} (hK : K < m) :
    firstNo (auB c n DI DO (bentR R K x) (bentD (jrBatch c n) K xs)) m = if recB x (R K) xs (jrBatch c n K) = true then m else K := by
  have hne : ∀ j, j < m → j ≠ K → auB c n DI DO (bentR R K x) (bentD (jrBatch c n) K xs) j = true := fun j hj e => by
    have h1 := auB_own h hj
    unfold auB at h1 ⊢
    unfold bentR bentD
    rw [if_neg e, if_neg e]
    exact h1
  have heq : auB c n DI DO (bentR R K x) (bentD (jrBatch c n) K xs) K = recB x (R K) xs (jrBatch c n K) := by
    rw [auB_is h _ _ hK]
    unfold bentR bentD
    rw [if_pos rfl, if_pos rfl]
  by_cases hr : recB x (R K) xs (jrBatch c n K) = true
  · rw [if_pos hr]
    refine firstNo_eq _ m m (Nat.le_refl _) (fun j hj => ?_) (fun h => by omega)
    by_cases e : j = K
    · subst e; rw [heq]; exact hr
    · exact hne j hj e
  · rw [if_neg hr]
    refine firstNo_eq _ m K (by omega) (fun j hj => hne j (by omega) (by omega)) (fun _ => ?_)
    rw [heq]
    exact Bool.not_eq_true _ ▸ hr

end Go.Proofs.YtkikhfdkibekgaaGreat.Fx
