/- SpotSays holds: whatever config, examples, number, word, state and record are handed in, it returns true: Prove and Holds of package spot answer what the document says, and what was handed in stays as it was; no condition. -/
import Derived.Test.YtimciamfgpdjlaaGreatJ19
import Derived.Test.YtimciamfgpdjlaaGreatJ37
import Derived.Test.YtimciamfgpdjlaaGreatJ26
import Derived.Test.YtimciamfgpdjlaaGreatJ00
import Derived.Deep.DeepCutAuto
import Derived.Deep.CutBlock
import Derived.Test.YtimciamfgpdjlaaGreatJ22
import Derived.Test.YtimciamfgpdjlaaGreatJ06
import Derived.Test.YtimciamfgpdjlaaGreatJ29
import Derived.WalkKit
namespace Go.Proofs.YtimciamfgpdjlaaGreat.Fx
open Go.RowKit

theorem rstates_any (c : Cfg) (hs : okW c.seed) (a : Option Addr) (n cap : Nat) (X : Nat → Exm) (DI DO : Nat → List Int) (M : Nat) (q : World) (HX : Exs q a n cap X DI DO) (hF : courseI c n X DI DO = 0) (hm : (M : Int) ≤ c.steps) :
    Calls Tryz.prog 11 #[c.val, .slice a n cap, .int .i64 M] q fun e w' => ∃ b k Y, e = .returned (.slice b (M + 1) k) ∧ Exs w' b (M + 1) k Y (stW c n DI DO) (stM c n DI DO) ∧ Below q.heap.size q w' := by
  obtain ⟨hc, hn1, hn2, hex⟩ := course_ok hF
  obtain ⟨⟨i1, i2⟩, ⟨h1, h2⟩, ⟨o1, o2⟩, ⟨b1, b2⟩, _⟩ := cfgB_is hc
  have hzn := sizeN_bd hc
  obtain ⟨N, hNz⟩ := Int.eq_ofNat_of_zero_le (show 0 ≤ sizeN c by omega)
  have hNt : (sizeN c).toNat = N := by rw [hNz]; rfl
  unfold stW stM
  rw [hNt]
  obtain ⟨i, h, o, seed, batch, steps, crate, decay, how, keep, clip⟩ := c
  dsimp only at i1 i2 h1 h2 o1 o2 b1 b2 hs hm
  obtain ⟨I, rfl⟩ := Int.eq_ofNat_of_zero_le (show 0 ≤ i by omega)
  obtain ⟨H, rfl⟩ := Int.eq_ofNat_of_zero_le (show 0 ≤ h by omega)
  obtain ⟨O, rfl⟩ := Int.eq_ofNat_of_zero_le (show 0 ≤ o by omega)
  obtain ⟨B, rfl⟩ := Int.eq_ofNat_of_zero_le (show 0 ≤ batch by omega)
  have hN : N = H * I + H + O * H + O := by have := hNz.symm; unfold sizeN at this; dsimp only at this; exact_mod_cast this
  exact rstates_calls I H O B seed crate decay how keep clip hs steps hc N hN a n cap X DI DO M q HX hn1 hn2 hex (by omega)
theorem dec_turn {α : Type} [DecidableEq α] (a b : α) : decide (a = b) = decide (b = a) := by rw [decide_eq_decide]; exact eq_comm
theorem likeB_turn (x y : Rcm) (xs ys : List Int) : likeB x y xs ys = likeB y x ys xs := by
  unfold likeB
  rw [dec_turn x.s y.s, dec_turn x.r y.r, dec_turn x.root y.root, dec_turn xs ys]

set_option maxRecDepth 100000 in
set_option maxHeartbeats 3200000 in
theorem spotSays_core (c : Cfg) (hs : okW c.seed) (a : Option Addr) (n cap : Nat) (X : Nat → Exm) (DI DO : Nat → List Int) (step root : Int) (hrt : okW root) (a1 : Option Addr) (n1 k1 : Nat) (ws : List Int) (a2 : Option Addr) (n2 k2 : Nat) (ms : List Int) (x : Rcm) (xs : List Int) (w : World) (hx : Exs w a n cap X DI DO) (l1 : Lst w a1 n1 k1 ws) (l2 : Lst w a2 n2 k2 ms) (lx : Lst w x.a x.n x.k xs) (hn12 : n1 + n2 ≤ 4611686018427387904) (hxn : x.n ≤ 9223372036854775807) (HPS : ProveSays) (HHS : HoldsSays) :
    Calls Tryz.prog 3 #[c.val, .slice a n cap, .int .i64 step, .int .u64 root, .agg #[.slice a1 n1 k1, .slice a2 n2 k2], x.val] w fun e w' => e = .returned (.bool true) ∧ Below w.heap.size w w' := by
  have sp0 := SpBox.start w c (.slice a1 n1 k1) (.slice a2 n2 k2) x
  have CK := rcourse_calls c a n cap X DI DO _ (hx.below sp0.bel (Nat.le_refl _))
  have HIN : Hid (∀ q, Calls Tryz.prog 10 #[.int .i64 step, .int .i64 0, .int .i64 (c.steps - 1)] q fun e w' => e = .returned (.bool (inB step 0 (c.steps - 1))) ∧ w' = q) := fun q => rin_calls step 0 (c.steps - 1) q
  have HC1 : Hid (courseI c n X DI DO = 0 → 1 ≤ c.steps ∧ c.steps ≤ 40) := fun hF => by
    obtain ⟨_, _, _, _, p, _⟩ := cfgB_is (course_ok hF).1
    exact p
  have HPR : Hid (∀ q, Below w.heap.size w q → Calls Tryz.prog 12 #[c.val, .slice a n cap, .int .i64 step] q fun e w' => ∃ b1 m1 d1 b2 m2 d2, e = .returned (.tuple #[.agg #[.slice b1 m1 d1, .slice b2 m2 d2], .int .i64 (prE c n X DI DO step)]) ∧ m1 ≤ 200 ∧ m2 ≤ 200 ∧ Lst w' b1 m1 d1 (prW c n X DI DO step) ∧ Lst w' b2 m2 d2 (prM c n X DI DO step) ∧ Below q.heap.size q w') := fun q hq => HPS c hs a n cap X DI DO step q (hx.below hq (Nat.le_refl _))
  have HHO : Hid (∀ q, Below w.heap.size w q → Calls Tryz.prog 18 #[c.val, .slice a n cap, .int .i64 step, .int .u64 root, .agg #[.slice a1 n1 k1, .slice a2 n2 k2], x.val] q fun e w' => e = .returned (.tuple #[.bool (hoB c n X DI DO n1 ws n2 ms step root x xs), .int .i64 (nextE c n X DI DO n1 ws n2 ms step)]) ∧ Below q.heap.size q w') := fun q hq => HHS c hs a n cap X DI DO a1 n1 k1 ws a2 n2 k2 ms step root x xs q hrt (hx.below hq (Nat.le_refl _)) (l1.below hq (Nat.le_refl _)) (l2.below hq (Nat.le_refl _)) (lx.below hq (Nat.le_refl _)) hn12 hxn
  have HNE : Hid (∀ q, Below w.heap.size w q → Calls Tryz.prog 14 #[c.val, .slice a n cap, .agg #[.slice a1 n1 k1, .slice a2 n2 k2], .int .i64 step] q fun e w' => e = .returned (.int .i64 (nextE c n X DI DO n1 ws n2 ms step)) ∧ Below q.heap.size q w') := fun q hq => nextError_calls c a n cap X DI DO a1 n1 k1 ws a2 n2 k2 ms step q (hx.below hq (Nat.le_refl _)) (l1.below hq (Nat.le_refl _)) (l2.below hq (Nat.le_refl _))
  have HNX : Hid (nextE c n X DI DO n1 ws n2 ms step = 0 → ∀ q, Below w.heap.size w q → Calls Tryz.prog 15 #[c.val, .slice a n cap, .agg #[.slice a1 n1 k1, .slice a2 n2 k2], .int .i64 step] q fun e w' => ∃ ga M d1 gb d2 a3 m3 k3, e = .returned (.tuple #[.agg #[.slice (some ⟨ga, 0, none⟩) M d1, .slice (some ⟨gb, 0, none⟩) M d2], .agg #[.int .i64 step, .slice a3 m3 k3, .int .i64 (nxR c n X DI DO n1 ws n2 ms step), .int .u64 (nxZ c n X DI DO n1 ws n2 ms step), .int .u64 0]]) ∧ m3 ≤ 200 ∧ Lst w' a3 m3 k3 (nxB c n X DI DO n1 ws n2 ms step) ∧ Below q.heap.size q w') := fun hz q hq => by
    refine (rnext_any c hs a n cap X DI DO a1 n1 k1 ws a2 n2 k2 ms step q (hx.below hq (Nat.le_refl _)) (l1.below hq (Nat.le_refl _)) (l2.below hq (Nat.le_refl _)) hz).mono ?_
    rintro e w' ⟨ga, M, d1, gb, d2, a3, m3, k3, he, l3, hb⟩
    obtain ⟨hF, _, _, _⟩ := nextE_ok hz
    obtain ⟨_, _, _, ⟨b1, b2⟩, _⟩ := cfgB_is (course_ok hF).1
    have hl := l3.len
    unfold nxB at hl
    rw [if_pos hz] at hl
    have h8 : (batchP c.seed c.batch.toNat n (step.toNat * c.batch.toNat)).length = c.batch.toNat := by unfold batchP; simp
    exact ⟨ga, M, d1, gb, d2, a3, m3, k3, he, by omega, l3, hb⟩
  have HRT : Hid (nextE c n X DI DO n1 ws n2 ms step = 0 → ∀ q, Below w.heap.size w q → Calls Tryz.prog 16 #[.agg #[.slice a1 n1 k1, .slice a2 n2 k2]] q fun e w' => e = .returned (.int .u64 (rootV n1 ws n2 ms)) ∧ Below q.heap.size q w') := fun hz q hq => by
    obtain ⟨hF, f1, f2, _⟩ := nextE_ok hz
    have hc := (course_ok hF).1
    have hzn := sizeN_bd hc
    have g1 := (fit_len hc f1).1
    have g2 := (fit_len hc f2).1
    have hE : rootE n1 n2 = 0 := by unfold rootE; rw [if_neg (by omega), if_neg (by omega)]
    unfold rootV
    rw [if_pos hE]
    exact rroot_any a1 n1 k1 ws a2 n2 k2 ms q (l1.below hq (Nat.le_refl _)) (l2.below hq (Nat.le_refl _)) (by omega) (by omega)
  have HLK : Hid (∀ (r : Rcm) q, Below w.heap.size w q → r.s = step → r.r = nxR c n X DI DO n1 ws n2 ms step → r.root = nxZ c n X DI DO n1 ws n2 ms step → r.n ≤ 200 → Lst q r.a r.n r.k (nxB c n X DI DO n1 ws n2 ms step) → Calls Tryz.prog 17 #[r.val, x.val] q fun e w' => e = .returned (.bool (jgB c n X DI DO n1 ws n2 ms step x xs)) ∧ Below q.heap.size q w') := fun r q hq e1 e2 e3 h2 lr => by
    have h := rlike_big r x _ xs q lr (lx.below hq (Nat.le_refl _)) (by omega)
    have e : likeB r x (nxB c n X DI DO n1 ws n2 ms step) xs = jgB c n X DI DO n1 ws n2 ms step x xs := by rw [likeB_turn]; simp only [jgB, likeB, e1, e2, e3]
    rw [e] at h
    exact h
  have HHB : Hid (hoB c n X DI DO n1 ws n2 ms step root x xs = if nextE c n X DI DO n1 ws n2 ms step = 0 then (decide (rootV n1 ws n2 ms = root % 2305843009213693951) && jgB c n X DI DO n1 ws n2 ms step x xs) else false) := rfl
  have HQ1 : Hid ((decide (courseI c n X DI DO = 0) && !inB step 0 (c.steps - 1)) = true → prE c n X DI DO step = 1) := fun h => by
    simp only [Bool.and_eq_true, decide_eq_true_eq, Bool.not_eq_true'] at h
    unfold prE; rw [if_pos h.1, h.2]; rfl
  have HQ2 : Hid ((decide (courseI c n X DI DO = 0) && !inB step 0 (c.steps - 1)) = false → prE c n X DI DO step = courseI c n X DI DO) := fun h => by
    by_cases h0 : courseI c n X DI DO = 0
    · rw [decide_eq_true h0, Bool.true_and, Bool.not_eq_false'] at h
      unfold prE; rw [if_pos h0, if_pos h, h0]
    · unfold prE; rw [if_neg h0]
  have HPZ : Hid (prE c n X DI DO step ≠ 0 → prW c n X DI DO step = [] ∧ prM c n X DI DO step = []) := fun h => ⟨by unfold prW; rw [if_neg h], by unfold prM; rw [if_neg h]⟩
  have HPG : Hid (prE c n X DI DO step = 0 → ∃ T : Nat, step = (T : Int) ∧ T ≤ 40 ∧ prW c n X DI DO step = stW c n DI DO T ∧ prM c n X DI DO step = stM c n DI DO T ∧ ∀ q, Below w.heap.size w q → Calls Tryz.prog 11 #[c.val, .slice a n cap, .int .i64 T] q fun e w' => ∃ b k Y, e = .returned (.slice b (T + 1) k) ∧ Exs w' b (T + 1) k Y (stW c n DI DO) (stM c n DI DO) ∧ Below q.heap.size q w') := fun hz => by
    obtain ⟨hF, hi⟩ := prE_ok hz
    have hlow := in_is hi
    obtain ⟨_, _, _, _, p, _⟩ := cfgB_is (course_ok hF).1
    obtain ⟨T, hT⟩ := Int.eq_ofNat_of_zero_le hlow.1
    obtain ⟨_, e1, e2⟩ := prE_in hF hi
    rw [hT] at e1 e2
    exact ⟨T, hT, by omega, by rw [hT]; exact e1, by rw [hT]; exact e2, fun q hq => rstates_any c hs a n cap X DI DO T q (hx.below hq (Nat.le_refl _)) hF (by omega)⟩
  generalize hoB c n X DI DO n1 ws n2 ms step root x xs = HO at *
  generalize jgB c n X DI DO n1 ws n2 ms step x xs = QA at *
  generalize rootV n1 ws n2 ms = RV at *
  generalize nxR c n X DI DO n1 ws n2 ms step = NR at *
  generalize nxZ c n X DI DO n1 ws n2 ms step = NZ at *
  generalize nxB c n X DI DO n1 ws n2 ms step = NB at *
  generalize nextE c n X DI DO n1 ws n2 ms step = NE at *
  generalize prE c n X DI DO step = PE at *
  generalize prW c n X DI DO step = PW at *
  generalize prM c n X DI DO step = PM at *
  generalize stW c n DI DO = SW at *
  generalize stM c n DI DO = SM at *
  generalize courseI c n X DI DO = F at *
  generalize inB step 0 (c.steps - 1) = IB at *
  obtain ⟨r0, r1⟩ := hrt
  clear HPS HHS hx l1 l2 lx hs hn12 hxn
  obtain ⟨W0, HW0⟩ : ∃ q, Hid (q = ((w.alloc (.cells c.cells 24)).alloc (.cells #[.slice a1 n1 k1, .slice a2 n2 k2] 28)).alloc (.cells x.cells 30)) := ⟨_, rfl⟩
  rw [← HW0.out] at sp0 CK
  obtain ⟨i, h, o, seed, batch, steps, crate, decay, how, keep, clip⟩ := c
  obtain ⟨xs0, xa, xn, xk, xr, xroot, xchain⟩ := x
  simp only [Cfg.val, Cfg.cells, Rcm.val, Rcm.cells] at *
  obtain ⟨c0, c1, c2, c3, c4, c5, c6, c7, c8, c9, c10⟩ := sp0.cfg
  dsimp only at c0 c1 c2 c3 c4 c5 c6 c7 c8 c9 c10
  go_enter Tryz.func3, Tryz.ntmps3
  go_upto_region 1 with fail
  rw [← HW0.out]
  clear HW0
  obtain ⟨QX, HQX⟩ : ∃ q, Hid ((decide (F = 0) && !IB) = q) := ⟨_, rfl⟩
  rw [HQX.out] at HQ1 HQ2
  go_wp2_with fail
  refine CK.mono ?_
  rintro e u1 ⟨rfl, hu1⟩
  have sp1 := sp0.below hu1
  clear CK c0 c1 c2 c3 c4 c5 c6 c7 c8 c9 c10 sp0 hu1
  obtain ⟨c0, c1, c2, c3, c4, c5, c6, c7, c8, c9, c10⟩ := sp1.cfg
  dsimp only at c0 c1 c2 c3 c4 c5 c6 c7 c8 c9 c10
  go_upto_region 2 with fail
  go_cut [33] (fun v q => v = .bool QX ∧ q = u1)
  case first =>
    clear HHO HNE HNX HRT HLK HHB HPZ HPG HPR HQ1 HQ2
    by_cases hF : F = 0
    · obtain ⟨s1, s2⟩ := HC1.out hF
      subst hF
      go_wp2_with fail
      refine (HIN.out _).mono ?_
      rintro e u9 ⟨rfl, hu9⟩
      replace hu9 := hu9.symm
      subst hu9
      cases IB with
      | false =>
        go_wp2_with fail
        go_meet
        case rel => exact ⟨by rw [← HQX.out]; rfl, rfl⟩
      | true =>
        go_wp2_with fail
        go_meet
        case rel => exact ⟨by rw [← HQX.out]; rfl, rfl⟩
    · have hFn : (F == 0) = false := by rw [beq_eq_false_iff_ne]; exact hF
      have hq : QX = false := by rw [← HQX.out, decide_eq_false hF]; rfl
      subst hq
      clear HQX hF
      go_wp2_with fail
      go_meet
      case rel => exact ⟨rfl, rfl⟩
  case rest =>
  obtain ⟨rfl, hwc⟩ := hcut
  replace hwc := hwc.symm
  subst hwc
  clear HQX HIN HC1
  go_upto_if 33 with fail
  go_cut [13] (fun v q => v = .int .i64 PE ∧ q = u1)
  case first =>
    clear HHO HNE HNX HRT HLK HHB HPZ HPG HPR
    cases QX with
    | false =>
      have hq := HQ2.out (by trivial)
      subst hq
      go_wp2_with fail
      go_meet
      case rel => exact ⟨rfl, rfl⟩
    | true =>
      have hq := HQ1.out (by trivial)
      subst hq
      go_wp2_with fail
      go_meet
      case rel => exact ⟨rfl, rfl⟩
  case rest =>
  obtain ⟨rfl, hwc⟩ := hcut
  replace hwc := hwc.symm
  subst hwc
  clear HQ1 HQ2
  have halw := low_alloc u1 (.cells #[.slice none 0 0, .slice none 0 0] 28)
  have wrow := fn2_alloc u1 (.slice none 0 0) (.slice none 0 0) 28
  have spz := sp1.below halw
  clear c0 c1 c2 c3 c4 c5 c6 c7 c8 c9 c10
  obtain ⟨c0, c1, c2, c3, c4, c5, c6, c7, c8, c9, c10⟩ := spz.cfg
  dsimp only at c0 c1 c2 c3 c4 c5 c6 c7 c8 c9 c10
  go_upto_if 35 with fail
  go_cut [14] (fun v q => v = .pointer (some ⟨u1.heap.size, 0, none⟩) ∧ SpBox w ⟨i, h, o, seed, batch, steps, crate, decay, how, keep, clip⟩ (.slice a1 n1 k1) (.slice a2 n2 k2) ⟨xs0, xa, xn, xk, xr, xroot, xchain⟩ q ∧ ∃ wa wn wk wb wm wt, q.rowIs u1.heap.size 28 2 (fn2 (.slice wa wn wk) (.slice wb wm wt)) ∧ Lst q wa wn wk PW ∧ Lst q wb wm wt PM)
  case first =>
    clear HHO HNE HNX HRT HLK HHB HPR
    by_cases hE : PE = 0
    · obtain ⟨T, hT, hT40, hPW, hPM, ST⟩ := HPG.out hE
      have ST1 := ST _ spz.bel
      clear ST HPG HPZ
      subst hT hPW hPM hE
      go_wp2_with fail
      refine ST1.mono ?_
      rintro e v2 ⟨sb, sk, Y, rfl, hY, hv2⟩
      obtain ⟨yb, yo, rfl, y0, y1, hin⟩ := hY.at (i := T) (by omega)
      have hv3 := halw.trans (hv2.mono halw.size)
      have wrow2 := wrow.of_block (hv2.block _ wrow.lt)
      obtain ⟨z0, z1⟩ := fn2_cells wrow2
      have f0 := wrow2.frozen 0
      have f1 := wrow2.frozen 1
      obtain ⟨y, hy⟩ : ∃ y, Y T = y := ⟨_, rfl⟩
      rw [hy] at y0 y1 hin
      obtain ⟨ya, yn, yk, yb2, ym, yt⟩ := y
      dsimp only at y0 y1
      have kT : (T : Int) < ((T + 1 : Nat) : Int) := by omega
      have kT2 : (T : Int) < (T : Int) + 1 := by omega
      have k0 : (0 : Int) ≤ (T : Int) := by omega
      clear ST1 hY hy
      clear c0 c1 c2 c3 c4 c5 c6 c7 c8 c9 c10
      go_wp2_with fail
      go_meet
      case rel =>
        have hin1 := hin.i.setOff z0 (.slice ya yn yk)
        have hin2 := hin.o.setOff z0 (.slice ya yn yk)
        have st1 := wrow2.set 0 (.slice ya yn yk)
        have z1' : (v2.setCell ⟨u1.heap.size, 0, none⟩ (.slice ya yn yk)).cell? ⟨u1.heap.size, 1, none⟩ = some (.slice none 0 0) := st1.cell (i := 1) (by omega)
        exact ⟨rfl, sp1.below ((hv3.setCell (Nat.le_refl _) _).setCell (Nat.le_refl _) _), ya, yn, yk, yb2, ym, yt, fn2_set wrow2 _ _, hin1.setOff z1' _, hin2.setOff z1' _⟩
    · have hEn : (PE == 0) = false := by rw [beq_eq_false_iff_ne]; exact hE
      obtain ⟨hPW, hPM⟩ := HPZ.out hE
      subst hPW hPM
      clear HPG HPZ hE
      go_wp2_with fail
      go_meet
      case rel => exact ⟨rfl, spz, none, 0, 0, none, 0, 0, wrow, Lst.nil _ _ _, Lst.nil _ _ _⟩
  case rest =>
  clear spz wrow halw HPG HPZ sp1
  clear c0 c1 c2 c3 c4 c5 c6 c7 c8 c9 c10
  obtain ⟨rfl, spq, wa, wn, wk, wb, wm, wt, wrow, la, lb⟩ := hcut
  have PR := HPR.out _ spq.bel
  obtain ⟨c0, c1, c2, c3, c4, c5, c6, c7, c8, c9, c10⟩ := spq.cfg
  dsimp only at c0 c1 c2 c3 c4 c5 c6 c7 c8 c9 c10
  go_wp2_with fail
  refine PR.mono ?_
  rintro e u2 ⟨b1, m1, d1, b2, m2, d2, rfl, hm1, hm2, lp1, lp2, hu2⟩
  have hal := low_alloc u2 (.cells #[.slice b1 m1 d1, .slice b2 m2 d2] 28)
  have hu3 := hu2.trans (hal.mono hu2.size)
  have sp3 := spq.below hu3
  have prow := fn2_alloc u2 (.slice b1 m1 d1) (.slice b2 m2 d2) 28
  have wrow3 := wrow.of_block (hu3.block _ wrow.lt)
  have SS := rsameS_any b1 m1 d1 b2 m2 d2 _ _ _ _ _ _ _ _ _ _ _ (lp1.below hal (Nat.le_refl _)) (lp2.below hal (Nat.le_refl _)) (la.below hu3 (Nat.le_refl _)) (lb.below hu3 (Nat.le_refl _)) hm1 hm2
  rw [decide_eq_true rfl, decide_eq_true rfl] at SS
  obtain ⟨p0, p1⟩ := fn2_cells prow
  obtain ⟨z0, z1⟩ := fn2_cells wrow3
  clear PR lp1 lp2 prow wrow3 wrow spq la lb
  clear c0 c1 c2 c3 c4 c5 c6 c7 c8 c9 c10
  have hpe : (PE != PE) = false := by simp
  go_wp2_with fail
  refine SS.mono ?_
  rintro e u4 ⟨rfl, hu4⟩
  have sp4 := sp3.below hu4
  clear sp3 SS p0 p1 z0 z1
  obtain ⟨c0, c1, c2, c3, c4, c5, c6, c7, c8, c9, c10⟩ := sp4.cfg
  dsimp only at c0 c1 c2 c3 c4 c5 c6 c7 c8 c9 c10
  obtain ⟨s0, s1⟩ := fn2_cells sp4.st
  have NX1 := HNE.out _ sp4.bel
  clear HNE HPR
  go_wp2_with fail
  refine NX1.mono ?_
  rintro e u5 ⟨rfl, hu5⟩
  have sp5 := sp4.below hu5
  clear NX1 sp4 c0 c1 c2 c3 c4 c5 c6 c7 c8 c9 c10 s0 s1
  obtain ⟨c0, c1, c2, c3, c4, c5, c6, c7, c8, c9, c10⟩ := sp5.cfg
  dsimp only at c0 c1 c2 c3 c4 c5 c6 c7 c8 c9 c10
  obtain ⟨s0, s1⟩ := fn2_cells sp5.st
  obtain ⟨x0, x1, x2, x3, x4⟩ := fn5_box sp5.ra
  by_cases hE : NE = 0
  rotate_left
  · have hEn : (NE == 0) = false := by rw [beq_eq_false_iff_ne]; exact hE
    have hHO : HO = false := by rw [HHB.out, if_neg hE]
    subst hHO
    have HO1 := HHO.out _ sp5.bel
    have hb2 := sp5.bel
    clear HHO HNX HRT HLK HHB hE sp5
    go_wp2_with fail
    refine HO1.mono ?_
    rintro e u6 ⟨rfl, hu6⟩
    go_wp2_with fail
    go_ret
    exact ⟨by simp, hb2.trans (hu6.mono hb2.size)⟩
  subst hE
  have hHO : HO = (decide (RV = root % 2305843009213693951) && QA) := by rw [HHB.out, if_pos rfl]
  subst hHO
  have NX2 := HNX.out (by trivial) _ sp5.bel
  have RT0 := HRT.out (by trivial)
  have RT1 : Hid (∀ q, Below w.heap.size w q → Calls Tryz.prog 16 #[.agg #[.slice a1 n1 k1, .slice a2 n2 k2]] q fun e w' => e = .returned (.int .u64 RV) ∧ Below q.heap.size q w') := RT0
  clear HNX HRT HHB RT0
  go_wp2_with fail
  refine NX2.mono ?_
  rintro e u6 ⟨ga, M, e1, gb, e2, a3, m3, k3, rfl, hm3, l3, hu6⟩
  have sp6 := sp5.below hu6
  clear NX2 sp5 c0 c1 c2 c3 c4 c5 c6 c7 c8 c9 c10 s0 s1 x0 x1 x2 x3 x4
  have hal6 := (low_alloc u6 (.cells #[.slice (some ⟨ga, 0, none⟩) M e1, .slice (some ⟨gb, 0, none⟩) M e2] 28)).trans ((low_alloc (u6.alloc (.cells #[.slice (some ⟨ga, 0, none⟩) M e1, .slice (some ⟨gb, 0, none⟩) M e2] 28)) (.cells #[.int .i64 step, .slice a3 m3 k3, .int .i64 NR, .int .u64 NZ, .int .u64 0] 30)).mono (low_alloc u6 (.cells #[.slice (some ⟨ga, 0, none⟩) M e1, .slice (some ⟨gb, 0, none⟩) M e2] 28)).size)
  have orow := fn5_alloc (u6.alloc (.cells #[.slice (some ⟨ga, 0, none⟩) M e1, .slice (some ⟨gb, 0, none⟩) M e2] 28)) (.int .i64 step) (.slice a3 m3 k3) (.int .i64 NR) (.int .u64 NZ) (.int .u64 0) 30
  have esz : (u6.alloc (.cells #[.slice (some ⟨ga, 0, none⟩) M e1, .slice (some ⟨gb, 0, none⟩) M e2] 28)).heap.size = u6.heap.size + 1 := by simp
  rw [esz] at orow
  have sp7 := sp6.below hal6
  have l4 := l3.below hal6 (Nat.le_refl _)
  obtain ⟨s0, s1⟩ := fn2_cells sp7.st
  have RT2 := RT1.out _ sp7.bel
  clear sp6 RT1 l3
  go_wp2_with fail
  refine RT2.mono ?_
  rintro e u7 ⟨rfl, hu7⟩
  have sp8 := sp7.below hu7
  have l5 := l4.below hu7 (Nat.le_refl _)
  have LK := HLK.out ⟨step, a3, m3, k3, NR, NZ, 0⟩ _ sp8.bel rfl rfl rfl hm3 l5
  dsimp only at LK
  have orow2 := orow.of_block (hu7.block _ orow.lt)
  clear RT2 sp7 l4 s0 s1 orow HLK
  obtain ⟨o0, o1, o2, o3, o4⟩ := fn5_box orow2
  obtain ⟨x0, x1, x2, x3, x4⟩ := fn5_box sp8.ra
  obtain ⟨c0, c1, c2, c3, c4, c5, c6, c7, c8, c9, c10⟩ := sp8.cfg
  dsimp only at c0 c1 c2 c3 c4 c5 c6 c7 c8 c9 c10
  obtain ⟨s0, s1⟩ := fn2_cells sp8.st
  have KH : Hid (SpBox w ⟨i, h, o, seed, batch, steps, crate, decay, how, keep, clip⟩ (.slice a1 n1 k1) (.slice a2 n2 k2) ⟨xs0, xa, xn, xk, xr, xroot, xchain⟩ u7) := sp8
  obtain ⟨RM, HRM⟩ : ∃ t, Hid (root % 2305843009213693951 = t) := ⟨_, rfl⟩
  have tm : root.tmod 2305843009213693951 = RM := by rw [← HRM.out, Int.tmod_eq_emod_of_nonneg r0]
  have em : root % 2305843009213693951 = RM := HRM.out
  rw [em] at HHO
  by_cases hR : RV = RM
  · have q1 : (RV == RM) = true := by rw [beq_iff_eq]; exact hR
    rw [decide_eq_true hR, Bool.true_and] at HHO
    clear hR sp8
    go_wp2_with fail
    refine LK.mono ?_
    rintro e u8 ⟨rfl, hu8⟩
    have sp9 := KH.out.below hu8
    clear LK KH o0 o1 o2 o3 o4 x0 x1 x2 x3 x4 s0 s1 c0 c1 c2 c3 c4 c5 c6 c7 c8 c9 c10 orow2
    obtain ⟨c0, c1, c2, c3, c4, c5, c6, c7, c8, c9, c10⟩ := sp9.cfg
    dsimp only at c0 c1 c2 c3 c4 c5 c6 c7 c8 c9 c10
    obtain ⟨s0, s1⟩ := fn2_cells sp9.st
    obtain ⟨x0, x1, x2, x3, x4⟩ := fn5_box sp9.ra
    have HO1 := HHO.out _ sp9.bel
    have hb9 := sp9.bel
    clear HHO sp9
    go_wp2_with fail
    refine HO1.mono ?_
    rintro e u9 ⟨rfl, hu9⟩
    have qq : (QA == QA) = true := by simp
    go_wp2_with fail
    go_ret
    exact ⟨by simp, hb9.trans (hu9.mono hb9.size)⟩
  · have q1 : (RV == RM) = false := by rw [beq_eq_false_iff_ne]; exact hR
    rw [decide_eq_false hR, Bool.false_and] at HHO
    have HO1 := HHO.out _ sp8.bel
    have hb8 := sp8.bel
    clear hR HHO LK KH sp8
    go_wp2_with fail
    refine HO1.mono ?_
    rintro e u9 ⟨rfl, hu9⟩
    go_wp2_with fail
    go_ret
    exact ⟨by simp, hb8.trans (hu9.mono hb8.size)⟩
end Go.Proofs.YtimciamfgpdjlaaGreat.Fx

/- SpotSays returns true, whatever is handed in. -/
namespace Go.Proofs.YtimciamfgpdjlaaGreat.Fx
open Go.RowKit

theorem spotSays_any (c : Cfg) (a : Option Addr) (n cap : Nat) (X : Nat → Exm) (DI DO : Nat → List Int) (step root : Int) (x : Exm) (ws ms : List Int) (r : Rcm) (bs : List Int) (w : World) (hs : (Lit.int .u64 c.seed).wf = true) (hx : Exs w a n cap X DI DO) (_ : (Lit.int .i64 step).wf = true) (hrt : okW root) (l : InEx w x ws ms) (hr : RecIn w r bs) (hz : x.n * 8 ≤ 140737488351232 ∧ x.m * 8 ≤ 140737488351232) :
    Calls Tryz.prog 3 #[c.val, .slice a n cap, .int .i64 step, .int .u64 root, x.val, r.val] w fun e w' => e = .returned (.bool true) ∧ Below w.heap.size w w' :=
  spotSays_core c (wf_word hs) a n cap X DI DO step root hrt x.a x.n x.k ws x.b x.m x.t ms r bs w hx l.i l.o hr.l (by omega) (Nat.le_trans hr.n (by decide)) prove_says holds_says
end Go.Proofs.YtimciamfgpdjlaaGreat.Fx

/- SpotSays holds: whatever config, examples, number, word, state and record are handed in, it returns true: Prove and Holds of package spot answer what the document says, and what was handed in stays as it was; no condition. -/
namespace Go.Proofs.YtimciamfgpdjlaaGreat.spotSays
open Go.ChangeShapes Go.WideShapes Go.ChangeAt Go.RowKit
set_option linter.unusedVariables false

set_option maxRecDepth 100000 in
theorem lifted (os : Os) (started : os.Started) (H : Type) (enc : TypeId × Value → H) :
    ReturnsInHanded {} Tryz.checked os 3 .any (Rows.spotSaysSpec.pre6 enc Tryz.prog Tryz.f3 Rows.spotSaysRow.domain false) (Rows.spotSaysSpec.post enc Tryz.prog Tryz.f3 false true false false) := by
  refine returnsInHanded_of_change_sized (C := Tryz.checked) Fx.own started (by kernel_rfl) Tryz.func3
    (ChangeSpec.witness6 (enc := enc) (C := Tryz.checked) false ⟨#[], #[.agg #[.int .i64 0, .int .i64 0, .int .i64 0, .int .u64 0, .int .i64 0, .int .i64 0, .int .i64 0, .int .i64 0, .int .i64 0, .int .i64 0, .int .i64 0], .slice none 0 0, .int .i64 0, .int .u64 0, .agg #[.slice none 0 0, .slice none 0 0], .agg #[.int .i64 0, .slice none 0 0, .int .i64 0, .int .u64 0, .int .u64 0]], []⟩ 8 (by kernel_rfl) (by kernel_rfl) (by kernel_rfl) (by kernel_rfl)) ?_
  intro W base args ds gs before hval0 hW hcnd hsz0 _
  have hval : ∀ (j : Nat) t v, Tryz.f3.params[j]? = some t → args[j]? = some v → Value.okWide Tryz.prog W .any base t v := hval0
  have hW' := hW
  obtain ⟨p, q, hA0, hV, rfl, hfz, hnd⟩ := hW
  have hA : DataW.TrodAll enc Tryz.prog W 0 (fun _ => true) true Tryz.f3.params.toList args.toList ds p := hA0
  have hsz : (DataW.weightsEach Tryz.prog (Tryz.f3.params.toList ++ Rows.spotSaysSpec.plain.varTypes Tryz.prog) (ds ++ gs)).all (· ≤ reachBytes) = true := hsz0
  rw [Tryz.params3] at hA hval hsz
  obtain ⟨v0, vs0, d0, ds0, p0, q0, hargs, rfl, rfl, h0, r0⟩ := trodAll_cons hA
  obtain ⟨v1, vs1, d1, ds1, p1, q1, rfl, rfl, rfl, h1, r1⟩ := trodAll_cons r0
  obtain ⟨v2, vs2, d2, ds2, p2, q2, rfl, rfl, rfl, h2, r2⟩ := trodAll_cons r1
  obtain ⟨v3, vs3, d3, ds3, p3, q3, rfl, rfl, rfl, h3, r3⟩ := trodAll_cons r2
  obtain ⟨v4, vs4, d4, ds4, p4, q4, rfl, rfl, rfl, h4, r4⟩ := trodAll_cons r3
  obtain ⟨v5, vs5, d5, ds5, p5, q5, rfl, rfl, rfl, h5, r5⟩ := trodAll_cons r4
  obtain ⟨rfl, rfl, rfl⟩ := trodAll_nil r5
  obtain rfl : args = #[v0, v1, v2, v3, v4, v5] := by cases args; simp_all
  obtain ⟨rfl, rfl⟩ := trodVars_none hV
  have k0 := h0
  have lt0 : ∀ x ∈ p0, x.block < W.heap.size := by obtain ⟨m, hm⟩ := k0; exact DataW.trod_lt m _ _ _ hm
  obtain ⟨C0, rfl, w0⟩ := Fx.openCfg (hval 0 24 v0 rfl rfl) h0
  have k1 := h1
  have lt1 : ∀ x ∈ p1, x.block < W.heap.size := by obtain ⟨m, hm⟩ := k1; exact DataW.trod_lt m _ _ _ hm
  obtain ⟨a1, len1, cap1, X1, DI1, DO1, rfl, w1⟩ := Fx.openExs (hval 1 25 v1 rfl rfl) h1
  obtain ⟨a2, rfl, rfl, rfl, w2⟩ := open_int Tryz.underlying3 (hval 2 3 v2 rfl rfl) h2
  obtain ⟨a3, rfl, rfl, rfl, w3⟩ := open_int Tryz.underlying22 (hval 3 22 v3 rfl rfl) h3
  have k4 := h4
  have lt4 : ∀ x ∈ p4, x.block < W.heap.size := by obtain ⟨m, hm⟩ := k4; exact DataW.trod_lt m _ _ _ hm
  obtain ⟨E4, I4, O4, rfl, w4, hd4⟩ := Fx.openStateD (hval 4 28 v4 rfl rfl) h4
  have sz4 := Fx.sizedState hsz (j := 4) rfl rfl hd4
  have k5 := h5
  have lt5 : ∀ x ∈ p5, x.block < W.heap.size := by obtain ⟨m, hm⟩ := k5; exact DataW.trod_lt m _ _ _ hm
  obtain ⟨E5, I5, rfl, w5⟩ := Fx.openRec (hval 5 30 v5 rfl rfl) h5
  clear hA0 hval0
  refine (Fx.spotSays_any C0 a1 len1 cap1 X1 DI1 DO1 a2 a3 E4 I4 O4 E5 I5 W w0 w1 w2 (Fx.wf_word w3) w4 w5 sz4).mono fun e W' ⟨he, bel⟩ => ?_
  subst he
  exact ⟨_, rfl, _, _, _, [], _, [], hW', trodAll_mk1 (shut_bool Tryz.underlying4 _), (trodAll_cons_mk (Below.trod Fx.laidOut (by kernel_rfl) (of_decide_eq_true (by kernel_rfl)) k0 bel lt0) (trodAll_cons_mk (Below.trod Fx.laidOut (by kernel_rfl) (of_decide_eq_true (by kernel_rfl)) k1 bel lt1) (trodAll_cons_mk (shut_int Tryz.underlying3 w2) (trodAll_cons_mk (shut_int Tryz.underlying22 w3) (trodAll_cons_mk (Below.trod Fx.laidOut (by kernel_rfl) (of_decide_eq_true (by kernel_rfl)) k4 bel lt4) (trodAll_cons_mk (Below.trod Fx.laidOut (by kernel_rfl) (of_decide_eq_true (by kernel_rfl)) k5 bel lt5) trodAll_mk0)))))), rfl, bel.frame _, fun h => by cases h⟩

theorem over : Rows.spotSaysRow.holds Tryz.pinned (OpenSpec.ofChange Rows.spotSaysSpec) :=
  OpenClaim.holds_of_wide 3 Tryz.f3 rfl rfl rfl rfl rfl rfl rfl ⟨rfl, rfl, rfl, rfl, rfl⟩ rfl rfl rfl rfl rfl (by kernel_rfl) Tryz.func3 (by kernel_rfl)
    (of_decide_eq_true (by kernel_rfl)) (by unfold Func.isWrapper; first | (rw [if_pos (by decide +kernel)]; kernel_rfl) | (rw [if_neg (by decide +kernel)]; exact ⟨rfl, rfl⟩))
    (fun os started H enc _ => lifted os started H enc)
end Go.Proofs.YtimciamfgpdjlaaGreat.spotSays

namespace Go.Proofs.YtimciamfgpdjlaaGreat
theorem spotSays_holds : Rows.SpotSaysSaid := spotSays.over
end Go.Proofs.YtimciamfgpdjlaaGreat
