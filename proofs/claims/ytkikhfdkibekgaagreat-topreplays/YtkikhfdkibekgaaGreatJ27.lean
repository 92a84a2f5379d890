/- The walk of TopReplays: it returns true, whatever is handed in, and nothing that was there is written; the contracts of spot.Holds and coachtop.twoRoots are handed in. -/
import Derived.Test.YtkikhfdkibekgaaGreatJ22
import Derived.Test.YtkikhfdkibekgaaGreatJ21
import Derived.Test.YtkikhfdkibekgaaGreatJ25
import Derived.Test.YtkikhfdkibekgaaGreatJ24
import Derived.Test.YtkikhfdkibekgaaGreatJ23
import Derived.Test.YtkikhfdkibekgaaGreatJ15
import Derived.Test.YtkikhfdkibekgaaGreatJ26
import Derived.Deep.DeepCutAuto
import Derived.Deep.CutBlock
import Derived.Deep.QuietTactic
import Derived.BigQuiet
import Derived.Deep.RegionHeld3
namespace Go.Proofs.YtkikhfdkibekgaaGreat.Fx
open Go.RowKit

/-- What coachtop.twoRoots is to answer of two unlike states of one root. -/
def TwoRootsSays : Prop := ∀ (n : Nat) (a1 : Option Addr) (k1 : Nat) (ws : List Int) (a2 : Option Addr) (k2 : Nat) (ms : List Int) (b1 : Option Addr) (d1 : Nat) (vs : List Int) (b2 : Option Addr) (d2 : Nat) (us : List Int) (w : World), 1 ≤ n → n ≤ 40 → Lst w a1 n k1 ws → Lst w a2 n k2 ms → Lst w b1 n d1 vs → Lst w b2 n d2 us → rightB ws = true → rightB ms = true → rightB vs = true → rightB us = true → rootP ws ms (n + n) = rootP vs us (n + n) → (decide (ws = vs) && decide (ms = us)) = false →
  Calls Tryz.prog 14 #[.agg #[.slice a1 n k1, .slice a2 n k2], .agg #[.slice b1 n d1, .slice b2 n d2]] w fun e w' => e = .returned (.bool true) ∧ Below w.heap.size w w'

set_option maxRecDepth 100000 in
set_option maxHeartbeats 6400000 in
theorem topReplays_core (c : Cfg) (hs : okW c.seed) (a : Option Addr) (n cap : Nat) (X : Nat → Exm) (DI DO : Nat → List Int) (n0 : Int) (a1 : Option Addr) (n1 k1 : Nat) (ws : List Int) (a2 : Option Addr) (n2 k2 : Nat) (ms : List Int) (x : Rcm) (xs : List Int) (w : World) (hx : Exs w a n cap X DI DO) (l1 : Lst w a1 n1 k1 ws) (l2 : Lst w a2 n2 k2 ms) (lx : Lst w x.a x.n x.k xs) (hn12 : n1 + n2 ≤ 4611686018427387904) (hxn : x.n ≤ 9223372036854775807) (HHS : HoldsSays) (HTS : TwoRootsSays) :
    Calls Tryz.prog 3 #[c.val, .slice a n cap, .int .i64 n0, .agg #[.slice a1 n1 k1, .slice a2 n2 k2], x.val] w fun e w' => e = .returned (.bool true) ∧ Below w.heap.size w w' := by
  have sp0 := SpBox.start w c (.slice a1 n1 k1) (.slice a2 n2 k2) x
  have HRK : Hid (∀ q, Below w.heap.size w q → Calls Tryz.prog 5 #[c.val, .slice a n cap] q fun e w' => e = .returned (.int .i64 (courseI c n X DI DO)) ∧ Below q.heap.size q w') := fun q hq => rcourse_calls c a n cap X DI DO q (hx.below hq (Nat.le_refl _))
  obtain ⟨BB, HBB⟩ : ∃ t : Nat, Hid (c.batch.toNat = t) := ⟨_, rfl⟩
  have HMK : Hid (courseI c n X DI DO = 0 → ∀ (k : Nat) q, (k : Int) ≤ c.steps → Below w.heap.size w q → Calls Tryz.prog 7 #[c.val, .slice a n cap, .int .i64 k] q fun e w' => ∃ g R, e = .returned (.tuple #[.slice (some ⟨g, 0, none⟩) k k, .int .i64 0]) ∧ q.heap.size ≤ g ∧ w'.rowIs g 30 (k * 5) (rcsR R k) ∧ JrIn w' g q.heap.size BB k R (jrG c n) ∧ JrN k R (mkRV c) (mkRO c n DI DO) (mkCH c n DI DO) ∧ Below q.heap.size q w') := fun hF k q hk hq => by
    have h := jMake_good c a n cap X DI DO k q hs (hx.below hq (Nat.le_refl _)) hF hk
    rw [HBB.out] at h
    exact h
  have HRC : Hid (∀ (q : World) (g base k : Nat) (R : Nat → Rcm), q.rowIs g 30 (k * 5) (rcsR R k) → JrIn q g base BB k R (jrG c n) → Recs q (some ⟨g, 0, none⟩) k k R (jrBatch c n)) := fun q g base k R h1 h2 => by
    rw [← HBB.out] at h2
    exact recs_of h1 h2
  have HST : Hid (courseI c n X DI DO = 0 → (1 ≤ c.steps ∧ c.steps ≤ 40) ∧ BB ≤ 8) := fun hF => by
    obtain ⟨_, _, _, ⟨b1, b2⟩, p, _⟩ := cfgB_is (course_ok hF).1
    have := HBB.out
    exact ⟨p, by omega⟩
  have HST2 : Hid (courseI c n X DI DO = 0 → 1 ≤ (sizeN c).toNat ∧ (sizeN c).toNat ≤ 40) := fun hF => by
    have := sizeN_bd (course_ok hF).1
    exact ⟨by omega, by omega⟩
  have HWH : Hid (courseI c n X DI DO = 0 → ∀ (q : World) (N g : Nat) (R : Nat → Rcm), (N : Int) ≤ c.steps → Below w.heap.size w q → (∀ j, j < N → (R j).n ≤ 8) → Recs q (some ⟨g, 0, none⟩) N N R (jrBatch c n) → JrN N R (mkRV c) (mkRO c n DI DO) (mkCH c n DI DO) → Calls Tryz.prog 8 #[c.val, .slice a n cap, .slice (some ⟨g, 0, none⟩) N N] q fun e w' => e = .returned (.tuple #[.int .i64 N, .int .i64 0]) ∧ Below q.heap.size q w') := fun h0 q N g R hN hq h8 hR hJ => whole_own c hs a n cap X DI DO _ N N R q (hx.below hq (Nat.le_refl _)) hR h8 h0 hN hJ
  have HRU : Hid (courseI c n X DI DO = 0 → ∀ (M : Nat) q, (M : Int) ≤ c.steps → Below w.heap.size w q → Calls Tryz.prog 9 #[c.val, .slice a n cap, .int .i64 M] q fun e w' => ∃ b k Y, e = .returned (.tuple #[.slice b (M + 1) k, .int .i64 0]) ∧ Exs w' b (M + 1) k Y (stW c n DI DO) (stM c n DI DO) ∧ Below q.heap.size q w') := fun h0 M q hM hq => by
    have h := tRun_calls c hs a n cap X DI DO M q (hx.below hq (Nat.le_refl _))
    have e1 : runE c n X DI DO M = 0 := by unfold runE; rw [if_pos h0, in_yes ⟨by omega, by omega⟩]; rfl
    have e2 : runN c n X DI DO M = M + 1 := by unfold runN; rw [if_pos e1]; rfl
    rw [e1, e2] at h
    exact h
  have HRT : Hid (courseI c n X DI DO = 0 → ∀ (j : Nat) (b1 : Option Addr) (d1 : Nat) (b2 : Option Addr) (d2 : Nat) q, Lst q b1 (sizeN c).toNat d1 (stW c n DI DO j) → Lst q b2 (sizeN c).toNat d2 (stM c n DI DO j) → Calls Tryz.prog 10 #[.agg #[.slice b1 (sizeN c).toNat d1, .slice b2 (sizeN c).toNat d2]] q fun e w' => e = .returned (.tuple #[.int .u64 (rootP (stW c n DI DO j) (stM c n DI DO j) ((sizeN c).toNat + (sizeN c).toNat)), .int .i64 0]) ∧ Below q.heap.size q w') := fun h0 j b1 d1 b2 d2 q q1 q2 => by
    have hz := HST2.out h0
    have h := jroot_calls b1 _ d1 _ b2 _ d2 _ q q1 q2 (by omega)
    have hE : rootE (sizeN c).toNat (sizeN c).toNat = 0 := by unfold rootE; rw [if_neg (by omega), if_neg (by omega)]
    unfold rootV at h
    rw [hE, if_pos rfl] at h
    exact h
  have HRO : Hid (∀ j, mkRO c n DI DO j = rootP (stW c n DI DO (j + 1)) (stM c n DI DO (j + 1)) ((sizeN c).toNat + (sizeN c).toNat)) := fun j => rfl
  have HLN : Hid (∀ j, (stW c n DI DO j).length = (sizeN c).toNat ∧ (stM c n DI DO j).length = (sizeN c).toNat) := fun j => stateP_len c n DI DO (sizeN c).toNat j
  have HHL : Hid (∀ (K : Nat) (rt : Int) q, okW rt → Below w.heap.size w q → Calls Tryz.prog 11 #[c.val, .slice a n cap, .int .i64 K, .int .u64 rt, .agg #[.slice a1 n1 k1, .slice a2 n2 k2], x.val] q fun e w' => e = .returned (.tuple #[.bool (hoB c n X DI DO n1 ws n2 ms K rt x xs), .int .i64 (nextE c n X DI DO n1 ws n2 ms K)]) ∧ Below q.heap.size q w') := fun K rt q hr hq => HHS c hs a n cap X DI DO a1 n1 k1 ws a2 n2 k2 ms K rt x xs q hr (hx.below hq (Nat.le_refl _)) (l1.below hq (Nat.le_refl _)) (l2.below hq (Nat.le_refl _)) (lx.below hq (Nat.le_refl _)) hn12 hxn
  have HPL : Hid (courseI c n X DI DO = 0 → ∀ (K N : Nat) (R : Nat → Rcm), K < N → (N : Int) ≤ c.steps → JrN N R (mkRV c) (mkRO c n DI DO) (mkCH c n DI DO) → nextE c n X DI DO n1 ws n2 ms K = 0 → hoB c n X DI DO n1 ws n2 ms K (rootP (stW c n DI DO K) (stM c n DI DO K) ((sizeN c).toNat + (sizeN c).toNat)) x xs = true → likeB x (R K) xs (jrBatch c n K) = false → n1 = (sizeN c).toNat ∧ n2 = (sizeN c).toNat ∧ rightB ws = true ∧ rightB ms = true ∧ rightB (stW c n DI DO K) = true ∧ rightB (stM c n DI DO K) = true ∧ rootP ws ms (n1 + n2) = rootP (stW c n DI DO K) (stM c n DI DO K) ((sizeN c).toNat + (sizeN c).toNat) ∧ (decide (ws = stW c n DI DO K) && decide (ms = stM c n DI DO K)) = false) := fun h0 K N R hK hN hJ hz hb hlk => by
    obtain ⟨_, f1, f2, _⟩ := nextE_ok hz
    have hc := (course_ok h0).1
    have g1 := fit_len hc f1
    have g2 := fit_len hc f2
    have e1 : n1 = (sizeN c).toNat := by omega
    have e2 : n2 = (sizeN c).toNat := by omega
    have hsz := HST2.out h0
    have rr := stateP_right c n DI DO (sizeN c).toNat K
    unfold hoB at hb
    rw [if_pos hz, Bool.and_eq_true, decide_eq_true_eq] at hb
    obtain ⟨hb1, hb2⟩ := hb
    have hE : rootE n1 n2 = 0 := by unfold rootE; rw [if_neg (by omega), if_neg (by omega)]
    unfold rootV at hb1
    rw [if_pos hE] at hb1
    have ho : okP (rootP (stW c n DI DO K) (stM c n DI DO K) ((sizeN c).toNat + (sizeN c).toNat)) := ofP_ok _ _
    rw [Int.emod_eq_of_lt ho.1 ho.2] at hb1
    refine ⟨e1, e2, g1.2.2.2, g2.2.2.2, rr.1, rr.2, hb1, ?_⟩
    cases hd : (decide (ws = stW c n DI DO K) && decide (ms = stM c n DI DO K)) with
    | false => rfl
    | true =>
      rw [Bool.and_eq_true, decide_eq_true_eq, decide_eq_true_eq] at hd
      obtain ⟨d1, d2⟩ := hd
      rw [d1, d2, e1, e2, own_like h0 hJ hK (by omega), hlk] at hb2
      cases hb2
  have HLK : Hid (∀ (y : Rcm) (ys : List Int) q, Below w.heap.size w q → Lst q y.a y.n y.k ys → Calls Tryz.prog 12 #[x.val, y.val] q fun e w' => e = .returned (.bool (likeB x y xs ys)) ∧ Below q.heap.size q w') := fun y ys q hq ly => rlike_big x y xs ys q (lx.below hq (Nat.le_refl _)) ly hxn
  have HSS : Hid (∀ (b1 : Option Addr) (d1 : Nat) (vs : List Int) (b2 : Option Addr) (d2 m : Nat) (us : List Int) q, Below w.heap.size w q → n1 ≤ 200 → n2 ≤ 200 → Lst q b1 m d1 vs → Lst q b2 m d2 us → Calls Tryz.prog 13 #[.agg #[.slice a1 n1 k1, .slice a2 n2 k2], .agg #[.slice b1 m d1, .slice b2 m d2]] q fun e w' => e = .returned (.bool (decide (ws = vs) && decide (ms = us))) ∧ Below q.heap.size q w') := fun b1 d1 vs b2 d2 m us q hq h1 h2 q1 q2 => rsameS_any a1 n1 k1 a2 n2 k2 b1 m d1 b2 m d2 ws ms vs us q (l1.below hq (Nat.le_refl _)) (l2.below hq (Nat.le_refl _)) q1 q2 h1 h2
  have HTW : Hid (∀ (b1 : Option Addr) (d1 : Nat) (vs : List Int) (b2 : Option Addr) (d2 m : Nat) (us : List Int) q, Below w.heap.size w q → n1 = m → n2 = m → 1 ≤ m → m ≤ 40 → Lst q b1 m d1 vs → Lst q b2 m d2 us → rightB ws = true → rightB ms = true → rightB vs = true → rightB us = true → rootP ws ms (n1 + n2) = rootP vs us (m + m) → (decide (ws = vs) && decide (ms = us)) = false → Calls Tryz.prog 14 #[.agg #[.slice a1 n1 k1, .slice a2 n2 k2], .agg #[.slice b1 m d1, .slice b2 m d2]] q fun e w' => e = .returned (.bool true) ∧ Below q.heap.size q w') := fun b1 d1 vs b2 d2 m us q hq e1 e2 m1 m2 q1 q2 r1 r2 r3 r4 hrt hne => by
    have p1 := l1.below hq (Nat.le_refl _)
    have p2 := l2.below hq (Nat.le_refl _)
    subst e1
    subst e2
    exact HTS n2 a1 k1 ws a2 k2 ms b1 d1 vs b2 d2 us q m1 m2 p1 p2 q1 q2 r1 r2 r3 r4 hrt hne
  have HOR : Hid (∀ K, okW (rootP (stW c n DI DO K) (stM c n DI DO K) ((sizeN c).toNat + (sizeN c).toNat))) := fun K => rootP_W _ _ _
  clear hx hs HHS HTS HBB l1 l2 lx hn12 hxn
  generalize (sizeN c).toNat = NN at *
  generalize stW c n DI DO = SW at *
  generalize stM c n DI DO = SM at *
  generalize courseI c n X DI DO = F at *
  generalize jrBatch c n = DB at *
  generalize jrG c n = DG at *
  generalize mkRV c = RV at *
  generalize mkRO c n DI DO = RO at *
  generalize mkCH c n DI DO = CH at *
  generalize nextE c n X DI DO n1 ws n2 ms = NE at *
  generalize hoB c n X DI DO n1 ws n2 ms = HB at *
  obtain ⟨W0, HW0⟩ : ∃ q, Hid (q = ((w.alloc (.cells c.cells 24)).alloc (.cells #[.slice a1 n1 k1, .slice a2 n2 k2] 28)).alloc (.cells x.cells 30)) := ⟨_, rfl⟩
  rw [← HW0.out] at sp0
  obtain ⟨i, h, o, seed, batch, steps, crate, decay, how, keep, clip⟩ := c
  obtain ⟨xs0, xa, xn, xk, xr, xroot, xchain⟩ := x
  simp only [Cfg.val, Cfg.cells, Rcm.val, Rcm.cells] at *
  have hal := sp0.bel
  have KB : Hid (∀ q, Below W0.heap.size W0 q → SpBox w ⟨i, h, o, seed, batch, steps, crate, decay, how, keep, clip⟩ (.slice a1 n1 k1) (.slice a2 n2 k2) ⟨xs0, xa, xn, xk, xr, xroot, xchain⟩ q) := fun q hq => sp0.below hq
  clear sp0
  go_enter Tryz.func3, Tryz.ntmps3
  go_wp2_with fail
  rw [← HW0.out]
  clear HW0
  refine (said_calls _).mono ?_
  rintro e w1 ⟨rfl, T⟩
  obtain ⟨c0, c1, c2, c3, c4, c5, c6, c7, c8, c9, c10⟩ := (KB.out _ T).cfg
  dsimp only at c0 c1 c2 c3 c4 c5 c6 c7 c8 c9 c10
  go_wp2_with fail
  refine (HRK.out _ (hal.trans (T.mono hal.size))).mono ?_
  rintro e w2 ⟨rfl, hw2⟩
  replace T := T.trans (hw2.mono T.size)
  clear hw2 HRK c0 c1 c2 c3 c4 c5 c6 c7 c8 c9 c10
  obtain ⟨c0, c1, c2, c3, c4, c5, c6, c7, c8, c9, c10⟩ := (KB.out _ T).cfg
  dsimp only at c0 c1 c2 c3 c4 c5 c6 c7 c8 c9 c10
  by_cases hF : F = 0
  rotate_left
  · have hFn : (F != 0) = true := by rw [bne_iff_ne]; exact hF
    clear HMK HWH HRU HRT HHL HPL HLK HSS HTW HST hF HRC HST2
    go_wp2_with fail
    go_ret
    exact ⟨rfl, hal.trans (T.mono hal.size)⟩
  subst hF
  obtain ⟨⟨s1, s2⟩, hB8⟩ := HST.out (by trivial)
  obtain ⟨nn1, nn2⟩ := HST2.out (by trivial)
  clear HST
  go_upto_region 5 with fail
  go_cut [2] (fun v q => ∃ N1 : Nat, (1 ≤ N1 ∧ N1 ≤ 5) ∧ (N1 : Int) ≤ steps ∧ v = .int .i64 N1 ∧ q = w2)
  case first =>
    clear HMK HWH HRU HRT HRO HHL HPL HLK HSS HTW HRC HST2
    by_cases h6 : steps ≤ 5
    · obtain ⟨S, hS⟩ : ∃ S : Nat, steps = (S : Int) := ⟨steps.toNat, by omega⟩
      subst hS
      have RS := rest_any n0 S (by omega) (by omega) w2
      go_wp2_with ((go_at_call 6; refine RS.mono ?_; rintro e w' ⟨⟨N1, hN1, rfl⟩, hw'⟩; replace hw' := hw'.symm; subst hw'))
      go_meet
      case rel => exact ⟨N1 + 1, by omega, by omega, by congr 1; omega, rfl⟩
    · have h7 : 5 < steps := by omega
      have RS : Calls Tryz.prog 6 #[.int .i64 n0, .int .i64 5] w2 fun e w' => (∃ k : Nat, k < 5 ∧ e = .returned (.int .i64 k)) ∧ w' = w2 := rest_any n0 5 (by omega) (by omega) w2
      go_wp2_with ((go_at_call 6; refine RS.mono ?_; rintro e w' ⟨⟨N1, hN1, rfl⟩, hw'⟩; replace hw' := hw'.symm; subst hw'))
      go_meet
      case rel => exact ⟨N1 + 1, by omega, by omega, by congr 1; omega, rfl⟩
  case rest =>
  obtain ⟨N1, ⟨hNp, hN6⟩, hN1, rfl, hwq⟩ := hcut
  replace hwq := hwq.symm
  subst hwq
  have MK := HMK.out (by trivial) N1 _ hN1 (hal.trans (T.mono hal.size))
  go_wp2_with fail
  refine MK.mono ?_
  rintro e w3 ⟨g, R, rfl, hg, rrow, hji, hjn, hw3⟩
  replace T := T.trans (hw3.mono T.size)
  have hT3 := hal.trans (T.mono hal.size)
  clear hw3 HMK MK c0 c1 c2 c3 c4 c5 c6 c7 c8 c9 c10
  have HJN : Hid (JrN N1 R RV RO CH) := hjn
  have H8 : Hid (∀ j, j < N1 → (R j).n ≤ 8) := fun j hj => by have := (hji j hj).1; omega
  have HRA : Hid (∀ q, Below w3.heap.size w3 q → Recs q (some ⟨g, 0, none⟩) N1 N1 R DB) := fun q hq => (HRC.out _ _ _ _ _ rrow hji).below hq (Nat.le_refl _)
  clear hjn hji HRC rrow
  obtain ⟨c0, c1, c2, c3, c4, c5, c6, c7, c8, c9, c10⟩ := (KB.out _ T).cfg
  dsimp only at c0 c1 c2 c3 c4 c5 c6 c7 c8 c9 c10
  have WH := HWH.out (by trivial) w3 N1 g R hN1 hT3 H8.out (HRA.out _ (Below.refl _ _)) HJN.out
  go_wp2_with fail
  refine WH.mono ?_
  rintro e w4 ⟨rfl, hw4⟩
  replace T := T.trans (hw4.mono T.size)
  clear WH HWH c0 c1 c2 c3 c4 c5 c6 c7 c8 c9 c10
  obtain ⟨c0, c1, c2, c3, c4, c5, c6, c7, c8, c9, c10⟩ := (KB.out _ T).cfg
  dsimp only at c0 c1 c2 c3 c4 c5 c6 c7 c8 c9 c10
  have RU := HRU.out (by trivial) N1 w4 hN1 (hal.trans (T.mono hal.size))
  go_wp2_with fail
  refine RU.mono ?_
  rintro e w5 ⟨lb, lk, Y, rfl, hY, hw5⟩
  have U5 := hw4.trans (hw5.mono hw4.size)
  replace T := T.trans (hw5.mono T.size)
  have hT5 := hal.trans (T.mono hal.size)
  clear RU HRU c0 c1 c2 c3 c4 c5 c6 c7 c8 c9 c10 hw4 hw5
  obtain ⟨K, hK⟩ : ∃ K : Nat, N1 = K + 1 := ⟨N1 - 1, by omega⟩
  obtain ⟨gl, yo, rfl, y0, y1, hin1⟩ := hY.at (i := N1) (by omega)
  obtain ⟨gl', yo', e', u0, u1, hin2⟩ := hY.at (i := K) (by omega)
  simp only [Option.some.injEq, Addr.mk.injEq, and_true] at e'
  obtain ⟨rfl, rfl⟩ := e'
  have hlkY : N1 + 1 ≤ lk := hY.1
  obtain ⟨y, hy⟩ : ∃ y, Y N1 = y := ⟨_, rfl⟩
  obtain ⟨z, hz⟩ : ∃ z, Y K = z := ⟨_, rfl⟩
  rw [hy] at y0 y1 hin1
  rw [hz] at u0 u1 hin2
  obtain ⟨ya, yn, yk, yb, ym, yt⟩ := y
  obtain ⟨za, zn, zk, zb, zm, zt⟩ := z
  have e1 : NN = yn := by rw [← (HLN.out N1).1]; exact hin1.i.len
  have e2 : NN = ym := by rw [← (HLN.out N1).2]; exact hin1.o.len
  have e3 : NN = zn := by rw [← (HLN.out K).1]; exact hin2.i.len
  have e4 : NN = zm := by rw [← (HLN.out K).2]; exact hin2.o.len
  subst e1 e2 e3 e4
  dsimp only at y0 y1 u0 u1
  have i1 := hin1.i
  have i2 := hin1.o
  have j1 := hin2.i
  have j2 := hin2.o
  dsimp only at i1 i2 j1 j2
  clear hY hy hz hin1 hin2 HLN
  have kn1 : (N1 : Int) < ((N1 + 1 : Nat) : Int) := by omega
  have kn2 : (N1 : Int) < (N1 : Int) + 1 := by omega
  have kn3 : (0 : Int) ≤ (N1 : Int) := by omega
  have kn4 : (N1 : Int) - 1 = (K : Int) := by omega
  have kn5 : (K : Int) < (N1 : Int) + 1 := by omega
  have kn6 : (0 : Int) ≤ (K : Int) := by omega
  have kn7 : (K : Int) < (N1 : Int) := by omega
  have q1 : ((N1 : Int) != (N1 : Int)) = false := by simp
  have HKE : Hid (N1 = K + 1) := hK
  clear hK
  have RT1 := HRT.out (by trivial) N1 ya yk yb yt w5 i1 i2
  go_wp2_with fail
  refine RT1.mono ?_
  rintro e w6 ⟨rfl, hw6⟩
  have RT2 := HRT.out (by trivial) K za zk zb zt w6 (j1.below hw6 (Nat.le_refl _)) (j2.below hw6 (Nat.le_refl _))
  have U6 := U5.trans (hw6.mono U5.size)
  have u06 := (hw6.cell (p := ⟨gl, yo + K * 2, none⟩) (cell_lt u0)).trans u0
  have u16 := (hw6.cell (p := ⟨gl, yo + K * 2 + 1, none⟩) (cell_lt u1)).trans u1
  clear RT1 HRT y0 y1
  go_wp2_with fail
  refine RT2.mono ?_
  rintro e w7 ⟨rfl, hw7⟩
  have U7 := U6.trans (hw7.mono U6.size)
  have u07 := (hw7.cell (p := ⟨gl, yo + K * 2, none⟩) (cell_lt u06)).trans u06
  have u17 := (hw7.cell (p := ⟨gl, yo + K * 2 + 1, none⟩) (cell_lt u16)).trans u16
  have j17 := (j1.below hw6 (Nat.le_refl _)).below hw7 (Nat.le_refl _)
  have j27 := (j2.below hw6 (Nat.le_refl _)).below hw7 (Nat.le_refl _)
  have hw57 := hw6.trans (hw7.mono hw6.size)
  replace T := T.trans (hw57.mono T.size)
  have hT7 := hal.trans (T.mono hal.size)
  clear RT2 u0 u1 u06 u16 i1 i2 j1 j2 hw6 hw7 U5 U6
  -- the root that the journal tells
  obtain ⟨f0, f1, f2, f3, f4, lR⟩ := (HRA.out _ U7).at0 (i := K) (by omega)
  have hRo : (R K).root = rootP (SW N1) (SM N1) (NN + NN) := by rw [(HJN.out K (by omega)).2.2.1, HRO.out K, ← HKE.out]
  have q2 : (rootP (SW N1) (SM N1) (NN + NN) != (R K).root) = false := by rw [hRo]; simp
  have h8K := H8.out K (by omega)
  have HOK := HOR.out K
  have hHL := HHL.out K (rootP (SW K) (SM K) (NN + NN)) w7 HOK hT7
  have hPL := HPL.out (by trivial) K N1 R (by omega) hN1 HJN.out
  have hLK := HLK.out (R K) (DB K)
  generalize rootP (SW N1) (SM N1) (NN + NN) = RX at *
  obtain ⟨RK, HRKE⟩ : ∃ t, Hid (rootP (SW K) (SM K) (NN + NN) = t) := ⟨_, rfl⟩
  rw [HRKE.out] at HOK hHL hPL ⊢
  have sp7 := KB.out _ T
  obtain ⟨y, hyR⟩ : ∃ y, R K = y := ⟨_, rfl⟩
  rw [hyR] at f0 f1 f2 f3 f4 lR q2 hPL hLK h8K
  have HHR : Hid (R K = y) := hyR
  clear hyR hRo
  obtain ⟨ys0, ya, yn, yk, yr, yroot, ychain⟩ := y
  dsimp only at f0 f1 f2 f3 f4 lR q2
  obtain ⟨c0, c1, c2, c3, c4, c5, c6, c7, c8, c9, c10⟩ := sp7.cfg
  dsimp only at c0 c1 c2 c3 c4 c5 c6 c7 c8 c9 c10
  obtain ⟨t0, t1⟩ := fn2_cells sp7.st
  obtain ⟨x0, x1, x2, x3, x4⟩ := fn5_box sp7.ra
  dsimp only at x0 x1 x2 x3 x4
  generalize HB (K : Int) RK = HV0 at *
  obtain ⟨HV, HHV⟩ : ∃ t, Hid (HV0 ⟨xs0, xa, xn, xk, xr, xroot, xchain⟩ xs = t) := ⟨_, rfl⟩
  obtain ⟨NV, HNV⟩ : ∃ t, Hid (NE (K : Int) = t) := ⟨_, rfl⟩
  rw [HHV.out, HNV.out] at hPL
  rw [HHV.out, HNV.out] at hHL
  go_wp2_with fail
  refine hHL.mono ?_
  rintro e w8 ⟨rfl, hw8⟩
  have U8 := U7.trans (hw8.mono U7.size)
  replace T := T.trans (hw8.mono T.size)
  have hT8 := hal.trans (T.mono hal.size)
  have sp8 := sp7.below hw8
  have lR8 := lR.below hw8 (Nat.le_refl _)
  have u08 := (hw8.cell (p := ⟨gl, yo + K * 2, none⟩) (cell_lt u07)).trans u07
  have u18 := (hw8.cell (p := ⟨gl, yo + K * 2 + 1, none⟩) (cell_lt u17)).trans u17
  have j18 := j17.below hw8 (Nat.le_refl _)
  have j28 := j27.below hw8 (Nat.le_refl _)
  clear hHL c0 c1 c2 c3 c4 c5 c6 c7 c8 c9 c10 t0 t1 x0 x1 x2 x3 x4 f0 f1 f2 f3 f4 sp7 lR u07 u17 j17 j27
  obtain ⟨x0, x1, x2, x3, x4⟩ := fn5_box sp8.ra
  dsimp only at x0 x1 x2 x3 x4
  obtain ⟨t0, t1⟩ := fn2_cells sp8.st
  obtain ⟨f0, f1, f2, f3, f4, _⟩ := (HRA.out _ U8).at0 (i := K) (by omega)
  rw [HHR.out] at f0 f1 f2 f3 f4
  dsimp only at f0 f1 f2 f3 f4
  have KS : Hid (∀ q, Below w8.heap.size w8 q → q.cell? ⟨w.heap.size + 1 + 1, 0, none⟩ = some (.int .i64 xs0) ∧ q.cell? ⟨w.heap.size + 1 + 1, 1, none⟩ = some (.slice xa xn xk) ∧ q.cell? ⟨w.heap.size + 1 + 1, 2, none⟩ = some (.int .i64 xr) ∧ q.cell? ⟨w.heap.size + 1 + 1, 3, none⟩ = some (.int .u64 xroot) ∧ q.cell? ⟨w.heap.size + 1 + 1, 4, none⟩ = some (.int .u64 xchain) ∧ q.cell? ⟨g, K * 5, none⟩ = some (.int .i64 ys0) ∧ q.cell? ⟨g, K * 5 + 1, none⟩ = some (.slice ya yn yk) ∧ q.cell? ⟨g, K * 5 + 2, none⟩ = some (.int .i64 yr) ∧ q.cell? ⟨g, K * 5 + 3, none⟩ = some (.int .u64 yroot) ∧ q.cell? ⟨g, K * 5 + 4, none⟩ = some (.int .u64 ychain)) := fun q hq => ⟨(hq.cell (p := ⟨w.heap.size + 1 + 1, 0, none⟩) (cell_lt x0)).trans x0, (hq.cell (p := ⟨w.heap.size + 1 + 1, 1, none⟩) (cell_lt x1)).trans x1, (hq.cell (p := ⟨w.heap.size + 1 + 1, 2, none⟩) (cell_lt x2)).trans x2, (hq.cell (p := ⟨w.heap.size + 1 + 1, 3, none⟩) (cell_lt x3)).trans x3, (hq.cell (p := ⟨w.heap.size + 1 + 1, 4, none⟩) (cell_lt x4)).trans x4, (hq.cell (p := ⟨g, K * 5, none⟩) (cell_lt f0)).trans f0, (hq.cell (p := ⟨g, K * 5 + 1, none⟩) (cell_lt f1)).trans f1, (hq.cell (p := ⟨g, K * 5 + 2, none⟩) (cell_lt f2)).trans f2, (hq.cell (p := ⟨g, K * 5 + 3, none⟩) (cell_lt f3)).trans f3, (hq.cell (p := ⟨g, K * 5 + 4, none⟩) (cell_lt f4)).trans f4⟩
  have S0 := KS.out _ (Below.drew (Below.refl _ _))
  have LK := hLK _ (Below.drew hT8) (lR8.below (Below.drew (Below.refl _ _)) (Nat.le_refl _))
  have kd1 : decide ((K : Int) < (N1 : Int)) = true := decide_eq_true kn7
  have wK : IntKind.i64.wrap (K : Int) = (K : Int) := wrap_in _ (by omega) (by omega)
  clear f0 f1 f2 f3 f4 x0 x1 x2 x3 x4 hLK HRA HHR HJN H8 HHL HPL HLK HRO HOR KB
  by_cases hNV : NV = 0
  rotate_left
  · have hn1 : (NV != 0) = true := by rw [bne_iff_ne]; exact hNV
    clear LK hPL hNV HSS HTW
    go_wp2_with fail
    refine wp_region_held_drew (S := fun q => q.cell? ⟨w.heap.size + 1 + 1, 0, none⟩ = some (.int .i64 xs0) ∧ q.cell? ⟨w.heap.size + 1 + 1, 1, none⟩ = some (.slice xa xn xk) ∧ q.cell? ⟨w.heap.size + 1 + 1, 2, none⟩ = some (.int .i64 xr) ∧ q.cell? ⟨w.heap.size + 1 + 1, 3, none⟩ = some (.int .u64 xroot) ∧ q.cell? ⟨w.heap.size + 1 + 1, 4, none⟩ = some (.int .u64 xchain) ∧ q.cell? ⟨g, K * 5, none⟩ = some (.int .i64 ys0) ∧ q.cell? ⟨g, K * 5 + 1, none⟩ = some (.slice ya yn yk) ∧ q.cell? ⟨g, K * 5 + 2, none⟩ = some (.int .i64 yr) ∧ q.cell? ⟨g, K * 5 + 3, none⟩ = some (.int .u64 yroot) ∧ q.cell? ⟨g, K * 5 + 4, none⟩ = some (.int .u64 ychain)) (by kernel_rfl) (by with_reducible exact S0) (fun hHeld => ?_)
    refine wpAnyH_take (i := 0) (oi := _) (v := ?_) rfl (by kernel_rfl) (by kernel_rfl) (by kernel_rfl) (fun _ _ _ h => h) (Or.inl ⟨by rfl, ?_⟩) (by assumption) ?_
    rotate_left
    · intro w hSw
      try dsimp only at hSw
      go_simp
      try with_reducible rfl
    simp only [Act.put, List.getElem_toArray, List.getElem_cons_zero, List.setIfInBounds_toArray, List.set_cons_zero, List.set_cons_succ]
    refine wpAnyH_take (i := 1) (oi := _) (v := ?_) rfl (by kernel_rfl) (by kernel_rfl) (by kernel_rfl) (fun _ _ _ h => h) (Or.inl ⟨by rfl, ?_⟩) (by assumption) ?_
    rotate_left
    · intro w hSw
      try dsimp only at hSw
      go_simp
      try with_reducible rfl
    simp only [Act.put, List.getElem_toArray, List.getElem_cons_zero, List.getElem_cons_succ, List.setIfInBounds_toArray, List.set_cons_zero, List.set_cons_succ]
    refine wpAnyH_take (i := 2) (oi := _) (v := ?_) rfl (by kernel_rfl) (by kernel_rfl) (by kernel_rfl) (fun _ _ _ h => h) (Or.inl ⟨by rfl, ?_⟩) (by assumption) ?_
    rotate_left
    · intro w hSw
      try dsimp only at hSw
      go_simp
      try with_reducible rfl
    simp only [Act.put, List.getElem_toArray, List.getElem_cons_zero, List.getElem_cons_succ, List.setIfInBounds_toArray, List.set_cons_zero, List.set_cons_succ]
    refine wpAnyH_take (i := 3) (oi := _) (v := undef) rfl (by kernel_rfl) (by kernel_rfl) (by kernel_rfl) (fun _ _ _ h => h) (Or.inr ⟨by rfl, rfl⟩) (by assumption) ?_
    simp only [Act.put, List.getElem_toArray, List.getElem_cons_zero, List.getElem_cons_succ, List.setIfInBounds_toArray, List.set_cons_zero, List.set_cons_succ]
    refine wpAnyH_take (i := 4) (oi := _) (v := undef) rfl (by kernel_rfl) (by kernel_rfl) (by kernel_rfl) (fun _ _ _ h => h) (Or.inr ⟨by rfl, rfl⟩) (by assumption) ?_
    simp only [Act.put, List.getElem_toArray, List.getElem_cons_zero, List.getElem_cons_succ, List.setIfInBounds_toArray, List.set_cons_zero, List.set_cons_succ]
    refine wpAnyH_take (i := 5) (oi := _) (v := ?_) rfl (by kernel_rfl) (by kernel_rfl) (by kernel_rfl) (fun _ _ _ h => h) (Or.inl ⟨by rfl, ?_⟩) (by assumption) ?_
    rotate_left
    · intro w hSw
      try dsimp only at hSw
      go_simp
      try with_reducible rfl
    simp only [Act.put, List.getElem_toArray, List.getElem_cons_zero, List.getElem_cons_succ, List.setIfInBounds_toArray, List.set_cons_zero, List.set_cons_succ]
    refine wpAnyH_take (i := 6) (oi := _) (v := ?_) rfl (by kernel_rfl) (by kernel_rfl) (by kernel_rfl) (fun _ _ _ h => h) (Or.inl ⟨by rfl, ?_⟩) (by assumption) ?_
    rotate_left
    · intro w hSw
      try dsimp only at hSw
      go_simp
      try with_reducible rfl
    simp only [Act.put, List.getElem_toArray, List.getElem_cons_zero, List.getElem_cons_succ, List.setIfInBounds_toArray, List.set_cons_zero, List.set_cons_succ]
    refine wpAnyH_take (i := 7) (oi := _) (v := undef) rfl (by kernel_rfl) (by kernel_rfl) (by kernel_rfl) (fun _ _ _ h => h) (Or.inr ⟨by rfl, rfl⟩) (by assumption) ?_
    simp only [Act.put, List.getElem_toArray, List.getElem_cons_zero, List.getElem_cons_succ, List.setIfInBounds_toArray, List.set_cons_zero, List.set_cons_succ]
    refine wpAnyH_take (i := 8) (oi := _) (v := undef) rfl (by kernel_rfl) (by kernel_rfl) (by kernel_rfl) (fun _ _ _ h => h) (Or.inr ⟨by rfl, rfl⟩) (by assumption) ?_
    simp only [Act.put, List.getElem_toArray, List.getElem_cons_zero, List.getElem_cons_succ, List.setIfInBounds_toArray, List.set_cons_zero, List.set_cons_succ]
    refine wpAnyH_take (i := 9) (oi := _) (v := undef) rfl (by kernel_rfl) (by kernel_rfl) (by kernel_rfl) (fun _ _ _ h => h) (Or.inr ⟨by rfl, rfl⟩) (by assumption) ?_
    simp only [Act.put, List.getElem_toArray, List.getElem_cons_zero, List.getElem_cons_succ, List.setIfInBounds_toArray, List.set_cons_zero, List.set_cons_succ]
    refine wpAnyH_take (i := 10) (oi := _) (v := undef) rfl (by kernel_rfl) (by kernel_rfl) (by kernel_rfl) (fun _ _ _ h => h) (Or.inr ⟨by rfl, rfl⟩) (by assumption) ?_
    simp only [Act.put, List.getElem_toArray, List.getElem_cons_zero, List.getElem_cons_succ, List.setIfInBounds_toArray, List.set_cons_zero, List.set_cons_succ]
    refine wpAnyH_take (i := 11) (oi := _) (v := undef) rfl (by kernel_rfl) (by kernel_rfl) (by kernel_rfl) (fun _ _ _ h => h) (Or.inr ⟨by rfl, rfl⟩) (by assumption) ?_
    simp only [Act.put, List.getElem_toArray, List.getElem_cons_zero, List.getElem_cons_succ, List.setIfInBounds_toArray, List.set_cons_zero, List.set_cons_succ]
    refine wpAnyH_take (i := 12) (oi := _) (v := undef) rfl (by kernel_rfl) (by kernel_rfl) (by kernel_rfl) (fun _ _ _ h => h) (Or.inr ⟨by rfl, rfl⟩) (by assumption) ?_
    simp only [Act.put, List.getElem_toArray, List.getElem_cons_zero, List.getElem_cons_succ, List.setIfInBounds_toArray, List.set_cons_zero, List.set_cons_succ]
    refine wpAnyH_take (i := 13) (oi := _) (v := undef) rfl (by kernel_rfl) (by kernel_rfl) (by kernel_rfl) (fun _ _ _ h => h) (Or.inr ⟨by rfl, rfl⟩) (by assumption) ?_
    simp only [Act.put, List.getElem_toArray, List.getElem_cons_zero, List.getElem_cons_succ, List.setIfInBounds_toArray, List.set_cons_zero, List.set_cons_succ]
    refine wpAnyH_take (i := 14) (oi := _) (v := ?_) rfl (by kernel_rfl) (by kernel_rfl) (by kernel_rfl) (fun _ _ _ h => h) (Or.inl ⟨by rfl, ?_⟩) (by assumption) ?_
    rotate_left
    · intro w hSw
      try dsimp only at hSw
      go_simp
      try with_reducible rfl
    simp only [Act.put, List.getElem_toArray, List.getElem_cons_zero, List.getElem_cons_succ, List.setIfInBounds_toArray, List.set_cons_zero, List.set_cons_succ]
    refine wpAnyH_done (by kernel_rfl) ?_ _
    clear hHeld
    go_wp2_with fail
    go_ret
    exact ⟨rfl, Below.drew hT8⟩
  have hn1 : (NV != 0) = false := by rw [hNV]; rfl
  cases HV with
  | false =>
    clear LK hPL HSS HTW
    go_wp2_with fail
    refine wp_region_held_drew (S := fun q => q.cell? ⟨w.heap.size + 1 + 1, 0, none⟩ = some (.int .i64 xs0) ∧ q.cell? ⟨w.heap.size + 1 + 1, 1, none⟩ = some (.slice xa xn xk) ∧ q.cell? ⟨w.heap.size + 1 + 1, 2, none⟩ = some (.int .i64 xr) ∧ q.cell? ⟨w.heap.size + 1 + 1, 3, none⟩ = some (.int .u64 xroot) ∧ q.cell? ⟨w.heap.size + 1 + 1, 4, none⟩ = some (.int .u64 xchain) ∧ q.cell? ⟨g, K * 5, none⟩ = some (.int .i64 ys0) ∧ q.cell? ⟨g, K * 5 + 1, none⟩ = some (.slice ya yn yk) ∧ q.cell? ⟨g, K * 5 + 2, none⟩ = some (.int .i64 yr) ∧ q.cell? ⟨g, K * 5 + 3, none⟩ = some (.int .u64 yroot) ∧ q.cell? ⟨g, K * 5 + 4, none⟩ = some (.int .u64 ychain)) (by kernel_rfl) (by with_reducible exact S0) (fun hHeld => ?_)
    refine wpAnyH_take (i := 0) (oi := _) (v := ?_) rfl (by kernel_rfl) (by kernel_rfl) (by kernel_rfl) (fun _ _ _ h => h) (Or.inl ⟨by rfl, ?_⟩) (by assumption) ?_
    rotate_left
    · intro w hSw
      try dsimp only at hSw
      go_simp
      try with_reducible rfl
    simp only [Act.put, List.getElem_toArray, List.getElem_cons_zero, List.setIfInBounds_toArray, List.set_cons_zero, List.set_cons_succ]
    refine wpAnyH_take (i := 1) (oi := _) (v := ?_) rfl (by kernel_rfl) (by kernel_rfl) (by kernel_rfl) (fun _ _ _ h => h) (Or.inl ⟨by rfl, ?_⟩) (by assumption) ?_
    rotate_left
    · intro w hSw
      try dsimp only at hSw
      go_simp
      try with_reducible rfl
    simp only [Act.put, List.getElem_toArray, List.getElem_cons_zero, List.getElem_cons_succ, List.setIfInBounds_toArray, List.set_cons_zero, List.set_cons_succ]
    refine wpAnyH_take (i := 2) (oi := _) (v := ?_) rfl (by kernel_rfl) (by kernel_rfl) (by kernel_rfl) (fun _ _ _ h => h) (Or.inl ⟨by rfl, ?_⟩) (by assumption) ?_
    rotate_left
    · intro w hSw
      try dsimp only at hSw
      go_simp
      try with_reducible rfl
    simp only [Act.put, List.getElem_toArray, List.getElem_cons_zero, List.getElem_cons_succ, List.setIfInBounds_toArray, List.set_cons_zero, List.set_cons_succ]
    refine wpAnyH_take (i := 3) (oi := _) (v := ?_) rfl (by kernel_rfl) (by kernel_rfl) (by kernel_rfl) (fun _ _ _ h => h) (Or.inl ⟨by rfl, ?_⟩) (by assumption) ?_
    rotate_left
    · intro w hSw
      try dsimp only at hSw
      go_simp
      try with_reducible rfl
    simp only [Act.put, List.getElem_toArray, List.getElem_cons_zero, List.getElem_cons_succ, List.setIfInBounds_toArray, List.set_cons_zero, List.set_cons_succ]
    refine wpAnyH_take (i := 4) (oi := _) (v := ?_) rfl (by kernel_rfl) (by kernel_rfl) (by kernel_rfl) (fun _ _ _ h => h) (Or.inl ⟨by rfl, ?_⟩) (by assumption) ?_
    rotate_left
    · intro w hSw
      try dsimp only at hSw
      go_simp
      try with_reducible rfl
    simp only [Act.put, List.getElem_toArray, List.getElem_cons_zero, List.getElem_cons_succ, List.setIfInBounds_toArray, List.set_cons_zero, List.set_cons_succ]
    refine wpAnyH_take (i := 5) (oi := _) (v := ?_) rfl (by kernel_rfl) (by kernel_rfl) (by kernel_rfl) (fun _ _ _ h => h) (Or.inl ⟨by rfl, ?_⟩) (by assumption) ?_
    rotate_left
    · intro w hSw
      try dsimp only at hSw
      go_simp
      try with_reducible rfl
    simp only [Act.put, List.getElem_toArray, List.getElem_cons_zero, List.getElem_cons_succ, List.setIfInBounds_toArray, List.set_cons_zero, List.set_cons_succ]
    refine wpAnyH_take (i := 6) (oi := _) (v := ?_) rfl (by kernel_rfl) (by kernel_rfl) (by kernel_rfl) (fun _ _ _ h => h) (Or.inl ⟨by rfl, ?_⟩) (by assumption) ?_
    rotate_left
    · intro w hSw
      try dsimp only at hSw
      go_simp
      try with_reducible rfl
    simp only [Act.put, List.getElem_toArray, List.getElem_cons_zero, List.getElem_cons_succ, List.setIfInBounds_toArray, List.set_cons_zero, List.set_cons_succ]
    refine wpAnyH_take (i := 7) (oi := _) (v := undef) rfl (by kernel_rfl) (by kernel_rfl) (by kernel_rfl) (fun _ _ _ h => h) (Or.inr ⟨by rfl, rfl⟩) (by assumption) ?_
    simp only [Act.put, List.getElem_toArray, List.getElem_cons_zero, List.getElem_cons_succ, List.setIfInBounds_toArray, List.set_cons_zero, List.set_cons_succ]
    refine wpAnyH_take (i := 8) (oi := _) (v := undef) rfl (by kernel_rfl) (by kernel_rfl) (by kernel_rfl) (fun _ _ _ h => h) (Or.inr ⟨by rfl, rfl⟩) (by assumption) ?_
    simp only [Act.put, List.getElem_toArray, List.getElem_cons_zero, List.getElem_cons_succ, List.setIfInBounds_toArray, List.set_cons_zero, List.set_cons_succ]
    refine wpAnyH_take (i := 9) (oi := _) (v := undef) rfl (by kernel_rfl) (by kernel_rfl) (by kernel_rfl) (fun _ _ _ h => h) (Or.inr ⟨by rfl, rfl⟩) (by assumption) ?_
    simp only [Act.put, List.getElem_toArray, List.getElem_cons_zero, List.getElem_cons_succ, List.setIfInBounds_toArray, List.set_cons_zero, List.set_cons_succ]
    refine wpAnyH_take (i := 10) (oi := _) (v := undef) rfl (by kernel_rfl) (by kernel_rfl) (by kernel_rfl) (fun _ _ _ h => h) (Or.inr ⟨by rfl, rfl⟩) (by assumption) ?_
    simp only [Act.put, List.getElem_toArray, List.getElem_cons_zero, List.getElem_cons_succ, List.setIfInBounds_toArray, List.set_cons_zero, List.set_cons_succ]
    refine wpAnyH_take (i := 11) (oi := _) (v := undef) rfl (by kernel_rfl) (by kernel_rfl) (by kernel_rfl) (fun _ _ _ h => h) (Or.inr ⟨by rfl, rfl⟩) (by assumption) ?_
    simp only [Act.put, List.getElem_toArray, List.getElem_cons_zero, List.getElem_cons_succ, List.setIfInBounds_toArray, List.set_cons_zero, List.set_cons_succ]
    refine wpAnyH_take (i := 12) (oi := _) (v := undef) rfl (by kernel_rfl) (by kernel_rfl) (by kernel_rfl) (fun _ _ _ h => h) (Or.inr ⟨by rfl, rfl⟩) (by assumption) ?_
    simp only [Act.put, List.getElem_toArray, List.getElem_cons_zero, List.getElem_cons_succ, List.setIfInBounds_toArray, List.set_cons_zero, List.set_cons_succ]
    refine wpAnyH_take (i := 13) (oi := _) (v := undef) rfl (by kernel_rfl) (by kernel_rfl) (by kernel_rfl) (fun _ _ _ h => h) (Or.inr ⟨by rfl, rfl⟩) (by assumption) ?_
    simp only [Act.put, List.getElem_toArray, List.getElem_cons_zero, List.getElem_cons_succ, List.setIfInBounds_toArray, List.set_cons_zero, List.set_cons_succ]
    refine wpAnyH_take (i := 14) (oi := _) (v := ?_) rfl (by kernel_rfl) (by kernel_rfl) (by kernel_rfl) (fun _ _ _ h => h) (Or.inl ⟨by rfl, ?_⟩) (by assumption) ?_
    rotate_left
    · intro w hSw
      try dsimp only at hSw
      go_simp
      try with_reducible rfl
    simp only [Act.put, List.getElem_toArray, List.getElem_cons_zero, List.getElem_cons_succ, List.setIfInBounds_toArray, List.set_cons_zero, List.set_cons_succ]
    refine wpAnyH_done (by kernel_rfl) ?_ _
    clear hHeld
    go_wp2_with fail
    go_ret
    exact ⟨rfl, Below.drew hT8⟩
  | true =>
  have hPL2 := hPL hNV rfl
  clear hPL
  generalize likeB ⟨xs0, xa, xn, xk, xr, xroot, xchain⟩ ⟨ys0, ya, yn, yk, yr, yroot, ychain⟩ xs (DB K) = LB at *
  cases LB with
  | true =>
    clear hPL2 HSS HTW
    go_wp2_with fail
    refine wp_region_held_drew (S := fun q => q.cell? ⟨w.heap.size + 1 + 1, 0, none⟩ = some (.int .i64 xs0) ∧ q.cell? ⟨w.heap.size + 1 + 1, 1, none⟩ = some (.slice xa xn xk) ∧ q.cell? ⟨w.heap.size + 1 + 1, 2, none⟩ = some (.int .i64 xr) ∧ q.cell? ⟨w.heap.size + 1 + 1, 3, none⟩ = some (.int .u64 xroot) ∧ q.cell? ⟨w.heap.size + 1 + 1, 4, none⟩ = some (.int .u64 xchain) ∧ q.cell? ⟨g, K * 5, none⟩ = some (.int .i64 ys0) ∧ q.cell? ⟨g, K * 5 + 1, none⟩ = some (.slice ya yn yk) ∧ q.cell? ⟨g, K * 5 + 2, none⟩ = some (.int .i64 yr) ∧ q.cell? ⟨g, K * 5 + 3, none⟩ = some (.int .u64 yroot) ∧ q.cell? ⟨g, K * 5 + 4, none⟩ = some (.int .u64 ychain)) (by kernel_rfl) (by with_reducible exact S0) (fun hHeld => ?_)
    refine wpAnyH_take (i := 0) (oi := _) (v := ?_) rfl (by kernel_rfl) (by kernel_rfl) (by kernel_rfl) (fun _ _ _ h => h) (Or.inl ⟨by rfl, ?_⟩) (by assumption) ?_
    rotate_left
    · intro w hSw
      try dsimp only at hSw
      go_simp
      try with_reducible rfl
    simp only [Act.put, List.getElem_toArray, List.getElem_cons_zero, List.setIfInBounds_toArray, List.set_cons_zero, List.set_cons_succ]
    refine wpAnyH_take (i := 1) (oi := _) (v := ?_) rfl (by kernel_rfl) (by kernel_rfl) (by kernel_rfl) (fun _ _ _ h => h) (Or.inl ⟨by rfl, ?_⟩) (by assumption) ?_
    rotate_left
    · intro w hSw
      try dsimp only at hSw
      go_simp
      try with_reducible rfl
    simp only [Act.put, List.getElem_toArray, List.getElem_cons_zero, List.getElem_cons_succ, List.setIfInBounds_toArray, List.set_cons_zero, List.set_cons_succ]
    refine wpAnyH_take (i := 2) (oi := _) (v := ?_) rfl (by kernel_rfl) (by kernel_rfl) (by kernel_rfl) (fun _ _ _ h => h) (Or.inl ⟨by rfl, ?_⟩) (by assumption) ?_
    rotate_left
    · intro w hSw
      try dsimp only at hSw
      go_simp
      try with_reducible rfl
    simp only [Act.put, List.getElem_toArray, List.getElem_cons_zero, List.getElem_cons_succ, List.setIfInBounds_toArray, List.set_cons_zero, List.set_cons_succ]
    refine wpAnyH_take (i := 3) (oi := _) (v := ?_) rfl (by kernel_rfl) (by kernel_rfl) (by kernel_rfl) (fun _ _ _ h => h) (Or.inl ⟨by rfl, ?_⟩) (by assumption) ?_
    rotate_left
    · intro w hSw
      try dsimp only at hSw
      go_simp
      try with_reducible rfl
    simp only [Act.put, List.getElem_toArray, List.getElem_cons_zero, List.getElem_cons_succ, List.setIfInBounds_toArray, List.set_cons_zero, List.set_cons_succ]
    refine wpAnyH_take (i := 4) (oi := _) (v := ?_) rfl (by kernel_rfl) (by kernel_rfl) (by kernel_rfl) (fun _ _ _ h => h) (Or.inl ⟨by rfl, ?_⟩) (by assumption) ?_
    rotate_left
    · intro w hSw
      try dsimp only at hSw
      go_simp
      try with_reducible rfl
    simp only [Act.put, List.getElem_toArray, List.getElem_cons_zero, List.getElem_cons_succ, List.setIfInBounds_toArray, List.set_cons_zero, List.set_cons_succ]
    refine wpAnyH_take (i := 5) (oi := _) (v := ?_) rfl (by kernel_rfl) (by kernel_rfl) (by kernel_rfl) (fun _ _ _ h => h) (Or.inl ⟨by rfl, ?_⟩) (by assumption) ?_
    rotate_left
    · intro w hSw
      try dsimp only at hSw
      go_simp
      try with_reducible rfl
    simp only [Act.put, List.getElem_toArray, List.getElem_cons_zero, List.getElem_cons_succ, List.setIfInBounds_toArray, List.set_cons_zero, List.set_cons_succ]
    refine wpAnyH_take (i := 6) (oi := _) (v := ?_) rfl (by kernel_rfl) (by kernel_rfl) (by kernel_rfl) (fun _ _ _ h => h) (Or.inl ⟨by rfl, ?_⟩) (by assumption) ?_
    rotate_left
    · intro w hSw
      try dsimp only at hSw
      go_simp
      try with_reducible rfl
    simp only [Act.put, List.getElem_toArray, List.getElem_cons_zero, List.getElem_cons_succ, List.setIfInBounds_toArray, List.set_cons_zero, List.set_cons_succ]
    refine wpAnyH_take (i := 7) (oi := _) (v := ?_) rfl (by kernel_rfl) (by kernel_rfl) (by kernel_rfl) (fun _ _ _ h => h) (Or.inl ⟨by rfl, ?_⟩) (by assumption) ?_
    rotate_left
    · intro w hSw
      try dsimp only at hSw
      go_simp
      try with_reducible rfl
    simp only [Act.put, List.getElem_toArray, List.getElem_cons_zero, List.getElem_cons_succ, List.setIfInBounds_toArray, List.set_cons_zero, List.set_cons_succ]
    refine wpAnyH_take (i := 8) (oi := _) (v := ?_) rfl (by kernel_rfl) (by kernel_rfl) (by kernel_rfl) (fun _ _ _ h => h) (Or.inl ⟨by rfl, ?_⟩) (by assumption) ?_
    rotate_left
    · intro w hSw
      try dsimp only at hSw
      go_simp
      try with_reducible rfl
    simp only [Act.put, List.getElem_toArray, List.getElem_cons_zero, List.getElem_cons_succ, List.setIfInBounds_toArray, List.set_cons_zero, List.set_cons_succ]
    refine wpAnyH_take (i := 9) (oi := _) (v := ?_) rfl (by kernel_rfl) (by kernel_rfl) (by kernel_rfl) (fun _ _ _ h => h) (Or.inl ⟨by rfl, ?_⟩) (by assumption) ?_
    rotate_left
    · intro w hSw
      try dsimp only at hSw
      go_simp
      try with_reducible rfl
    simp only [Act.put, List.getElem_toArray, List.getElem_cons_zero, List.getElem_cons_succ, List.setIfInBounds_toArray, List.set_cons_zero, List.set_cons_succ]
    refine wpAnyH_take (i := 10) (oi := _) (v := ?_) rfl (by kernel_rfl) (by kernel_rfl) (by kernel_rfl) (fun _ _ _ h => h) (Or.inl ⟨by rfl, ?_⟩) (by assumption) ?_
    rotate_left
    · intro w hSw
      try dsimp only at hSw
      go_simp
      try with_reducible rfl
    simp only [Act.put, List.getElem_toArray, List.getElem_cons_zero, List.getElem_cons_succ, List.setIfInBounds_toArray, List.set_cons_zero, List.set_cons_succ]
    refine wpAnyH_take (i := 11) (oi := _) (v := ?_) rfl (by kernel_rfl) (by kernel_rfl) (by kernel_rfl) (fun _ _ _ h => h) (Or.inl ⟨by rfl, ?_⟩) (by assumption) ?_
    rotate_left
    · intro w hSw
      try dsimp only at hSw
      go_simp
      try with_reducible rfl
    simp only [Act.put, List.getElem_toArray, List.getElem_cons_zero, List.getElem_cons_succ, List.setIfInBounds_toArray, List.set_cons_zero, List.set_cons_succ]
    refine wpAnyH_take (i := 12) (oi := _) (v := ?_) rfl (by kernel_rfl) (by kernel_rfl) (by kernel_rfl) (fun _ _ _ h => h) (Or.inl ⟨by rfl, ?_⟩) (by assumption) ?_
    rotate_left
    · intro w hSw
      try dsimp only at hSw
      go_simp
      try with_reducible rfl
    simp only [Act.put, List.getElem_toArray, List.getElem_cons_zero, List.getElem_cons_succ, List.setIfInBounds_toArray, List.set_cons_zero, List.set_cons_succ]
    refine wpAnyH_ready (rs := [13]) (by kernel_rfl) (by simp) ?_
    refine AllReadyH.cons (o := _) rfl (fun K hK => ?_) AllReadyH.nil
    clear hHeld
    go_simp
    (go_at_call 12; refine LK.mono ?_; rintro e q1 ⟨rfl, hq1⟩; have V1 := undrew hq1; have S1 := KS.out _ V1)
    go_wp2_with fail
    refine hK.out _ _ ?_ (fun hHeld => ?_)
    · with_reducible exact S1
    clear hK K
    try simp only [Act.put, List.setIfInBounds_toArray, List.set_cons_zero, List.set_cons_succ]
    refine wpAnyH_take (i := 14) (oi := _) (v := ?_) rfl (by kernel_rfl) (by kernel_rfl) (by kernel_rfl) (fun _ _ _ h => h) (Or.inl ⟨by rfl, ?_⟩) (by assumption) ?_
    rotate_left
    · intro w hSw
      try dsimp only at hSw
      go_simp
      try with_reducible rfl
    simp only [Act.put, List.getElem_toArray, List.getElem_cons_zero, List.getElem_cons_succ, List.setIfInBounds_toArray, List.set_cons_zero, List.set_cons_succ]
    refine wpAnyH_done (by kernel_rfl) ?_ _
    clear hHeld
    go_wp2_with fail
    go_ret
    exact ⟨rfl, hT8.trans (V1.mono hT8.size)⟩
  | false =>
    obtain ⟨e1, e2, r1, r2, r3, r4, hrt, hne⟩ := hPL2 rfl
    have n1b : n1 ≤ 200 := e1 ▸ Nat.le_trans nn2 (by decide)
    have n2b : n2 ≤ 200 := e2 ▸ Nat.le_trans nn2 (by decide)
    have HRG : Hid (rightB ws = true ∧ rightB ms = true ∧ rightB (SW K) = true ∧ rightB (SM K) = true ∧ rootP ws ms (n1 + n2) = RK ∧ n1 = NN ∧ n2 = NN) := ⟨r1, r2, r3, r4, hrt, e1, e2⟩
    have HNE : Hid ((decide (ws = SW K) && decide (ms = SM K)) = false) := hne
    clear r1 r2 r3 r4 hrt hne e1 e2 hPL2
    go_wp2_with fail
    refine wp_region_held_drew (S := fun q => q.cell? ⟨w.heap.size + 1 + 1, 0, none⟩ = some (.int .i64 xs0) ∧ q.cell? ⟨w.heap.size + 1 + 1, 1, none⟩ = some (.slice xa xn xk) ∧ q.cell? ⟨w.heap.size + 1 + 1, 2, none⟩ = some (.int .i64 xr) ∧ q.cell? ⟨w.heap.size + 1 + 1, 3, none⟩ = some (.int .u64 xroot) ∧ q.cell? ⟨w.heap.size + 1 + 1, 4, none⟩ = some (.int .u64 xchain) ∧ q.cell? ⟨g, K * 5, none⟩ = some (.int .i64 ys0) ∧ q.cell? ⟨g, K * 5 + 1, none⟩ = some (.slice ya yn yk) ∧ q.cell? ⟨g, K * 5 + 2, none⟩ = some (.int .i64 yr) ∧ q.cell? ⟨g, K * 5 + 3, none⟩ = some (.int .u64 yroot) ∧ q.cell? ⟨g, K * 5 + 4, none⟩ = some (.int .u64 ychain)) (by kernel_rfl) (by with_reducible exact S0) (fun hHeld => ?_)
    refine wpAnyH_take (i := 0) (oi := _) (v := ?_) rfl (by kernel_rfl) (by kernel_rfl) (by kernel_rfl) (fun _ _ _ h => h) (Or.inl ⟨by rfl, ?_⟩) (by assumption) ?_
    rotate_left
    · intro w hSw
      try dsimp only at hSw
      go_simp
      try with_reducible rfl
    simp only [Act.put, List.getElem_toArray, List.getElem_cons_zero, List.setIfInBounds_toArray, List.set_cons_zero, List.set_cons_succ]
    refine wpAnyH_take (i := 1) (oi := _) (v := ?_) rfl (by kernel_rfl) (by kernel_rfl) (by kernel_rfl) (fun _ _ _ h => h) (Or.inl ⟨by rfl, ?_⟩) (by assumption) ?_
    rotate_left
    · intro w hSw
      try dsimp only at hSw
      go_simp
      try with_reducible rfl
    simp only [Act.put, List.getElem_toArray, List.getElem_cons_zero, List.getElem_cons_succ, List.setIfInBounds_toArray, List.set_cons_zero, List.set_cons_succ]
    refine wpAnyH_take (i := 2) (oi := _) (v := ?_) rfl (by kernel_rfl) (by kernel_rfl) (by kernel_rfl) (fun _ _ _ h => h) (Or.inl ⟨by rfl, ?_⟩) (by assumption) ?_
    rotate_left
    · intro w hSw
      try dsimp only at hSw
      go_simp
      try with_reducible rfl
    simp only [Act.put, List.getElem_toArray, List.getElem_cons_zero, List.getElem_cons_succ, List.setIfInBounds_toArray, List.set_cons_zero, List.set_cons_succ]
    refine wpAnyH_take (i := 3) (oi := _) (v := ?_) rfl (by kernel_rfl) (by kernel_rfl) (by kernel_rfl) (fun _ _ _ h => h) (Or.inl ⟨by rfl, ?_⟩) (by assumption) ?_
    rotate_left
    · intro w hSw
      try dsimp only at hSw
      go_simp
      try with_reducible rfl
    simp only [Act.put, List.getElem_toArray, List.getElem_cons_zero, List.getElem_cons_succ, List.setIfInBounds_toArray, List.set_cons_zero, List.set_cons_succ]
    refine wpAnyH_take (i := 4) (oi := _) (v := ?_) rfl (by kernel_rfl) (by kernel_rfl) (by kernel_rfl) (fun _ _ _ h => h) (Or.inl ⟨by rfl, ?_⟩) (by assumption) ?_
    rotate_left
    · intro w hSw
      try dsimp only at hSw
      go_simp
      try with_reducible rfl
    simp only [Act.put, List.getElem_toArray, List.getElem_cons_zero, List.getElem_cons_succ, List.setIfInBounds_toArray, List.set_cons_zero, List.set_cons_succ]
    refine wpAnyH_take (i := 5) (oi := _) (v := ?_) rfl (by kernel_rfl) (by kernel_rfl) (by kernel_rfl) (fun _ _ _ h => h) (Or.inl ⟨by rfl, ?_⟩) (by assumption) ?_
    rotate_left
    · intro w hSw
      try dsimp only at hSw
      go_simp
      try with_reducible rfl
    simp only [Act.put, List.getElem_toArray, List.getElem_cons_zero, List.getElem_cons_succ, List.setIfInBounds_toArray, List.set_cons_zero, List.set_cons_succ]
    refine wpAnyH_take (i := 6) (oi := _) (v := ?_) rfl (by kernel_rfl) (by kernel_rfl) (by kernel_rfl) (fun _ _ _ h => h) (Or.inl ⟨by rfl, ?_⟩) (by assumption) ?_
    rotate_left
    · intro w hSw
      try dsimp only at hSw
      go_simp
      try with_reducible rfl
    simp only [Act.put, List.getElem_toArray, List.getElem_cons_zero, List.getElem_cons_succ, List.setIfInBounds_toArray, List.set_cons_zero, List.set_cons_succ]
    refine wpAnyH_take (i := 7) (oi := _) (v := ?_) rfl (by kernel_rfl) (by kernel_rfl) (by kernel_rfl) (fun _ _ _ h => h) (Or.inl ⟨by rfl, ?_⟩) (by assumption) ?_
    rotate_left
    · intro w hSw
      try dsimp only at hSw
      go_simp
      try with_reducible rfl
    simp only [Act.put, List.getElem_toArray, List.getElem_cons_zero, List.getElem_cons_succ, List.setIfInBounds_toArray, List.set_cons_zero, List.set_cons_succ]
    refine wpAnyH_take (i := 8) (oi := _) (v := ?_) rfl (by kernel_rfl) (by kernel_rfl) (by kernel_rfl) (fun _ _ _ h => h) (Or.inl ⟨by rfl, ?_⟩) (by assumption) ?_
    rotate_left
    · intro w hSw
      try dsimp only at hSw
      go_simp
      try with_reducible rfl
    simp only [Act.put, List.getElem_toArray, List.getElem_cons_zero, List.getElem_cons_succ, List.setIfInBounds_toArray, List.set_cons_zero, List.set_cons_succ]
    refine wpAnyH_take (i := 9) (oi := _) (v := ?_) rfl (by kernel_rfl) (by kernel_rfl) (by kernel_rfl) (fun _ _ _ h => h) (Or.inl ⟨by rfl, ?_⟩) (by assumption) ?_
    rotate_left
    · intro w hSw
      try dsimp only at hSw
      go_simp
      try with_reducible rfl
    simp only [Act.put, List.getElem_toArray, List.getElem_cons_zero, List.getElem_cons_succ, List.setIfInBounds_toArray, List.set_cons_zero, List.set_cons_succ]
    refine wpAnyH_take (i := 10) (oi := _) (v := ?_) rfl (by kernel_rfl) (by kernel_rfl) (by kernel_rfl) (fun _ _ _ h => h) (Or.inl ⟨by rfl, ?_⟩) (by assumption) ?_
    rotate_left
    · intro w hSw
      try dsimp only at hSw
      go_simp
      try with_reducible rfl
    simp only [Act.put, List.getElem_toArray, List.getElem_cons_zero, List.getElem_cons_succ, List.setIfInBounds_toArray, List.set_cons_zero, List.set_cons_succ]
    refine wpAnyH_take (i := 11) (oi := _) (v := ?_) rfl (by kernel_rfl) (by kernel_rfl) (by kernel_rfl) (fun _ _ _ h => h) (Or.inl ⟨by rfl, ?_⟩) (by assumption) ?_
    rotate_left
    · intro w hSw
      try dsimp only at hSw
      go_simp
      try with_reducible rfl
    simp only [Act.put, List.getElem_toArray, List.getElem_cons_zero, List.getElem_cons_succ, List.setIfInBounds_toArray, List.set_cons_zero, List.set_cons_succ]
    refine wpAnyH_take (i := 12) (oi := _) (v := ?_) rfl (by kernel_rfl) (by kernel_rfl) (by kernel_rfl) (fun _ _ _ h => h) (Or.inl ⟨by rfl, ?_⟩) (by assumption) ?_
    rotate_left
    · intro w hSw
      try dsimp only at hSw
      go_simp
      try with_reducible rfl
    simp only [Act.put, List.getElem_toArray, List.getElem_cons_zero, List.getElem_cons_succ, List.setIfInBounds_toArray, List.set_cons_zero, List.set_cons_succ]
    refine wpAnyH_ready (rs := [13]) (by kernel_rfl) (by simp) ?_
    refine AllReadyH.cons (o := _) rfl (fun K hK => ?_) AllReadyH.nil
    clear hHeld
    go_simp
    (go_at_call 12; refine LK.mono ?_; rintro e q1 ⟨rfl, hq1⟩; have V1 := undrew hq1; have S1 := KS.out _ V1)
    go_wp2_with fail
    refine hK.out _ _ ?_ (fun hHeld => ?_)
    · with_reducible exact S1
    clear hK K
    try simp only [Act.put, List.setIfInBounds_toArray, List.set_cons_zero, List.set_cons_succ]
    refine wpAnyH_take (i := 14) (oi := _) (v := ?_) rfl (by kernel_rfl) (by kernel_rfl) (by kernel_rfl) (fun _ _ _ h => h) (Or.inl ⟨by rfl, ?_⟩) (by assumption) ?_
    rotate_left
    · intro w hSw
      try dsimp only at hSw
      go_simp
      try with_reducible rfl
    simp only [Act.put, List.getElem_toArray, List.getElem_cons_zero, List.getElem_cons_succ, List.setIfInBounds_toArray, List.set_cons_zero, List.set_cons_succ]
    refine wpAnyH_done (by kernel_rfl) ?_ _
    clear hHeld S0 S1 LK KS
    have hT9 := hT8.trans (V1.mono hT8.size)
    have KS2 : Hid (∀ q, Below q1.heap.size q1 q → q.cell? ⟨w.heap.size + 1, 0, none⟩ = some (.slice a1 n1 k1) ∧ q.cell? ⟨w.heap.size + 1, 1, none⟩ = some (.slice a2 n2 k2) ∧ q.cell? ⟨gl, yo + K * 2, none⟩ = some (.slice za NN zk) ∧ q.cell? ⟨gl, yo + K * 2 + 1, none⟩ = some (.slice zb NN zt)) := fun q hq => by
      have hq8 := V1.trans (hq.mono V1.size)
      exact ⟨(hq8.cell (p := ⟨w.heap.size + 1, 0, none⟩) (cell_lt t0)).trans t0, (hq8.cell (p := ⟨w.heap.size + 1, 1, none⟩) (cell_lt t1)).trans t1, (hq8.cell (p := ⟨gl, yo + K * 2, none⟩) (cell_lt u08)).trans u08, (hq8.cell (p := ⟨gl, yo + K * 2 + 1, none⟩) (cell_lt u18)).trans u18⟩
    have S0 := KS2.out _ (Below.drew (Below.refl _ _))
    have j19 := j18.below V1 (Nat.le_refl _)
    have hdr : Below q1.heap.size q1 q1.drew := Below.drew (Below.refl _ _)
    have hTd : Below w.heap.size w q1.drew := Below.drew hT9
    have j29 := j28.below V1 (Nat.le_refl _)
    have jd1 := j19.below hdr (Nat.le_refl _)
    have jd2 := j29.below hdr (Nat.le_refl _)
    have SS := HSS.out za zk (SW K) zb zt NN (SM K) q1.drew hTd n1b n2b jd1 jd2
    rw [HNE.out] at SS
    have TR : Hid (∀ q, Below q1.heap.size q1 q → Calls Tryz.prog 14 #[.agg #[.slice a1 n1 k1, .slice a2 n2 k2], .agg #[.slice za NN zk, .slice zb NN zt]] q fun e w' => e = .returned (.bool true) ∧ Below q.heap.size q w') := fun q hq => HTW.out za zk (SW K) zb zt NN (SM K) q (hT9.trans (hq.mono hT9.size)) HRG.out.2.2.2.2.2.1 HRG.out.2.2.2.2.2.2 nn1 nn2 (j19.below hq (Nat.le_refl _)) (j29.below hq (Nat.le_refl _)) HRG.out.1 HRG.out.2.1 HRG.out.2.2.1 HRG.out.2.2.2.1 (HRG.out.2.2.2.2.1.trans HRKE.out.symm) HNE.out
    clear HSS HTW t0 t1 u08 u18 j18 j28 j19 j29 jd1 jd2 hdr hTd
    go_wp2_with fail
    refine wp_region_held_drew (S := fun q => q.cell? ⟨w.heap.size + 1, 0, none⟩ = some (.slice a1 n1 k1) ∧ q.cell? ⟨w.heap.size + 1, 1, none⟩ = some (.slice a2 n2 k2) ∧ q.cell? ⟨gl, yo + K * 2, none⟩ = some (.slice za NN zk) ∧ q.cell? ⟨gl, yo + K * 2 + 1, none⟩ = some (.slice zb NN zt)) (by kernel_rfl) (by with_reducible exact S0) (fun hHeld => ?_)
    refine wpAnyH_take (i := 0) (oi := _) (v := ?_) rfl (by kernel_rfl) (by kernel_rfl) (by kernel_rfl) (fun _ _ _ h => h) (Or.inl ⟨by rfl, ?_⟩) (by assumption) ?_
    rotate_left
    · intro w hSw
      try dsimp only at hSw
      go_simp
      try with_reducible rfl
    simp only [Act.put, List.getElem_toArray, List.getElem_cons_zero, List.setIfInBounds_toArray, List.set_cons_zero, List.set_cons_succ]
    refine wpAnyH_take (i := 1) (oi := _) (v := ?_) rfl (by kernel_rfl) (by kernel_rfl) (by kernel_rfl) (fun _ _ _ h => h) (Or.inl ⟨by rfl, ?_⟩) (by assumption) ?_
    rotate_left
    · intro w hSw
      try dsimp only at hSw
      go_simp
      try with_reducible rfl
    simp only [Act.put, List.getElem_toArray, List.getElem_cons_zero, List.getElem_cons_succ, List.setIfInBounds_toArray, List.set_cons_zero, List.set_cons_succ]
    refine wpAnyH_take (i := 2) (oi := _) (v := ?_) rfl (by kernel_rfl) (by kernel_rfl) (by kernel_rfl) (fun _ _ _ h => h) (Or.inl ⟨by rfl, ?_⟩) (by assumption) ?_
    rotate_left
    · intro w hSw
      try dsimp only at hSw
      go_simp
      try with_reducible rfl
    simp only [Act.put, List.getElem_toArray, List.getElem_cons_zero, List.getElem_cons_succ, List.setIfInBounds_toArray, List.set_cons_zero, List.set_cons_succ]
    refine wpAnyH_take (i := 3) (oi := _) (v := ?_) rfl (by kernel_rfl) (by kernel_rfl) (by kernel_rfl) (fun _ _ _ h => h) (Or.inl ⟨by rfl, ?_⟩) (by assumption) ?_
    rotate_left
    · intro w hSw
      try dsimp only at hSw
      go_simp
      try with_reducible rfl
    simp only [Act.put, List.getElem_toArray, List.getElem_cons_zero, List.getElem_cons_succ, List.setIfInBounds_toArray, List.set_cons_zero, List.set_cons_succ]
    refine wpAnyH_take (i := 4) (oi := _) (v := ?_) rfl (by kernel_rfl) (by kernel_rfl) (by kernel_rfl) (fun _ _ _ h => h) (Or.inl ⟨by rfl, ?_⟩) (by assumption) ?_
    rotate_left
    · intro w hSw
      try dsimp only at hSw
      go_simp
      try with_reducible rfl
    simp only [Act.put, List.getElem_toArray, List.getElem_cons_zero, List.getElem_cons_succ, List.setIfInBounds_toArray, List.set_cons_zero, List.set_cons_succ]
    refine wpAnyH_take (i := 5) (oi := _) (v := ?_) rfl (by kernel_rfl) (by kernel_rfl) (by kernel_rfl) (fun _ _ _ h => h) (Or.inl ⟨by rfl, ?_⟩) (by assumption) ?_
    rotate_left
    · intro w hSw
      try dsimp only at hSw
      go_simp
      try with_reducible rfl
    simp only [Act.put, List.getElem_toArray, List.getElem_cons_zero, List.getElem_cons_succ, List.setIfInBounds_toArray, List.set_cons_zero, List.set_cons_succ]
    refine wpAnyH_ready (rs := [6]) (by kernel_rfl) (by simp) ?_
    refine AllReadyH.cons (o := _) rfl (fun K hK => ?_) AllReadyH.nil
    clear hHeld
    go_simp
    (go_at_call 13; refine SS.mono ?_; rintro e q2 ⟨rfl, hq2⟩; have V2 := undrew hq2; have S2 := KS2.out _ V2)
    go_wp2_with fail
    refine hK.out _ _ ?_ (fun hHeld => ?_)
    · with_reducible exact S2
    clear hK K
    try simp only [Act.put, List.setIfInBounds_toArray, List.set_cons_zero, List.set_cons_succ]
    refine wpAnyH_take (i := 7) (oi := _) (v := ?_) rfl (by kernel_rfl) (by kernel_rfl) (by kernel_rfl) (fun _ _ _ h => h) (Or.inl ⟨by rfl, ?_⟩) (by assumption) ?_
    rotate_left
    · intro w hSw
      try dsimp only at hSw
      go_simp
      try with_reducible rfl
    simp only [Act.put, List.getElem_toArray, List.getElem_cons_zero, List.getElem_cons_succ, List.setIfInBounds_toArray, List.set_cons_zero, List.set_cons_succ]
    refine wpAnyH_take (i := 8) (oi := _) (v := ?_) rfl (by kernel_rfl) (by kernel_rfl) (by kernel_rfl) (fun _ _ _ h => h) (Or.inl ⟨by rfl, ?_⟩) (by assumption) ?_
    rotate_left
    · intro w hSw
      try dsimp only at hSw
      go_simp
      try with_reducible rfl
    simp only [Act.put, List.getElem_toArray, List.getElem_cons_zero, List.getElem_cons_succ, List.setIfInBounds_toArray, List.set_cons_zero, List.set_cons_succ]
    refine wpAnyH_take (i := 9) (oi := _) (v := ?_) rfl (by kernel_rfl) (by kernel_rfl) (by kernel_rfl) (fun _ _ _ h => h) (Or.inl ⟨by rfl, ?_⟩) (by assumption) ?_
    rotate_left
    · intro w hSw
      try dsimp only at hSw
      go_simp
      try with_reducible rfl
    simp only [Act.put, List.getElem_toArray, List.getElem_cons_zero, List.getElem_cons_succ, List.setIfInBounds_toArray, List.set_cons_zero, List.set_cons_succ]
    refine wpAnyH_take (i := 10) (oi := _) (v := ?_) rfl (by kernel_rfl) (by kernel_rfl) (by kernel_rfl) (fun _ _ _ h => h) (Or.inl ⟨by rfl, ?_⟩) (by assumption) ?_
    rotate_left
    · intro w hSw
      try dsimp only at hSw
      go_simp
      try with_reducible rfl
    simp only [Act.put, List.getElem_toArray, List.getElem_cons_zero, List.getElem_cons_succ, List.setIfInBounds_toArray, List.set_cons_zero, List.set_cons_succ]
    refine wpAnyH_take (i := 11) (oi := _) (v := ?_) rfl (by kernel_rfl) (by kernel_rfl) (by kernel_rfl) (fun _ _ _ h => h) (Or.inl ⟨by rfl, ?_⟩) (by assumption) ?_
    rotate_left
    · intro w hSw
      try dsimp only at hSw
      go_simp
      try with_reducible rfl
    simp only [Act.put, List.getElem_toArray, List.getElem_cons_zero, List.getElem_cons_succ, List.setIfInBounds_toArray, List.set_cons_zero, List.set_cons_succ]
    refine wpAnyH_take (i := 12) (oi := _) (v := ?_) rfl (by kernel_rfl) (by kernel_rfl) (by kernel_rfl) (fun _ _ _ h => h) (Or.inl ⟨by rfl, ?_⟩) (by assumption) ?_
    rotate_left
    · intro w hSw
      try dsimp only at hSw
      go_simp
      try with_reducible rfl
    simp only [Act.put, List.getElem_toArray, List.getElem_cons_zero, List.getElem_cons_succ, List.setIfInBounds_toArray, List.set_cons_zero, List.set_cons_succ]
    refine wpAnyH_take (i := 13) (oi := _) (v := ?_) rfl (by kernel_rfl) (by kernel_rfl) (by kernel_rfl) (fun _ _ _ h => h) (Or.inl ⟨by rfl, ?_⟩) (by assumption) ?_
    rotate_left
    · intro w hSw
      try dsimp only at hSw
      go_simp
      try with_reducible rfl
    simp only [Act.put, List.getElem_toArray, List.getElem_cons_zero, List.getElem_cons_succ, List.setIfInBounds_toArray, List.set_cons_zero, List.set_cons_succ]
    refine wpAnyH_take (i := 14) (oi := _) (v := ?_) rfl (by kernel_rfl) (by kernel_rfl) (by kernel_rfl) (fun _ _ _ h => h) (Or.inl ⟨by rfl, ?_⟩) (by assumption) ?_
    rotate_left
    · intro w hSw
      try dsimp only at hSw
      go_simp
      try with_reducible rfl
    simp only [Act.put, List.getElem_toArray, List.getElem_cons_zero, List.getElem_cons_succ, List.setIfInBounds_toArray, List.set_cons_zero, List.set_cons_succ]
    refine wpAnyH_ready (rs := [15]) (by kernel_rfl) (by simp) ?_
    refine AllReadyH.cons (o := _) rfl (fun K hK => ?_) AllReadyH.nil
    clear hHeld
    go_simp
    (go_at_call 14; refine (TR.out _ V2).mono ?_; rintro e q3 ⟨rfl, hq3⟩; have V3 := V2.trans (hq3.mono V2.size); have S3 := KS2.out _ V3)
    go_wp2_with fail
    refine hK.out _ _ ?_ (fun hHeld => ?_)
    · with_reducible exact S3
    clear hK K
    try simp only [Act.put, List.setIfInBounds_toArray, List.set_cons_zero, List.set_cons_succ]
    refine wpAnyH_take (i := 16) (oi := _) (v := ?_) rfl (by kernel_rfl) (by kernel_rfl) (by kernel_rfl) (fun _ _ _ h => h) (Or.inl ⟨by rfl, ?_⟩) (by assumption) ?_
    rotate_left
    · intro w hSw
      try dsimp only at hSw
      go_simp
      try with_reducible rfl
    simp only [Act.put, List.getElem_toArray, List.getElem_cons_zero, List.getElem_cons_succ, List.setIfInBounds_toArray, List.set_cons_zero, List.set_cons_succ]
    refine wpAnyH_take (i := 17) (oi := _) (v := ?_) rfl (by kernel_rfl) (by kernel_rfl) (by kernel_rfl) (fun _ _ _ h => h) (Or.inl ⟨by rfl, ?_⟩) (by assumption) ?_
    rotate_left
    · intro w hSw
      try dsimp only at hSw
      go_simp
      try with_reducible rfl
    simp only [Act.put, List.getElem_toArray, List.getElem_cons_zero, List.getElem_cons_succ, List.setIfInBounds_toArray, List.set_cons_zero, List.set_cons_succ]
    refine wpAnyH_done (by kernel_rfl) ?_ _
    clear hHeld
    go_wp2_with fail
    go_ret
    exact ⟨rfl, hT9.trans (V3.mono hT9.size)⟩
end Go.Proofs.YtkikhfdkibekgaaGreat.Fx
