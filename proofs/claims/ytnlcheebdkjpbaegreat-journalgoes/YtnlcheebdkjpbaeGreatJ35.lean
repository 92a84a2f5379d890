/- The walk of JournalGoes: it returns true, whatever config, examples and numbers are handed in, and nothing that was there is written. -/
import Derived.Test.YtnlcheebdkjpbaeGreatJ33
import Derived.Test.YtnlcheebdkjpbaeGreatJ34
import Derived.Deep.DeepCutAuto
import Derived.Deep.CutBlock
import Derived.Deep.QuietTactic
import Derived.Test.YtnlcheebdkjpbaeGreatJ00
import Derived.Test.YtnlcheebdkjpbaeGreatJ11
import Derived.WalkKit
namespace Go.Proofs.YtnlcheebdkjpbaeGreat.Fx
open Go.RowKit

theorem jg1_calls (x : Int) (b : Nat) (a : Option Addr) (n cap : Nat) (w : World) (hc : w.cell? ⟨b, 0, none⟩ = some (.slice a n cap)) (h0 : 0 ≤ x) (h1 : x < (n : Int)) :
    Calls Tryz.prog 12 #[.int .i64 x, .pointer (some ⟨b, 0, none⟩)] w fun e w' => e = .returned (.bool false) ∧ w' = w := by
  have z0 : ¬ x < 0 := by omega
  have z1 : ¬ (n : Int) ≤ x := by omega
  go_enter Tryz.func12, Tryz.ntmps12
  go_wp2
  go_ret
  exact ⟨ret_bool (by simp), rfl⟩

set_option maxHeartbeats 800000 in
theorem jgIdx_calls (a : Option Addr) (la ca : Nat) (xs : List Int) (b : Nat) (ad : Option Addr) (n cap : Nat) (w : World) (ha : Lst w a la ca xs) (h63 : la ≤ 1000) (hc : w.cell? ⟨b, 0, none⟩ = some (.slice ad n cap)) (hall : ∀ j, j < la → 0 ≤ xs.getD j 0 ∧ xs.getD j 0 < (n : Int)) :
    Calls Tryz.prog 25 #[.slice a la ca, .func (.func 12) #[] #[.pointer (some ⟨b, 0, none⟩)]] w fun e w' => e = .returned (.int .i64 (-1)) ∧ w' = w := by
  have HA : Hid (∀ j, j < la → 0 ≤ xs.getD j 0 ∧ xs.getD j 0 < (n : Int)) := hall
  have HC : Hid (w.cell? ⟨b, 0, none⟩ = some (.slice ad n cap)) := hc
  clear hall hc
  go_enter Tryz.func25, Tryz.ntmps25
  go_wp2
  go_loopw [8] (fun i wr => ∃ k : Nat, k ≤ la ∧ i = .int .i64 k ∧ wr = w) (fun i _ => la - (intOf i).toNat)
  case atStart => exact ⟨0, Nat.zero_le _, rfl, rfl⟩
  case round =>
    obtain ⟨k, hk, rfl, hw⟩ := hrel
    replace hw := hw.symm
    subst hw
    by_cases hlt : k < la
    · have hx := HA.out k hlt
      obtain ⟨b1, o1, x, rfl, s1, c1, HX⟩ := ha.at1 hlt
      rw [HX.out] at hx
      have HZ : Hid (0 ≤ x ∧ x < (n : Int)) := hx
      clear hx
      go_wp2_with fail
      refine (jg1_calls _ _ _ _ _ _ HC.out HZ.out.1 HZ.out.2).mono ?_
      rintro e w' ⟨rfl, hw'⟩
      replace hw' := hw'.symm
      subst hw'
      go_wp2
      go_roundw
      case rel => exact ⟨k + 1, by omega, by go_num, by trivial⟩
      case measure => simp [intOf]; omega
    · go_wp2
      go_ret
      exact ⟨rfl, rfl⟩

theorem jgHas_calls (a : Option Addr) (la ca : Nat) (xs : List Int) (b : Nat) (ad : Option Addr) (n cap : Nat) (w : World) (ha : Lst w a la ca xs) (h63 : la ≤ 1000) (hc : w.cell? ⟨b, 0, none⟩ = some (.slice ad n cap)) (hall : ∀ j, j < la → 0 ≤ xs.getD j 0 ∧ xs.getD j 0 < (n : Int)) :
    Calls Tryz.prog 11 #[.slice a la ca, .func (.func 12) #[] #[.pointer (some ⟨b, 0, none⟩)]] w fun e w' => e = .returned (.bool false) ∧ w' = w := by
  have K := jgIdx_calls a la ca xs b ad n cap w ha h63 hc hall
  clear hall hc
  go_enter Tryz.func11, Tryz.ntmps11
  go_wp2_with fail
  refine K.mono ?_
  rintro e w' ⟨rfl, rfl⟩
  go_wp2
  go_ret
  exact ⟨ret_bool (by decide), rfl⟩

set_option maxRecDepth 100000 in
set_option maxHeartbeats 3200000 in
theorem journalGoes_any (c : Cfg) (a : Option Addr) (n cap : Nat) (X : Nat → Exm) (DI DO : Nat → List Int) (m0 n0 : Int) (w : World) (hs0 : (Lit.int .u64 c.seed).wf = true) (hx : Exs w a n cap X DI DO) (_ : (Lit.int .i64 m0).wf = true) (_ : (Lit.int .i64 n0).wf = true) :
    Calls Tryz.prog 3 #[c.val, .slice a n cap, .int .i64 m0, .int .i64 n0] w fun e w' => e = .returned (.bool true) ∧ Below w.heap.size w w' := by
  have hs := wf_word hs0
  have hal : Below w.heap.size w ((w.alloc (.cells c.cells 24)).alloc (.cells #[.slice a n cap] 25)) := (low_alloc w (.cells c.cells 24)).alloc (by simp) (.cells #[.slice a n cap] 25)
  have HRK : Hid (∀ q, Below w.heap.size w q → Calls Tryz.prog 5 #[c.val, .slice a n cap] q fun e w' => e = .returned (.int .i64 (courseI c n X DI DO)) ∧ Below q.heap.size q w') := fun q hq => rcourse_calls c a n cap X DI DO q (hx.below hq (Nat.le_refl _))
  have HR1 : Hid (courseI c n X DI DO = 0 → ∀ (k : Nat) q, (k : Int) ≤ c.steps → Below w.heap.size w q → Calls Tryz.prog 8 #[c.val, .slice a n cap, .int .i64 k] q fun e w' => ∃ b d Y, e = .returned (.tuple #[.slice b (k + 1) d, .int .i64 0]) ∧ Exs w' b (k + 1) d Y (stW c n DI DO) (stM c n DI DO) ∧ Below q.heap.size q w') := fun hF k q hk hq => by
    have e1 : runE c n X DI DO k = 0 := by unfold runE; rw [if_pos hF, if_pos (in_yes ⟨by omega, hk⟩)]
    have e2 : runN c n X DI DO k = k + 1 := by unfold runN; rw [e1, if_pos rfl]; rfl
    refine (tRun_calls c hs a n cap X DI DO k q (hx.below hq (Nat.le_refl _))).mono ?_
    rintro e w' ⟨b, d, Y, he, hex, hb⟩
    rw [e1, e2] at he
    rw [e2] at hex
    exact ⟨b, d, Y, he, hex, hb⟩
  have HMK : Hid (courseI c n X DI DO = 0 → ∀ (k : Nat) q, (k : Int) ≤ c.steps → Below w.heap.size w q → Calls Tryz.prog 7 #[c.val, .slice a n cap, .int .i64 k] q fun e w' => ∃ g R, e = .returned (.tuple #[.slice (some ⟨g, 0, none⟩) k k, .int .i64 0]) ∧ Recs w' (some ⟨g, 0, none⟩) k k R (jrBatch c n) ∧ JrN k R (mkRV c) (mkRO c n DI DO) (mkCH c n DI DO) ∧ (∀ j, j < k → ((R j).n : Int) = c.batch ∧ (R j).n ≤ 8) ∧ Below q.heap.size q w') := fun hF k q hk hq => by
    obtain ⟨_, _, _, ⟨b1, b2⟩, _⟩ := cfgB_is (course_ok hF).1
    refine (jMake_good c a n cap X DI DO k q hs (hx.below hq (Nat.le_refl _)) hF hk).mono ?_
    rintro e w' ⟨g, R, he, g1, g2, g3, g4, g5⟩
    exact ⟨g, R, he, recs_of g2 g3, g4, fun j hj => by have := (g3 j hj).1; omega, g5⟩
  have HRT : Hid (courseI c n X DI DO = 0 → ∀ (k : Nat) (x : Exm) q, InEx q x (stW c n DI DO (k + 1)) (stM c n DI DO (k + 1)) → Calls Tryz.prog 10 #[.agg #[.slice x.a x.n x.k, .slice x.b x.m x.t]] q fun e w' => e = .returned (.tuple #[.int .u64 (mkRO c n DI DO k), .int .i64 0]) ∧ Below q.heap.size q w') := fun hF k x q hin => by
    have hz := sizeN_bd (course_ok hF).1
    have hl := stateP_len c n DI DO (sizeN c).toNat (k + 1)
    have q1 := hin.i.len
    have q2 := hin.o.len
    have hn1 : x.n = (sizeN c).toNat := by rw [← q1]; exact hl.1
    have hn2 : x.m = (sizeN c).toNat := by rw [← q2]; exact hl.2
    have h := jroot_calls x.a x.n x.k _ x.b x.m x.t _ q hin.i hin.o (by omega)
    have hE : rootE x.n x.m = 0 := by unfold rootE; rw [if_neg (by omega), if_neg (by omega)]
    have hV : rootV x.n (stW c n DI DO (k + 1)) x.m (stM c n DI DO (k + 1)) = mkRO c n DI DO k := by unfold rootV; rw [if_pos hE, hn1, hn2]; rfl
    rw [hE, hV] at h
    exact h
  have HBA : Hid (courseI c n X DI DO = 0 → ∀ k j, j < c.batch.toNat → 0 ≤ (jrBatch c n k).getD j 0 ∧ (jrBatch c n k).getD j 0 < (n : Int)) := fun hF k j hj => by
    obtain ⟨t, ht, e⟩ := batch_in c.seed c.batch.toNat n (k * c.batch.toNat) (course_ok hF).2.1 hj
    unfold jrBatch
    rw [e]
    omega
  have HST : Hid (courseI c n X DI DO = 0 → 1 ≤ c.steps ∧ c.steps ≤ 40) := fun hF => by
    obtain ⟨_, _, _, _, p, _⟩ := cfgB_is (course_ok hF).1
    exact p
  have KB0 : Hid (∀ q, Below ((w.alloc (.cells c.cells 24)).alloc (.cells #[.slice a n cap] 25)).heap.size ((w.alloc (.cells c.cells 24)).alloc (.cells #[.slice a n cap] 25)) q → BoxC q w.heap.size c) := fun q hq => boxC ((Below.refl (w.heap.size + 1) (w.alloc (.cells c.cells 24))).alloc (by simp) (.cells #[.slice a n cap] 25) |>.trans (hq.mono (by simp))) (by simp)
  have KD0 : Hid (∀ q, Below ((w.alloc (.cells c.cells 24)).alloc (.cells #[.slice a n cap] 25)).heap.size ((w.alloc (.cells c.cells 24)).alloc (.cells #[.slice a n cap] 25)) q → q.cell? ⟨w.heap.size + 1, 0, none⟩ = some (.slice a n cap)) := fun q hq => by
    have h := cell_new (w.alloc (.cells c.cells 24)) (.slice a n cap) 25
    have e : (w.alloc (.cells c.cells 24)).heap.size = w.heap.size + 1 := by simp
    rw [e] at h
    exact (hq.cell (p := ⟨w.heap.size + 1, 0, none⟩) (by simp)).trans h
  clear hx hs hs0
  generalize courseI c n X DI DO = F at *
  generalize stW c n DI DO = DW at *
  generalize stM c n DI DO = DM at *
  generalize jrBatch c n = DB at *
  generalize mkRV c = RV at *
  generalize mkRO c n DI DO = RO at *
  generalize mkCH c n DI DO = CH at *
  obtain ⟨W0, HW0⟩ : ∃ q, Hid (q = ((w.alloc (.cells c.cells 24)).alloc (.cells #[.slice a n cap] 25))) := ⟨_, rfl⟩
  rw [← HW0.out] at hal KB0 KD0
  obtain ⟨BN, HBN⟩ : ∃ t : Nat, Hid (c.batch.toNat = t) := ⟨_, rfl⟩
  rw [HBN.out] at HBA
  have HBT : Hid (∀ t : Nat, (t : Int) = c.batch → t = BN) := fun t ht => by rw [← HBN.out, ← ht]; rfl
  clear HBN
  obtain ⟨i, h, o, seed, batch, steps, crate, decay, how, keep, clip⟩ := c
  simp only [Cfg.val, Cfg.cells] at *
  have KB : Hid (∀ q, Below W0.heap.size W0 q → BoxC q w.heap.size ⟨i, h, o, seed, batch, steps, crate, decay, how, keep, clip⟩ ∧ q.cell? ⟨w.heap.size + 1, 0, none⟩ = some (.slice a n cap)) := fun q hq => ⟨KB0.out q hq, KD0.out q hq⟩
  clear KB0 KD0
  go_enter Tryz.func3, Tryz.ntmps3
  go_wp2_with fail
  rw [← HW0.out]
  clear HW0
  refine (taught_any _).mono ?_
  rintro e w1 ⟨rfl, T⟩
  obtain ⟨⟨c0, c1, c2, c3, c4, c5, c6, c7, c8, c9, c10⟩, d0⟩ := KB.out _ T
  dsimp only at c0 c1 c2 c3 c4 c5 c6 c7 c8 c9 c10
  go_wp2_with fail
  refine (HRK.out _ (hal.trans (T.mono hal.size))).mono ?_
  rintro e w2 ⟨rfl, hw2⟩
  replace T := T.trans (hw2.mono T.size)
  clear hw2 HRK c0 c1 c2 c3 c4 c5 c6 c7 c8 c9 c10 d0
  obtain ⟨⟨c0, c1, c2, c3, c4, c5, c6, c7, c8, c9, c10⟩, d0⟩ := KB.out _ T
  dsimp only at c0 c1 c2 c3 c4 c5 c6 c7 c8 c9 c10
  by_cases hF : F = 0
  · subst hF
    obtain ⟨s1, s2⟩ := HST.out (by trivial)
    clear HST
    go_upto_region 5 with fail
    go_cut [3] (fun v q => ∃ N1 : Nat, N1 ≤ 5 ∧ (N1 : Int) ≤ steps ∧ v = .int .i64 N1 ∧ q = w2)
    case first =>
      clear HR1 HMK HRT HBA KB
      by_cases h6 : steps ≤ 5
      · obtain ⟨S, hS⟩ : ∃ S : Nat, steps + 1 = (S : Int) := ⟨(steps + 1).toNat, by omega⟩
        have RS := rest_any n0 S (by omega) (by omega) w2
        go_wp2_with ((go_at_call 6; refine RS.mono ?_; rintro e w' ⟨⟨N1, hN1, rfl⟩, hw'⟩; replace hw' := hw'.symm; subst hw'))
        go_meet
        case rel => exact ⟨N1, by omega, by omega, rfl, rfl⟩
      · have h7 : 5 < steps := by omega
        have RS : Calls Tryz.prog 6 #[.int .i64 n0, .int .i64 6] w2 fun e w' => (∃ k : Nat, k < 6 ∧ e = .returned (.int .i64 k)) ∧ w' = w2 := rest_any n0 6 (by omega) (by omega) w2
        go_wp2_with ((go_at_call 6; refine RS.mono ?_; rintro e w' ⟨⟨N1, hN1, rfl⟩, hw'⟩; replace hw' := hw'.symm; subst hw'))
        go_meet
        case rel => exact ⟨N1, by omega, by omega, rfl, rfl⟩
    case rest =>
      obtain ⟨N1, hN6, hN1, rfl, hwq⟩ := hcut
      subst hwq
      obtain ⟨NB, HNB⟩ : ∃ NB : Nat, Hid (N1 + 1 = NB) := ⟨_, rfl⟩
      have eN : (N1 : Int) + 1 = (NB : Int) := by have := HNB.out; omega
      have lN : NB ≤ 6 := by have := HNB.out; omega
      go_wp2_with fail
      refine (rest_any m0 NB (by have := HNB.out; omega) (by omega) _).mono ?_
      rintro e w' ⟨⟨M1, hM1, rfl⟩, hw'⟩
      replace hw' := hw'.symm
      subst hw'
      have hMN : M1 ≤ N1 := by have := HNB.out; omega
      have RM := HMK.out (by trivial) M1 _ (by omega) (hal.trans (T.mono hal.size))
      go_wp2_with fail
      refine RM.mono ?_
      rintro e w3 ⟨ga, Ra, rfl, rca, jna, lna, hw3⟩
      have JA : Hid (JrN M1 Ra RV RO CH) := jna
      have LA : Hid (∀ j, j < M1 → (Ra j).n ≤ 8) := fun j hj => (lna j hj).2
      replace T := T.trans (hw3.mono T.size)
      clear hw3 RM jna lna c0 c1 c2 c3 c4 c5 c6 c7 c8 c9 c10 d0
      obtain ⟨⟨c0, c1, c2, c3, c4, c5, c6, c7, c8, c9, c10⟩, d0⟩ := KB.out _ T
      dsimp only at c0 c1 c2 c3 c4 c5 c6 c7 c8 c9 c10
      have RN := HMK.out (by trivial) N1 _ (by omega) (hal.trans (T.mono hal.size))
      clear HMK
      go_wp2_with fail
      refine RN.mono ?_
      rintro e w4 ⟨gb, Rb, rfl, rcb, jnb, lnb, hw4⟩
      have JB : Hid (JrN N1 Rb RV RO CH) := jnb
      have LB : Hid (∀ j, j < N1 → (((Rb j).n : Int) = batch ∧ (Rb j).n ≤ 8)) := lnb
      replace T := T.trans (hw4.mono T.size)
      replace rca := rca.below hw4 (Nat.le_refl _)
      clear hw4 RN jnb lnb c0 c1 c2 c3 c4 c5 c6 c7 c8 c9 c10 d0
      obtain ⟨⟨c0, c1, c2, c3, c4, c5, c6, c7, c8, c9, c10⟩, d0⟩ := KB.out _ T
      dsimp only at c0 c1 c2 c3 c4 c5 c6 c7 c8 c9 c10
      have RU := HR1.out (by trivial) N1 _ (by omega) (hal.trans (T.mono hal.size))
      rw [HNB.out] at RU
      clear HR1
      go_wp2_with fail
      refine RU.mono ?_
      rintro e w5 ⟨bl, dl, Yl, rfl, exl, hw5⟩
      replace T := T.trans (hw5.mono T.size)
      replace rca := rca.below hw5 (Nat.le_refl _)
      replace rcb := rcb.below hw5 (Nat.le_refl _)
      clear hw5 RU c0 c1 c2 c3 c4 c5 c6 c7 c8 c9 c10 d0
      have qN : ((N1 : Int) != (N1 : Int)) = false := by simp
      have SR := rsameR_calls (some ⟨ga, 0, none⟩) (some ⟨gb, 0, none⟩) M1 M1 M1 N1 Ra Rb DB DB _ rca (rcb.take hMN) (by omega) (fun j hj => Nat.le_trans (LA.out j hj) (by decide))
      rw [recs_same JA.out (JB.out.take hMN)] at SR
      have hMN2 : (M1 : Int) ≤ (N1 : Int) := by omega
      clear rca LA JA
      go_wp2_with fail
      refine SR.mono ?_
      rintro e w6 ⟨rfl, hw6⟩
      replace T := T.trans (hw6.mono T.size)
      replace rcb := rcb.below hw6 (Nat.le_refl _)
      replace exl := exl.below hw6 (Nat.le_refl _)
      clear hw6 SR
      have HRT2 := HRT.out (by trivial)
      have HBA2 := HBA.out (by trivial)
      have HR : Hid (∀ (k : Nat) (x : Exm) (q : World), InEx q x (DW (k + 1)) (DM (k + 1)) → Calls Tryz.prog 10 #[.agg #[.slice x.a x.n x.k, .slice x.b x.m x.t]] q fun e w' => e = .returned (.tuple #[.int .u64 (RO k), .int .i64 0]) ∧ Below q.heap.size q w') := HRT2
      have HB : Hid (∀ k j, j < BN → 0 ≤ (DB k).getD j 0 ∧ (DB k).getD j 0 < (n : Int)) := HBA2
      clear HRT HBA HRT2 HBA2
      go_wp2_with fail
      go_loopw [82] (fun v wr => ∃ k : Nat, k ≤ N1 ∧ v = .int .i64 k ∧ Below w6.heap.size w6 wr) (fun v _ => N1 - (intOf v).toNat)
      case atStart => exact ⟨0, Nat.zero_le _, rfl, Below.refl _ _⟩
      case round =>
        obtain ⟨k, hk, rfl, hbel⟩ := hrel
        by_cases hlt : k < N1
        · obtain ⟨rb, ro, erb, hrb⟩ := rcb.at (by omega)
          simp only [Option.some.injEq, Addr.mk.injEq, and_true] at erb
          obtain ⟨rfl, rfl⟩ := erb
          obtain ⟨e0, e1, e2, e3, e4, lb⟩ := hrb k hlt
          clear hrb
          simp only [Nat.zero_add] at e0 e1 e2 e3 e4
          obtain ⟨j1, j2, j3, j4⟩ := JB.out k hlt
          obtain ⟨n1, n2⟩ := LB.out k hlt
          have n3 := HBT.out _ n1
          obtain ⟨xl, ol, rfl, f0, f1, hin⟩ := exl.at (show k + 1 < NB by have := HNB.out; omega)
          obtain ⟨m, HM⟩ : ∃ m : Nat, Hid (m = k + 1) := ⟨_, rfl⟩
          have em : (k : Int) + 1 = (m : Int) := by rw [HM.out]; omega
          rw [j1] at e0
          rw [j3] at e3
          rw [← HM.out] at f0 f1
          rw [← HM.out] at hin
          obtain ⟨x, hxk⟩ : ∃ x, Yl m = x := ⟨_, rfl⟩
          rw [hxk] at f0 f1 hin
          obtain ⟨xa, xn, xk, xb, xm, xt⟩ := x
          dsimp only at f0 f1
          obtain ⟨r, hrk⟩ : ∃ r, Rb k = r := ⟨_, rfl⟩
          rw [hrk] at e1 e2 e4 lb n1 n2 n3
          obtain ⟨rs, ra, rn, rk, rr, rroot, rchain⟩ := r
          dsimp only at e1 e2 e4 lb n1 n2 n3
          subst n3
          have mm0 : (0 : Int) ≤ (m : Int) := by omega
          have mm1 : (m : Int) < (NB : Int) := by have := HM.out; have := HNB.out; omega
          have mm2 : m < NB := by have := HM.out; have := HNB.out; omega
          have em2 : IntKind.i64.wrap (m : Int) = (m : Int) := wrap_in _ (by omega) (by omega)
          have bc : ∀ p : Addr, p.block < w6.heap.size → wr.cell? p = w6.cell? p := fun p hp => hbel.cell hp
          have g0 := (bc ⟨gb, k * 5, none⟩ (cell_lt e0)).trans e0
          have g1 := (bc ⟨gb, k * 5 + 1, none⟩ (cell_lt e1)).trans e1
          have g2 := (bc ⟨gb, k * 5 + 2, none⟩ (cell_lt e2)).trans e2
          have g3 := (bc ⟨gb, k * 5 + 3, none⟩ (cell_lt e3)).trans e3
          have g4 := (bc ⟨gb, k * 5 + 4, none⟩ (cell_lt e4)).trans e4
          have hal2 := low_alloc wr (.cells #[.int .i64 k, .slice ra rn rk, .int .i64 rr, .int .u64 (RO k), .int .u64 rchain] 39)
          have row := fn5_alloc wr (.int .i64 k) (.slice ra rn rk) (.int .i64 rr) (.int .u64 (RO k)) (.int .u64 rchain) 39
          have V := hbel.trans (hal2.mono hbel.size)
          have t0 := (V.cell (p := ⟨xl, ol + m * 2, none⟩) (cell_lt f0)).trans f0
          have t1 := (V.cell (p := ⟨xl, ol + m * 2 + 1, none⟩) (cell_lt f1)).trans f1
          have RT := HR.out k ⟨xa, xn, xk, xb, xm, xt⟩ _ (by rw [← HM.out]; exact hin.below V (Nat.le_refl _))
          dsimp only at RT
          clear e0 e1 e2 e3 e4 f0 f1 hxk hrk bc hin exl rcb
          go_wp2_with fail
          refine RT.mono ?_
          rintro e u1 ⟨rfl, hu1⟩
          have V2 := V.trans (hu1.mono V.size)
          have row1 := row.of_block (hu1.block _ row.lt)
          obtain ⟨p0, p1, p2, p3, p4⟩ := fn5_box row1
          obtain ⟨⟨c0, c1, c2, c3, c4, c5, c6, c7, c8, c9, c10⟩, d0⟩ := KB.out _ (T.trans (V2.mono T.size))
          dsimp only at c0 c1 c2 c3 c4 c5 c6 c7 c8 c9 c10
          have k1 : (RO k != RO k) = false := by simp
          have k2 : ((k : Int) != (k : Int)) = false := by simp
          have k3 : ((rn : Int) != batch) = false := by rw [n1]; simp
          have HS := jgHas_calls ra rn rk (DB k) (w.heap.size + 1) a n cap u1 (lb.below V2 (Nat.le_refl _)) (by omega) d0 (fun j hj => HB.out k j hj)
          clear g0 g1 g2 g3 g4 t0 t1 row row1 RT lb n1
          go_wp2_with fail
          refine HS.mono ?_
          rintro e w' ⟨rfl, hw'⟩
          replace hw' := hw'.symm
          subst hw'
          go_wp2_with fail
          go_roundw
          case rel => exact ⟨m, by have := HM.out; omega, by first | rfl | go_num, V2⟩
          case measure => simp [intOf]; have := HM.out; omega
        · go_wp2_with fail
          go_ret
          exact ⟨rfl, hal.trans ((T.trans (hbel.mono T.size)).mono hal.size)⟩
  · have hFn : (F != 0) = true := by rw [bne_iff_ne]; exact hF
    clear HR1 HMK HRT HBA HST hF
    go_wp2_with fail
    go_ret
    exact ⟨rfl, hal.trans (T.mono hal.size)⟩
end Go.Proofs.YtnlcheebdkjpbaeGreat.Fx

/- JournalGoes returns true, whatever config, examples and numbers are handed in: a longer journal begins as a shorter one, its roots are those of the course, its batches are of examples there are; no condition. -/
namespace Go.Proofs.YtnlcheebdkjpbaeGreat.journalGoes
open Go.ChangeShapes Go.WideShapes Go.ChangeAt Go.RowKit
set_option linter.unusedVariables false

set_option maxRecDepth 100000 in
theorem lifted (os : Os) (started : os.Started) (H : Type) (enc : TypeId × Value → H) :
    ReturnsInHanded {} Tryz.checked os 3 .any (Rows.journalGoesSpec.pre6 enc Tryz.prog Tryz.f3 Rows.journalGoesRow.domain false) (Rows.journalGoesSpec.post enc Tryz.prog Tryz.f3 false true false false) := by
  refine returnsInHanded_of_change (C := Tryz.checked) Fx.own started (by kernel_rfl) Tryz.func3
    (ChangeSpec.witness6 (enc := enc) (C := Tryz.checked) false ⟨#[], #[.agg #[.int .i64 0, .int .i64 0, .int .i64 0, .int .u64 0, .int .i64 0, .int .i64 0, .int .i64 0, .int .i64 0, .int .i64 0, .int .i64 0, .int .i64 0], .slice none 0 0, .int .i64 0, .int .i64 0], []⟩ 8 (by kernel_rfl) (by kernel_rfl) (by kernel_rfl) (by kernel_rfl)) ?_
  intro W base args ds gs before hval0 hW hcnd _
  have hval : ∀ (j : Nat) t v, Tryz.f3.params[j]? = some t → args[j]? = some v → Value.okWide Tryz.prog W .any base t v := hval0
  have hW' := hW
  obtain ⟨p, q, hA0, hV, rfl, hfz, hnd⟩ := hW
  have hA : DataW.TrodAll enc Tryz.prog W 0 (fun _ => true) true Tryz.f3.params.toList args.toList ds p := hA0
  skip
  rw [Tryz.params3] at hA hval
  obtain ⟨v0, vs0, d0, ds0, p0, q0, hargs, rfl, rfl, h0, r0⟩ := trodAll_cons hA
  obtain ⟨v1, vs1, d1, ds1, p1, q1, rfl, rfl, rfl, h1, r1⟩ := trodAll_cons r0
  obtain ⟨v2, vs2, d2, ds2, p2, q2, rfl, rfl, rfl, h2, r2⟩ := trodAll_cons r1
  obtain ⟨v3, vs3, d3, ds3, p3, q3, rfl, rfl, rfl, h3, r3⟩ := trodAll_cons r2
  obtain ⟨rfl, rfl, rfl⟩ := trodAll_nil r3
  obtain rfl : args = #[v0, v1, v2, v3] := by cases args; simp_all
  obtain ⟨rfl, rfl⟩ := trodVars_none hV
  have k0 := h0
  have lt0 : ∀ x ∈ p0, x.block < W.heap.size := by obtain ⟨m, hm⟩ := k0; exact DataW.trod_lt m _ _ _ hm
  obtain ⟨C0, rfl, w0⟩ := Fx.openCfg (hval 0 24 v0 rfl rfl) h0
  have k1 := h1
  have lt1 : ∀ x ∈ p1, x.block < W.heap.size := by obtain ⟨m, hm⟩ := k1; exact DataW.trod_lt m _ _ _ hm
  obtain ⟨a1, len1, cap1, X1, DI1, DO1, rfl, w1⟩ := Fx.openExs (hval 1 25 v1 rfl rfl) h1
  obtain ⟨a2, rfl, rfl, rfl, w2⟩ := open_int Tryz.underlying3 (hval 2 3 v2 rfl rfl) h2
  obtain ⟨a3, rfl, rfl, rfl, w3⟩ := open_int Tryz.underlying3 (hval 3 3 v3 rfl rfl) h3
  clear hA0 hval0
  refine (Fx.journalGoes_any C0 a1 len1 cap1 X1 DI1 DO1 a2 a3 W w0 w1 w2 w3).mono fun e W' ⟨he, bel⟩ => ?_
  subst he
  exact ⟨_, rfl, _, _, _, [], _, [], hW', trodAll_mk1 (shut_bool Tryz.underlying4 _), (trodAll_cons_mk (Below.trod Fx.laidOut (by kernel_rfl) (of_decide_eq_true (by kernel_rfl)) k0 bel lt0) (trodAll_cons_mk (Below.trod Fx.laidOut (by kernel_rfl) (of_decide_eq_true (by kernel_rfl)) k1 bel lt1) (trodAll_cons_mk (shut_int Tryz.underlying3 w2) (trodAll_cons_mk (shut_int Tryz.underlying3 w3) trodAll_mk0)))), rfl, bel.frame _, fun h => by cases h⟩

theorem over : Rows.journalGoesRow.holds Tryz.pinned (OpenSpec.ofChange Rows.journalGoesSpec) :=
  OpenClaim.holds_of_wide 3 Tryz.f3 rfl rfl rfl rfl rfl rfl rfl ⟨rfl, rfl, rfl, rfl, rfl⟩ rfl rfl rfl rfl rfl (by kernel_rfl) Tryz.func3 (by kernel_rfl)
    (of_decide_eq_true (by kernel_rfl)) (by unfold Func.isWrapper; first | (rw [if_pos (by decide +kernel)]; kernel_rfl) | (rw [if_neg (by decide +kernel)]; exact ⟨rfl, rfl⟩))
    (fun os started H enc _ => lifted os started H enc)
end Go.Proofs.YtnlcheebdkjpbaeGreat.journalGoes

namespace Go.Proofs.YtnlcheebdkjpbaeGreat
theorem journalGoes_holds : Rows.JournalGoesSaid := journalGoes.over
end Go.Proofs.YtnlcheebdkjpbaeGreat
