/- The walk of CoursesOwn: it returns true, whatever config, examples and number are handed in, and nothing that was there is written; audit.Whole's answer is handed in. -/
import Derived.Test.YtgihnliipfdokaaGreatJ37
import Derived.Test.YtgihnliipfdokaaGreatJ42
import Derived.Test.YtgihnliipfdokaaGreatJ07
import Derived.Deep.DeepCutAuto
import Derived.Deep.CutBlock
import Derived.Deep.QuietTactic
import Derived.Deep.RegionHeld3
namespace Go.Proofs.YtgihnliipfdokaaGreat.Fx
open Go.RowKit

/-- What stands while states are spoiled: the first k are, the others stand. -/
structure CoIn (w2 w3 : World) (ga gr NN N1 B : Nat) (Y : Nat → Exm) (R : Nat → Rcm) (DW DM : Nat → List Int) (DG : Nat → Nat → Int) (k : Nat) (q : World) : Prop where
  arow : q.rowIs ga 35 ((N1 + 1) * 2) (outF Y (N1 + 1))
  rrow : q.rowIs gr 37 (N1 * 5) (rcsR R N1)
  jr : JrIn q gr w3.heap.size B N1 R DG
  st : ∀ j, k ≤ j → j ≤ N1 → St1 q w2.heap.size ga NN (Y j) (DW j) (DM j)
  bel : Below w2.heap.size w2 q
theorem CoIn.below {w2 w3 : World} {ga gr NN N1 B : Nat} {Y : Nat → Exm} {R : Nat → Rcm} {DW DM : Nat → List Int} {DG : Nat → Nat → Int} {k : Nat} {q q' : World} (h : CoIn w2 w3 ga gr NN N1 B Y R DW DM DG k q) (hb : Below q.heap.size q q') : CoIn w2 w3 ga gr NN N1 B Y R DW DM DG k q' :=
  ⟨h.arow.of_block (hb.block _ h.arow.lt), h.rrow.of_block (hb.block _ h.rrow.lt), h.jr.below hb, fun j h1 h2 => (h.st j h1 h2).below hb, h.bel.trans (hb.mono h.bel.size)⟩
theorem CoIn.spoil {w2 w3 : World} {ga gr NN N1 B : Nat} {Y : Nat → Exm} {R : Nat → Rcm} {DW DM : Nat → List Int} {DG : Nat → Nat → Int} {k m g : Nat} {q q' : World} (h : CoIn w2 w3 ga gr NN N1 B Y R DW DM DG k q) (ho : OnlyB g q q') (h1 : g ≠ ga) (h2 : w2.heap.size ≤ g) (h3 : g < w3.heap.size) (hr : w3.heap.size ≤ gr) (hm : k ≤ m) (hst : ∀ j, m ≤ j → j ≤ N1 → (Y j).a ≠ some ⟨g, 0, none⟩ ∧ (Y j).b ≠ some ⟨g, 0, none⟩) : CoIn w2 w3 ga gr NN N1 B Y R DW DM DG m q' :=
  ⟨ho.row h.arow (Ne.symm h1), ho.row h.rrow (by omega), fun j hj => by
    obtain ⟨x1, x2, bg, x3, x4, x5, x6⟩ := h.jr j hj
    exact ⟨x1, x2, bg, x3, x4, x5, ho.arr x6 (by omega)⟩, fun j h4 h5 => ho.st1 (h.st j (by omega) h5) (hst j h4 h5).1 (hst j h4 h5).2, ho.bel _ _ h2 h.bel⟩
/-- What stands while batches are spoiled. -/
structure CoBt (w2 w3 : World) (gr N1 B : Nat) (R : Nat → Rcm) (q : World) : Prop where
  rrow : q.rowIs gr 37 (N1 * 5) (rcsR R N1)
  bt : ∀ j, j < N1 → (R j).n = B ∧ (R j).k = B ∧ ∃ bg f, (R j).a = some ⟨bg, 0, none⟩ ∧ w3.heap.size ≤ bg ∧ bg ≠ gr ∧ Arr q bg B B f
  bel : Below w2.heap.size w2 q
theorem CoBt.below {w2 w3 : World} {gr N1 B : Nat} {R : Nat → Rcm} {q q' : World} (h : CoBt w2 w3 gr N1 B R q) (hb : Below q.heap.size q q') : CoBt w2 w3 gr N1 B R q' :=
  ⟨h.rrow.of_block (hb.block _ h.rrow.lt), fun j hj => by
    obtain ⟨x1, x2, bg, f, x3, x4, x5, x6⟩ := h.bt j hj
    exact ⟨x1, x2, bg, f, x3, x4, x5, x6.below hb⟩, h.bel.trans (hb.mono h.bel.size)⟩
theorem CoBt.spoil {w2 w3 : World} {gr N1 B g : Nat} {R : Nat → Rcm} {q q' : World} {f : Nat → Int} (h : CoBt w2 w3 gr N1 B R q) (ho : OnlyB g q q') (hg : Arr q' g B B f) (h1 : g ≠ gr) (h2 : w2.heap.size ≤ g) : CoBt w2 w3 gr N1 B R q' :=
  ⟨ho.row h.rrow (Ne.symm h1), fun j hj => by
    obtain ⟨x1, x2, bg, f2, x3, x4, x5, x6⟩ := h.bt j hj
    by_cases e : bg = g
    · subst e; exact ⟨x1, x2, bg, f, x3, x4, x5, hg⟩
    · exact ⟨x1, x2, bg, f2, x3, x4, x5, ho.arr x6 e⟩, ho.bel _ _ h2 h.bel⟩

set_option maxRecDepth 100000 in
set_option maxHeartbeats 6400000 in
theorem coursesOwn_core (c : Cfg) (hs : okW c.seed) (a : Option Addr) (n cap : Nat) (X : Nat → Exm) (DI DO : Nat → List Int) (n0 : Int) (w : World) (hx : Exs w a n cap X DI DO)
    (HWH : Hid (courseI c n X DI DO = 0 → ∀ (k : Nat) (q : World) (g : Nat) (R : Nat → Rcm), (k : Int) ≤ c.steps → Below w.heap.size w q → Recs q (some ⟨g, 0, none⟩) k k R (jrBatch c n) → JrN k R (mkRV c) (mkRO c n DI DO) (mkCH c n DI DO) → (∀ j, j < k → (R j).n ≤ 8) → Calls Tryz.prog 9 #[c.val, .slice a n cap, .slice (some ⟨g, 0, none⟩) k k] q fun e w' => e = .returned (.tuple #[.int .i64 k, .int .i64 0]) ∧ Below q.heap.size q w')) :
    Calls Tryz.prog 6 #[c.val, .slice a n cap, .int .i64 n0] w fun e w' => e = .returned (.bool true) ∧ Below w.heap.size w w' := by
  have hal := low_alloc w (.cells c.cells 24)
  have HRK : Hid (∀ q, Below w.heap.size w q → Calls Tryz.prog 7 #[c.val, .slice a n cap] q fun e w' => e = .returned (.int .i64 (courseI c n X DI DO)) ∧ Below q.heap.size q w') := fun q hq => rcourse_calls c a n cap X DI DO q (hx.below hq (Nat.le_refl _))
  obtain ⟨NN, HNN⟩ : ∃ t : Nat, Hid ((sizeN c).toNat = t) := ⟨_, rfl⟩
  obtain ⟨BB, HBB⟩ : ∃ t : Nat, Hid (c.batch.toNat = t) := ⟨_, rfl⟩
  obtain ⟨SR, HSR⟩ : ∃ f : Nat → Int, Hid (∀ j, f j = rootP (stW c n DI DO j) (stM c n DI DO j) (NN + NN)) := ⟨_, fun _ => rfl⟩
  have HRN : Hid (courseI c n X DI DO = 0 → ∀ (k : Nat) q, (k : Int) ≤ c.steps → Below w.heap.size w q → Calls Tryz.prog 18 #[c.val, .slice a n cap, .int .i64 k] q fun e w' => ∃ g Y, e = .returned (.tuple #[.slice (some ⟨g, 0, none⟩) (k + 1) (k + 1), .int .i64 0]) ∧ q.heap.size ≤ g ∧ w'.rowIs g 35 ((k + 1) * 2) (outF Y (k + 1)) ∧ StIn w' q.heap.size g NN k Y (stW c n DI DO) (stM c n DI DO) ∧ Below q.heap.size q w') := fun hF k q hk hq => by
    have h := tRun_fine c hs a n cap X DI DO k q (hx.below hq (Nat.le_refl _)) hF hk
    rw [HNN.out] at h
    exact h
  have HMK : Hid (courseI c n X DI DO = 0 → ∀ (k : Nat) q, (k : Int) ≤ c.steps → Below w.heap.size w q → Calls Tryz.prog 16 #[c.val, .slice a n cap, .int .i64 k] q fun e w' => ∃ g R, e = .returned (.tuple #[.slice (some ⟨g, 0, none⟩) k k, .int .i64 0]) ∧ q.heap.size ≤ g ∧ w'.rowIs g 37 (k * 5) (rcsR R k) ∧ JrIn w' g q.heap.size BB k R (jrG c n) ∧ JrN k R (mkRV c) (mkRO c n DI DO) (mkCH c n DI DO) ∧ Below q.heap.size q w') := fun hF k q hk hq => by
    have h := jMake_good c a n cap X DI DO k q hs (hx.below hq (Nat.le_refl _)) hF hk
    rw [HBB.out] at h
    exact h
  have HRC : Hid (∀ (q : World) (g base k : Nat) (R : Nat → Rcm), q.rowIs g 37 (k * 5) (rcsR R k) → JrIn q g base BB k R (jrG c n) → Recs q (some ⟨g, 0, none⟩) k k R (jrBatch c n)) := fun q g base k R h1 h2 => by
    rw [← HBB.out] at h2
    exact recs_of h1 h2
  have HLN : Hid (∀ j, (stW c n DI DO j).length = NN ∧ (stM c n DI DO j).length = NN) := fun j => by
    unfold stW stM
    rw [← HNN.out]
    exact stateP_len c n DI DO (sizeN c).toNat j
  have HRT : Hid (courseI c n X DI DO = 0 → ∀ (j : Nat) (x : Exm) q, InEx q x (stW c n DI DO j) (stM c n DI DO j) → Calls Tryz.prog 20 #[.agg #[.slice x.a x.n x.k, .slice x.b x.m x.t]] q fun e w' => e = .returned (.tuple #[.int .u64 (SR j), .int .i64 0]) ∧ Below q.heap.size q w') := fun hF j x q hin => by
    have hz := sizeN_bd (course_ok hF).1
    have hl := HLN.out j
    have q1 := hin.i.len
    have q2 := hin.o.len
    have hNN := HNN.out
    have hn1 : x.n = NN := by rw [← q1]; exact hl.1
    have hn2 : x.m = NN := by rw [← q2]; exact hl.2
    have h := jroot_calls x.a x.n x.k _ x.b x.m x.t _ q hin.i hin.o (by omega)
    have hE : rootE x.n x.m = 0 := by unfold rootE; rw [if_neg (by omega), if_neg (by omega)]
    have hV : rootV x.n (stW c n DI DO j) x.m (stM c n DI DO j) = SR j := by unfold rootV; rw [if_pos hE, hn1, hn2, HSR.out]
    rw [hE, hV] at h
    exact h
  have HRO : Hid (∀ k, mkRO c n DI DO k = SR (k + 1)) := fun k => by rw [HSR.out]; unfold mkRO stW stM; rw [HNN.out]; rfl
  have HSM : Hid (∀ i j, SR i ≠ SR j → ¬ (stW c n DI DO i = stW c n DI DO j ∧ stM c n DI DO i = stM c n DI DO j)) := fun i j h ⟨e1, e2⟩ => h (by rw [HSR.out, HSR.out, e1, e2])
  have HST : Hid (courseI c n X DI DO = 0 → (1 ≤ c.steps ∧ c.steps ≤ 40) ∧ BB ≤ 8 ∧ NN ≤ 40) := fun hF => by
    have hz := sizeN_bd (course_ok hF).1
    obtain ⟨_, _, _, ⟨b1, b2⟩, p, _⟩ := cfgB_is (course_ok hF).1
    have := HBB.out
    have := HNN.out
    exact ⟨p, by omega, by omega⟩
  have KB : Hid (∀ q, Below (w.alloc (.cells c.cells 24)).heap.size (w.alloc (.cells c.cells 24)) q → BoxC q w.heap.size c) := fun q hq => boxC hq (by simp)
  clear hx hs HNN HBB HSR
  generalize courseI c n X DI DO = F at *
  generalize stW c n DI DO = DW at *
  generalize stM c n DI DO = DM at *
  generalize jrBatch c n = DB at *
  generalize jrG c n = DG at *
  generalize mkRV c = RV at *
  generalize mkRO c n DI DO = RO at *
  generalize mkCH c n DI DO = CH at *
  obtain ⟨W0, HW0⟩ : ∃ q, Hid (q = (w.alloc (.cells c.cells 24))) := ⟨_, rfl⟩
  rw [← HW0.out] at hal KB
  obtain ⟨i, h, o, seed, batch, steps, crate, decay, how, keep, clip⟩ := c
  simp only [Cfg.val, Cfg.cells] at *
  go_enter Tryz.func6, Tryz.ntmps6
  go_wp2_with fail
  rw [← HW0.out]
  clear HW0
  refine (taught_any _).mono ?_
  rintro e w1 ⟨rfl, T⟩
  obtain ⟨c0, c1, c2, c3, c4, c5, c6, c7, c8, c9, c10⟩ := KB.out _ T
  dsimp only at c0 c1 c2 c3 c4 c5 c6 c7 c8 c9 c10
  go_wp2_with fail
  refine (HRK.out _ (hal.trans (T.mono hal.size))).mono ?_
  rintro e w2 ⟨rfl, hw2⟩
  replace T := T.trans (hw2.mono T.size)
  clear hw2 HRK c0 c1 c2 c3 c4 c5 c6 c7 c8 c9 c10
  obtain ⟨c0, c1, c2, c3, c4, c5, c6, c7, c8, c9, c10⟩ := KB.out _ T
  dsimp only at c0 c1 c2 c3 c4 c5 c6 c7 c8 c9 c10
  by_cases hF : F = 0
  · subst hF
    obtain ⟨⟨s1, s2⟩, hB8, hN40⟩ := HST.out (by trivial)
    clear HST
    go_upto_region 5 with fail
    go_cut [2] (fun v q => ∃ N1 : Nat, N1 ≤ 4 ∧ (N1 : Int) ≤ steps ∧ v = .int .i64 N1 ∧ q = w2)
    case first =>
      clear HRN HMK HRT KB HWH HRC HRO HSM HLN
      by_cases h6 : steps ≤ 4
      · obtain ⟨S, hS⟩ : ∃ S : Nat, steps + 1 = (S : Int) := ⟨(steps + 1).toNat, by omega⟩
        have RS := rest_any n0 S (by omega) (by omega) w2
        go_wp2_with ((go_at_call 15; refine RS.mono ?_; rintro e w' ⟨⟨N1, hN1, rfl⟩, hw'⟩; replace hw' := hw'.symm; subst hw'))
        go_meet
        case rel => exact ⟨N1, by omega, by omega, rfl, rfl⟩
      · have h7 : 4 < steps := by omega
        have RS : Calls Tryz.prog 15 #[.int .i64 n0, .int .i64 5] w2 fun e w' => (∃ k : Nat, k < 5 ∧ e = .returned (.int .i64 k)) ∧ w' = w2 := rest_any n0 5 (by omega) (by omega) w2
        go_wp2_with ((go_at_call 15; refine RS.mono ?_; rintro e w' ⟨⟨N1, hN1, rfl⟩, hw'⟩; replace hw' := hw'.symm; subst hw'))
        go_meet
        case rel => exact ⟨N1, by omega, by omega, rfl, rfl⟩
    case rest =>
      obtain ⟨N1, hN6, hN1, rfl, hwq⟩ := hcut
      replace hwq := hwq.symm
      subst hwq
      obtain ⟨NB, HNB⟩ : ∃ NB : Nat, Hid (N1 + 1 = NB) := ⟨_, rfl⟩
      have eN : (N1 : Int) + 1 = (NB : Int) := by have := HNB.out; omega
      have lN : NB ≤ 5 := by have := HNB.out; omega
      have RU := HRN.out (by trivial) N1 _ hN1 (hal.trans (T.mono hal.size))
      rw [HNB.out] at RU
      go_wp2_with fail
      refine RU.mono ?_
      rintro e w3 ⟨ga, Y, rfl, hga, arow, hsi, hw3⟩
      have T3 := T.trans (hw3.mono T.size)
      clear RU c0 c1 c2 c3 c4 c5 c6 c7 c8 c9 c10
      obtain ⟨c0, c1, c2, c3, c4, c5, c6, c7, c8, c9, c10⟩ := KB.out _ T3
      dsimp only at c0 c1 c2 c3 c4 c5 c6 c7 c8 c9 c10
      have RM := HMK.out (by trivial) N1 _ hN1 (hal.trans (T3.mono hal.size))
      go_wp2_with fail
      refine RM.mono ?_
      rintro e w4 ⟨gr, R, rfl, hgr, rrow, hjr, hjn, hw4⟩
      have JR : Hid (JrN N1 R RV RO CH) := hjn
      have AP : Hid (∀ i j, i < j → j ≤ N1 → StApart (Y i) (Y j)) := hsi.2
      have LT : Hid (∀ j, j ≤ N1 → ∀ g, ((Y j).a = some ⟨g, 0, none⟩ ∨ (Y j).b = some ⟨g, 0, none⟩) → w2.heap.size ≤ g ∧ g < w3.heap.size ∧ g ≠ ga) := fun j hj g hg => by
        obtain ⟨g1, d1, g2, d2, e, b1, b2, b3, b4, b5, b6, a1, a2⟩ := hsi.1 j hj
        have k1 := a1.lt
        have k2 := a2.lt
        rw [e] at hg
        simp only [Option.some.injEq, Addr.mk.injEq, and_true] at hg
        rcases hg with rfl | rfl
        · exact ⟨b1, k1, b3⟩
        · exact ⟨b2, k2, b4⟩
      have arow' : w3.rowIs ga 35 ((N1 + 1) * 2) (outF Y (N1 + 1)) := by rw [HNB.out]; exact arow
      have co0 : CoIn w2 w3 ga gr NN N1 BB Y R DW DM DG 0 w4 := ⟨arow'.of_block (hw4.block _ arow.lt), rrow, hjr, fun j _ hj => (hsi.1 j hj).below hw4, hw3.trans (hw4.mono hw3.size)⟩
      clear RM c0 c1 c2 c3 c4 c5 c6 c7 c8 c9 c10 hjn hsi arow arow' rrow hjr T3
      have qN : ((N1 : Int) != (N1 : Int)) = false := by simp
      go_wp2_with fail
      go_loopw [56] (fun v wr => ∃ k : Nat, k ≤ NB ∧ v = .int .i64 k ∧ Hid (CoIn w2 w3 ga gr NN N1 BB Y R DW DM DG k wr)) (fun v _ => NB - (intOf v).toNat)
      case atStart => exact ⟨0, Nat.zero_le _, rfl, co0⟩
      case round =>
        clear co0
        obtain ⟨k, hk, rfl, hco⟩ := hrel
        by_cases hlt : k < NB
        · have hkN : k ≤ N1 := by have := HNB.out; omega
          obtain ⟨g1, d1, g2, d2, hyk, b1, b2, b3, b4, b5, b6, ar1, ar2⟩ := hco.out.st k (Nat.le_refl _) hkN
          have cells := outF_at hco.out.arow (show k < N1 + 1 by omega) (Nat.le_refl _)
          rw [hyk] at cells
          dsimp only at cells
          obtain ⟨u0, u1⟩ := cells
          have L1 := LT.out k hkN g1 (by rw [hyk]; exact .inl rfl)
          have L2 := LT.out k hkN g2 (by rw [hyk]; exact .inr rfl)
          have A1 : Hid (∀ j, k + 1 ≤ j → j ≤ N1 → (Y j).a ≠ some ⟨g1, 0, none⟩ ∧ (Y j).b ≠ some ⟨g1, 0, none⟩) := fun j h4 h5 => AP.out k j (by omega) h5 g1 (by rw [hyk]; exact .inl rfl)
          have A2 : Hid (∀ j, k + 1 ≤ j → j ≤ N1 → (Y j).a ≠ some ⟨g2, 0, none⟩ ∧ (Y j).b ≠ some ⟨g2, 0, none⟩) := fun j h4 h5 => AP.out k j (by omega) h5 g2 (by rw [hyk]; exact .inr rfl)
          have m63 : maxLen ≤ 9223372036854775807 := by decide
          have SP1 := spoil_calls g1 NN d1 _ 3 wr ar1 (Nat.le_trans b6.1 m63)
          go_wp2_with fail
          refine SP1.mono ?_
          rintro e v1 ⟨rfl, _, ho1⟩
          have co1 : Hid (CoIn w2 w3 ga gr NN N1 BB Y R DW DM DG (k + 1) v1) := hco.out.spoil ho1 b3 L1.1 L1.2.1 hgr (by omega) A1.out
          have ar2' := ho1.arr ar2 (Ne.symm b5)
          have cells2 := outF_at co1.out.arow (show k < N1 + 1 by omega) (Nat.le_refl _)
          rw [hyk] at cells2
          dsimp only at cells2
          obtain ⟨u2, u3⟩ := cells2
          have SP2 := spoil_calls g2 NN d2 _ 3 v1 ar2' (Nat.le_trans b6.2 m63)
          clear u0 u1 SP1 ar1 ar2 hco ho1
          go_wp2_with fail
          refine SP2.mono ?_
          rintro e v2 ⟨rfl, _, ho2⟩
          have co2 : Hid (CoIn w2 w3 ga gr NN N1 BB Y R DW DM DG (k + 1) v2) := co1.out.spoil ho2 b4 L2.1 L2.2.1 hgr (Nat.le_refl _) A2.out
          clear u2 u3 SP2 ar2' co1 ho2 A1 A2 L1 L2 hyk b1 b2 b3 b4 b5 b6
          generalize hwr0 : wr = wO at *
          clear hwr0
          by_cases hlast : k + 1 = NB
          · have HLs : Hid (k + 1 = NB) := hlast
            clear hlast
            have em : (k : Int) + 1 = (NB : Int) := by have := HLs.out; omega
            have e0 : NB - NB = 0 := Nat.sub_self _
            go_wp2_with fail
            go_loopw [76] (fun v wr => v = .int .i64 0 ∧ wr = v2) (fun _ _ => 0)
            case atStart => exact ⟨rfl, rfl⟩
            case round =>
              obtain ⟨rfl, hw⟩ := hrel
              replace hw := hw.symm
              subst hw
              go_wp2_with fail
              go_roundw
              case rel => exact ⟨NB, Nat.le_refl _, by first | rfl | go_num, HLs.out ▸ co2⟩
              case measure => simp [intOf]; have := HLs.out; omega
          · obtain ⟨m, HM⟩ : ∃ m : Nat, Hid (m = k + 1) := ⟨_, rfl⟩
            have em : (k : Int) + 1 = (m : Int) := by rw [HM.out]; omega
            have mm0 : (0 : Int) ≤ (m : Int) := by omega
            have mm1 : (m : Int) ≤ (NB : Int) := by have := HM.out; omega
            have mm2 : m ≤ NB := by have := HM.out; omega
            rw [← HM.out] at co2
            obtain ⟨LL, HLL⟩ : ∃ L : Nat, Hid (NB - m = L) := ⟨_, rfl⟩
            have eL : (NB : Int) - (m : Int) = (LL : Int) := by have := HLL.out; omega
            have hm3 : m < NB := by have := HM.out; omega
            have hm4 : ¬ NB = m := by omega
            clear hlast
            have eL2 : NB - m = LL := HLL.out
            have HRT2 : Hid (∀ (j : Nat) (x : Exm) (q : World), InEx q x (DW j) (DM j) → Calls Tryz.prog 20 #[.agg #[.slice x.a x.n x.k, .slice x.b x.m x.t]] q fun e w' => e = .returned (.tuple #[.int .u64 (SR j), .int .i64 0]) ∧ Below q.heap.size q w') := HRT.out (by trivial)
            obtain ⟨P, HP⟩ : ∃ P : Nat, Hid (P + 1 = N1) := ⟨N1 - 1, by show N1 - 1 + 1 = N1; have := HM.out; have := HNB.out; omega⟩
            have eP : (N1 : Int) - 1 = (P : Int) := by have := HP.out; omega
            have wP : IntKind.i64.wrap (P : Int) = (P : Int) := wrap_in _ (by omega) (by have := HP.out; omega)
            have wP2 : IntKind.i64.wrap ((N1 : Int) - 1) = (P : Int) := by rw [eP]; exact wP
            have P0 : (0 : Int) ≤ (P : Int) := by omega
            have P1 : (P : Int) < (N1 : Int) := by have := HP.out; omega
            have P2 : P < N1 := by have := HP.out; omega
            have eQ : (NB : Int) - 1 = (N1 : Int) := by omega
            have wQ : IntKind.i64.wrap ((NB : Int) - 1) = (N1 : Int) := by rw [eQ]; exact wrap_in _ (by omega) (by omega)
            have wQ2 : IntKind.i64.wrap (N1 : Int) = (N1 : Int) := wrap_in _ (by omega) (by omega)
            have Q0 : (0 : Int) ≤ (N1 : Int) := by omega
            have Q1 : (N1 : Int) < (NB : Int) := by omega
            have Q2 : N1 < NB := by have := HNB.out; omega
            go_wp2_with fail
            go_loopw [76] (fun v wr => ∃ t : Nat, t ≤ LL ∧ v = .int .i64 t ∧ Below v2.heap.size v2 wr) (fun v _ => LL - (intOf v).toNat)
            case atStart => exact ⟨0, Nat.zero_le _, rfl, Below.refl _ _⟩
            case round =>
              obtain ⟨t, ht, rfl, hbel⟩ := hrel
              have co : CoIn w2 w3 ga gr NN N1 BB Y R DW DM DG m wr := co2.out.below hbel
              by_cases htl : t < LL
              · have hj1 : m + t ≤ N1 := by have := HLL.out; have := HNB.out; omega
                have hS1 := co.st (m + t) (by omega) hj1
                have hSN := co.st N1 (by omega) (Nat.le_refl _)
                have cells := outF_at co.arow (show m + t < N1 + 1 by omega) (Nat.le_refl _)
                have cellsN := outF_at co.arow (show N1 < N1 + 1 by omega) (Nat.le_refl _)
                have rcell : wr.cell? ⟨gr, P * 5 + 3, none⟩ = some (.int .u64 (SR N1)) := by
                  have h := rcsR_cell co.rrow P2 (Nat.le_refl _) (i := 3) (by omega)
                  rw [h]
                  have e1 := (JR.out P P2).2.2.1
                  show some (Value.int .u64 (R P).root) = _
                  rw [e1, HRO.out, HP.out]
                have hin := hS1.inEx (HLN.out _).1 (HLN.out _).2
                have hinN := hSN.inEx (HLN.out _).1 (HLN.out _).2
                have hne1 := HSM.out (m + t) N1
                have RT1 := HRT2.out (m + t)
                rw [show (m + t) * 2 = m * 2 + t * 2 by omega] at cells
                obtain ⟨x, hxk⟩ : ∃ x, Y (m + t) = x := ⟨_, rfl⟩
                obtain ⟨y, hyk⟩ : ∃ y, Y N1 = y := ⟨_, rfl⟩
                rw [hxk] at cells hin
                rw [hyk] at cellsN hinN
                have hx200 : x.n ≤ 200 ∧ x.m ≤ 200 := by
                  have h1 := hin.i.len
                  have h2 := hin.o.len
                  have h3 := HLN.out (m + t)
                  omega
                generalize SR (m + t) = S1 at *
                obtain ⟨S2, HS2⟩ : ∃ z, Hid (SR N1 = z) := ⟨_, rfl⟩
                rw [HS2.out] at rcell hne1
                obtain ⟨xa, xn, xk, xb, xm, xt⟩ := x
                obtain ⟨ya, yn, yk, yb, ym, yt⟩ := y
                dsimp only at cells cellsN hx200
                obtain ⟨u0, u1⟩ := cells
                obtain ⟨z0, z1⟩ := cellsN
                have hal1 := low_alloc wr (.cells #[.slice xa xn xk, .slice xb xm xt] 35)
                have row := fn2_alloc wr (.slice xa xn xk) (.slice xb xm xt) 35
                obtain ⟨y0, y1⟩ := fn2_cells row
                have RT := RT1 ⟨xa, xn, xk, xb, xm, xt⟩ _ (hin.below hal1 (Nat.le_refl _))
                dsimp only at RT
                have t63 : t < NB - m := by have := HLL.out; omega
                clear co hS1 hSN hxk hyk RT1 HRT2
                go_wp2_with fail
                refine RT.mono ?_
                rintro e q1 ⟨rfl, hq1⟩
                have V := hal1.trans (hq1.mono hal1.size)
                have KS : Hid (∀ q, Below q1.heap.size q1 q → q.cell? ⟨wr.heap.size, 0, none⟩ = some (.slice xa xn xk) ∧ q.cell? ⟨wr.heap.size, 1, none⟩ = some (.slice xb xm xt) ∧ q.cell? ⟨ga, N1 * 2, none⟩ = some (.slice ya yn yk) ∧ q.cell? ⟨ga, N1 * 2 + 1, none⟩ = some (.slice yb ym yt) ∧ q.cell? ⟨gr, P * 5 + 3, none⟩ = some (.int .u64 S2)) := fun q hq => by
                  have V2 := V.trans (hq.mono V.size)
                  obtain ⟨p0, p1⟩ := fn2_cells (row.of_block ((hq1.trans (hq.mono hq1.size)).block _ row.lt))
                  exact ⟨p0, p1, (V2.cell (p := ⟨ga, N1 * 2, none⟩) (cell_lt z0)).trans z0, (V2.cell (p := ⟨ga, N1 * 2 + 1, none⟩) (cell_lt z1)).trans z1, (V2.cell (p := ⟨gr, P * 5 + 3, none⟩) (cell_lt rcell)).trans rcell⟩
                have Bd : Below q1.heap.size q1 q1.drew := below_drewN (Below.refl _ _) 1
                have S0 := KS.out _ Bd
                obtain ⟨k0, k1, k2, k3, k4⟩ := KS.out _ (Below.refl _ _)
                obtain ⟨r0, r1, r2, r3, r4⟩ := S0
                have SM := rsameS_any xa xn xk xb xm xt ya yn yk yb ym yt (DW (m + t)) (DM (m + t)) (DW N1) (DM N1) q1.drew ((hin.i.below V (Nat.le_refl _)).drew) ((hin.o.below V (Nat.le_refl _)).drew) ((hinN.i.below V (Nat.le_refl _)).drew) ((hinN.o.below V (Nat.le_refl _)).drew) hx200.1 hx200.2
                clear y0 y1 u0 u1 z0 z1 rcell RT
                by_cases hq : S1 = S2
                · have hn1 : (S1 != S2) = false := by rw [bne_eq_false_iff_eq]; exact hq
                  clear SM hne1
                  go_wp2_with fail
                  go_quiet (fail)
                  go_wp2_with fail
                  go_roundw
                  case rel => exact ⟨t + 1, by omega, by go_num, below_drewN (hbel.trans (V.mono hbel.size)) _⟩
                  case measure => simp [intOf]; omega
                · have hn1 : (S1 != S2) = true := by rw [bne_iff_ne]; exact hq
                  have hfl : (decide (DW (m + t) = DW N1) && decide (DM (m + t) = DM N1)) = false := by
                    have := hne1 hq
                    by_cases e1 : DW (m + t) = DW N1
                    · by_cases e2 : DM (m + t) = DM N1
                      · exact absurd ⟨e1, e2⟩ this
                      · rw [decide_eq_false e2, Bool.and_false]
                    · rw [decide_eq_false e1, Bool.false_and]
                  rw [hfl] at SM
                  have S0 := KS.out _ Bd
                  go_wp2_with fail
                  go_region_held3 (fun q => q.cell? ⟨wr.heap.size, 0, none⟩ = some (.slice xa xn xk) ∧ q.cell? ⟨wr.heap.size, 1, none⟩ = some (.slice xb xm xt) ∧ q.cell? ⟨ga, N1 * 2, none⟩ = some (.slice ya yn yk) ∧ q.cell? ⟨ga, N1 * 2 + 1, none⟩ = some (.slice yb ym yt) ∧ q.cell? ⟨gr, P * 5 + 3, none⟩ = some (.int .u64 S2)) (first | with_reducible exact S1' | with_reducible exact S0)
                    ((go_at_call 21; refine SM.mono ?_; rintro e q2 ⟨rfl, hq2⟩; have V2 := undrew hq2; have S1' := KS.out _ V2))
                  all_goals
                    go_wp2_with fail
                    go_roundw
                    case rel => exact ⟨t + 1, by omega, by go_num, hbel.trans ((V.trans (V2.mono V.size)).mono hbel.size)⟩
                    case measure => simp [intOf]; omega
              · obtain rfl : t = LL := by omega
                go_wp2_with fail
                go_roundw
                case rel => exact ⟨m, mm2, by first | rfl | go_num, co⟩
                case measure => simp [intOf]; have := HM.out; omega
        · have cb0 : Hid (CoBt w2 w3 gr N1 BB R wr) := ⟨hco.out.rrow, fun j hj => by
            obtain ⟨x1, x2, bg, x3, x4, x5, x6⟩ := hco.out.jr j hj
            exact ⟨x1, x2, bg, _, x3, x4, x5, x6⟩, hco.out.bel⟩
          clear hco LT AP JR HLN HRT HRO HSM
          generalize hwr0 : wr = wO at *
          clear hwr0
          go_wp2_with fail
          go_loopw [112] (fun v wr => ∃ k : Nat, k ≤ N1 ∧ v = .int .i64 k ∧ Hid (CoBt w2 w3 gr N1 BB R wr)) (fun v _ => N1 - (intOf v).toNat)
          case atStart => exact ⟨0, Nat.zero_le _, rfl, cb0⟩
          case round =>
            clear cb0
            obtain ⟨p, hp, rfl, hcb⟩ := hrel
            by_cases hlt3 : p < N1
            · obtain ⟨x1, x2, bg, f, x3, x4, x5, ar⟩ := hcb.out.bt p hlt3
              have r0 := rcsR_cell hcb.out.rrow hlt3 (Nat.le_refl _) (i := 0) (by omega)
              have r1 := rcsR_cell hcb.out.rrow hlt3 (Nat.le_refl _) (i := 1) (by omega)
              have r2 := rcsR_cell hcb.out.rrow hlt3 (Nat.le_refl _) (i := 2) (by omega)
              have r3 := rcsR_cell hcb.out.rrow hlt3 (Nat.le_refl _) (i := 3) (by omega)
              have r4 := rcsR_cell hcb.out.rrow hlt3 (Nat.le_refl _) (i := 4) (by omega)
              obtain ⟨x, hxk⟩ : ∃ x, R p = x := ⟨_, rfl⟩
              rw [hxk] at x1 x2 x3 r0 r1 r2 r3 r4
              obtain ⟨rs, ra, rn, rk, rr, rroot, rchain⟩ := x
              dsimp only at x1 x2 x3
              subst x3
              rw [x1, x2] at r0 r1 r2 r3 r4
              simp only [recC, fn5, Nat.add_zero] at r0 r1 r2 r3 r4
              simp at r0 r1 r2 r3 r4
              have hal5 := low_alloc wr (.cells #[.int .i64 rs, .slice (some ⟨bg, 0, none⟩) BB BB, .int .i64 rr, .int .u64 rroot, .int .u64 rchain] 37)
              have row5 := fn5_alloc wr (.int .i64 rs) (.slice (some ⟨bg, 0, none⟩) BB BB) (.int .i64 rr) (.int .u64 rroot) (.int .u64 rchain) 37
              have y1 := (fn5_box row5).c1
              have SP := spoil_calls bg BB BB f 99 _ (ar.below hal5) (by omega)
              clear hxk x1 x2
              go_wp2_with fail
              refine SP.mono ?_
              rintro e v1 ⟨rfl, ar5, ho⟩
              have hw23 := hw3.size
              have cb1 : Hid (CoBt w2 w3 gr N1 BB R v1) := (hcb.out.below hal5).spoil ho ar5 x5 (by omega)
              clear hcb ar SP r0 r1 r2 r3 r4 row5 y1 ho ar5
              go_wp2_with fail
              go_roundw
              case rel => exact ⟨p + 1, by omega, by go_num, cb1⟩
              case measure => simp [intOf]; omega
            · have T5 := T.trans (hcb.out.bel.mono T.size)
              clear hcb hw3 hw4
              obtain ⟨c0, c1, c2, c3, c4, c5, c6, c7, c8, c9, c10⟩ := KB.out _ T5
              dsimp only at c0 c1 c2 c3 c4 c5 c6 c7 c8 c9 c10
              have RU2 := HRN.out (by trivial) N1 _ hN1 (hal.trans (T5.mono hal.size))
              rw [HNB.out] at RU2
              go_wp2_with fail
              refine RU2.mono ?_
              rintro e w5 ⟨gb, Y2, rfl, _, _, _, hw5⟩
              have T6 := T5.trans (hw5.mono T5.size)
              clear RU2 c0 c1 c2 c3 c4 c5 c6 c7 c8 c9 c10
              obtain ⟨c0, c1, c2, c3, c4, c5, c6, c7, c8, c9, c10⟩ := KB.out _ T6
              dsimp only at c0 c1 c2 c3 c4 c5 c6 c7 c8 c9 c10
              have RM2 := HMK.out (by trivial) N1 _ hN1 (hal.trans (T6.mono hal.size))
              go_wp2_with fail
              refine RM2.mono ?_
              rintro e w6 ⟨gt, R2, rfl, _, rrow2, hjr2, hjn2, hw6⟩
              have T7 := T6.trans (hw6.mono T6.size)
              clear RM2 c0 c1 c2 c3 c4 c5 c6 c7 c8 c9 c10
              obtain ⟨c0, c1, c2, c3, c4, c5, c6, c7, c8, c9, c10⟩ := KB.out _ T7
              dsimp only at c0 c1 c2 c3 c4 c5 c6 c7 c8 c9 c10
              have WH := HWH.out (by trivial) N1 w6 gt R2 hN1 (hal.trans (T7.mono hal.size)) (HRC.out _ _ _ _ _ rrow2 hjr2) hjn2 (fun j hj => by have := (hjr2 j hj).1; omega)
              clear rrow2 hjr2 hjn2 HRN HMK HWH HRC
              go_wp2_with fail
              refine WH.mono ?_
              rintro e w7 ⟨rfl, hw7⟩
              clear c0 c1 c2 c3 c4 c5 c6 c7 c8 c9 c10
              have qB : ((NB : Int) == (NB : Int)) = true := by simp
              have qM : ((N1 : Int) == (N1 : Int)) = true := by simp
              go_wp2_with fail
              go_ret
              exact ⟨ret_bool (by simp), hal.trans ((T7.trans (hw7.mono T7.size)).mono hal.size)⟩
  · have hFn : (F != 0) = true := by rw [bne_iff_ne]; exact hF
    clear HRN HMK HRT HWH HST hF
    go_wp2_with fail
    go_ret
    exact ⟨rfl, hal.trans (T.mono hal.size)⟩
end Go.Proofs.YtgihnliipfdokaaGreat.Fx
