/- The walk of OptimSays: it returns true, whatever config, state, list and numbers are handed in, and nothing that was there is written. -/
import Derived.Test.YtllgpjhbhndlhabRefOptB
import Derived.Test.YtllgpjhbhndlhabRefOptC
import Derived.Test.YtllgpjhbhndlhabRefOptD
namespace Go.Proofs.Ytllgpjhbhndlhab.Fx
open Go.RowKit

/-- A config and a state, laid one behind the other, in whatever world that left them. -/
structure LawBox (w : World) (c : Cfg) (v0 v1 : Value) (q : World) : Prop where
  cfg : BoxC q w.heap.size c
  st : q.rowIs (w.heap.size + 1) 51 2 (fn2 v0 v1)
  bel : Below w.heap.size w q
theorem LawBox.start (w : World) (c : Cfg) (v0 v1 : Value) : LawBox w c v0 v1 ((w.alloc (.cells c.cells 49)).alloc (.cells #[v0, v1] 51)) := by
  refine ⟨boxC (B := w.heap.size + 1) ((Below.refl _ _).alloc (by simp) _) (by omega), ?_, ((Below.refl w.heap.size w).alloc (Nat.le_refl _) _).alloc (by simp) _⟩
  have h := fn2_alloc (w.alloc (.cells c.cells 49)) v0 v1 51
  simpa using h
theorem LawBox.below {w : World} {c : Cfg} {v0 v1 : Value} {q q2 : World} (h : LawBox w c v0 v1 q) (hb : Below q.heap.size q q2) : LawBox w c v0 v1 q2 := by
  have l2 := h.st.lt
  have k : ∀ i, q2.cell? ⟨w.heap.size, i, none⟩ = q.cell? ⟨w.heap.size, i, none⟩ := fun i => hb.cell (p := ⟨w.heap.size, i, none⟩) (by show w.heap.size < _; omega)
  exact ⟨⟨(k 0).trans h.cfg.c0, (k 1).trans h.cfg.c1, (k 2).trans h.cfg.c2, (k 3).trans h.cfg.c3, (k 4).trans h.cfg.c4, (k 5).trans h.cfg.c5, (k 6).trans h.cfg.c6, (k 7).trans h.cfg.c7, (k 8).trans h.cfg.c8, (k 9).trans h.cfg.c9, (k 10).trans h.cfg.c10⟩,
    h.st.of_block (hb.block _ l2), h.bel.trans (hb.mono h.bel.size)⟩

/-- What the law reckons of Rate and Step, in the world behind it. -/
structure SaySt (F R SE : Int) (SW SM : List Int) (w1 : World) (f h v : Value) (q : World) : Prop where
  hf : f = .int .i64 F
  hh : h = .int .i64 SE
  hv : v = .int .i64 R
  st : ∃ b1 m1 d1 b2 m2 d2, q.rowIs w1.heap.size 51 2 (fn2 (.slice b1 m1 d1) (.slice b2 m2 d2)) ∧ Lst q b1 m1 d1 SW ∧ Lst q b2 m2 d2 SM
  bel : Below w1.heap.size w1 q

theorem rate_no {c : Cfg} {step : Int} (h : ¬ (cfgB c = true ∧ inB step 0 (c.steps - 1) = true)) : rateE c step = 1 ∧ rateI c step = 0 := ⟨if_neg h, if_neg h⟩
theorem rate_yes {c : Cfg} {step : Int} (h : cfgB c = true ∧ inB step 0 (c.steps - 1) = true) : rateE c step = 0 ∧ rateI c step = rateV c step := ⟨if_pos h, if_pos h⟩
theorem step_none {c : Cfg} {ws ms gs : List Int} {n1 n2 n3 : Nat} {rate E : Int} (h : stepE c ws ms n1 n2 n3 rate = E) (hE : E ≠ 0) : stepW c ws ms gs n1 n2 n3 rate = [] ∧ stepM c ws ms gs n1 n2 n3 rate = [] := by
  unfold stepW stepM
  rw [h, if_neg hE, if_neg hE]
  exact ⟨rfl, rfl⟩

set_option maxRecDepth 100000 in
set_option maxHeartbeats 6400000 in
theorem optimSays_core (c : Cfg) (step : Int) (a3 : Option Addr) (n3 k3 : Nat) (gs : List Int) (most : Int) (a1 : Option Addr) (n1 k1 : Nat) (ws : List Int) (a2 : Option Addr) (n2 k2 : Nat) (ms : List Int) (rate : Int) (w : World)
    (l1 : Lst w a1 n1 k1 ws) (l2 : Lst w a2 n2 k2 ms) (l3 : Lst w a3 n3 k3 gs) :
    Calls Try.prog 5 #[c.val, .int .i64 step, .slice a3 n3 k3, .int .i64 most, .agg #[.slice a1 n1 k1, .slice a2 n2 k2], .int .i64 rate] w fun e w' => e = .returned (.bool true) ∧ Below w.heap.size w w' := by
  have lb0 := LawBox.start w c (.slice a1 n1 k1) (.slice a2 n2 k2)
  have HRC : Hid (∀ q, Calls Try.prog 23 #[c.val] q fun e w' => e = .returned (.int .i64 (cfgI c)) ∧ Below q.heap.size q w') := fun q => rconfig_calls c q
  have HOC : Hid (∀ q, Calls Try.prog 31 #[c.val] q fun e w' => e = .returned (.int .i64 (cfgI c)) ∧ Below q.heap.size q w') := fun q => check_calls c q
  have HOR : Hid (∀ q, Calls Try.prog 28 #[c.val, .int .i64 step] q fun e w' => e = .returned (.tuple #[.int .i64 (rateI c step), .int .i64 (rateE c step)]) ∧ Below q.heap.size q w') := fun q => rate_calls c step q
  have HOL : Hid (∀ q, Lst q a3 n3 k3 gs → Calls Try.prog 29 #[.slice a3 n3 k3, .int .i64 most] q fun e w' => ∃ a' n, e = .returned (.tuple #[.slice a' n n, .int .i64 (clipE n3 most)]) ∧ n ≤ 200 ∧ Lst w' a' n n (clipL gs most n3) ∧ Below q.heap.size q w') := fun q hq => clip_calls a3 n3 k3 gs most q hq
  have HOS : Hid (∀ q, Below w.heap.size w q → Calls Try.prog 30 #[c.val, .agg #[.slice a1 n1 k1, .slice a2 n2 k2], .slice a3 n3 k3, .int .i64 rate] q fun e w' => ∃ b1 m1 d1 b2 m2 d2, e = .returned (.tuple #[.agg #[.slice b1 m1 d1, .slice b2 m2 d2], .int .i64 (stepE c ws ms n1 n2 n3 rate)]) ∧ m1 ≤ 200 ∧ m2 ≤ 200 ∧ Lst w' b1 m1 d1 (stepW c ws ms gs n1 n2 n3 rate) ∧ Lst w' b2 m2 d2 (stepM c ws ms gs n1 n2 n3 rate) ∧ Below q.heap.size q w') := fun q hq => step_calls c a1 n1 k1 a2 n2 k2 a3 n3 k3 ws ms gs rate q (l1.below hq (Nat.le_refl _)) (l2.below hq (Nat.le_refl _)) (l3.below hq (Nat.le_refl _))
  have HRR : Hid (cfgB c = true → inB step 0 (c.steps - 1) = true → ∀ q, Calls Try.prog 24 #[c.val, .int .i64 step] q fun e w' => e = .returned (.int .i64 (rateI c step)) ∧ Below q.heap.size q w') := fun hc hi q => by
    obtain ⟨_, _, _, _, ⟨p1, p2⟩, _⟩ := cfgB_is hc
    have hst := in_is hi
    have := rrate_calls c step q p1 p2 (by omega) (by omega)
    rw [← (rate_yes ⟨hc, hi⟩).2] at this
    exact this
  have HRF : Hid (cfgB c = true → ∀ q, Below w.heap.size w q → Calls Try.prog 25 #[c.val, .agg #[.slice a1 n1 k1, .slice a2 n2 k2]] q fun e w' => e = .returned (.bool (fitB c n1 ws && fitB c n2 ms)) ∧ Below q.heap.size q w') := fun hc q hq => rfits_calls c hc a1 n1 k1 a2 n2 k2 ws ms q (l1.below hq (Nat.le_refl _)) (l2.below hq (Nat.le_refl _))
  have HRL : Hid (n3 ≤ 200 → inB most 0 2147483647 = true → ∀ q, Lst q a3 n3 k3 gs → Calls Try.prog 27 #[.slice a3 n3 k3, .int .i64 most] q fun e w' => ∃ a' c', e = .returned (.slice a' n3 c') ∧ Lst w' a' n3 c' (clipL gs most n3) ∧ Below q.heap.size q w') := fun hn hm q hq => by
    have hE : clipE n3 most = 0 := by unfold clipE; rw [if_neg (by omega), hm]; rfl
    unfold clipL
    rw [if_pos hE]
    exact rclip_calls a3 n3 k3 gs most q hq hn (in_is hm).1 (in_is hm).2
  have HRS : Hid (cfgB c = true → (fitB c n1 ws && fitB c n2 ms) = true → n3 = n1 → inB rate 0 2147483647 = true → ∀ q, Below w.heap.size w q → Calls Try.prog 26 #[c.val, .agg #[.slice a1 n1 k1, .slice a2 n2 k2], .slice a3 n3 k3, .int .i64 rate] q fun e w' => ∃ ga d1 gb d2, e = .returned (.agg #[.slice (some ⟨ga, 0, none⟩) n3 d1, .slice (some ⟨gb, 0, none⟩) n3 d2]) ∧ q.heap.size ≤ ga ∧ q.heap.size ≤ gb ∧ Lst w' (some ⟨ga, 0, none⟩) n3 d1 (stepW c ws ms gs n1 n2 n3 rate) ∧ Lst w' (some ⟨gb, 0, none⟩) n3 d2 (stepM c ws ms gs n1 n2 n3 rate) ∧ Below q.heap.size q w') := fun hc hf hl hr q hq => by
    have hF : stepF c ws ms n1 n2 n3 = true := by unfold stepF; rw [hf, decide_eq_true hl]; rfl
    have hE : stepE c ws ms n1 n2 n3 rate = 0 := by unfold stepE; rw [hc, hF, hr]; rfl
    rw [Bool.and_eq_true] at hf
    have g1 := fit_len hc hf.1
    have g2 := fit_len hc hf.2
    have hn : n2 = n1 := by have := g1.1; have := g2.1; omega
    unfold stepW stepM
    rw [hE, if_pos rfl, if_pos rfl]
    subst hl hn
    exact rstepped_calls c a1 k1 a2 k2 a3 k3 _ ws ms gs rate q (l1.below hq (Nat.le_refl _)) (l2.below hq (Nat.le_refl _)) (l3.below hq (Nat.le_refl _)) (by omega) (by omega)
  have HL3 : Hid (∀ q, Below w.heap.size w q → Lst q a3 n3 k3 gs) := fun q hq => l3.below hq (Nat.le_refl _)
  -- what each way comes to
  have HF0 : Hid (cfgB c = false → cfgI c = 1 ∧ rateE c step = 1 ∧ rateI c step = 0 ∧ stepE c ws ms n1 n2 n3 rate = 1 ∧ stepW c ws ms gs n1 n2 n3 rate = [] ∧ stepM c ws ms gs n1 n2 n3 rate = []) := fun hc => by
    have hr := rate_no (c := c) (step := step) (fun g => by rw [hc] at g; cases g.1)
    have he : stepE c ws ms n1 n2 n3 rate = 1 := by unfold stepE; rw [hc]; rfl
    exact ⟨cfgI_no hc, hr.1, hr.2, he, step_none he (by decide)⟩
  have HF1 : Hid (cfgB c = true → cfgI c = 0) := fun hc => cfgI_yes hc
  have HF2 : Hid (cfgB c = true → inB step 0 (c.steps - 1) = true → rateE c step = 0) := fun hc hi => (rate_yes ⟨hc, hi⟩).1
  have HF3 : Hid (inB step 0 (c.steps - 1) = false → rateE c step = 1 ∧ rateI c step = 0) := fun hi => rate_no (fun g => by rw [hi] at g; cases g.2)
  have HF4 : Hid (cfgB c = true → (fitB c n1 ws && fitB c n2 ms) = false → stepE c ws ms n1 n2 n3 rate = 5) := fun hc hf => by unfold stepE stepF; rw [hc, hf]; rfl
  have HF5 : Hid (cfgB c = true → n3 ≠ n1 → stepE c ws ms n1 n2 n3 rate = 5) := fun hc hl => by
    unfold stepE stepF
    rw [hc, decide_eq_false hl, Bool.and_false]
    rfl
  have HF6 : Hid (cfgB c = true → (fitB c n1 ws && fitB c n2 ms) = true → n3 = n1 → inB rate 0 2147483647 = false → stepE c ws ms n1 n2 n3 rate = 1) := fun hc hf hl hr => by
    unfold stepE stepF; rw [hc, hf, decide_eq_true hl, hr]; rfl
  have HF7 : Hid (cfgB c = true → (fitB c n1 ws && fitB c n2 ms) = true → n3 = n1 → inB rate 0 2147483647 = true → stepE c ws ms n1 n2 n3 rate = 0) := fun hc hf hl hr => by
    unfold stepE stepF; rw [hc, hf, decide_eq_true hl, hr]; rfl
  have HF8 : Hid (∀ E, stepE c ws ms n1 n2 n3 rate = E → E ≠ 0 → stepW c ws ms gs n1 n2 n3 rate = [] ∧ stepM c ws ms gs n1 n2 n3 rate = []) := fun E he hE => step_none he hE
  have HC1 : Hid (200 < n3 → clipE n3 most = 2 ∧ clipL gs most n3 = []) := fun hl => by
    have hE : clipE n3 most = 2 := by unfold clipE; rw [if_pos hl]
    exact ⟨hE, by unfold clipL; rw [hE]; rfl⟩
  have HC2 : Hid (n3 ≤ 200 → inB most 0 2147483647 = false → clipE n3 most = 1 ∧ clipL gs most n3 = []) := fun hl hm => by
    have hE : clipE n3 most = 1 := by unfold clipE; rw [if_neg (by omega), hm]; rfl
    exact ⟨hE, by unfold clipL; rw [hE]; rfl⟩
  have HC3 : Hid (n3 ≤ 200 → inB most 0 2147483647 = true → clipE n3 most = 0) := fun hl hm => by unfold clipE; rw [if_neg (by omega), hm]; rfl
  have hsteps : cfgB c = true → 1 ≤ c.steps ∧ c.steps ≤ 40 := fun hc => by
    obtain ⟨_, _, _, _, p, _⟩ := cfgB_is hc
    exact p
  have HST : Hid (cfgB c = true → 1 ≤ c.steps ∧ c.steps ≤ 40) := hsteps
  clear l1 l2 l3 hsteps
  generalize stepE c ws ms n1 n2 n3 rate = SE at *
  generalize stepW c ws ms gs n1 n2 n3 rate = SW at *
  generalize stepM c ws ms gs n1 n2 n3 rate = SM at *
  generalize rateE c step = F at *
  generalize rateI c step = R at *
  generalize clipE n3 most = CE at *
  generalize clipL gs most n3 = CL at *
  generalize (fitB c n1 ws && fitB c n2 ms) = FB at *
  generalize hCB : cfgB c = CB at *
  clear hCB
  generalize cfgI c = E at *
  obtain ⟨IS, HIS⟩ : ∃ b, Hid (inB step 0 (c.steps - 1) = b) := ⟨_, rfl⟩
  obtain ⟨IM, HIM⟩ : ∃ b, Hid (inB most 0 2147483647 = b) := ⟨_, rfl⟩
  obtain ⟨IR, HIR⟩ : ∃ b, Hid (inB rate 0 2147483647 = b) := ⟨_, rfl⟩
  rw [HIS.out] at HRR HF2 HF3
  rw [HIM.out] at HRL HC2 HC3
  rw [HIR.out] at HRS HF6 HF7
  obtain ⟨i, h, o, seed, batch, steps, crate, decay, how, keep, clip⟩ := c
  simp only [Cfg.val, Cfg.cells] at *
  go_enter Try.func5, Try.ntmps5
  go_upto_if 31 with (go_at_call 23; refine (HRC.out _).mono ?_; rintro e w1 ⟨rfl, hw1⟩)
  have lb1 := lb0.below hw1
  clear hw1 lb0
  go_cut [14, 15, 16] (fun f h v q => SaySt F R SE SW SM w1 f h v q)
  case first =>
    have zrow := fn2_alloc w1 (.slice none 0 0) (.slice none 0 0) 51
    have zbel := low_alloc w1 (.cells #[.slice none 0 0, .slice none 0 0] 51)
    have lb2 := lb1.below zbel
    clear HC1 HC2 HC3 HRL HOC HOR HOL HOS HIM HRC
    -- FIRST
    cases CB with
    | false =>
      obtain ⟨hE, hF, hR, hS, hW, hM⟩ := HF0.out (by trivial)
      subst hE hF hR hS hW hM
      clear HF1 HF2 HF3 HF4 HF5 HF6 HF7 HF8 HRR HRF HRS HST
      go_wp2_with fail
      go_meet
      case rel => exact ⟨rfl, rfl, rfl, ⟨none, 0, 0, none, 0, 0, zrow, Lst.nil _ _ _, Lst.nil _ _ _⟩, zbel⟩
    | true =>
      have hE := HF1.out (by trivial)
      subst hE
      have hst := HST.out (by trivial)
      have ⟨⟨c0, c1, c2, c3, c4, c5, c6, c7, c8, c9, c10⟩, hs, hb⟩ := lb2
      dsimp only at c0 c1 c2 c3 c4 c5 c6 c7 c8 c9 c10
      obtain ⟨s0, s1⟩ := fn2_cells hs
      cases IS with
      | true =>
        have hF := HF2.out (by trivial) (by trivial)
        subst hF
        have RR := HRR.out (by trivial) (by trivial)
        have HRR2 : Hid (∀ q, Calls Try.prog 24 #[.agg #[.int .i64 i, .int .i64 h, .int .i64 o, .int .u64 seed, .int .i64 batch, .int .i64 steps, .int .i64 crate, .int .i64 decay, .int .i64 how, .int .i64 keep, .int .i64 clip], .int .i64 step] q fun e w' => e = .returned (.int .i64 R) ∧ Below q.heap.size q w') := RR
        clear RR HF0 HF1 HF2 HF3 HRR HST
        go_wp2_with (go_at_call 8; refine (rin_calls _ _ _ _).mono ?_; rintro e w' ⟨rfl, hw'⟩; replace hw' := hw'.symm; subst hw'; rw [HIS.out])
        refine (HRR2.out _).mono ?_
        rintro e w2 ⟨rfl, hw2⟩
        replace lb2 := lb2.below hw2
        replace zrow := zrow.of_block (hw2.block _ zrow.lt)
        replace zbel := zbel.trans (hw2.mono zbel.size)
        clear hw2
        clear c0 c1 c2 c3 c4 c5 c6 c7 c8 c9 c10 hs hb s0 s1
        have ⟨⟨c0, c1, c2, c3, c4, c5, c6, c7, c8, c9, c10⟩, hs, hb⟩ := lb2
        dsimp only at c0 c1 c2 c3 c4 c5 c6 c7 c8 c9 c10
        obtain ⟨s0, s1⟩ := fn2_cells hs
        go_wp2_with fail
        refine (HRF.out (by trivial) _ lb2.bel).mono ?_
        rintro e w3 ⟨rfl, hw3⟩
        replace lb2 := lb2.below hw3
        replace zrow := zrow.of_block (hw3.block _ zrow.lt)
        replace zbel := zbel.trans (hw3.mono zbel.size)
        clear hw3
        clear c0 c1 c2 c3 c4 c5 c6 c7 c8 c9 c10 hs hb s0 s1
        have ⟨⟨c0, c1, c2, c3, c4, c5, c6, c7, c8, c9, c10⟩, hs, hb⟩ := lb2
        dsimp only at c0 c1 c2 c3 c4 c5 c6 c7 c8 c9 c10
        obtain ⟨s0, s1⟩ := fn2_cells hs
        cases FB with
        | false =>
          have hSE := HF4.out (by trivial) (by trivial)
          have hNL := HF8.out 5 hSE (by decide)
          subst hSE
          have HN1 : Hid (SW = []) := hNL.1
          have HN2 : Hid (SM = []) := hNL.2
          clear hNL
          go_wp2_with fail
          go_meet
          case rel => exact ⟨rfl, rfl, rfl, ⟨none, 0, 0, none, 0, 0, zrow, by rw [HN1.out]; exact Lst.nil _ _ _, by rw [HN2.out]; exact Lst.nil _ _ _⟩, zbel⟩
        | true =>
          by_cases hl : n3 = n1
          · have hne : ((n3 : Int) != (n1 : Int)) = false := by rw [bne_eq_false_iff_eq]; omega
            cases IR with
            | false =>
              have hSE := HF6.out (by trivial) (by trivial) hl (by trivial)
              have hNL := HF8.out 1 hSE (by decide)
              subst hSE
              have HN1 : Hid (SW = []) := hNL.1
              have HN2 : Hid (SM = []) := hNL.2
              clear hNL hl
              go_wp2_with (go_at_call 8; refine (rin_calls _ _ _ _).mono ?_; rintro e w' ⟨rfl, hw'⟩; replace hw' := hw'.symm; subst hw'; rw [HIR.out])
              go_meet
              case rel => exact ⟨rfl, rfl, rfl, ⟨none, 0, 0, none, 0, 0, zrow, by rw [HN1.out]; exact Lst.nil _ _ _, by rw [HN2.out]; exact Lst.nil _ _ _⟩, zbel⟩
            | true =>
              have hSE := HF7.out (by trivial) (by trivial) hl (by trivial)
              subst hSE
              have RST := HRS.out (by trivial) (by trivial) hl (by trivial) _ lb2.bel
              clear hl
              go_wp2_with (go_at_call 8; refine (rin_calls _ _ _ _).mono ?_; rintro e w' ⟨rfl, hw'⟩; replace hw' := hw'.symm; subst hw'; rw [HIR.out])
              refine RST.mono ?_
              rintro e w4 ⟨ga, d1, gb, d2, rfl, hga, hgb, g1, g2, hw4⟩
              have zz := zbel.size
              have zl := zrow.lt
              replace zrow := zrow.of_block (hw4.block _ zrow.lt)
              replace zbel := zbel.trans (hw4.mono zbel.size)
              clear hw4
              clear c0 c1 c2 c3 c4 c5 c6 c7 c8 c9 c10 hs hb s0 s1
              obtain ⟨r0, r1⟩ := fn2_cells zrow
              have f0 := zrow.frozen 0
              have f1 := zrow.frozen 1
              go_wp2_with fail
              go_meet
              case rel => exact ⟨rfl, rfl, rfl, ⟨_, _, _, _, _, _, fn2_set zrow (.slice (some ⟨ga, 0, none⟩) n3 d1) (.slice (some ⟨gb, 0, none⟩) n3 d2), (g1.setFar (show ga ≠ w1.heap.size by omega) _).setFar (show ga ≠ w1.heap.size by omega) _, (g2.setFar (show gb ≠ w1.heap.size by omega) _).setFar (show gb ≠ w1.heap.size by omega) _⟩, (zbel.setCell (Nat.le_refl _) _).setCell (Nat.le_refl _) _⟩
          · have hne : ((n3 : Int) != (n1 : Int)) = true := by rw [bne_iff_ne]; omega
            have hSE := HF5.out (by trivial) hl
            have hNL := HF8.out 5 hSE (by decide)
            subst hSE
            have HN1 : Hid (SW = []) := hNL.1
            have HN2 : Hid (SM = []) := hNL.2
            clear hNL hl
            go_wp2_with fail
            go_meet
            case rel => exact ⟨rfl, rfl, rfl, ⟨none, 0, 0, none, 0, 0, zrow, by rw [HN1.out]; exact Lst.nil _ _ _, by rw [HN2.out]; exact Lst.nil _ _ _⟩, zbel⟩
      | false =>
        obtain ⟨hF, hR⟩ := HF3.out (by trivial)
        subst hF hR
        clear HF0 HF1 HF2 HF3 HRR HST
        go_wp2_with (go_at_call 8; refine (rin_calls _ _ _ _).mono ?_; rintro e w' ⟨rfl, hw'⟩; replace hw' := hw'.symm; subst hw'; rw [HIS.out])
        refine (HRF.out (by trivial) _ lb2.bel).mono ?_
        rintro e w3 ⟨rfl, hw3⟩
        replace lb2 := lb2.below hw3
        replace zrow := zrow.of_block (hw3.block _ zrow.lt)
        replace zbel := zbel.trans (hw3.mono zbel.size)
        clear hw3
        clear c0 c1 c2 c3 c4 c5 c6 c7 c8 c9 c10 hs hb s0 s1
        have ⟨⟨c0, c1, c2, c3, c4, c5, c6, c7, c8, c9, c10⟩, hs, hb⟩ := lb2
        dsimp only at c0 c1 c2 c3 c4 c5 c6 c7 c8 c9 c10
        obtain ⟨s0, s1⟩ := fn2_cells hs
        cases FB with
        | false =>
          have hSE := HF4.out (by trivial) (by trivial)
          have hNL := HF8.out 5 hSE (by decide)
          subst hSE
          have HN1 : Hid (SW = []) := hNL.1
          have HN2 : Hid (SM = []) := hNL.2
          clear hNL
          go_wp2_with fail
          go_meet
          case rel => exact ⟨rfl, rfl, rfl, ⟨none, 0, 0, none, 0, 0, zrow, by rw [HN1.out]; exact Lst.nil _ _ _, by rw [HN2.out]; exact Lst.nil _ _ _⟩, zbel⟩
        | true =>
          by_cases hl : n3 = n1
          · have hne : ((n3 : Int) != (n1 : Int)) = false := by rw [bne_eq_false_iff_eq]; omega
            cases IR with
            | false =>
              have hSE := HF6.out (by trivial) (by trivial) hl (by trivial)
              have hNL := HF8.out 1 hSE (by decide)
              subst hSE
              have HN1 : Hid (SW = []) := hNL.1
              have HN2 : Hid (SM = []) := hNL.2
              clear hNL hl
              go_wp2_with (go_at_call 8; refine (rin_calls _ _ _ _).mono ?_; rintro e w' ⟨rfl, hw'⟩; replace hw' := hw'.symm; subst hw'; rw [HIR.out])
              go_meet
              case rel => exact ⟨rfl, rfl, rfl, ⟨none, 0, 0, none, 0, 0, zrow, by rw [HN1.out]; exact Lst.nil _ _ _, by rw [HN2.out]; exact Lst.nil _ _ _⟩, zbel⟩
            | true =>
              have hSE := HF7.out (by trivial) (by trivial) hl (by trivial)
              subst hSE
              have RST := HRS.out (by trivial) (by trivial) hl (by trivial) _ lb2.bel
              clear hl
              go_wp2_with (go_at_call 8; refine (rin_calls _ _ _ _).mono ?_; rintro e w' ⟨rfl, hw'⟩; replace hw' := hw'.symm; subst hw'; rw [HIR.out])
              refine RST.mono ?_
              rintro e w4 ⟨ga, d1, gb, d2, rfl, hga, hgb, g1, g2, hw4⟩
              have zz := zbel.size
              have zl := zrow.lt
              replace zrow := zrow.of_block (hw4.block _ zrow.lt)
              replace zbel := zbel.trans (hw4.mono zbel.size)
              clear hw4
              clear c0 c1 c2 c3 c4 c5 c6 c7 c8 c9 c10 hs hb s0 s1
              obtain ⟨r0, r1⟩ := fn2_cells zrow
              have f0 := zrow.frozen 0
              have f1 := zrow.frozen 1
              go_wp2_with fail
              go_meet
              case rel => exact ⟨rfl, rfl, rfl, ⟨_, _, _, _, _, _, fn2_set zrow (.slice (some ⟨ga, 0, none⟩) n3 d1) (.slice (some ⟨gb, 0, none⟩) n3 d2), (g1.setFar (show ga ≠ w1.heap.size by omega) _).setFar (show ga ≠ w1.heap.size by omega) _, (g2.setFar (show gb ≠ w1.heap.size by omega) _).setFar (show gb ≠ w1.heap.size by omega) _⟩, (zbel.setCell (Nat.le_refl _) _).setCell (Nat.le_refl _) _⟩
          · have hne : ((n3 : Int) != (n1 : Int)) = true := by rw [bne_iff_ne]; omega
            have hSE := HF5.out (by trivial) hl
            have hNL := HF8.out 5 hSE (by decide)
            subst hSE
            have HN1 : Hid (SW = []) := hNL.1
            have HN2 : Hid (SM = []) := hNL.2
            clear hNL hl
            go_wp2_with fail
            go_meet
            case rel => exact ⟨rfl, rfl, rfl, ⟨none, 0, 0, none, 0, 0, zrow, by rw [HN1.out]; exact Lst.nil _ _ _, by rw [HN2.out]; exact Lst.nil _ _ _⟩, zbel⟩
    -- END FIRST
  case rest =>
    -- REST
    obtain ⟨rfl, rfl, rfl, ⟨b1, m1, d1, b2, m2, d2, zrow, g1, g2⟩, zbel⟩ := hcut
    have lb2 := lb1.below zbel
    generalize hwc : wc = q1 at *
    clear hwc lb1 zbel HF0 HF1 HF2 HF3 HF4 HF5 HF6 HF7 HF8 HRR HRF HRS HST HIS HIR HRC
    go_upto_block 1 with fail
    go_cut [18, 19] (fun e v q => e = .int .i64 CE ∧ (∃ a n c, v = .slice a n c ∧ Lst q a n c CL) ∧ Below q1.heap.size q1 q)
    case first =>
      by_cases hl : 200 < n3
      · obtain ⟨hC, hN⟩ := HC1.out hl
        subst hC
        have HN : Hid (CL = []) := hN
        have hl2 : (200 : Int) < (n3 : Int) := by omega
        clear hN
        go_wp2_with fail
        go_meet
        case rel => exact ⟨rfl, ⟨none, 0, 0, rfl, by rw [HN.out]; exact Lst.nil _ _ _⟩, Below.refl _ _⟩
      · have hl2 : ¬ (200 : Int) < (n3 : Int) := by omega
        cases IM with
        | false =>
          obtain ⟨hC, hN⟩ := HC2.out (by omega) (by trivial)
          subst hC
          have HN : Hid (CL = []) := hN
          clear hN
          go_wp2_with (go_at_call 8; refine (rin_calls _ _ _ _).mono ?_; rintro e w' ⟨rfl, hw'⟩; replace hw' := hw'.symm; subst hw'; rw [HIM.out])
          go_meet
          case rel => exact ⟨rfl, ⟨none, 0, 0, rfl, by rw [HN.out]; exact Lst.nil _ _ _⟩, Below.refl _ _⟩
        | true =>
          have hC := HC3.out (by omega) (by trivial)
          subst hC
          have RL := HRL.out (by omega) (by trivial) _ (HL3.out _ lb2.bel)
          go_wp2_with (go_at_call 8; refine (rin_calls _ _ _ _).mono ?_; rintro e w' ⟨rfl, hw'⟩; replace hw' := hw'.symm; subst hw'; rw [HIM.out])
          refine RL.mono ?_
          rintro e w5 ⟨ca, cc, rfl, gl, hw5⟩
          clear RL
          go_wp2_with fail
          go_meet
          case rel => exact ⟨rfl, ⟨_, _, _, rfl, gl⟩, hw5⟩
    case rest =>
      obtain ⟨rfl, ⟨ca, cn, cc, rfl, gl⟩, hq⟩ := hcut
      have ⟨⟨c0, c1, c2, c3, c4, c5, c6, c7, c8, c9, c10⟩, hs, hb⟩ := lb2
      dsimp only at c0 c1 c2 c3 c4 c5 c6 c7 c8 c9 c10
      obtain ⟨s0, s1⟩ := fn2_cells hs
      replace lb2 := lb2.below hq
      replace zrow := zrow.of_block (hq.block _ zrow.lt)
      replace g1 := g1.below hq (Nat.le_refl _)
      replace g2 := g2.below hq (Nat.le_refl _)
      clear hq
      clear c0 c1 c2 c3 c4 c5 c6 c7 c8 c9 c10 hs hb s0 s1
      have ⟨⟨c0, c1, c2, c3, c4, c5, c6, c7, c8, c9, c10⟩, hs, hb⟩ := lb2
      dsimp only at c0 c1 c2 c3 c4 c5 c6 c7 c8 c9 c10
      obtain ⟨s0, s1⟩ := fn2_cells hs
      clear HC1 HC2 HC3 HRL HIM
      go_wp2_with fail
      refine (HOR.out _).mono ?_
      rintro e w5 ⟨rfl, hw5⟩
      replace lb2 := lb2.below hw5
      replace zrow := zrow.of_block (hw5.block _ zrow.lt)
      replace g1 := g1.below hw5 (Nat.le_refl _)
      replace g2 := g2.below hw5 (Nat.le_refl _)
      replace gl := gl.below hw5 (Nat.le_refl _)
      clear hw5
      clear c0 c1 c2 c3 c4 c5 c6 c7 c8 c9 c10 hs hb s0 s1
      have ⟨⟨c0, c1, c2, c3, c4, c5, c6, c7, c8, c9, c10⟩, hs, hb⟩ := lb2
      dsimp only at c0 c1 c2 c3 c4 c5 c6 c7 c8 c9 c10
      obtain ⟨s0, s1⟩ := fn2_cells hs
      go_wp2_with fail
      refine (HOL.out _ (HL3.out _ lb2.bel)).mono ?_
      rintro e w6 ⟨ya, yn, rfl, hyn, ly, hw6⟩
      replace lb2 := lb2.below hw6
      replace zrow := zrow.of_block (hw6.block _ zrow.lt)
      replace g1 := g1.below hw6 (Nat.le_refl _)
      replace g2 := g2.below hw6 (Nat.le_refl _)
      replace gl := gl.below hw6 (Nat.le_refl _)
      clear hw6
      clear c0 c1 c2 c3 c4 c5 c6 c7 c8 c9 c10 hs hb s0 s1
      have ⟨⟨c0, c1, c2, c3, c4, c5, c6, c7, c8, c9, c10⟩, hs, hb⟩ := lb2
      dsimp only at c0 c1 c2 c3 c4 c5 c6 c7 c8 c9 c10
      obtain ⟨s0, s1⟩ := fn2_cells hs
      go_wp2_with fail
      refine (HOS.out _ lb2.bel).mono ?_
      rintro e w7 ⟨xa, p1, t1, xb, p2, t2, rfl, hp1, hp2, x1, x2, hw7⟩
      replace lb2 := lb2.below hw7
      replace zrow := zrow.of_block (hw7.block _ zrow.lt)
      replace g1 := g1.below hw7 (Nat.le_refl _)
      replace g2 := g2.below hw7 (Nat.le_refl _)
      replace gl := gl.below hw7 (Nat.le_refl _)
      replace ly := ly.below hw7 (Nat.le_refl _)
      clear hw7
      clear c0 c1 c2 c3 c4 c5 c6 c7 c8 c9 c10 hs hb s0 s1
      have ⟨⟨c0, c1, c2, c3, c4, c5, c6, c7, c8, c9, c10⟩, hs, hb⟩ := lb2
      dsimp only at c0 c1 c2 c3 c4 c5 c6 c7 c8 c9 c10
      obtain ⟨s0, s1⟩ := fn2_cells hs
      have vrow := fn2_alloc w7 (.slice xa p1 t1) (.slice xb p2 t2) 51
      have hwa := low_alloc w7 (.cells #[.slice xa p1 t1, .slice xb p2 t2] 51)
      replace lb2 := lb2.below hwa
      replace zrow := zrow.of_block (hwa.block _ zrow.lt)
      replace g1 := g1.below hwa (Nat.le_refl _)
      replace g2 := g2.below hwa (Nat.le_refl _)
      replace gl := gl.below hwa (Nat.le_refl _)
      replace ly := ly.below hwa (Nat.le_refl _)
      replace x1 := x1.below hwa (Nat.le_refl _)
      replace x2 := x2.below hwa (Nat.le_refl _)
      clear hwa
      clear c0 c1 c2 c3 c4 c5 c6 c7 c8 c9 c10 hs hb s0 s1
      have ⟨⟨c0, c1, c2, c3, c4, c5, c6, c7, c8, c9, c10⟩, hs, hb⟩ := lb2
      dsimp only at c0 c1 c2 c3 c4 c5 c6 c7 c8 c9 c10
      obtain ⟨s0, s1⟩ := fn2_cells hs
      go_wp2_with fail
      refine (HOC.out _).mono ?_
      rintro e w8 ⟨rfl, hw8⟩
      replace vrow := vrow.of_block (hw8.block _ vrow.lt)
      replace lb2 := lb2.below hw8
      replace zrow := zrow.of_block (hw8.block _ zrow.lt)
      replace g1 := g1.below hw8 (Nat.le_refl _)
      replace g2 := g2.below hw8 (Nat.le_refl _)
      replace gl := gl.below hw8 (Nat.le_refl _)
      replace ly := ly.below hw8 (Nat.le_refl _)
      replace x1 := x1.below hw8 (Nat.le_refl _)
      replace x2 := x2.below hw8 (Nat.le_refl _)
      clear hw8
      clear c0 c1 c2 c3 c4 c5 c6 c7 c8 c9 c10 hs hb s0 s1
      have ⟨⟨c0, c1, c2, c3, c4, c5, c6, c7, c8, c9, c10⟩, hs, hb⟩ := lb2
      dsimp only at c0 c1 c2 c3 c4 c5 c6 c7 c8 c9 c10
      obtain ⟨s0, s1⟩ := fn2_cells hs
      have qE : (E == E) = true := by simp
      have qR : (R == R) = true := by simp
      have qF : (F == F) = true := by simp
      have qC : (CE == CE) = true := by simp
      have qS : (SE == SE) = true := by simp
      obtain ⟨v0, v1⟩ := fn2_cells vrow
      obtain ⟨z0, z1⟩ := fn2_cells zrow
      go_wp2_with fail
      refine (eq_calls _ _ _ _ _ _ CL CL _ ly gl (by omega)).mono ?_
      rintro e w9 ⟨rfl, k9, hw9⟩
      subst hw9
      rw [decide_eq_true (Eq.refl CL)]
      go_wp2_with fail
      refine (rsameS_calls _ _ _ _ _ _ _ _ _ _ _ _ SW SM _ (x1.drewN _) (x2.drewN _) (g1.drewN _) (g2.drewN _) hp1 hp2).mono ?_
      rintro e w10 ⟨rfl, hw10⟩
      have T := lb2.bel
      go_wp2
      go_ret
      exact ⟨rfl, (below_drewN T k9).trans (hw10.mono (by simpa using T.size))⟩
    -- END REST

theorem optimSays_any (c : Cfg) (step : Int) (a3 : Option Addr) (n3 k3 : Nat) (gs : List Int) (most : Int) (x : Exm) (ws ms : List Int) (rate : Int) (w : World) (_ : (Lit.int .u64 c.seed).wf = true) (_ : (Lit.int .i64 step).wf = true) (l3 : Lst w a3 n3 k3 gs) (_ : (Lit.int .i64 most).wf = true) (l : InEx w x ws ms) (_ : (Lit.int .i64 rate).wf = true) :
    Calls Try.prog 5 #[c.val, .int .i64 step, .slice a3 n3 k3, .int .i64 most, x.val, .int .i64 rate] w fun e w' => e = .returned (.bool true) ∧ Below w.heap.size w w' :=
  optimSays_core c step a3 n3 k3 gs most x.a x.n x.k ws x.b x.m x.t ms rate w l.i l.o l3

end Go.Proofs.Ytllgpjhbhndlhab.Fx
