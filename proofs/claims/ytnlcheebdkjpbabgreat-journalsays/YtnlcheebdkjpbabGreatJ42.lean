/- What journal.Make returns, whatever is handed in. -/
import Derived.Test.YtnlcheebdkjpbabGreatJ41
import Derived.Test.YtnlcheebdkjpbabGreatJ33
import Derived.Test.YtnlcheebdkjpbabGreatJ11
import Derived.Test.YtnlcheebdkjpbabGreatJ00
import Derived.Test.YtnlcheebdkjpbabGreatJ10
import Derived.WalkKit
namespace Go.Proofs.YtnlcheebdkjpbabGreat.Fx
open Go.RowKit

/-- What is known of the records that Make tells: where they lie, and that each batch lies in a block of its own. -/
structure MadeR (w w' : World) (c : Cfg) (n : Nat) (DI DO : Nat → List Int) (b : Option Addr) (m k : Nat) (R : Nat → Rcm) : Prop where
  recs : Recs w' b m k R (jrBatch c n)
  says : JrN m R (mkRV c) (mkRO c n DI DO) (mkCH c n DI DO)
  len8 : ∀ j, j < m → (R j).n ≤ 8
  own : 0 < m → ∃ g, b = some ⟨g, 0, none⟩ ∧ k = m ∧ w.heap.size ≤ g ∧ w'.rowIs g 33 (m * 5) (rcsR R m) ∧ JrIn w' g w.heap.size c.batch.toNat m R (jrBatch c n)
  bel : Below w.heap.size w w'

theorem recs_of {w : World} {g base B m : Nat} {R : Nat → Rcm} {DB : Nat → List Int} (h : w.rowIs g 33 (m * 5) (rcsR R m)) (hj : JrIn w g base B m R DB) : Recs w (some ⟨g, 0, none⟩) m m R DB := by
  refine ⟨Nat.le_refl _, .inr ⟨g, 0, rfl, h.lt, fun i hi => ?_⟩⟩
  obtain ⟨h1, h2, bg, h3, _, _, hl⟩ := hj i hi
  rw [Nat.zero_add]
  refine ⟨rcsR_cell h hi (Nat.le_refl _) (i := 0) (by omega), rcsR_cell h hi (Nat.le_refl _) (i := 1) (by omega), rcsR_cell h hi (Nat.le_refl _) (i := 2) (by omega), rcsR_cell h hi (Nat.le_refl _) (i := 3) (by omega), rcsR_cell h hi (Nat.le_refl _) (i := 4) (by omega), ?_⟩
  rw [h1, h2, h3]
  exact hl

set_option maxRecDepth 100000 in
set_option maxHeartbeats 1600000 in
theorem jMake_good (c : Cfg) (a : Option Addr) (n cap : Nat) (X : Nat → Exm) (DI DO : Nat → List Int) (M : Nat) (w : World) (hs : okW c.seed) (hx : Exs w a n cap X DI DO) (h0 : courseI c n X DI DO = 0) (hm : (M : Int) ≤ c.steps) :
    Calls Tryz.prog 27 #[c.val, .slice a n cap, .int .i64 M] w fun e w' => ∃ g R, e = .returned (.tuple #[.slice (some ⟨g, 0, none⟩) M M, .int .i64 0]) ∧ w.heap.size ≤ g ∧ w'.rowIs g 33 (M * 5) (rcsR R M) ∧ JrIn w' g w.heap.size c.batch.toNat M R (jrBatch c n) ∧ JrN M R (mkRV c) (mkRO c n DI DO) (mkCH c n DI DO) ∧ Below w.heap.size w w' := by
  have hal := low_alloc w (.cells c.cells 24)
  have CK := tcheck_calls c a n cap X DI DO _ (hx.below hal (Nat.le_refl _))
  have KB : Hid (∀ q, Below (w.alloc (.cells c.cells 24)).heap.size (w.alloc (.cells c.cells 24)) q → BoxC q w.heap.size c) := fun q hq => boxC hq (by simp)
  rw [h0] at CK
  obtain ⟨hc, hn1, hn2, hex⟩ := course_ok h0
  have HRC : Hid (∀ q, Below w.heap.size w q → Calls Tryz.prog 51 #[c.val, .slice a n cap, .int .i64 M] q fun e w' => ∃ g R, e = .returned (.slice (some ⟨g, 0, none⟩) M M) ∧ w.heap.size ≤ g ∧ w'.rowIs g 33 (M * 5) (rcsR R M) ∧ JrIn w' g w.heap.size c.batch.toNat M R (jrBatch c n) ∧ JrN M R (mkRV c) (mkRO c n DI DO) (mkCH c n DI DO) ∧ Below q.heap.size q w') := fun q hq => by
    obtain ⟨⟨i1, i2⟩, ⟨h1, h2⟩, ⟨o1, o2⟩, ⟨b1, b2⟩, _⟩ := cfgB_is hc
    have hzn := sizeN_bd hc
    obtain ⟨N, hNz⟩ := Int.eq_ofNat_of_zero_le (show 0 ≤ sizeN c by omega)
    have hNt : (sizeN c).toNat = N := by rw [hNz]; rfl
    have HX := hx.below hq (Nat.le_refl _)
    have hle := hq.size
    clear CK KB hal h0 hx
    have e1 : mkRO c n DI DO = jrRoot c n DI DO N := by unfold mkRO; rw [hNt]
    have e2 : mkCH c n DI DO = jrChain c n DI DO N := by unfold mkCH; rw [hNt]
    have e3 : mkRV c = fun j : Nat => rateV c j := rfl
    rw [e1, e2, e3]
    clear e1 e2 e3 hNt
    obtain ⟨i, h, o, seed, batch, steps, crate, decay, how, keep, clip⟩ := c
    dsimp only at i1 i2 h1 h2 o1 o2 b1 b2 hs hm
    obtain ⟨I, rfl⟩ := Int.eq_ofNat_of_zero_le (show 0 ≤ i by omega)
    obtain ⟨H, rfl⟩ := Int.eq_ofNat_of_zero_le (show 0 ≤ h by omega)
    obtain ⟨O, rfl⟩ := Int.eq_ofNat_of_zero_le (show 0 ≤ o by omega)
    obtain ⟨B, rfl⟩ := Int.eq_ofNat_of_zero_le (show 0 ≤ batch by omega)
    have hN : N = H * I + H + O * H + O := by have := hNz.symm; unfold sizeN at this; dsimp only at this; exact_mod_cast this
    refine (jrecords_calls I H O B seed crate decay how keep clip hs steps hc N hN a n cap X DI DO M q HX hn1 hn2 hex hm).mono ?_
    rintro e w' ⟨g, R, he, g1, g2, g3, g4, g5⟩
    exact ⟨g, R, he, by omega, g2, (fun j hj => by
      obtain ⟨x1, x2, bg, x3, x4, x5, x6⟩ := g3 j hj
      exact ⟨x1, x2, bg, x3, by omega, x5, x6⟩), g4, g5⟩
  generalize jrBatch c n = DB at *
  generalize mkRV c = RV at *
  generalize mkRO c n DI DO = RO at *
  generalize mkCH c n DI DO = CH at *
  have z0 : ¬ (M : Int) < 0 := by omega
  have z1 : ¬ c.steps < (M : Int) := by omega
  clear hx hex hc hs h0
  generalize hBB : c.batch.toNat = BB at *
  clear hBB
  obtain ⟨i, h, o, seed, batch, steps, crate, decay, how, keep, clip⟩ := c
  simp only [Cfg.val, Cfg.cells] at *
  obtain ⟨c0, c1, c2, c3, c4, c5, c6, c7, c8, c9, c10⟩ := KB.out _ (Below.refl _ _)
  dsimp only at c0 c1 c2 c3 c4 c5 c6 c7 c8 c9 c10
  go_enter Tryz.func27, Tryz.ntmps27
  go_wp2_with fail
  refine CK.mono ?_
  rintro e w1 ⟨rfl, hw1⟩
  clear c0 c1 c2 c3 c4 c5 c6 c7 c8 c9 c10
  obtain ⟨c0, c1, c2, c3, c4, c5, c6, c7, c8, c9, c10⟩ := KB.out _ hw1
  dsimp only at c0 c1 c2 c3 c4 c5 c6 c7 c8 c9 c10
  have T1 := hal.trans (hw1.mono hal.size)
  go_wp2_with fail
  refine (HRC.out _ T1).mono ?_
  rintro e w2 ⟨g, R, rfl, g1, g2, g3, g4, g5⟩
  have G4 : Hid (JrN M R RV RO CH) := g4
  have G3 : Hid (JrIn w2 g w.heap.size BB M R DB) := g3
  clear g4 g3
  go_wp2_with fail
  go_ret2
  exact ⟨g, R, rfl, g1, g2, G3.out, G4.out, T1.trans (g5.mono T1.size)⟩

set_option maxRecDepth 100000 in
set_option maxHeartbeats 1600000 in
theorem jMake_calls (c : Cfg) (a : Option Addr) (n cap : Nat) (X : Nat → Exm) (DI DO : Nat → List Int) (m : Int) (w : World) (hs : okW c.seed) (hx : Exs w a n cap X DI DO) :
    Calls Tryz.prog 27 #[c.val, .slice a n cap, .int .i64 m] w fun e w' => ∃ b k R, e = .returned (.tuple #[.slice b (mkN c n X DI DO m) k, .int .i64 (mkE c n X DI DO m)]) ∧ MadeR w w' c n DI DO b (mkN c n X DI DO m) k R := by
  have hal := low_alloc w (.cells c.cells 24)
  have CK := tcheck_calls c a n cap X DI DO _ (hx.below hal (Nat.le_refl _))
  have KB : Hid (∀ q, Below (w.alloc (.cells c.cells 24)).heap.size (w.alloc (.cells c.cells 24)) q → BoxC q w.heap.size c) := fun q hq => boxC hq (by simp)
  have none_ : ∀ w', Below w.heap.size w w' → MadeR w w' c n DI DO none 0 0 noRec := fun w' hb => ⟨Recs.nil _ _ _ _ _, (fun j hj => by omega), (fun j hj => by omega), (fun h => by omega), hb⟩
  by_cases h0 : courseI c n X DI DO = 0
  · obtain ⟨hc, hn1, hn2, hex⟩ := course_ok h0
    by_cases hm : 0 ≤ m ∧ m ≤ c.steps
    · have hE : mkE c n X DI DO m = 0 := by unfold mkE; rw [if_pos h0, if_pos (in_yes hm)]
      obtain ⟨M, rfl⟩ := Int.eq_ofNat_of_zero_le hm.1
      have hMN : mkN c n X DI DO (M : Int) = M := by unfold mkN; rw [if_pos hE]; rfl
      rw [hE, hMN]
      refine (jMake_good c a n cap X DI DO M w hs hx h0 hm.2).mono ?_
      rintro e w' ⟨g, R, he, g1, g2, g3, g4, g5⟩
      obtain ⟨_, _, _, ⟨b1, b2⟩, _⟩ := cfgB_is hc
      refine ⟨some ⟨g, 0, none⟩, M, R, he, recs_of g2 g3, g4, fun j hj => ?_, fun _ => ⟨g, rfl, rfl, g1, g2, g3⟩, g5⟩
      have := (g3 j hj).1
      omega
    · have hE : mkE c n X DI DO m = 1 := by
        unfold mkE
        rw [if_pos h0, if_neg (fun h => hm (in_is h))]
      have hMN : mkN c n X DI DO m = 0 := by unfold mkN; rw [hE, if_neg (by decide)]
      rw [hE, hMN]
      rw [h0] at CK
      have HNO : Hid (∀ w', Below w.heap.size w w' → MadeR w w' c n DI DO none 0 0 noRec) := none_
      obtain ⟨MR, HMR⟩ : ∃ P : World → Option Addr → Nat → (Nat → Rcm) → Prop, Hid (P = fun w' b k R => MadeR w w' c n DI DO b 0 k R) := ⟨_, rfl⟩
      have hPQ : ∀ w' b k R, MadeR w w' c n DI DO b 0 k R = MR w' b k R := fun w' b k R => by rw [HMR.out]
      simp only [hPQ] at HNO ⊢
      clear hPQ HMR none_ hE hMN hx hex hc hs h0
      obtain ⟨i, h, o, seed, batch, steps, crate, decay, how, keep, clip⟩ := c
      simp only [Cfg.val, Cfg.cells] at *
      obtain ⟨c0, c1, c2, c3, c4, c5, c6, c7, c8, c9, c10⟩ := KB.out _ (Below.refl _ _)
      dsimp only at c0 c1 c2 c3 c4 c5 c6 c7 c8 c9 c10
      by_cases hm0 : m < 0
      · go_enter Tryz.func27, Tryz.ntmps27
        go_wp2_with fail
        refine CK.mono ?_
        rintro e w1 ⟨rfl, hw1⟩
        have T1 := hal.trans (hw1.mono hal.size)
        go_wp2_with fail
        go_ret2
        exact ⟨none, 0, noRec, rfl, HNO.out _ T1⟩
      · have hm1 : steps < m := by omega
        go_enter Tryz.func27, Tryz.ntmps27
        go_wp2_with fail
        refine CK.mono ?_
        rintro e w1 ⟨rfl, hw1⟩
        clear c0 c1 c2 c3 c4 c5 c6 c7 c8 c9 c10
        obtain ⟨c0, c1, c2, c3, c4, c5, c6, c7, c8, c9, c10⟩ := KB.out _ hw1
        dsimp only at c0 c1 c2 c3 c4 c5 c6 c7 c8 c9 c10
        have T1 := hal.trans (hw1.mono hal.size)
        go_wp2_with fail
        go_ret2
        exact ⟨none, 0, noRec, rfl, HNO.out _ T1⟩
  · have hE : mkE c n X DI DO m = courseI c n X DI DO := if_neg h0
    have hMN : mkN c n X DI DO m = 0 := by unfold mkN; rw [hE, if_neg h0]
    have hb : (courseI c n X DI DO != 0) = true := by rw [bne_iff_ne]; exact h0
    rw [hE, hMN]
    have HNO : Hid (∀ w', Below w.heap.size w w' → MadeR w w' c n DI DO none 0 0 noRec) := none_
    obtain ⟨MR, HMR⟩ : ∃ P : World → Option Addr → Nat → (Nat → Rcm) → Prop, Hid (P = fun w' b k R => MadeR w w' c n DI DO b 0 k R) := ⟨_, rfl⟩
    have hPQ : ∀ w' b k R, MadeR w w' c n DI DO b 0 k R = MR w' b k R := fun w' b k R => by rw [HMR.out]
    simp only [hPQ] at HNO ⊢
    generalize courseI c n X DI DO = E at *
    clear hPQ HMR none_ hE hMN hx hs
    obtain ⟨i, h, o, seed, batch, steps, crate, decay, how, keep, clip⟩ := c
    simp only [Cfg.val, Cfg.cells] at *
    obtain ⟨c0, c1, c2, c3, c4, c5, c6, c7, c8, c9, c10⟩ := KB.out _ (Below.refl _ _)
    dsimp only at c0 c1 c2 c3 c4 c5 c6 c7 c8 c9 c10
    go_enter Tryz.func27, Tryz.ntmps27
    go_wp2_with fail
    refine CK.mono ?_
    rintro e w1 ⟨rfl, hw1⟩
    go_wp2_with fail
    go_ret2
    exact ⟨none, 0, noRec, rfl, HNO.out _ (hal.trans (hw1.mono hal.size))⟩
end Go.Proofs.YtnlcheebdkjpbabGreat.Fx

/- JournalSays: it returns true, whatever is handed in: the walk with package journal's contracts. -/
namespace Go.Proofs.YtnlcheebdkjpbabGreat.Fx
open Go.RowKit

theorem journalSays_any (c : Cfg) (a : Option Addr) (n cap : Nat) (X : Nat → Exm) (DI DO : Nat → List Int) (x : Exm) (ws ms : List Int) (before : Int) (r : Rcm) (bs : List Int) (m : Int) (w : World) (hs : (Lit.int .u64 c.seed).wf = true) (hx : Exs w a n cap X DI DO) (l : InEx w x ws ms) (hb : okW before) (hr : RecIn w r bs) (_ : (Lit.int .i64 m).wf = true) (hz : x.n * 8 ≤ 140737488351232 ∧ x.m * 8 ≤ 140737488351232) :
    Calls Tryz.prog 4 #[c.val, .slice a n cap, x.val, .int .u64 before, r.val, .int .i64 m] w fun e w' => e = .returned (.bool true) ∧ Below w.heap.size w w' := by
  refine journalSays_core c (wf_word hs) a n cap X DI DO x.a x.n x.k ws x.b x.m x.t ms before hb r bs m w hx l.i l.o hz.1 hz.2 hr ⟨fun q hq => ?_, fun q hq => ?_, fun q hq => ?_, fun q hq => ?_⟩
  · exact jroot_calls x.a x.n x.k ws x.b x.m x.t ms q (l.i.below hq (Nat.le_refl _)) (l.o.below hq (Nat.le_refl _)) (by omega)
  · exact jHead_calls c (wf_word hs) a n cap X DI DO q (hx.below hq (Nat.le_refl _))
  · exact jChain_calls before hb r bs q (hr.l.below hq (Nat.le_refl _)) hr.s.2 hr.r.2 hr.root (Nat.le_trans hr.n (by decide)) (fun j hj => (hr.bd j (by rw [hr.l.len]; exact hj)).2)
  · refine (jMake_calls c a n cap X DI DO m q (wf_word hs) (hx.below hq (Nat.le_refl _))).mono ?_
    rintro e w' ⟨b, k, R, he, h⟩
    exact ⟨b, k, R, he, h.recs, h.says, h.len8, h.bel⟩
end Go.Proofs.YtnlcheebdkjpbabGreat.Fx

/- JournalSays returns true, whatever config, examples, state, word, record and number are handed in: package journal answers what the document says; no condition. -/
namespace Go.Proofs.YtnlcheebdkjpbabGreat.journalSays
open Go.ChangeShapes Go.WideShapes Go.ChangeAt Go.RowKit
set_option linter.unusedVariables false

set_option maxRecDepth 100000 in
theorem lifted (os : Os) (started : os.Started) (H : Type) (enc : TypeId × Value → H) :
    ReturnsInHanded {} Tryz.checked os 4 .any (Rows.journalSaysSpec.pre6 enc Tryz.prog Tryz.f4 Rows.journalSaysRow.domain false) (Rows.journalSaysSpec.post enc Tryz.prog Tryz.f4 false true false false) := by
  refine returnsInHanded_of_change_sized (C := Tryz.checked) Fx.own started (by kernel_rfl) Tryz.func4
    (ChangeSpec.witness6 (enc := enc) (C := Tryz.checked) false ⟨#[], #[.agg #[.int .i64 0, .int .i64 0, .int .i64 0, .int .u64 0, .int .i64 0, .int .i64 0, .int .i64 0, .int .i64 0, .int .i64 0, .int .i64 0, .int .i64 0], .slice none 0 0, .agg #[.slice none 0 0, .slice none 0 0], .int .u64 0, .agg #[.int .i64 0, .slice none 0 0, .int .i64 0, .int .u64 0, .int .u64 0], .int .i64 0], []⟩ 8 (by kernel_rfl) (by kernel_rfl) (by kernel_rfl) (by kernel_rfl)) ?_
  intro W base args ds gs before hval0 hW hcnd hsz0 _
  have hval : ∀ (j : Nat) t v, Tryz.f4.params[j]? = some t → args[j]? = some v → Value.okWide Tryz.prog W .any base t v := hval0
  have hW' := hW
  obtain ⟨p, q, hA0, hV, rfl, hfz, hnd⟩ := hW
  have hA : DataW.TrodAll enc Tryz.prog W 0 (fun _ => true) true Tryz.f4.params.toList args.toList ds p := hA0
  have hsz : (DataW.weightsEach Tryz.prog (Tryz.f4.params.toList ++ Rows.journalSaysSpec.plain.varTypes Tryz.prog) (ds ++ gs)).all (· ≤ reachBytes) = true := hsz0
  rw [Tryz.params4] at hA hval hsz
  obtain ⟨v0, vs0, d0, ds0, p0, q0, hargs, rfl, rfl, h0, r0⟩ := trodAll_cons hA
  obtain ⟨v1, vs1, d1, ds1, p1, q1, rfl, rfl, rfl, h1, r1⟩ := trodAll_cons r0
  obtain ⟨v2, vs2, d2, ds2, p2, q2, rfl, rfl, rfl, h2, r2⟩ := trodAll_cons r1
  obtain ⟨v3, vs3, d3, ds3, p3, q3, rfl, rfl, rfl, h3, r3⟩ := trodAll_cons r2
  obtain ⟨v4, vs4, d4, ds4, p4, q4, rfl, rfl, rfl, h4, r4⟩ := trodAll_cons r3
  obtain ⟨v5, vs5, d5, ds5, p5, q5, rfl, rfl, rfl, h5, r5⟩ := trodAll_cons r4
  obtain ⟨rfl, rfl, rfl⟩ := trodAll_nil r5
  obtain rfl : args = #[v0, v1, v2, v3, v4, v5] := by cases args; simp_all
  obtain ⟨rfl, rfl⟩ := trodVars_none hV
  have k0 := h0
  have lt0 : ∀ x ∈ p0, x.block < W.heap.size := by obtain ⟨m, hm⟩ := k0; exact DataW.trod_lt m _ _ _ hm
  obtain ⟨C0, rfl, w0⟩ := Fx.openCfg (hval 0 24 v0 rfl rfl) h0
  have k1 := h1
  have lt1 : ∀ x ∈ p1, x.block < W.heap.size := by obtain ⟨m, hm⟩ := k1; exact DataW.trod_lt m _ _ _ hm
  obtain ⟨a1, len1, cap1, X1, DI1, DO1, rfl, w1⟩ := Fx.openExs (hval 1 25 v1 rfl rfl) h1
  have k2 := h2
  have lt2 : ∀ x ∈ p2, x.block < W.heap.size := by obtain ⟨m, hm⟩ := k2; exact DataW.trod_lt m _ _ _ hm
  obtain ⟨E2, I2, O2, rfl, w2, hd2⟩ := Fx.openStateD (hval 2 28 v2 rfl rfl) h2
  have sz2 := Fx.sizedState hsz (j := 2) rfl rfl hd2
  obtain ⟨a3, rfl, rfl, rfl, w3⟩ := open_int Tryz.underlying22 (hval 3 22 v3 rfl rfl) h3
  have k4 := h4
  have lt4 : ∀ x ∈ p4, x.block < W.heap.size := by obtain ⟨m, hm⟩ := k4; exact DataW.trod_lt m _ _ _ hm
  obtain ⟨E4, I4, rfl, w4⟩ := Fx.openRec (hval 4 33 v4 rfl rfl) h4
  obtain ⟨a5, rfl, rfl, rfl, w5⟩ := open_int Tryz.underlying3 (hval 5 3 v5 rfl rfl) h5
  clear hA0 hval0
  refine (Fx.journalSays_any C0 a1 len1 cap1 X1 DI1 DO1 E2 I2 O2 a3 E4 I4 a5 W w0 w1 w2 (Fx.wf_word w3) w4 w5 sz2).mono fun e W' ⟨he, bel⟩ => ?_
  subst he
  exact ⟨_, rfl, _, _, _, [], _, [], hW', trodAll_mk1 (shut_bool Tryz.underlying4 _), (trodAll_cons_mk (Below.trod Fx.laidOut (by kernel_rfl) (of_decide_eq_true (by kernel_rfl)) k0 bel lt0) (trodAll_cons_mk (Below.trod Fx.laidOut (by kernel_rfl) (of_decide_eq_true (by kernel_rfl)) k1 bel lt1) (trodAll_cons_mk (Below.trod Fx.laidOut (by kernel_rfl) (of_decide_eq_true (by kernel_rfl)) k2 bel lt2) (trodAll_cons_mk (shut_int Tryz.underlying22 w3) (trodAll_cons_mk (Below.trod Fx.laidOut (by kernel_rfl) (of_decide_eq_true (by kernel_rfl)) k4 bel lt4) (trodAll_cons_mk (shut_int Tryz.underlying3 w5) trodAll_mk0)))))), rfl, bel.frame _, fun h => by cases h⟩

theorem over : Rows.journalSaysRow.holds Tryz.pinned (OpenSpec.ofChange Rows.journalSaysSpec) :=
  OpenClaim.holds_of_wide 4 Tryz.f4 rfl rfl rfl rfl rfl rfl rfl ⟨rfl, rfl, rfl, rfl, rfl⟩ rfl rfl rfl rfl rfl (by kernel_rfl) Tryz.func4 (by kernel_rfl)
    (of_decide_eq_true (by kernel_rfl)) (by unfold Func.isWrapper; first | (rw [if_pos (by decide +kernel)]; kernel_rfl) | (rw [if_neg (by decide +kernel)]; exact ⟨rfl, rfl⟩))
    (fun os started H enc _ => lifted os started H enc)
end Go.Proofs.YtnlcheebdkjpbabGreat.journalSays

namespace Go.Proofs.YtnlcheebdkjpbabGreat
theorem journalSays_holds : Rows.JournalSaysSaid := journalSays.over
end Go.Proofs.YtnlcheebdkjpbabGreat
