/- Lists of records that say the same are the same; no function of package journal is spoken of. -/
import Derived.Test.YtnlcheebdkjpbabGreatJ32
import Derived.Test.YtnlcheebdkjpbabGreatJ11
import Derived.Test.YtnlcheebdkjpbabGreatJ29
import Derived.Test.YtnlcheebdkjpbabGreatJ20
import Derived.Test.YtnlcheebdkjpbabGreatJ13
import Derived.Deep.DeepCutAuto
import Derived.Deep.CutBlock
import Derived.Deep.RegionHeld3
namespace Go.Proofs.YtnlcheebdkjpbabGreat.Fx
open Go.RowKit

theorem recs_same {k : Nat} {R R2 : Nat → Rcm} {D : Nat → List Int} {RV RO CH : Nat → Int} (h : JrN k R RV RO CH) (h2 : JrN k R2 RV RO CH) : recsB k k R R2 D D = true := by
  unfold recsB
  rw [decide_eq_true rfl, Bool.true_and, List.all_eq_true]
  intro j hj
  rw [List.mem_range] at hj
  obtain ⟨e1, e2, e3, e4⟩ := h j hj
  obtain ⟨f1, f2, f3, f4⟩ := h2 j hj
  unfold recB likeB
  rw [e1, e2, e3, e4, f1, f2, f3, f4]
  simp
theorem JrN.take {k m : Nat} {R : Nat → Rcm} {RV RO CH : Nat → Int} (h : JrN k R RV RO CH) (hm : m ≤ k) : JrN m R RV RO CH := fun j hj => h j (by omega)
theorem Recs.take {w : World} {a : Option Addr} {n c m : Nat} {R : Nat → Rcm} {D : Nat → List Int} (h : Recs w a n c R D) (hm : m ≤ n) : Recs w a m c R D := by
  refine ⟨Nat.le_trans hm h.1, ?_⟩
  rcases h.2 with h0 | ⟨b, off, e, hs, hc⟩
  · exact .inl (by omega)
  · exact .inr ⟨b, off, e, hs, fun i hi => hc i (by omega)⟩
end Go.Proofs.YtnlcheebdkjpbabGreat.Fx

/- What package journal's functions answer, in plain numbers, for every input; and how a config, a state and a record that a law is handed lie in memory. No function of package journal is spoken of. -/
namespace Go.Proofs.YtnlcheebdkjpbabGreat.Fx
open Go.RowKit

/-- A config, a state and a record, laid one behind the other, in whatever world that left them. -/
structure JrBox (w : World) (c : Cfg) (v0 v1 : Value) (x : Rcm) (q : World) : Prop where
  lb : LawBox w c v0 v1 q
  rc : q.rowIs (w.heap.size + 1 + 1) 33 5 (fn5 (.int .i64 x.s) (.slice x.a x.n x.k) (.int .i64 x.r) (.int .u64 x.root) (.int .u64 x.chain))
theorem JrBox.start (w : World) (c : Cfg) (v0 v1 : Value) (x : Rcm) : JrBox w c v0 v1 x (((w.alloc (.cells c.cells 24)).alloc (.cells #[v0, v1] 28)).alloc (.cells x.cells 33)) := by
  refine ⟨(LawBox.start w c v0 v1).below (low_alloc _ _), ?_⟩
  have h := fn5_alloc ((w.alloc (.cells c.cells 24)).alloc (.cells #[v0, v1] 28)) (.int .i64 x.s) (.slice x.a x.n x.k) (.int .i64 x.r) (.int .u64 x.root) (.int .u64 x.chain) 33
  simpa [Rcm.cells] using h
theorem JrBox.below {w : World} {c : Cfg} {v0 v1 : Value} {x : Rcm} {q q2 : World} (h : JrBox w c v0 v1 x q) (hb : Below q.heap.size q q2) : JrBox w c v0 v1 x q2 := ⟨h.lb.below hb, h.rc.of_block (hb.block _ h.rc.lt)⟩
end Go.Proofs.YtnlcheebdkjpbabGreat.Fx

/- The walk of JournalSays: it returns true, whatever config, examples, state, word, record and number are handed in, and nothing that was there is written; the contracts of package journal's four functions are handed in. -/
namespace Go.Proofs.YtnlcheebdkjpbabGreat.Fx
open Go.RowKit

/-- What journal.Root, Head, Chain and Make are to answer, wherever what stood at the start still stands. -/
structure JrSays (w : World) (c : Cfg) (a : Option Addr) (n cap : Nat) (X : Nat → Exm) (DI DO : Nat → List Int) (a1 : Option Addr) (n1 k1 : Nat) (ws : List Int) (a2 : Option Addr) (n2 k2 : Nat) (ms : List Int) (before : Int) (x : Rcm) (bs : List Int) (m : Int) : Prop where
  root : ∀ q, Below w.heap.size w q → Calls Tryz.prog 24 #[.agg #[.slice a1 n1 k1, .slice a2 n2 k2]] q fun e w' => e = .returned (.tuple #[.int .u64 (rootV n1 ws n2 ms), .int .i64 (rootE n1 n2)]) ∧ Below q.heap.size q w'
  head : ∀ q, Below w.heap.size w q → Calls Tryz.prog 25 #[c.val, .slice a n cap] q fun e w' => e = .returned (.tuple #[.int .u64 (headV c n X DI DO), .int .i64 (courseI c n X DI DO)]) ∧ Below q.heap.size q w'
  chain : ∀ q, Below w.heap.size w q → Calls Tryz.prog 26 #[.int .u64 before, x.val] q fun e w' => e = .returned (.tuple #[.int .u64 (chV before x.s x.r x.root x.n bs), .int .i64 (chE x.s x.r x.n bs)]) ∧ Below q.heap.size q w'
  make : ∀ q, Below w.heap.size w q → Calls Tryz.prog 27 #[c.val, .slice a n cap, .int .i64 m] q fun e w' => ∃ b k R, e = .returned (.tuple #[.slice b (mkN c n X DI DO m) k, .int .i64 (mkE c n X DI DO m)]) ∧ Recs w' b (mkN c n X DI DO m) k R (jrBatch c n) ∧ JrN (mkN c n X DI DO m) R (mkRV c) (mkRO c n DI DO) (mkCH c n DI DO) ∧ (∀ j, j < mkN c n X DI DO m → (R j).n ≤ 8) ∧ Below q.heap.size q w'

set_option maxRecDepth 100000 in
set_option maxHeartbeats 6400000 in
theorem journalSays_core (c : Cfg) (hs : okW c.seed) (a : Option Addr) (n cap : Nat) (X : Nat → Exm) (DI DO : Nat → List Int) (a1 : Option Addr) (n1 k1 : Nat) (ws : List Int) (a2 : Option Addr) (n2 k2 : Nat) (ms : List Int) (before : Int) (hbf : okW before) (x : Rcm) (bs : List Int) (m : Int) (w : World)
    (hx : Exs w a n cap X DI DO) (l1 : Lst w a1 n1 k1 ws) (l2 : Lst w a2 n2 k2 ms) (hz1 : n1 * 8 ≤ 140737488351232) (hz2 : n2 * 8 ≤ 140737488351232) (hr : RecIn w x bs)
    (HP : JrSays w c a n cap X DI DO a1 n1 k1 ws a2 n2 k2 ms before x bs m) :
    Calls Tryz.prog 4 #[c.val, .slice a n cap, .agg #[.slice a1 n1 k1, .slice a2 n2 k2], .int .u64 before, x.val, .int .i64 m] w fun e w' => e = .returned (.bool true) ∧ Below w.heap.size w w' := by
  have lb0 := JrBox.start w c (.slice a1 n1 k1) (.slice a2 n2 k2) x
  have HRK : Hid (∀ q, Below w.heap.size w q → Calls Tryz.prog 6 #[c.val, .slice a n cap] q fun e w' => e = .returned (.int .i64 (courseI c n X DI DO)) ∧ Below q.heap.size q w') := fun q hq => rcourse_calls c a n cap X DI DO q (hx.below hq (Nat.le_refl _))
  have HRH : Hid (courseI c n X DI DO = 0 → ∀ q, Below w.heap.size w q → Calls Tryz.prog 19 #[c.val, .slice a n cap] q fun e w' => e = .returned (.int .u64 (headV c n X DI DO)) ∧ Below q.heap.size q w') := fun hF q hq => by
    obtain ⟨hc, hn1, hn2, hex⟩ := course_is hF
    have hzz := sizeN_bd hc
    unfold headV
    rw [if_pos hF]
    exact rhead_calls c hc hs (sizeN c).toNat (by omega) a n cap X DI DO q (hx.below hq (Nat.le_refl _)) hn2 hex
  have HRJ : Hid (courseI c n X DI DO = 0 → inB m 0 c.steps = true → ∀ q, Below w.heap.size w q → Calls Tryz.prog 20 #[c.val, .slice a n cap, .int .i64 m] q fun e w' => ∃ b k R, e = .returned (.slice b (mkN c n X DI DO m) k) ∧ Recs w' b (mkN c n X DI DO m) k R (jrBatch c n) ∧ JrN (mkN c n X DI DO m) R (mkRV c) (mkRO c n DI DO) (mkCH c n DI DO) ∧ Below q.heap.size q w') := fun hF hm q hq => by
    obtain ⟨hc, hn1, hn2, hex⟩ := course_is hF
    have hz : mkE c n X DI DO m = 0 := by unfold mkE; rw [if_pos hF, if_pos hm]
    have hlow := in_is hm
    obtain ⟨M, hM⟩ := Int.eq_ofNat_of_zero_le hlow.1
    have hRN : mkN c n X DI DO m = M := by unfold mkN; rw [if_pos hz, hM]; rfl
    rw [hRN]
    obtain ⟨⟨i1, i2⟩, ⟨h1, h2⟩, ⟨o1, o2⟩, ⟨b1, b2⟩, _⟩ := cfgB_is hc
    have hzn := sizeN_bd hc
    obtain ⟨N, hNz⟩ := Int.eq_ofNat_of_zero_le (show 0 ≤ sizeN c by omega)
    have hNt : (sizeN c).toNat = N := by rw [hNz]; rfl
    have HX := hx.below hq (Nat.le_refl _)
    have e1 : mkRO c n DI DO = jrRoot c n DI DO N := by unfold mkRO; rw [hNt]
    have e2 : mkCH c n DI DO = jrChain c n DI DO N := by unfold mkCH; rw [hNt]
    have e3 : mkRV c = fun j : Nat => rateV c j := rfl
    rw [e1, e2, e3]
    clear HP hRN hz hm lb0 HRK HRH e1 e2 e3
    subst hM
    obtain ⟨i, h, o, seed, batch, steps, crate, decay, how, keep, clip⟩ := c
    dsimp only at i1 i2 h1 h2 o1 o2 b1 b2 hs hlow
    obtain ⟨I, rfl⟩ := Int.eq_ofNat_of_zero_le (show 0 ≤ i by omega)
    obtain ⟨H, rfl⟩ := Int.eq_ofNat_of_zero_le (show 0 ≤ h by omega)
    obtain ⟨O, rfl⟩ := Int.eq_ofNat_of_zero_le (show 0 ≤ o by omega)
    obtain ⟨B, rfl⟩ := Int.eq_ofNat_of_zero_le (show 0 ≤ batch by omega)
    have hN : N = H * I + H + O * H + O := by have := hNz.symm; unfold sizeN at this; dsimp only at this; exact_mod_cast this
    refine (rjournal_calls I H O B seed crate decay how keep clip hs steps hc N hN a n cap X DI DO M q HX hn1 hn2 hex (by omega)).mono ?_
    rintro e w' ⟨b, k, R, he, hrc, hjn, _, hbb⟩
    exact ⟨b, k, R, he, hrc, hjn, hbb⟩
  have HRR : Hid (1 ≤ n1 + n2 → n1 + n2 ≤ 200 → ∀ q, Below w.heap.size w q → Calls Tryz.prog 21 #[.agg #[.slice a1 n1 k1, .slice a2 n2 k2]] q fun e w' => e = .returned (.int .u64 (rootV n1 ws n2 ms)) ∧ Below q.heap.size q w') := fun g1 g2 q hq => by
    have hE : rootE n1 n2 = 0 := by unfold rootE; rw [if_neg (by omega), if_neg (by omega)]
    unfold rootV
    rw [if_pos hE]
    exact rroot_any a1 n1 k1 ws a2 n2 k2 ms q (l1.below hq (Nat.le_refl _)) (l2.below hq (Nat.le_refl _)) g1 g2
  have HRD : Hid (∀ q, Below w.heap.size w q → Calls Tryz.prog 22 #[x.val] q fun e w' => e = .returned (.bool (chB x.s x.r x.n bs)) ∧ Below q.heap.size q w') := fun q hq => rchained_calls x bs q (hr.l.below hq (Nat.le_refl _)) (Nat.le_trans hr.n (by decide))
  have HRC : Hid (chB x.s x.r x.n bs = true → ∀ q, Below w.heap.size w q → Calls Tryz.prog 23 #[.int .u64 before, x.val] q fun e w' => e = .returned (.int .u64 (chV before x.s x.r x.root x.n bs)) ∧ Below q.heap.size q w') := fun hb q hq => by
    unfold chV
    rw [if_pos hb]
    unfold chB at hb
    simp only [Bool.and_eq_true, decide_eq_true_eq] at hb
    obtain ⟨⟨⟨g1, g2⟩, g3⟩, g4⟩ := hb
    exact rchain_calls before hbf x bs q (hr.l.below hq (Nat.le_refl _)) ⟨g1, hr.s.2⟩ ⟨g2, hr.r.2⟩ hr.root g3 (fun j hj => ⟨nonB_get g4 j, (hr.bd j (by rw [hr.l.len]; exact hj)).2⟩)
  have HPR : Hid (∀ q, Below w.heap.size w q → Calls Tryz.prog 24 #[.agg #[.slice a1 n1 k1, .slice a2 n2 k2]] q fun e w' => e = .returned (.tuple #[.int .u64 (rootV n1 ws n2 ms), .int .i64 (rootE n1 n2)]) ∧ Below q.heap.size q w') := HP.root
  have HPH : Hid (∀ q, Below w.heap.size w q → Calls Tryz.prog 25 #[c.val, .slice a n cap] q fun e w' => e = .returned (.tuple #[.int .u64 (headV c n X DI DO), .int .i64 (courseI c n X DI DO)]) ∧ Below q.heap.size q w') := HP.head
  have HPC : Hid (∀ q, Below w.heap.size w q → Calls Tryz.prog 26 #[.int .u64 before, x.val] q fun e w' => e = .returned (.tuple #[.int .u64 (chV before x.s x.r x.root x.n bs), .int .i64 (chE x.s x.r x.n bs)]) ∧ Below q.heap.size q w') := HP.chain
  have HPM : Hid (∀ q, Below w.heap.size w q → Calls Tryz.prog 27 #[c.val, .slice a n cap, .int .i64 m] q fun e w' => ∃ b k R, e = .returned (.tuple #[.slice b (mkN c n X DI DO m) k, .int .i64 (mkE c n X DI DO m)]) ∧ Recs w' b (mkN c n X DI DO m) k R (jrBatch c n) ∧ JrN (mkN c n X DI DO m) R (mkRV c) (mkRO c n DI DO) (mkCH c n DI DO) ∧ (∀ j, j < mkN c n X DI DO m → (R j).n ≤ 8) ∧ Below q.heap.size q w') := HP.make
  -- what each way comes to
  have HJ0 : Hid (courseI c n X DI DO ≠ 0 → mkE c n X DI DO m = courseI c n X DI DO ∧ headV c n X DI DO = 0 ∧ mkN c n X DI DO m = 0) := fun g => by
    have e1 : mkE c n X DI DO m = courseI c n X DI DO := by unfold mkE; rw [if_neg g]
    exact ⟨e1, by unfold headV; rw [if_neg g], by unfold mkN; rw [e1, if_neg g]⟩
  have HJ1 : Hid (courseI c n X DI DO = 0 → inB m 0 c.steps = false → mkE c n X DI DO m = 1 ∧ mkN c n X DI DO m = 0) := fun g hi => by
    have e1 : mkE c n X DI DO m = 1 := by unfold mkE; rw [if_pos g, hi]; rfl
    exact ⟨e1, by unfold mkN; rw [e1]; rfl⟩
  have HJ2 : Hid (courseI c n X DI DO = 0 → inB m 0 c.steps = true → mkE c n X DI DO m = 0) := fun g hi => by unfold mkE; rw [if_pos g, hi]; rfl
  have HG0 : Hid (n1 + n2 = 0 → rootE n1 n2 = 1 ∧ rootV n1 ws n2 ms = 0) := fun g => by
    have e1 : rootE n1 n2 = 1 := by unfold rootE; rw [if_pos g]
    exact ⟨e1, by unfold rootV; rw [e1]; rfl⟩
  have HG1 : Hid (200 < n1 + n2 → rootE n1 n2 = 2 ∧ rootV n1 ws n2 ms = 0) := fun g => by
    have e1 : rootE n1 n2 = 2 := by unfold rootE; rw [if_neg (by omega), if_pos g]
    exact ⟨e1, by unfold rootV; rw [e1]; rfl⟩
  have HG2 : Hid (1 ≤ n1 + n2 → n1 + n2 ≤ 200 → rootE n1 n2 = 0) := fun g1 g2 => by unfold rootE; rw [if_neg (by omega), if_neg (by omega)]
  have HK0 : Hid (chB x.s x.r x.n bs = false → chE x.s x.r x.n bs = 5 ∧ chV before x.s x.r x.root x.n bs = 0) := fun g => by
    exact ⟨by unfold chE; rw [g]; rfl, by unfold chV; rw [g]; rfl⟩
  have HK1 : Hid (chB x.s x.r x.n bs = true → chE x.s x.r x.n bs = 0) := fun g => by unfold chE; rw [g]; rfl
  have HN40 : mkN c n X DI DO m ≤ 1000000000000000 := by
    unfold mkN
    by_cases h : mkE c n X DI DO m = 0
    · rw [if_pos h]
      unfold mkE at h
      by_cases g : courseI c n X DI DO = 0
      · obtain ⟨hc, _⟩ := course_is g
        obtain ⟨_, _, _, _, ⟨s1, s2⟩, _⟩ := cfgB_is hc
        rw [if_pos g] at h
        cases e : inB m 0 c.steps with
        | true => have := in_is e; omega
        | false => rw [e] at h; cases h
      · rw [if_neg g] at h; exact absurd h g
    · rw [if_neg h]; omega
  clear l1 l2 hx hs hbf hr HP
  generalize mkE c n X DI DO m = JE at *
  generalize mkN c n X DI DO m = RN at *
  generalize mkRV c = RV at *
  generalize mkRO c n DI DO = RO at *
  generalize mkCH c n DI DO = CH at *
  generalize jrBatch c n = DB at *
  generalize headV c n X DI DO = HD at *
  generalize courseI c n X DI DO = F at *
  generalize rootV n1 ws n2 ms = RT at *
  generalize rootE n1 n2 = G at *
  generalize chV before x.s x.r x.root x.n bs = CV at *
  generalize chE x.s x.r x.n bs = CE at *
  generalize chB x.s x.r x.n bs = CB at *
  obtain ⟨IM, HIM⟩ : ∃ b, Hid (inB m 0 c.steps = b) := ⟨_, rfl⟩
  rw [HIM.out] at HRJ HJ1 HJ2
  obtain ⟨W0, HW0⟩ : ∃ q, Hid (q = (((w.alloc (.cells c.cells 24)).alloc (.cells #[.slice a1 n1 k1, .slice a2 n2 k2] 28)).alloc (.cells x.cells 33))) := ⟨_, rfl⟩
  have lb : JrBox w c (.slice a1 n1 k1) (.slice a2 n2 k2) x W0 := by rw [HW0.out]; exact lb0
  clear lb0
  obtain ⟨i, h, o, seed, batch, steps, crate, decay, how, keep, clip⟩ := c
  obtain ⟨xs, xa, xn, xk, xr, xroot, xchain⟩ := x
  simp only [Cfg.val, Cfg.cells, Rcm.val, Rcm.cells] at *
  go_enter Tryz.func4, Tryz.ntmps4
  go_wp2_with fail
  rw [← HW0.out]
  refine (HRK.out _ lb.lb.bel).mono ?_
  rintro e w1 ⟨rfl, hw1⟩
  replace lb := lb.below hw1
  clear hw1 HRK HW0
  go_upto_if 35 with fail
  go_cut [14, 15, 18] (fun f hd l q => f = .int .i64 JE ∧ hd = .int .u64 HD ∧ ∃ b k R, l = .slice b RN k ∧ Recs q b RN k R DB ∧ JrN RN R RV RO CH ∧ Below w1.heap.size w1 q)
  case first =>
    clear HPR HPH HPC HPM HG0 HG1 HG2 HK0 HK1 HRR HRD HRC
    by_cases hF : F = 0
    · subst hF
      have ⟨⟨⟨c0, c1, c2, c3, c4, c5, c6, c7, c8, c9, c10⟩, hsr, hb0⟩, hrr⟩ := lb
      dsimp only at c0 c1 c2 c3 c4 c5 c6 c7 c8 c9 c10
      obtain ⟨s0, s1⟩ := fn2_cells hsr
      obtain ⟨r0, r1, r2, r3, r4⟩ := fn5_box hrr
      clear hsr hrr hb0
      go_wp2_with fail
      refine (HRH.out (by trivial) _ lb.lb.bel).mono ?_
      rintro e u1 ⟨rfl, hu1⟩
      replace lb := lb.below hu1
      clear c0 c1 c2 c3 c4 c5 c6 c7 c8 c9 c10 s0 s1 r0 r1 r2 r3 r4
      have ⟨⟨⟨c0, c1, c2, c3, c4, c5, c6, c7, c8, c9, c10⟩, hsr, hb0⟩, hrr⟩ := lb
      dsimp only at c0 c1 c2 c3 c4 c5 c6 c7 c8 c9 c10
      obtain ⟨s0, s1⟩ := fn2_cells hsr
      obtain ⟨r0, r1, r2, r3, r4⟩ := fn5_box hrr
      clear hsr hrr hb0
      clear HJ0 HRH
      cases IM with
      | false =>
        obtain ⟨hE, hR⟩ := HJ1.out (by trivial) (by trivial)
        subst hE hR
        clear HJ1 HJ2 HRJ
        go_wp2_with (go_at_call 9; refine (rin_calls _ _ _ _).mono ?_; rintro e w' ⟨rfl, hw'⟩; replace hw' := hw'.symm; subst hw'; rw [HIM.out])
        go_meet
        case rel => exact ⟨rfl, rfl, none, 0, noRec, rfl, Recs.nil _ _ _ _ _, fun j hj => by omega, hu1⟩
      | true =>
        have hE := HJ2.out (by trivial) (by trivial)
        subst hE
        have RJ := HRJ.out (by trivial) (by trivial) _ lb.lb.bel
        clear HJ1 HJ2 HRJ
        go_wp2_with (go_at_call 9; refine (rin_calls _ _ _ _).mono ?_; rintro e w' ⟨rfl, hw'⟩; replace hw' := hw'.symm; subst hw'; rw [HIM.out])
        refine RJ.mono ?_
        rintro e u2 ⟨b, k, R, rfl, hrc, hjn, hu2⟩
        go_wp2_with fail
        go_meet
        case rel => exact ⟨rfl, rfl, b, k, R, rfl, hrc, hjn, hu1.trans (hu2.mono hu1.size)⟩
    · obtain ⟨hE, hH, hR⟩ := HJ0.out hF
      have hFb : (F == 0) = false := by rw [beq_eq_false_iff_ne]; exact hF
      subst hE hH hR
      clear HJ0 HJ1 HJ2 HRH HRJ
      go_wp2_with fail
      go_meet
      case rel => exact ⟨rfl, rfl, none, 0, noRec, rfl, Recs.nil _ _ _ _ _, fun j hj => by omega, Below.refl _ _⟩
  case rest =>
    obtain ⟨rfl, rfl, b, k, R, rfl, hrc, hjn, hq1⟩ := hcut
    generalize hwc : wc = q1 at *
    clear hwc HJ0 HJ1 HJ2 HRH HRJ HIM
    replace lb := lb.below hq1
    clear hq1
    have ⟨⟨⟨c0, c1, c2, c3, c4, c5, c6, c7, c8, c9, c10⟩, hsr, hb0⟩, hrr⟩ := lb
    dsimp only at c0 c1 c2 c3 c4 c5 c6 c7 c8 c9 c10
    obtain ⟨s0, s1⟩ := fn2_cells hsr
    obtain ⟨r0, r1, r2, r3, r4⟩ := fn5_box hrr
    clear hsr hrr hb0
    have hwr : IntKind.i64.wrap ((n1 : Int) + (n2 : Int)) = (n1 : Int) + (n2 : Int) := wrap_in _ (by omega) (by omega)
    go_upto_block 0 with fail
    go_cut [16, 19] (fun r g q => r = .int .u64 RT ∧ g = .int .i64 G ∧ Below q1.heap.size q1 q)
    case first =>
      clear HPR HPH HPC HPM HK0 HK1 HRD HRC hwr hrc hjn
      by_cases hk0 : n1 + n2 = 0
      · obtain ⟨hG, hR⟩ := HG0.out hk0
        have t0 : ((n1 : Int) + (n2 : Int) == 0) = true := by rw [beq_iff_eq]; omega
        subst hG hR
        clear HG0 HG1 HG2 HRR
        go_wp2_with fail
        go_meet
        case rel => exact ⟨rfl, rfl, Below.refl _ _⟩
      · have t0 : ((n1 : Int) + (n2 : Int) == 0) = false := by rw [beq_eq_false_iff_ne]; omega
        by_cases hk1 : 200 < n1 + n2
        · obtain ⟨hG, hR⟩ := HG1.out hk1
          have t1 : decide ((200 : Int) < (n1 : Int) + (n2 : Int)) = true := decide_eq_true (by omega)
          subst hG hR
          clear HG0 HG1 HG2 HRR
          go_wp2_with fail
          go_meet
          case rel => exact ⟨rfl, rfl, Below.refl _ _⟩
        · have hG := HG2.out (by omega) (by omega)
          have t1 : decide ((200 : Int) < (n1 : Int) + (n2 : Int)) = false := decide_eq_false (by omega)
          have RR := HRR.out (by omega) (by omega) _ lb.lb.bel
          subst hG
          clear HG0 HG1 HG2 HRR
          go_wp2_with fail
          refine RR.mono ?_
          rintro e u1 ⟨rfl, hu1⟩
          go_wp2_with fail
          go_meet
          case rel => exact ⟨rfl, rfl, hu1⟩
    case rest =>
      obtain ⟨rfl, rfl, hq2⟩ := hcut
      generalize hwc : wc = q2 at *
      clear hwc HG0 HG1 HG2 HRR hwr hz1 hz2
      replace lb := lb.below hq2
      replace hrc := hrc.below hq2 (Nat.le_refl _)
      clear hq2
      clear c0 c1 c2 c3 c4 c5 c6 c7 c8 c9 c10 s0 s1 r0 r1 r2 r3 r4
      have ⟨⟨⟨c0, c1, c2, c3, c4, c5, c6, c7, c8, c9, c10⟩, hsr, hb0⟩, hrr⟩ := lb
      dsimp only at c0 c1 c2 c3 c4 c5 c6 c7 c8 c9 c10
      obtain ⟨s0, s1⟩ := fn2_cells hsr
      obtain ⟨r0, r1, r2, r3, r4⟩ := fn5_box hrr
      clear hsr hrr hb0
      go_wp2_with fail
      refine (HRD.out _ lb.lb.bel).mono ?_
      rintro e q3 ⟨rfl, hq3⟩
      replace lb := lb.below hq3
      replace hrc := hrc.below hq3 (Nat.le_refl _)
      clear hq3 HRD
      clear c0 c1 c2 c3 c4 c5 c6 c7 c8 c9 c10 s0 s1 r0 r1 r2 r3 r4
      have ⟨⟨⟨c0, c1, c2, c3, c4, c5, c6, c7, c8, c9, c10⟩, hsr, hb0⟩, hrr⟩ := lb
      dsimp only at c0 c1 c2 c3 c4 c5 c6 c7 c8 c9 c10
      obtain ⟨s0, s1⟩ := fn2_cells hsr
      obtain ⟨r0, r1, r2, r3, r4⟩ := fn5_box hrr
      clear hsr hrr hb0
      go_upto_if 63 with fail
      go_cut [17, 21] (fun r g q => r = .int .u64 CV ∧ g = .int .i64 CE ∧ Below q3.heap.size q3 q)
      case first =>
        clear HPR HPH HPC HPM hrc hjn
        cases CB with
        | false =>
          obtain ⟨hE, hV⟩ := HK0.out (by trivial)
          subst hE hV
          clear HK0 HK1 HRC
          go_wp2_with fail
          go_meet
          case rel => exact ⟨rfl, rfl, Below.refl _ _⟩
        | true =>
          have hE := HK1.out (by trivial)
          subst hE
          have RC := HRC.out (by trivial) _ lb.lb.bel
          clear HK0 HK1 HRC
          go_wp2_with fail
          refine RC.mono ?_
          rintro e u1 ⟨rfl, hu1⟩
          go_wp2_with fail
          go_meet
          case rel => exact ⟨rfl, rfl, hu1⟩
      case rest =>
        obtain ⟨rfl, rfl, hq4⟩ := hcut
        generalize hwc : wc = q4 at *
        clear hwc HK0 HK1 HRC
        replace lb := lb.below hq4
        replace hrc := hrc.below hq4 (Nat.le_refl _)
        clear hq4
        clear c0 c1 c2 c3 c4 c5 c6 c7 c8 c9 c10 s0 s1 r0 r1 r2 r3 r4
        have ⟨⟨⟨c0, c1, c2, c3, c4, c5, c6, c7, c8, c9, c10⟩, hsr, hb0⟩, hrr⟩ := lb
        dsimp only at c0 c1 c2 c3 c4 c5 c6 c7 c8 c9 c10
        obtain ⟨s0, s1⟩ := fn2_cells hsr
        obtain ⟨r0, r1, r2, r3, r4⟩ := fn5_box hrr
        clear hsr hrr hb0
        go_wp2_with fail
        refine (HPR.out _ lb.lb.bel).mono ?_
        rintro e q5 ⟨rfl, hq5⟩
        replace lb := lb.below hq5
        replace hrc := hrc.below hq5 (Nat.le_refl _)
        clear hq5 HPR
        clear c0 c1 c2 c3 c4 c5 c6 c7 c8 c9 c10 s0 s1 r0 r1 r2 r3 r4
        have ⟨⟨⟨c0, c1, c2, c3, c4, c5, c6, c7, c8, c9, c10⟩, hsr, hb0⟩, hrr⟩ := lb
        dsimp only at c0 c1 c2 c3 c4 c5 c6 c7 c8 c9 c10
        obtain ⟨s0, s1⟩ := fn2_cells hsr
        obtain ⟨r0, r1, r2, r3, r4⟩ := fn5_box hrr
        clear hsr hrr hb0
        go_wp2_with fail
        refine (HPH.out _ lb.lb.bel).mono ?_
        rintro e q6 ⟨rfl, hq6⟩
        replace lb := lb.below hq6
        replace hrc := hrc.below hq6 (Nat.le_refl _)
        clear hq6 HPH
        clear c0 c1 c2 c3 c4 c5 c6 c7 c8 c9 c10 s0 s1 r0 r1 r2 r3 r4
        have ⟨⟨⟨c0, c1, c2, c3, c4, c5, c6, c7, c8, c9, c10⟩, hsr, hb0⟩, hrr⟩ := lb
        dsimp only at c0 c1 c2 c3 c4 c5 c6 c7 c8 c9 c10
        obtain ⟨s0, s1⟩ := fn2_cells hsr
        obtain ⟨r0, r1, r2, r3, r4⟩ := fn5_box hrr
        clear hsr hrr hb0
        go_wp2_with fail
        refine (HPC.out _ lb.lb.bel).mono ?_
        rintro e q7 ⟨rfl, hq7⟩
        replace lb := lb.below hq7
        replace hrc := hrc.below hq7 (Nat.le_refl _)
        clear hq7 HPC
        clear c0 c1 c2 c3 c4 c5 c6 c7 c8 c9 c10 s0 s1 r0 r1 r2 r3 r4
        have ⟨⟨⟨c0, c1, c2, c3, c4, c5, c6, c7, c8, c9, c10⟩, hsr, hb0⟩, hrr⟩ := lb
        dsimp only at c0 c1 c2 c3 c4 c5 c6 c7 c8 c9 c10
        obtain ⟨s0, s1⟩ := fn2_cells hsr
        obtain ⟨r0, r1, r2, r3, r4⟩ := fn5_box hrr
        clear hsr hrr hb0
        go_wp2_with fail
        refine (HPM.out _ lb.lb.bel).mono ?_
        rintro e q8 ⟨b2, d2, R2, rfl, hrc2, hjn2, hn8, hq8⟩
        replace lb := lb.below hq8
        replace hrc := hrc.below hq8 (Nat.le_refl _)
        clear hq8 HPM
        clear c0 c1 c2 c3 c4 c5 c6 c7 c8 c9 c10 s0 s1 r0 r1 r2 r3 r4
        have T := lb.lb.bel
        clear lb
        have e1 : (RT == RT) = true := by simp
        have e2 : (G == G) = true := by simp
        have e3 : (HD == HD) = true := by simp
        have e4 : (F == F) = true := by simp
        have e5 : (CV == CV) = true := by simp
        have e6 : (CE == CE) = true := by simp
        have e7 : (JE == JE) = true := by simp
        go_wp2_with fail
        refine (rsameR_calls _ _ RN RN _ _ R2 R DB DB _ hrc2 hrc HN40 (fun j hj => Nat.le_trans (hn8 j hj) (by decide))).mono ?_
        rintro e q9 ⟨rfl, hq9⟩
        rw [recs_same hjn2 hjn]
        go_wp2
        go_ret
        exact ⟨rfl, T.trans (hq9.mono T.size)⟩
end Go.Proofs.YtnlcheebdkjpbabGreat.Fx
