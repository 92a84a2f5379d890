/- What coachtop.said returns: a small course is kept, and a bent journal told. -/
import Derived.Test.YtimciamfgpdjlaaGreatJ22
import Derived.Test.YtimciamfgpdjlaaGreatJ21
import Derived.Test.YtimciamfgpdjlaaGreatJ17
import Derived.Test.YtimciamfgpdjlaaGreatJ20
import Derived.Test.YtimciamfgpdjlaaGreatJ06
import Derived.Test.YtimciamfgpdjlaaGreatJ05
import Derived.Test.YtimciamfgpdjlaaGreatJ00
import Derived.Test.YtimciamfgpdjlaaGreatJ18
import Derived.Deep.DeepCutAuto
import Derived.Deep.CutBlock
import Derived.Test.YtimciamfgpdjlaaGreatJ04
namespace Go.Proofs.YtimciamfgpdjlaaGreat.Fx
open Go.RowKit

def rateR (x : Rcm) (r : Int) : Rcm := ⟨x.s, x.a, x.n, x.k, r, x.root, x.chain⟩
theorem rcsR_rate {w : World} {b t n K N : Nat} {R : Nat → Rcm} (h : w.rowIs b t n (rcsR R N)) (r : Int) (hK : K < N) : (w.setCell ⟨b, K * 5 + 2, none⟩ (.int .i64 r)).rowIs b t n (rcsR (bentR R K (rateR (R K) r)) N) := by
  refine (h.set (K * 5 + 2) (.int .i64 r)).congr (fun i hi => ?_)
  unfold rcsR
  by_cases h0 : i < N * 5
  · rw [if_pos h0]
    by_cases e : i / 5 = K
    · have hb : bentR R K (rateR (R K) r) (i / 5) = rateR (R K) r := by unfold bentR; rw [if_pos e]
      rw [hb, if_pos h0, e]
      rcases lt5 (Nat.mod_lt i (show 0 < 5 by omega)) with hm | hm | hm | hm | hm
      · rw [if_neg (by omega), hm]; rfl
      · rw [if_neg (by omega), hm]; rfl
      · rw [if_pos (by omega), hm]; rfl
      · rw [if_neg (by omega), hm]; rfl
      · rw [if_neg (by omega), hm]; rfl
    · have hb : bentR R K (rateR (R K) r) (i / 5) = R (i / 5) := by unfold bentR; rw [if_neg e]
      rw [hb, if_neg (by omega), if_pos h0]
  · rw [if_neg h0, if_neg (by omega), if_neg h0]
theorem small_rate : mkRV smallC 1 = 6554 := by decide +kernel

set_option maxRecDepth 100000 in
set_option maxHeartbeats 1600000 in
theorem said_calls (w : World) : Calls Tryz.prog 39 #[] w fun e w' => e = .returned (.bool true) ∧ Below w.heap.size w w' := by
  have h0 := low_alloc w (.cells smallC.cells 24)
  obtain ⟨v0, H0⟩ : ∃ q, Hid (q = w.alloc (.cells smallC.cells 24)) := ⟨_, rfl⟩
  have hs0 : v0.heap.size = w.heap.size + 1 := by rw [H0.out]; simp
  rw [← H0.out] at h0
  have h1 := low_alloc v0 (.cells #[.int .i64 65536] 3)
  have l1 := one_lst v0 65536 3
  obtain ⟨v1, H1⟩ : ∃ q, Hid (q = v0.alloc (.cells #[.int .i64 65536] 3)) := ⟨_, rfl⟩
  have hs1 : v1.heap.size = w.heap.size + 1 + 1 := by rw [H1.out]; simp [hs0]
  rw [← H1.out] at h1 l1
  have h2 := low_alloc v1 (.cells #[.int .i64 131072] 3)
  have l2 := one_lst v1 131072 3
  obtain ⟨v2, H2⟩ : ∃ q, Hid (q = v1.alloc (.cells #[.int .i64 131072] 3)) := ⟨_, rfl⟩
  have hs2 : v2.heap.size = w.heap.size + 1 + 1 + 1 := by rw [H2.out]; simp [hs1]
  rw [← H2.out] at h2 l2
  rw [hs0] at l1
  rw [hs1] at l2
  have h3 := low_alloc v2 (.cells #[.slice (some ⟨w.heap.size + 1, 0, none⟩) 1 1, .slice (some ⟨w.heap.size + 1 + 1, 0, none⟩) 1 1] 64)
  have row := fn2_alloc v2 (.slice (some ⟨w.heap.size + 1, 0, none⟩) 1 1) (.slice (some ⟨w.heap.size + 1 + 1, 0, none⟩) 1 1) 64
  obtain ⟨v3, H3⟩ : ∃ q, Hid (q = v2.alloc (.cells #[.slice (some ⟨w.heap.size + 1, 0, none⟩) 1 1, .slice (some ⟨w.heap.size + 1 + 1, 0, none⟩) 1 1] 64)) := ⟨_, rfl⟩
  rw [← H3.out] at h3 row
  rw [hs2] at row
  have b1 := h0.trans (h1.mono h0.size)
  have b2 := b1.trans (h2.mono b1.size)
  have b3 := b2.trans (h3.mono b2.size)
  have k1 := h1.trans ((h2.trans (h3.mono h2.size)).mono h1.size)
  have kc : BoxC v3 w.heap.size smallC := by
    rw [H0.out] at k1
    exact boxC k1 (by simp)
  have l1' := (l1.below h2 (Nat.le_refl _)).below h3 (Nat.le_refl _)
  have l2' := l2.below h3 (Nat.le_refl _)
  have hcl := fn2_cells row
  have hlt := row.lt
  have hx : Exs v3 (some ⟨w.heap.size + 1 + 1 + 1, 0, none⟩) 1 1 (fun _ => ⟨some ⟨w.heap.size + 1, 0, none⟩, 1, 1, some ⟨w.heap.size + 1 + 1, 0, none⟩, 1, 1⟩) smallI smallO := by
    refine ⟨Nat.le_refl _, .inr ⟨_, _, rfl, hlt, fun i hi => ?_⟩⟩
    obtain rfl : i = 0 := by omega
    exact ⟨hcl.1, hcl.2, ⟨l1', l2'⟩⟩
  have hco : courseI smallC 1 (fun _ => ⟨some ⟨w.heap.size + 1, 0, none⟩, 1, 1, some ⟨w.heap.size + 1 + 1, 0, none⟩, 1, 1⟩) smallI smallO = 0 := small_course rfl rfl
  have hs : okW smallC.seed := ⟨by decide, by decide⟩
  have KB : Hid (∀ q, Below v3.heap.size v3 q → BoxC q w.heap.size smallC) := fun q hq => by
    have k : ∀ i, q.cell? ⟨w.heap.size, i, none⟩ = v3.cell? ⟨w.heap.size, i, none⟩ := fun i => hq.cell (p := ⟨w.heap.size, i, none⟩) (by show w.heap.size < _; omega)
    exact ⟨(k 0).trans kc.c0, (k 1).trans kc.c1, (k 2).trans kc.c2, (k 3).trans kc.c3, (k 4).trans kc.c4, (k 5).trans kc.c5, (k 6).trans kc.c6, (k 7).trans kc.c7, (k 8).trans kc.c8, (k 9).trans kc.c9, (k 10).trans kc.c10⟩
  have MK : Calls Tryz.prog 21 #[.agg #[.int .i64 1, .int .i64 1, .int .i64 1, .int .u64 1, .int .i64 1, .int .i64 3, .int .i64 6554, .int .i64 0, .int .i64 0, .int .i64 0, .int .i64 0], .slice (some ⟨w.heap.size + 1 + 1 + 1, 0, none⟩) 1 1, .int .i64 3] v3 fun e w' => ∃ g R, e = .returned (.tuple #[.slice (some ⟨g, 0, none⟩) 3 3, .int .i64 0]) ∧ v3.heap.size ≤ g ∧ w'.rowIs g 30 (3 * 5) (rcsR R 3) ∧ JrIn w' g v3.heap.size 1 3 R (jrG smallC 1) ∧ JrN 3 R (mkRV smallC) (mkRO smallC 1 smallI smallO) (mkCH smallC 1 smallI smallO) ∧ Below v3.heap.size v3 w' := jMake_good smallC _ 1 1 _ smallI smallO 3 v3 hs hx hco (by decide)
  have HWO : Hid (∀ (q : World) (g : Nat) (R : Nat → Rcm), Below v3.heap.size v3 q → q.rowIs g 30 (3 * 5) (rcsR R 3) → JrIn q g v3.heap.size 1 3 R (jrG smallC 1) → JrN 3 R (mkRV smallC) (mkRO smallC 1 smallI smallO) (mkCH smallC 1 smallI smallO) → Calls Tryz.prog 47 #[.agg #[.int .i64 1, .int .i64 1, .int .i64 1, .int .u64 1, .int .i64 1, .int .i64 3, .int .i64 6554, .int .i64 0, .int .i64 0, .int .i64 0, .int .i64 0], .slice (some ⟨w.heap.size + 1 + 1 + 1, 0, none⟩) 1 1, .slice (some ⟨g, 0, none⟩) 3 3] q fun e w' => e = .returned (.tuple #[.int .i64 3, .int .i64 0]) ∧ Below q.heap.size q w') := fun q g R hq hr hj hJ => whole_own smallC hs _ 1 1 _ smallI smallO _ 3 3 R q (hx.below hq (Nat.le_refl _)) (recs_of hr hj) (fun j hj2 => by have := (hj j hj2).1; omega) hco (by decide) hJ
  have HWB : Hid (∀ (q : World) (g : Nat) (R : Nat → Rcm), Below v3.heap.size v3 q → q.rowIs g 30 (3 * 5) (rcsR (bentR R 1 (rateR (R 1) 6555)) 3) → JrIn q g v3.heap.size 1 3 R (jrG smallC 1) → JrN 3 R (mkRV smallC) (mkRO smallC 1 smallI smallO) (mkCH smallC 1 smallI smallO) → Calls Tryz.prog 47 #[.agg #[.int .i64 1, .int .i64 1, .int .i64 1, .int .u64 1, .int .i64 1, .int .i64 3, .int .i64 6554, .int .i64 0, .int .i64 0, .int .i64 0, .int .i64 0], .slice (some ⟨w.heap.size + 1 + 1 + 1, 0, none⟩) 1 1, .slice (some ⟨g, 0, none⟩) 3 3] q fun e w' => e = .returned (.tuple #[.int .i64 1, .int .i64 0]) ∧ Below q.heap.size q w') := fun q g R hq hr hj hJ => by
    obtain ⟨x1, x2, bg, x3, _, _, x6⟩ := hj 1 (by omega)
    have hl : Lst q (rateR (R 1) 6555).a (rateR (R 1) 6555).n (rateR (R 1) 6555).k (jrBatch smallC 1 1) := by
      show Lst q (R 1).a (R 1).n (R 1).k _
      rw [x1, x2, x3]
      exact x6.lst
    have h := whole_good smallC hs _ 1 1 _ smallI smallO _ 3 3 _ _ q (hx.below hq (Nat.le_refl _)) (recs_bent hr hj hl) (fun j hj2 => by
      unfold bentR
      by_cases e : j = 1
      · rw [if_pos e]; show (R 1).n ≤ _; omega
      · rw [if_neg e]; have := (hj j hj2).1; omega) hco (by decide)
    have e := first_bent hJ (rateR (R 1) 6555) (jrBatch smallC 1 1) (K := 1) (by omega)
    have hrb : recB (rateR (R 1) 6555) (R 1) (jrBatch smallC 1 1) (jrBatch smallC 1 1) = false := by
      unfold recB likeB
      have hr1 : (R 1).r = 6554 := by rw [(hJ 1 (by omega)).2.1]; exact small_rate
      have : ¬ (rateR (R 1) 6555).r = (R 1).r := by rw [hr1]; show ¬ (6555 : Int) = 6554; decide
      rw [decide_eq_false this]
      simp
    rw [hrb] at e
    rw [if_neg (by decide)] at e
    have e2 : firstNo (auB smallC 1 smallI smallO (bentR R 1 (rateR (R 1) 6555)) (bentD (fun k => (List.range 1).map (jrG smallC 1 k)) 1 (jrBatch smallC 1 1))) 3 = 1 := e
    rw [e2] at h
    exact h
  have HR1 : Hid (∀ R : Nat → Rcm, JrN 3 R (mkRV smallC) (mkRO smallC 1 smallI smallO) (mkCH smallC 1 smallI smallO) → (R 1).r = 6554) := fun R hJ => by rw [(hJ 1 (by omega)).2.1]; exact small_rate
  clear l1 l2 h0 h1 h2 h3 b1 b2 k1 hs1 hs0 hs2 l1' l2' hcl row hx hco hs hlt
  generalize jrG smallC 1 = DG at *
  generalize mkRV smallC = RV at *
  generalize mkRO smallC 1 smallI smallO = RO at *
  generalize mkCH smallC 1 smallI smallO = CH at *
  obtain ⟨c0, c1, c2, c3, c4, c5, c6, c7, c8, c9, c10⟩ := kc
  simp only [smallC, Cfg.cells] at *
  go_enter Tryz.func39, Tryz.ntmps39
  go_wp2_with fail
  rw [← H0.out, ← H1.out, ← H2.out, ← H3.out]
  clear H0 H1 H2 H3
  refine MK.mono ?_
  rintro e w4 ⟨g, R, rfl, hg, rrow, hji, hjn, hw4⟩
  have HJI : Hid (JrIn w4 g v3.heap.size 1 3 R DG) := hji
  have HJN : Hid (JrN 3 R RV RO CH) := hjn
  have WO := HWO.out w4 g R hw4 rrow hji hjn
  clear MK HWO hji hjn c0 c1 c2 c3 c4 c5 c6 c7 c8 c9 c10
  obtain ⟨c0, c1, c2, c3, c4, c5, c6, c7, c8, c9, c10⟩ := KB.out _ hw4
  dsimp only at c0 c1 c2 c3 c4 c5 c6 c7 c8 c9 c10
  go_wp2_with fail
  refine WO.mono ?_
  rintro e w5 ⟨rfl, hw5⟩
  have T5 := hw4.trans (hw5.mono hw4.size)
  have rrow5 := rrow.of_block (hw5.block _ rrow.lt)
  have HJI5 : Hid (JrIn w5 g v3.heap.size 1 3 R DG) := HJI.out.below hw5
  have r7 : w5.cell? ⟨g, 7, none⟩ = some (.int .i64 6554) := by
    have h := rcsR_cell rrow5 (j := 1) (by omega) (Nat.le_refl _) (i := 2) (by omega)
    have e : recC (R 1) 2 = .int .i64 6554 := by show Value.int .i64 (R 1).r = _; rw [HR1.out R HJN.out]
    rw [e] at h
    exact h
  have f7 := rrow5.frozen 7
  have T6 : Below v3.heap.size v3 (w5.setCell ⟨g, 7, none⟩ (.int .i64 6555)) := T5.setCell hg _
  have WB := HWB.out (w5.setCell ⟨g, 7, none⟩ (.int .i64 6555)) g R T6 (rcsR_rate rrow5 (K := 1) 6555 (by omega)) (HJI5.out.setO _ _) HJN.out
  clear WO HWB HJI HJI5 HJN HR1 rrow rrow5 c0 c1 c2 c3 c4 c5 c6 c7 c8 c9 c10
  obtain ⟨c0, c1, c2, c3, c4, c5, c6, c7, c8, c9, c10⟩ := KB.out _ T6
  dsimp only at c0 c1 c2 c3 c4 c5 c6 c7 c8 c9 c10
  have hT6 := b3.trans (T6.mono b3.size)
  go_wp2_with fail
  refine WB.mono ?_
  rintro e w7 ⟨rfl, hw7⟩
  go_wp2_with fail
  go_ret
  exact ⟨rfl, hT6.trans (hw7.mono hT6.size)⟩
end Go.Proofs.YtimciamfgpdjlaaGreat.Fx

/- What audit.Judge returns, whatever is handed in. -/
namespace Go.Proofs.YtimciamfgpdjlaaGreat.Fx
open Go.RowKit

def jdN (E : Int) (qa qb : Bool) : Int := if E = 0 then (if qa = true then 1 else 0) + (if qb = true then 2 else 0) else 0

structure JdBox (w : World) (c : Cfg) (v0 v1 : Value) (x y : Rcm) (wr : World) : Prop where
  cfg : BoxC wr w.heap.size c
  st : wr.rowIs (w.heap.size + 1) 28 2 (fn2 v0 v1)
  ra : wr.rowIs (w.heap.size + 1 + 1) 30 5 (fn5 (.int .i64 x.s) (.slice x.a x.n x.k) (.int .i64 x.r) (.int .u64 x.root) (.int .u64 x.chain))
  rb : wr.rowIs (w.heap.size + 1 + 1 + 1) 30 5 (fn5 (.int .i64 y.s) (.slice y.a y.n y.k) (.int .i64 y.r) (.int .u64 y.root) (.int .u64 y.chain))
  bel : Below w.heap.size w wr
theorem JdBox.start (w : World) (c : Cfg) (v0 v1 : Value) (x y : Rcm) : JdBox w c v0 v1 x y ((((w.alloc (.cells c.cells 24)).alloc (.cells #[v0, v1] 28)).alloc (.cells x.cells 30)).alloc (.cells y.cells 30)) := by
  refine ⟨?_, ?_, ?_, ?_, ((((Below.refl w.heap.size w).alloc (Nat.le_refl _) _).alloc (by simp) _).alloc (by simp; omega) _).alloc (by simp; omega) _⟩
  · exact boxC (B := w.heap.size + 1) ((((Below.refl _ _).alloc (by simp) _).alloc (by simp) _).alloc (by simp) _) (by omega)
  · have h := ((fn2_alloc (w.alloc (.cells c.cells 24)) v0 v1 28).alloc (.cells x.cells 30)).alloc (.cells y.cells 30)
    simpa using h
  · have h := (fn5_alloc ((w.alloc (.cells c.cells 24)).alloc (.cells #[v0, v1] 28)) (.int .i64 x.s) (.slice x.a x.n x.k) (.int .i64 x.r) (.int .u64 x.root) (.int .u64 x.chain) 30).alloc (.cells y.cells 30)
    simpa [Rcm.cells] using h
  · have h := fn5_alloc (((w.alloc (.cells c.cells 24)).alloc (.cells #[v0, v1] 28)).alloc (.cells x.cells 30)) (.int .i64 y.s) (.slice y.a y.n y.k) (.int .i64 y.r) (.int .u64 y.root) (.int .u64 y.chain) 30
    simpa [Rcm.cells] using h
theorem JdBox.below {w : World} {c : Cfg} {v0 v1 : Value} {x y : Rcm} {wr w2 : World} (h : JdBox w c v0 v1 x y wr) (hb : Below wr.heap.size wr w2) : JdBox w c v0 v1 x y w2 := by
  have l2 := h.rb.lt
  have k : ∀ i, w2.cell? ⟨w.heap.size, i, none⟩ = wr.cell? ⟨w.heap.size, i, none⟩ := fun i => hb.cell (p := ⟨w.heap.size, i, none⟩) (by show w.heap.size < _; omega)
  exact ⟨⟨(k 0).trans h.cfg.c0, (k 1).trans h.cfg.c1, (k 2).trans h.cfg.c2, (k 3).trans h.cfg.c3, (k 4).trans h.cfg.c4, (k 5).trans h.cfg.c5, (k 6).trans h.cfg.c6, (k 7).trans h.cfg.c7, (k 8).trans h.cfg.c8, (k 9).trans h.cfg.c9, (k 10).trans h.cfg.c10⟩,
    h.st.of_block (hb.block _ (by omega)), h.ra.of_block (hb.block _ (by omega)), h.rb.of_block (hb.block _ l2), h.bel.trans (hb.mono h.bel.size)⟩

set_option maxRecDepth 100000 in
set_option maxHeartbeats 1600000 in
theorem judge_good (c : Cfg) (hs : okW c.seed) (a : Option Addr) (n cap : Nat) (X : Nat → Exm) (DI DO : Nat → List Int) (a1 : Option Addr) (n1 k1 : Nat) (ws : List Int) (a2 : Option Addr) (n2 k2 : Nat) (ms : List Int) (step : Int) (x y : Rcm) (xs ys : List Int) (w : World) (hx : Exs w a n cap X DI DO) (l1 : Lst w a1 n1 k1 ws) (l2 : Lst w a2 n2 k2 ms) (lx : Lst w x.a x.n x.k xs) (ly : Lst w y.a y.n y.k ys) (hx1 : x.n ≤ 9223372036854775807) (hy1 : y.n ≤ 9223372036854775807) (hz : nextE c n X DI DO n1 ws n2 ms step = 0) :
    Calls Tryz.prog 46 #[c.val, .slice a n cap, .agg #[.slice a1 n1 k1, .slice a2 n2 k2], .int .i64 step, x.val, y.val] w fun e w' => e = .returned (.tuple #[.int .i64 (jdN 0 (jgB c n X DI DO n1 ws n2 ms step x xs) (jgB c n X DI DO n1 ws n2 ms step y ys)), .int .i64 0]) ∧ Below w.heap.size w w' := by
  have jb0 := JdBox.start w c (.slice a1 n1 k1) (.slice a2 n2 k2) x y
  have RD := redo_good c hs a n cap X DI DO a1 n1 k1 ws a2 n2 k2 ms step _ (hx.below jb0.bel (Nat.le_refl _)) (l1.below jb0.bel (Nat.le_refl _)) (l2.below jb0.bel (Nat.le_refl _)) hz
  have HSA : Hid (∀ (r : Rcm) q, Below w.heap.size w q → r.s = step → r.r = nxR c n X DI DO n1 ws n2 ms step → r.root = nxZ c n X DI DO n1 ws n2 ms step → Lst q r.a r.n r.k (nxB c n X DI DO n1 ws n2 ms step) → Calls Tryz.prog 102 #[x.val, r.val] q fun e w' => e = .returned (.bool (jgB c n X DI DO n1 ws n2 ms step x xs)) ∧ Below q.heap.size q w') := fun r q hq e1 e2 e3 lr => by
    have h := sstep_calls x r xs _ q (lx.below hq (Nat.le_refl _)) lr hx1
    have e : likeB x r xs (nxB c n X DI DO n1 ws n2 ms step) = jgB c n X DI DO n1 ws n2 ms step x xs := by simp only [jgB, likeB, e1, e2, e3]
    rw [e] at h
    exact h
  have HSB : Hid (∀ (r : Rcm) q, Below w.heap.size w q → r.s = step → r.r = nxR c n X DI DO n1 ws n2 ms step → r.root = nxZ c n X DI DO n1 ws n2 ms step → Lst q r.a r.n r.k (nxB c n X DI DO n1 ws n2 ms step) → Calls Tryz.prog 102 #[y.val, r.val] q fun e w' => e = .returned (.bool (jgB c n X DI DO n1 ws n2 ms step y ys)) ∧ Below q.heap.size q w') := fun r q hq e1 e2 e3 lr => by
    have h := sstep_calls y r ys _ q (ly.below hq (Nat.le_refl _)) lr hy1
    have e : likeB y r ys (nxB c n X DI DO n1 ws n2 ms step) = jgB c n X DI DO n1 ws n2 ms step y ys := by simp only [jgB, likeB, e1, e2, e3]
    rw [e] at h
    exact h
  generalize jgB c n X DI DO n1 ws n2 ms step x xs = QA at *
  generalize jgB c n X DI DO n1 ws n2 ms step y ys = QB at *
  generalize nxR c n X DI DO n1 ws n2 ms step = NR at *
  generalize nxZ c n X DI DO n1 ws n2 ms step = NZ at *
  generalize nxB c n X DI DO n1 ws n2 ms step = NB at *
  clear hx l1 l2 hz hs lx ly hx1 hy1
  obtain ⟨i, h, o, seed, batch, steps, crate, decay, how, keep, clip⟩ := c
  obtain ⟨xs0, xa, xn, xk, xr, xroot, xchain⟩ := x
  obtain ⟨ys0, ya, yn, yk, yr, yroot, ychain⟩ := y
  simp only [Cfg.val, Cfg.cells, Rcm.val, Rcm.cells] at *
  obtain ⟨c0, c1, c2, c3, c4, c5, c6, c7, c8, c9, c10⟩ := jb0.cfg
  obtain ⟨s0, s1⟩ := fn2_cells jb0.st
  dsimp only at c0 c1 c2 c3 c4 c5 c6 c7 c8 c9 c10
  go_enter Tryz.func46, Tryz.ntmps46
  go_wp2_with fail
  refine RD.mono ?_
  rintro e u1 ⟨a3, m3, k3, rfl, hm3, l3, hu1⟩
  have jb1 := jb0.below hu1
  clear RD c0 c1 c2 c3 c4 c5 c6 c7 c8 c9 c10 s0 s1 jb0
  have hal := low_alloc u1 (.cells #[.int .i64 step, .slice a3 m3 k3, .int .i64 NR, .int .u64 NZ, .int .u64 0] 30)
  have orow := fn5_alloc u1 (.int .i64 step) (.slice a3 m3 k3) (.int .i64 NR) (.int .u64 NZ) (.int .u64 0) 30
  have jb2 := jb1.below hal
  have l4 := l3.below hal (Nat.le_refl _)
  have SA := HSA.out ⟨step, a3, m3, k3, NR, NZ, 0⟩ _ jb2.bel rfl rfl rfl l4
  dsimp only at SA
  obtain ⟨o0, o1, o2, o3, o4⟩ := fn5_box orow
  obtain ⟨x0, x1, x2, x3, x4⟩ := fn5_box jb2.ra
  clear jb1 hu1 l3 HSA
  go_wp2_with fail
  refine SA.mono ?_
  rintro e u2 ⟨rfl, hu2⟩
  have jb3 := jb2.below hu2
  have l5 := l4.below hu2 (Nat.le_refl _)
  have SB := HSB.out ⟨step, a3, m3, k3, NR, NZ, 0⟩ _ jb3.bel rfl rfl rfl l5
  dsimp only at SB
  have orow2 := orow.of_block (hu2.block _ orow.lt)
  clear x0 x1 x2 x3 x4 o0 o1 o2 o3 o4 SA HSB
  obtain ⟨o0, o1, o2, o3, o4⟩ := fn5_box orow2
  obtain ⟨y0, y1, y2, y3, y4⟩ := fn5_box jb3.rb
  have hb3 := jb3.bel
  clear jb2 jb3 orow orow2 l4 l5 hal hu2
  cases QA with
  | false =>
    go_wp2_with fail
    refine SB.mono ?_
    rintro e u3 ⟨rfl, hu3⟩
    cases QB with
    | false =>
      go_wp2_with fail
      go_ret2
      exact ⟨rfl, hb3.trans (hu3.mono hb3.size)⟩
    | true =>
      go_wp2_with fail
      go_ret2
      exact ⟨rfl, hb3.trans (hu3.mono hb3.size)⟩
  | true =>
    go_wp2_with fail
    refine SB.mono ?_
    rintro e u3 ⟨rfl, hu3⟩
    cases QB with
    | false =>
      go_wp2_with fail
      go_ret2
      exact ⟨rfl, hb3.trans (hu3.mono hb3.size)⟩
    | true =>
      go_wp2_with fail
      go_ret2
      exact ⟨rfl, hb3.trans (hu3.mono hb3.size)⟩

set_option maxRecDepth 100000 in
set_option maxHeartbeats 1600000 in
theorem judge_calls (c : Cfg) (hs : okW c.seed) (a : Option Addr) (n cap : Nat) (X : Nat → Exm) (DI DO : Nat → List Int) (a1 : Option Addr) (n1 k1 : Nat) (ws : List Int) (a2 : Option Addr) (n2 k2 : Nat) (ms : List Int) (step : Int) (x y : Rcm) (xs ys : List Int) (w : World) (hx : Exs w a n cap X DI DO) (l1 : Lst w a1 n1 k1 ws) (l2 : Lst w a2 n2 k2 ms) (lx : Lst w x.a x.n x.k xs) (ly : Lst w y.a y.n y.k ys) (hx1 : x.n ≤ 9223372036854775807) (hy1 : y.n ≤ 9223372036854775807) :
    Calls Tryz.prog 46 #[c.val, .slice a n cap, .agg #[.slice a1 n1 k1, .slice a2 n2 k2], .int .i64 step, x.val, y.val] w fun e w' => e = .returned (.tuple #[.int .i64 (jdN (nextE c n X DI DO n1 ws n2 ms step) (jgB c n X DI DO n1 ws n2 ms step x xs) (jgB c n X DI DO n1 ws n2 ms step y ys)), .int .i64 (nextE c n X DI DO n1 ws n2 ms step)]) ∧ Below w.heap.size w w' := by
  by_cases hz : nextE c n X DI DO n1 ws n2 ms step = 0
  · rw [hz]
    exact judge_good c hs a n cap X DI DO a1 n1 k1 ws a2 n2 k2 ms step x y xs ys w hx l1 l2 lx ly hx1 hy1 hz
  · have jb0 := JdBox.start w c (.slice a1 n1 k1) (.slice a2 n2 k2) x y
    have RD := redo_bad c hs a n cap X DI DO a1 n1 k1 ws a2 n2 k2 ms step _ (hx.below jb0.bel (Nat.le_refl _)) (l1.below jb0.bel (Nat.le_refl _)) (l2.below jb0.bel (Nat.le_refl _)) _ rfl hz
    have hJ : jdN (nextE c n X DI DO n1 ws n2 ms step) (jgB c n X DI DO n1 ws n2 ms step x xs) (jgB c n X DI DO n1 ws n2 ms step y ys) = 0 := if_neg hz
    rw [hJ]
    have hb : (nextE c n X DI DO n1 ws n2 ms step != 0) = true := by rw [bne_iff_ne]; exact hz
    generalize nextE c n X DI DO n1 ws n2 ms step = E at *
    clear hx l1 l2 hs lx ly hx1 hy1 hJ hz
    obtain ⟨i, h, o, seed, batch, steps, crate, decay, how, keep, clip⟩ := c
    obtain ⟨xs0, xa, xn, xk, xr, xroot, xchain⟩ := x
    obtain ⟨ys0, ya, yn, yk, yr, yroot, ychain⟩ := y
    simp only [Cfg.val, Cfg.cells, Rcm.val, Rcm.cells] at *
    obtain ⟨c0, c1, c2, c3, c4, c5, c6, c7, c8, c9, c10⟩ := jb0.cfg
    obtain ⟨s0, s1⟩ := fn2_cells jb0.st
    dsimp only at c0 c1 c2 c3 c4 c5 c6 c7 c8 c9 c10
    go_enter Tryz.func46, Tryz.ntmps46
    go_wp2_with fail
    refine RD.mono ?_
    rintro e u1 ⟨rfl, hu1⟩
    have hb1 := (jb0.below hu1).bel
    have hal := low_alloc u1 (.cells #[.int .i64 0, .slice none 0 0, .int .i64 0, .int .u64 0, .int .u64 0] 30)
    go_wp2_with fail
    go_ret2
    exact ⟨rfl, hb1.trans (hal.mono hb1.size)⟩
end Go.Proofs.YtimciamfgpdjlaaGreat.Fx

/- coachref.SameRecords, of records whose batches are of whatever length. -/
namespace Go.Proofs.YtimciamfgpdjlaaGreat.Fx
open Go.RowKit

set_option maxRecDepth 100000 in
set_option maxHeartbeats 1600000 in
theorem rsame1_big (x y : Rcm) (xs ys : List Int) (w : World) (l1 : Lst w x.a x.n x.k xs) (l2 : Lst w y.a y.n y.k ys) (hn : x.n ≤ 9223372036854775807) :
    Calls Tryz.prog 108 #[x.val, y.val] w fun e w' => e = .returned (.bool (recB x y xs ys)) ∧ Below w.heap.size w w' := by
  have ha1 := low_alloc w (.cells x.cells 30)
  have hal := ha1.trans ((low_alloc (w.alloc (.cells x.cells 30)) (.cells y.cells 30)).mono ha1.size)
  have HLK : Hid (Calls Tryz.prog 17 #[x.val, y.val] ((w.alloc (.cells x.cells 30)).alloc (.cells y.cells 30)) fun e w' => e = .returned (.bool (likeB x y xs ys)) ∧ Below ((w.alloc (.cells x.cells 30)).alloc (.cells y.cells 30)).heap.size ((w.alloc (.cells x.cells 30)).alloc (.cells y.cells 30)) w') := rlike_big x y xs ys _ (l1.below hal (Nat.le_refl _)) (l2.below hal (Nat.le_refl _)) hn
  have rx := (fn5_alloc w (.int .i64 x.s) (.slice x.a x.n x.k) (.int .i64 x.r) (.int .u64 x.root) (.int .u64 x.chain) 30).alloc (.cells y.cells 30)
  have ry := fn5_alloc (w.alloc (.cells x.cells 30)) (.int .i64 y.s) (.slice y.a y.n y.k) (.int .i64 y.r) (.int .u64 y.root) (.int .u64 y.chain) 30
  unfold recB
  clear l1 l2 ha1
  generalize likeB x y xs ys = LB at *
  obtain ⟨s, a, n, k, r, root, chain⟩ := x
  obtain ⟨s', a', n', k', r', root', chain'⟩ := y
  simp only [Rcm.val, Rcm.cells] at *
  simp at ry
  cases LB with
  | false =>
    go_enter Tryz.func108, Tryz.ntmps108
    go_wp2_with fail
    refine HLK.out.mono ?_
    rintro e w1 ⟨rfl, hw1⟩
    go_wp2_with fail
    go_ret
    exact ⟨rfl, hal.trans (hw1.mono hal.size)⟩
  | true =>
    go_enter Tryz.func108, Tryz.ntmps108
    go_wp2_with fail
    refine HLK.out.mono ?_
    rintro e w1 ⟨rfl, hw1⟩
    have x4 := (fn5_box (rx.of_block (hw1.block _ rx.lt))).c4
    have y4 := (fn5_box (ry.of_block (hw1.block _ ry.lt))).c4
    go_wp2_with fail
    go_ret
    exact ⟨ret_bool (by rw [Bool.true_and]; exact beq_dec _ _), hal.trans (hw1.mono hal.size)⟩

set_option maxRecDepth 100000 in
set_option maxHeartbeats 3200000 in
theorem eqr_big (a b : Option Addr) (n m c1 c2 : Nat) (X Y : Nat → Rcm) (DX DY : Nat → List Int) (w : World) (hx : Recs w a n c1 X DX) (hy : Recs w b m c2 Y DY) (hn : n ≤ 1000000000000000) (hxn : ∀ j, j < n → (X j).n ≤ 9223372036854775807) :
    Calls Tryz.prog 107 #[.slice a n c1, .slice b m c2, .func (.func 108) #[] #[]] w fun e w' => e = .returned (.bool (recsB n m X Y DX DY)) ∧ Below w.heap.size w w' := by
  by_cases hnm : n = m
  · subst hnm
    have hne : ((n : Int) != (n : Int)) = false := by simp
    have HXN : Hid (∀ j, j < n → (X j).n ≤ 9223372036854775807) := hxn
    have HOK : Hid ((∀ j, j < n → recB (X j) (Y j) (DX j) (DY j) = true) → recsB n n X Y DX DY = true) := fun h => by
      unfold recsB
      rw [decide_eq_true rfl, Bool.true_and, List.all_eq_true]
      exact fun i hi => h i (List.mem_range.1 hi)
    have HBAD : Hid (∀ j, j < n → recB (X j) (Y j) (DX j) (DY j) = false → recsB n n X Y DX DY = false) := fun j hj h => by
      unfold recsB
      rw [decide_eq_true rfl, Bool.true_and, List.all_eq_false]
      exact ⟨j, List.mem_range.2 hj, by rw [h]; decide⟩
    generalize recsB n n X Y DX DY = RB at *
    clear hxn
    go_enter Tryz.func107, Tryz.ntmps107
    go_wp2_with fail
    go_loopw [17] (fun v wr => ∃ k : Nat, k ≤ n ∧ v = .int .i64 k ∧ Hid (∀ j, j < k → recB (X j) (Y j) (DX j) (DY j) = true) ∧ Below w.heap.size w wr) (fun v _ => n - (intOf v).toNat)
    case atStart => exact ⟨0, Nat.zero_le _, rfl, fun j hj => by omega, Below.refl _ _⟩
    case round =>
      obtain ⟨k, hk, rfl, hg, hbel⟩ := hrel
      have hx1 := hx.below hbel (Nat.le_refl _)
      have hy1 := hy.below hbel (Nat.le_refl _)
      by_cases hlt : k < n
      · have hlen := HXN.out k hlt
        rcases hx1.2 with h0 | ⟨xb, xo, rfl, _, hc⟩
        · omega
        rcases hy1.2 with h0 | ⟨yb, yo, rfl, _, hd⟩
        · omega
        obtain ⟨e0, e1, e2, e3, e4, lx⟩ := hc k hlt
        obtain ⟨f0, f1, f2, f3, f4, ly⟩ := hd k hlt
        have hbad := HBAD.out k hlt
        have hgood : recB (X k) (Y k) (DX k) (DY k) = true → ∀ j, j < k + 1 → recB (X j) (Y j) (DX j) (DY j) = true := fun g j hj => by
          by_cases e : j = k
          · subst e; exact g
          · exact hg.out j (by omega)
        obtain ⟨x, hxk⟩ : ∃ x, X k = x := ⟨_, rfl⟩
        obtain ⟨y, hyk⟩ : ∃ y, Y k = y := ⟨_, rfl⟩
        rw [hxk] at e0 e1 e2 e3 e4 lx hlen hbad hgood
        rw [hyk] at f0 f1 f2 f3 f4 ly hbad hgood
        have ha := low_alloc wr (.cells x.cells 30)
        have ha2 := ha.trans ((low_alloc (wr.alloc (.cells x.cells 30)) (.cells y.cells 30)).mono ha.size)
        have SM : Calls Tryz.prog 108 #[x.val, y.val] ((wr.alloc (.cells x.cells 30)).alloc (.cells y.cells 30)) fun e w' => e = .returned (.bool (recB x y (DX k) (DY k))) ∧ Below ((wr.alloc (.cells x.cells 30)).alloc (.cells y.cells 30)).heap.size ((wr.alloc (.cells x.cells 30)).alloc (.cells y.cells 30)) w' := rsame1_big x y (DX k) (DY k) _ (lx.below ha2 (Nat.le_refl _)) (ly.below ha2 (Nat.le_refl _)) hlen
        have g0 := (ha.cell (p := ⟨yb, yo + k * 5, none⟩) (cell_lt f0)).trans f0
        have g1 := (ha.cell (p := ⟨yb, yo + k * 5 + 1, none⟩) (cell_lt f1)).trans f1
        have g2 := (ha.cell (p := ⟨yb, yo + k * 5 + 2, none⟩) (cell_lt f2)).trans f2
        have g3 := (ha.cell (p := ⟨yb, yo + k * 5 + 3, none⟩) (cell_lt f3)).trans f3
        have g4 := (ha.cell (p := ⟨yb, yo + k * 5 + 4, none⟩) (cell_lt f4)).trans f4
        have kn : (k : Int) < (n : Int) := by omega
        have HB : Hid (recB x y (DX k) (DY k) = false → RB = false) := hbad
        have HG : Hid (recB x y (DX k) (DY k) = true → ∀ j, j < k + 1 → recB (X j) (Y j) (DX j) (DY j) = true) := hgood
        clear hx hy hx1 hy1 hxk hyk lx ly hlen HXN hc hd f0 f1 f2 f3 f4 hbad hgood hg
        generalize recB x y (DX k) (DY k) = QB at *
        obtain ⟨s, ax, nx, kx, r, root, chain⟩ := x
        obtain ⟨s', ay, ny, ky, r', root', chain'⟩ := y
        simp only [Rcm.val, Rcm.cells] at *
        cases QB with
        | false =>
          go_wp2_with fail
          refine SM.mono ?_
          rintro e w1 ⟨rfl, hw1⟩
          go_wp2_with fail
          go_ret
          exact ⟨ret_bool (HB.out (by trivial)).symm, hbel.trans ((ha2.trans (hw1.mono ha2.size)).mono hbel.size)⟩
        | true =>
          go_wp2_with fail
          refine SM.mono ?_
          rintro e w1 ⟨rfl, hw1⟩
          have hb1 := hbel.trans ((ha2.trans (hw1.mono ha2.size)).mono hbel.size)
          go_wp2_with fail
          go_roundw
          case rel => exact ⟨k + 1, by omega, by go_num, HG.out (by trivial), hb1⟩
          case measure => simp [intOf]; omega
      · obtain rfl : k = n := by omega
        go_wp2_with fail
        go_ret
        exact ⟨ret_bool (HOK.out hg.out).symm, hbel⟩
  · have hne : ((n : Int) != (m : Int)) = true := by rw [bne_iff_ne]; omega
    have HR : Hid (recsB n m X Y DX DY = false) := by show recsB n m X Y DX DY = false; unfold recsB; rw [decide_eq_false hnm, Bool.false_and]
    clear hx hy hxn hnm
    go_enter Tryz.func107, Tryz.ntmps107
    go_wp2_with fail
    go_ret
    exact ⟨ret_bool HR.out.symm, Below.refl _ _⟩

theorem rsameR_big (a b : Option Addr) (n m c1 c2 : Nat) (X Y : Nat → Rcm) (DX DY : Nat → List Int) (w : World) (hx : Recs w a n c1 X DX) (hy : Recs w b m c2 Y DY) (hn : n ≤ 1000000000000000) (hxn : ∀ j, j < n → (X j).n ≤ 9223372036854775807) :
    Calls Tryz.prog 50 #[.slice a n c1, .slice b m c2] w fun e w' => e = .returned (.bool (recsB n m X Y DX DY)) ∧ Below w.heap.size w w' := by
  have K := eqr_big a b n m c1 c2 X Y DX DY w hx hy hn hxn
  clear hx hy hn hxn
  go_enter Tryz.func50, Tryz.ntmps50
  go_wp2_with fail
  refine K.mono ?_
  rintro e w1 ⟨rfl, hw1⟩
  go_wp2_with fail
  go_ret
  exact ⟨rfl, hw1⟩
end Go.Proofs.YtimciamfgpdjlaaGreat.Fx

/- Lists of records that say the same are the same; no function of package journal is spoken of. -/
namespace Go.Proofs.YtimciamfgpdjlaaGreat.Fx
open Go.RowKit

theorem recs_same {k : Nat} {R R2 : Nat → Rcm} {D : Nat → List Int} {RV RO CH : Nat → Int} (h : JrN k R RV RO CH) (h2 : JrN k R2 RV RO CH) : recsB k k R R2 D D = true := by
  unfold recsB
  rw [decide_eq_true rfl, Bool.true_and, List.all_eq_true]
  intro j hj
  rw [List.mem_range] at hj
  obtain ⟨e1, e2, e3, e4⟩ := h j hj
  obtain ⟨f1, f2, f3, f4⟩ := h2 j hj
  unfold recB likeB
  rw [e1, e2, e3, e4, f1, f2, f3, f4]
  simp
theorem JrN.take {k m : Nat} {R : Nat → Rcm} {RV RO CH : Nat → Int} (h : JrN k R RV RO CH) (hm : m ≤ k) : JrN m R RV RO CH := fun j hj => h j (by omega)
theorem Recs.take {w : World} {a : Option Addr} {n c m : Nat} {R : Nat → Rcm} {D : Nat → List Int} (h : Recs w a n c R D) (hm : m ≤ n) : Recs w a m c R D := by
  refine ⟨Nat.le_trans hm h.1, ?_⟩
  rcases h.2 with h0 | ⟨b, off, e, hs, hc⟩
  · exact .inl (by omega)
  · exact .inr ⟨b, off, e, hs, fun i hi => hc i (by omega)⟩
end Go.Proofs.YtimciamfgpdjlaaGreat.Fx

/- What coachref.Rest returns: a number below the second one. -/
namespace Go.Proofs.YtimciamfgpdjlaaGreat.Fx
open Go.RowKit

theorem rest_any (n : Int) (m : Nat) (h1 : 1 ≤ m) (h2 : m ≤ 2000) (w : World) :
    Calls Tryz.prog 20 #[.int .i64 n, .int .i64 m] w fun e w' => (∃ k : Nat, k < m ∧ e = .returned (.int .i64 k)) ∧ w' = w := by
  obtain ⟨r, hr⟩ : ∃ r, n.tmod (m : Int) = r := ⟨_, rfl⟩
  have r1 : r < (m : Int) := by rw [← hr]; exact Int.tmod_lt_of_pos _ (by omega)
  have r2 : -(m : Int) < r := by
    rw [← hr]
    have := Int.tmod_lt_of_pos (-n) (b := (m : Int)) (by omega)
    rw [Int.neg_tmod] at this
    omega
  by_cases h : r < 0
  · go_enter Tryz.func20, Tryz.ntmps20
    go_wp2
    go_ret
    exact ⟨⟨(r + m).toNat, by omega, ret_word (by omega)⟩, rfl⟩
  · go_enter Tryz.func20, Tryz.ntmps20
    go_wp2
    go_ret
    exact ⟨⟨r.toNat, by omega, ret_word (by omega)⟩, rfl⟩
end Go.Proofs.YtimciamfgpdjlaaGreat.Fx

/- What coachkeep.pairs tells, in plain numbers, and that two ways to one root are a collision (Merkle); no function of the program is spoken of. -/
namespace Go.Proofs.YtimciamfgpdjlaaGreat.Fx
open Go.RowKit

/-- The turns from the root down: is it the right one? -/
def turnF : Nat → Nat → Nat → List Bool
  | 0, _, _ => []
  | f + 1, k, m => if m ≤ 1 then [] else (if cutN m ≤ k then true :: turnF f (k - cutN m) (m - cutN m) else false :: turnF f k (cutN m))
theorem turnF_same : ∀ (f g k m : Nat), m ≤ f → m ≤ g → turnF f k m = turnF g k m
  | 0, 0, _, _, _, _ => rfl
  | 0, g + 1, k, m, h, _ => by unfold turnF; rw [if_pos (by omega)]
  | f + 1, 0, k, m, _, h => by unfold turnF; rw [if_pos (by omega)]
  | f + 1, g + 1, k, m, h1, h2 => by
    unfold turnF
    by_cases h : m ≤ 1
    · rw [if_pos h, if_pos h]
    · obtain ⟨c1, c2, c3⟩ := cutN_lt (show 2 ≤ m by omega)
      rw [if_neg h, if_neg h, turnF_same f g (k - cutN m) (m - cutN m) (by omega) (by omega), turnF_same f g k (cutN m) (by omega) (by omega)]
def turnP (k m : Nat) : List Bool := turnF m k m
theorem turnP_one {m : Nat} (h : m ≤ 1) (k : Nat) : turnP k m = [] := by
  unfold turnP
  cases m with
  | zero => rfl
  | succ m => unfold turnF; rw [if_pos h]
theorem turnP_right {k m : Nat} (h : 2 ≤ m) (hk : cutN m ≤ k) : turnP k m = true :: turnP (k - cutN m) (m - cutN m) := by
  obtain ⟨c1, c2, c3⟩ := cutN_lt h
  unfold turnP
  cases m with
  | zero => omega
  | succ m =>
    rw [turnF, if_neg (by omega), if_pos hk, turnF_same m (m + 1 - cutN (m + 1)) _ _ (by omega) (Nat.le_refl _)]
theorem turnP_left {k m : Nat} (h : 2 ≤ m) (hk : ¬ cutN m ≤ k) : turnP k m = false :: turnP k (cutN m) := by
  obtain ⟨c1, c2, c3⟩ := cutN_lt h
  unfold turnP
  cases m with
  | zero => omega
  | succ m =>
    rw [turnF, if_neg (by omega), if_neg hk, turnF_same m (cutN (m + 1)) _ _ (by omega) (Nat.le_refl _)]
theorem turnP_len : ∀ (f k m : Nat), m ≤ f → k < m → (turnP k m).length = deepP k m
  | 0, k, m, h, hk => by omega
  | f + 1, k, m, h, hk => by
    by_cases h1 : m ≤ 1
    · rw [turnP_one h1, deepP_one h1]; rfl
    · obtain ⟨c1, c2, c3⟩ := cutN_lt (show 2 ≤ m by omega)
      by_cases h2 : cutN m ≤ k
      · rw [turnP_right (by omega) h2, deepP_right (by omega) (by omega), List.length_cons, turnP_len f _ _ (by omega) (by omega)]; omega
      · rw [turnP_left (by omega) h2, deepP_left (by omega) (by omega), List.length_cons, turnP_len f _ _ (by omega) (by omega)]; omega

/-- What stands below at each height: from the leaf on, by the turns (the lowest is the last of them). -/
def nowB (ts : List Bool) (x : Int) (ps : List Int) : Nat → Int
  | 0 => x
  | j + 1 => if ts.getD (ts.length - 1 - j) false = true then ofP 3 [ps.getD j 0 % 2305843009213693951, nowB ts x ps j] else ofP 3 [nowB ts x ps j, ps.getD j 0 % 2305843009213693951]
/-- What is digested at each height. -/
def pairB (ts : List Bool) (x : Int) (ps : List Int) (j : Nat) : List Int :=
  if ts.getD (ts.length - 1 - j) false = true then [3, ps.getD j 0 % 2305843009213693951, nowB ts x ps j] else [3, nowB ts x ps j, ps.getD j 0 % 2305843009213693951]
/-- All that is digested, from the chunk to the root. -/
def allB (n : Int) (ts : List Bool) (low : List Int) (x : Int) (ps : List Int) (k : Nat) : List Int :=
  if k = 0 then 4 :: low else if k ≤ ps.length then pairB ts x ps (k - 1) else [3, n, nowB ts x ps ps.length]
def madeP (l : List Int) : Int := ofP (l.headD 0) l.tail
theorem made_pair (ts : List Bool) (x : Int) (ps : List Int) (j : Nat) : madeP (pairB ts x ps j) = nowB ts x ps (j + 1) := by
  unfold pairB
  rw [nowB]
  by_cases h : ts.getD (ts.length - 1 - j) false = true
  · rw [if_pos h, if_pos h]; rfl
  · rw [if_neg h, if_neg h]; rfl
/-- Where no two unlike lists make the same, and the same is made at the root, the chunks are the same. -/
theorem binds (n : Int) (ts : List Bool) (l1 l2 : List Int) (x1 x2 : Int) (p1 p2 : List Int) (h1 : madeP (4 :: l1) = x1) (h2 : madeP (4 :: l2) = x2) (hl : p1.length = p2.length)
    (hr : madeP [3, n, nowB ts x1 p1 p1.length] = madeP [3, n, nowB ts x2 p2 p2.length])
    (hno : ∀ k, k < p1.length + 2 → allB n ts l1 x1 p1 k = allB n ts l2 x2 p2 k ∨ madeP (allB n ts l1 x1 p1 k) ≠ madeP (allB n ts l2 x2 p2 k)) : l1 = l2 := by
  have top : nowB ts x1 p1 p1.length = nowB ts x2 p2 p2.length := by
    have h := hno (p1.length + 1) (by omega)
    have e1 : allB n ts l1 x1 p1 (p1.length + 1) = [3, n, nowB ts x1 p1 p1.length] := by unfold allB; rw [if_neg (by omega), if_neg (by omega)]
    have e2 : allB n ts l2 x2 p2 (p1.length + 1) = [3, n, nowB ts x2 p2 p2.length] := by unfold allB; rw [if_neg (by omega), if_neg (by omega)]
    rw [e1, e2] at h
    rcases h with h | h
    · simpa using h
    · exact absurd hr h
  have down : ∀ d, d ≤ p1.length → nowB ts x1 p1 (p1.length - d) = nowB ts x2 p2 (p1.length - d) := by
    intro d
    induction d with
    | zero => intro _; rw [Nat.sub_zero, top, hl]
    | succ d ih =>
      intro hd
      have ih1 := ih (by omega)
      obtain ⟨j, hj⟩ : ∃ j, p1.length - d = j + 1 := ⟨p1.length - d - 1, by omega⟩
      have hj2 : p1.length - (d + 1) = j := by omega
      rw [hj2]
      rw [hj] at ih1
      have h := hno (j + 1) (by omega)
      have e1 : allB n ts l1 x1 p1 (j + 1) = pairB ts x1 p1 j := by unfold allB; rw [if_neg (by omega), if_pos (by omega)]; rfl
      have e2 : allB n ts l2 x2 p2 (j + 1) = pairB ts x2 p2 j := by unfold allB; rw [if_neg (by omega), if_pos (by omega)]; rfl
      rw [e1, e2, made_pair, made_pair] at h
      rcases h with h | h
      · unfold pairB at h
        by_cases ht : ts.getD (ts.length - 1 - j) false = true
        · rw [if_pos ht, if_pos ht] at h
          simp only [List.cons.injEq, true_and, and_true] at h
          exact h.2
        · rw [if_neg ht, if_neg ht] at h
          simp only [List.cons.injEq, true_and, and_true] at h
          exact h.1
      · exact absurd ih1 h
  have bot := down p1.length (Nat.le_refl _)
  rw [Nat.sub_self] at bot
  have hx : x1 = x2 := bot
  have h := hno 0 (by omega)
  have e1 : allB n ts l1 x1 p1 0 = 4 :: l1 := by unfold allB; rw [if_pos rfl]
  have e2 : allB n ts l2 x2 p2 0 = 4 :: l2 := by unfold allB; rw [if_pos rfl]
  rw [e1, e2, h1, h2] at h
  rcases h with h | h
  · simpa using h
  · exact absurd hx h
/-- A digest takes its numbers by P. -/
theorem ofTo_mod (kind : Int) (l1 l2 : List Int) (hl : l1.length = l2.length) : ∀ k, (∀ i, i < k → l1.getD i 0 % 2305843009213693951 = l2.getD i 0 % 2305843009213693951) → ofTo kind l1 k = ofTo kind l2 k
  | 0, _ => by unfold ofTo; rw [hl]
  | k + 1, h => by
    have ih := ofTo_mod kind l1 l2 hl k (fun i hi => h i (by omega))
    have e : ∀ a, addP a (l1.getD k 0) = addP a (l2.getD k 0) := fun a => by rw [← addP_mod a (l1.getD k 0), h k (by omega), addP_mod]
    rw [ofTo, ofTo, ih, e]
theorem ofP_two_mod (kind a b c d : Int) (h1 : a % 2305843009213693951 = c % 2305843009213693951) (h2 : b % 2305843009213693951 = d % 2305843009213693951) : ofP kind [a, b] = ofP kind [c, d] := by
  unfold ofP
  rw [show ([a, b] : List Int).length = 2 from rfl, show ([c, d] : List Int).length = 2 from rfl]
  rw [ofTo_mod kind [a, b] [c, d] rfl 2 (fun i hi => by
    rcases (show i = 0 ∨ i = 1 by omega) with rfl | rfl
    · exact h1
    · exact h2)]
theorem now_tail (t : Bool) (ts : List Bool) (x : Int) (ps : List Int) : ∀ j, j ≤ ts.length → nowB (t :: ts) x ps j = nowB ts x (ps.take ts.length) j
  | 0, _ => rfl
  | j + 1, h => by
    have ih := now_tail t ts x ps j (by omega)
    have e1 : (t :: ts).getD ((t :: ts).length - 1 - j) false = ts.getD (ts.length - 1 - j) false := by
      rw [List.length_cons, show ts.length + 1 - 1 - j = (ts.length - 1 - j) + 1 by omega]
      rfl
    have e2 : (ps.take ts.length).getD j 0 = ps.getD j 0 := by
      rw [List.getD_eq_getElem?_getD, List.getElem?_take_of_lt (by omega), ← List.getD_eq_getElem?_getD]
    rw [nowB, nowB, ih, e1, e2]
/-- By the turns one comes to the top of the tree. -/
theorem now_up : ∀ (f i m : Nat) (x : Int) (ps : List Int), m ≤ f → i < m → ps.length = deepP i m → nowB (turnP i m) x ps ps.length = upP i m x ps
  | 0, i, m, x, ps, h, hi, _ => by omega
  | f + 1, i, m, x, ps, h, hi, hp => by
    by_cases h1 : m ≤ 1
    · rw [deepP_one h1] at hp
      rw [hp, upP_one h1]; rfl
    · obtain ⟨c1, c2, c3⟩ := cutN_lt (show 2 ≤ m by omega)
      by_cases h2 : cutN m ≤ i
      · have hd := deepP_right (i := i) (n := m) (by omega) (by omega)
        have hl := turnP_len f (i - cutN m) (m - cutN m) (by omega) (by omega)
        obtain ⟨L, hL⟩ : ∃ L, ps.length = L + 1 := ⟨deepP (i - cutN m) (m - cutN m), by omega⟩
        have hLt : (turnP (i - cutN m) (m - cutN m)).length = L := by omega
        have hpl : (ps.take L).length = L := by rw [List.length_take]; omega
        have ih := now_up f (i - cutN m) (m - cutN m) x (ps.take L) (by omega) (by omega) (by omega)
        rw [hpl] at ih
        rw [turnP_right (by omega) h2, hL, upP_right (by omega) (by omega), hL, Nat.add_sub_cancel, nowB, now_tail true _ x ps L (by omega), hLt, ih]
        rw [if_pos (by rw [List.length_cons, hLt, show L + 1 - 1 - L = 0 by omega]; rfl)]
        exact ofP_two_mod 3 _ _ _ _ (by omega) rfl
      · have hd := deepP_left (i := i) (n := m) (by omega) (by omega)
        have hl := turnP_len f i (cutN m) (by omega) (by omega)
        obtain ⟨L, hL⟩ : ∃ L, ps.length = L + 1 := ⟨deepP i (cutN m), by omega⟩
        have hLt : (turnP i (cutN m)).length = L := by omega
        have hpl : (ps.take L).length = L := by rw [List.length_take]; omega
        have ih := now_up f i (cutN m) x (ps.take L) (by omega) (by omega) (by omega)
        rw [hpl] at ih
        rw [turnP_left (by omega) h2, hL, upP_left (by omega) (by omega), hL, Nat.add_sub_cancel, nowB, now_tail false _ x ps L (by omega), hLt, ih]
        rw [if_neg (by rw [List.length_cons, hLt, show L + 1 - 1 - L = 0 by omega]; exact Bool.false_ne_true)]
        exact ofP_two_mod 3 _ _ _ _ rfl (by omega)
end Go.Proofs.YtimciamfgpdjlaaGreat.Fx

/- What a record's chain is made of, by P; that chains which come to one are of the same numbers, or somewhere unlike lists make the same. No function of the program is spoken of. -/
namespace Go.Proofs.YtimciamfgpdjlaaGreat.Fx
open Go.RowKit

def restP (x : Int) : Int := x % 2305843009213693951
def wordsP (before step rate root : Int) (bs : List Int) : List Int := [restP before, restP step, restP rate, restP root, (bs.length : Int)] ++ bs.map restP
theorem restP_ok (x : Int) : okP (restP x) := by unfold okP restP; omega
theorem restP_same {x : Int} (h : okP x) : restP x = x := by unfold restP; exact Int.emod_eq_of_lt h.1 h.2
theorem ofP_mod (kind : Int) (l1 l2 : List Int) (hl : l1.length = l2.length) (h : ∀ i, i < l1.length → l1.getD i 0 % 2305843009213693951 = l2.getD i 0 % 2305843009213693951) : ofP kind l1 = ofP kind l2 := by
  unfold ofP
  rw [← hl, ofTo_mod kind l1 l2 hl l1.length h]
theorem words_chain (before step rate root : Int) (bs : List Int) : ofP 6 (wordsP before step rate root bs) = chainP before step rate root bs := by
  unfold chainP
  refine ofP_mod 6 _ _ (by unfold wordsP chainL; simp) (fun i hi => ?_)
  unfold wordsP chainL restP
  rcases Nat.lt_or_ge i 5 with h5 | h5
  · rcases (show i = 0 ∨ i = 1 ∨ i = 2 ∨ i = 3 ∨ i = 4 by omega) with rfl | rfl | rfl | rfl | rfl <;> simp [Int.emod_emod_of_dvd]
  · rw [List.getD_eq_getElem?_getD, List.getD_eq_getElem?_getD, List.getElem?_append_right (by simpa using h5), List.getElem?_append_right (by simpa using h5), List.getElem?_map]
    cases e : bs[i - [before, step, rate, root, (bs.length : Int)].length]? with
    | none => simp
    | some x => simp
theorem wordsP_tail {b1 s1 r1 t1 b2 s2 r2 t2 : Int} {l1 l2 : List Int} (h : wordsP b1 s1 r1 t1 l1 = wordsP b2 s2 r2 t2 l2) (b : Int) : restP b1 = restP b2 ∧ wordsP b s1 r1 t1 l1 = wordsP b s2 r2 t2 l2 := by
  unfold wordsP at h ⊢
  simp only [List.cons_append, List.nil_append, List.cons.injEq] at h ⊢
  exact ⟨h.1, trivial, h.2⟩
/-- Chains from one head (below P) that come to one, with no two unlike lists that make the same: all the lists are the same. -/
theorem chains_bind (n : Nat) (U V : Nat → List Int) (x y : Nat → Int) (hUV : ∀ i, i < n → U i = V i → restP (x i) = restP (y i)) (hxP : ∀ i, i ≤ n → okP (x i)) (hyP : ∀ i, i ≤ n → okP (y i))
    (hlast : x n = y n) (hno : ∀ i, i < n → U i = V i ∨ x (i + 1) ≠ y (i + 1)) : ∀ i, i < n → U i = V i := by
  have down : ∀ d, d ≤ n → x (n - d) = y (n - d) := by
    intro d
    induction d with
    | zero => intro _; exact hlast
    | succ d ih =>
      intro hd
      have ih1 := ih (by omega)
      obtain ⟨j, hj⟩ : ∃ j, n - d = j + 1 := ⟨n - d - 1, by omega⟩
      have hj2 : n - (d + 1) = j := by omega
      rw [hj2]
      rw [hj] at ih1
      rcases hno j (by omega) with h | h
      · have := hUV j (by omega) h
        rw [restP_same (hxP j (by omega)), restP_same (hyP j (by omega))] at this
        exact this
      · exact absurd ih1 h
  intro i hi
  rcases hno i hi with h | h
  · exact h
  · have e := down (n - (i + 1)) (by omega)
    rw [show n - (n - (i + 1)) = i + 1 by omega] at e
    exact absurd e h
end Go.Proofs.YtimciamfgpdjlaaGreat.Fx

/- What coachtop.words returns: what a record's chain is made of, by P. -/
namespace Go.Proofs.YtimciamfgpdjlaaGreat.Fx
open Go.RowKit

set_option maxRecDepth 100000 in
set_option maxHeartbeats 1600000 in
theorem words_calls (before : Int) (hbf : okW before) (x : Rcm) (bs : List Int) (w : World) (l : Lst w x.a x.n x.k bs) (hs : 0 ≤ x.s ∧ x.s ≤ 9223372036854775807) (hr : 0 ≤ x.r ∧ x.r ≤ 9223372036854775807) (hroot : okW x.root) (h8 : x.n ≤ 8) (hbs : ∀ j, j < x.n → 0 ≤ bs.getD j 0 ∧ bs.getD j 0 ≤ 9223372036854775807) :
    Calls Tryz.prog 99 #[.int .u64 before, x.val] w fun e w' => ∃ a c, e = .returned (.slice a (5 + x.n) c) ∧ LstW w' a (5 + x.n) c (wordsP before x.s x.r x.root bs) ∧ Below w.heap.size w w' := by
  have hal := low_alloc w (.cells x.cells 30)
  have l' := l.below hal (Nat.le_refl _)
  have hlen := l.len
  have row := fn5_alloc w (.int .i64 x.s) (.slice x.a x.n x.k) (.int .i64 x.r) (.int .u64 x.root) (.int .u64 x.chain) 30
  obtain ⟨s, a, n, k, r, root, chain⟩ := x
  simp only [Rcm.val, Rcm.cells] at *
  obtain ⟨s0, s1⟩ := hs
  obtain ⟨r0, r1⟩ := hr
  obtain ⟨bf0, bf1⟩ := hbf
  obtain ⟨rt0, rt1⟩ := hroot
  have HBS : Hid (∀ j, j < n → 0 ≤ bs.getD j 0 ∧ bs.getD j 0 ≤ 9223372036854775807) := hbs
  obtain ⟨MB, HMB⟩ : ∃ t, Hid (before % 2305843009213693951 = t) := ⟨_, rfl⟩
  obtain ⟨MS, HMS⟩ : ∃ t, Hid (s % 2305843009213693951 = t) := ⟨_, rfl⟩
  obtain ⟨MR, HMR⟩ : ∃ t, Hid (r % 2305843009213693951 = t) := ⟨_, rfl⟩
  obtain ⟨MT, HMT⟩ : ∃ t, Hid (root % 2305843009213693951 = t) := ⟨_, rfl⟩
  have tb : before.tmod 2305843009213693951 = MB := by rw [← HMB.out, Int.tmod_eq_emod_of_nonneg bf0]
  have ts : s.tmod 2305843009213693951 = MS := by rw [← HMS.out, Int.tmod_eq_emod_of_nonneg s0]
  have tr : r.tmod 2305843009213693951 = MR := by rw [← HMR.out, Int.tmod_eq_emod_of_nonneg r0]
  have tt : root.tmod 2305843009213693951 = MT := by rw [← HMT.out, Int.tmod_eq_emod_of_nonneg rt0]
  have eb : before % 2305843009213693951 = MB := HMB.out
  have es : s % 2305843009213693951 = MS := HMS.out
  have er : r % 2305843009213693951 = MR := HMR.out
  have et : root % 2305843009213693951 = MT := HMT.out
  have HWD : Hid (wordsP before s r root bs = [MB, MS, MR, MT, (n : Int)] ++ bs.map restP) := by
    show wordsP before s r root bs = _
    unfold wordsP restP
    rw [HMB.out, HMS.out, HMR.out, HMT.out, hlen]
  rw [HWD.out]
  obtain ⟨W, HW⟩ : ∃ q, Hid (q = w.alloc (.cells #[.int .i64 s, .slice a n k, .int .i64 r, .int .u64 root, .int .u64 chain] 30)) := ⟨_, rfl⟩
  rw [← HW.out] at hal l' row
  obtain ⟨c0, c1, c2, c3, c4⟩ := fn5_box row
  have own0 := OwnW.lit W [MB, MS, MR, MT, (n : Int)] (by simp)
  have hl0 := low_alloc W (.cells #[.int .u64 MB, .int .u64 MS, .int .u64 MR, .int .u64 MT, .int .u64 (n : Int)] 22)
  have cb := (hl0.cell (p := ⟨w.heap.size, 1, none⟩) row.lt).trans c1
  have hlt0 := row.lt
  clear hbs l HWD HMB HMS HMR HMT
  go_enter Tryz.func99, Tryz.ntmps99
  go_upto_region 1 with fail
  rw [← HW.out]
  clear HW
  go_wp2_with fail
  go_loopw [5, 29] (fun v i wr => ∃ j : Nat, j ≤ n ∧ i = .int .i64 j ∧ OwnW W.heap.size wr v ([MB, MS, MR, MT, (n : Int)] ++ (bs.take j).map restP) ∧ Below W.heap.size W wr) (fun _ i _ => n - (intOf i).toNat)
  case atStart => exact ⟨0, Nat.zero_le _, rfl, by simpa using own0, hl0⟩
  case round =>
    clear own0 hl0 c0 c1 c2 c3 c4 cb
    obtain ⟨j, hj, rfl, hown, hbel⟩ := hrel
    have hsz := hbel.size
    by_cases hlt : j < n
    · obtain ⟨b1, o1, y, rfl, _, c5, HX⟩ := l'.at1b hbel (Nat.le_refl _) hlt
      have hy := HBS.out j hlt
      rw [HX.out] at hy
      obtain ⟨y0, y1⟩ := hy
      obtain ⟨YM, HYM⟩ : ∃ t, Hid (y % 2305843009213693951 = t) := ⟨_, rfl⟩
      have ty : y.tmod 2305843009213693951 = YM := by rw [← HYM.out, Int.tmod_eq_emod_of_nonneg y0]
      have ey : y % 2305843009213693951 = YM := HYM.out
      have hl2 : ([MB, MS, MR, MT, (n : Int)] ++ (bs.take j).map restP).length = 5 + j := by simp; omega
      have al1 := hown.below (low_alloc wr (.cells #[.int .u64 YM] 22))
      have bl1 := hbel.alloc hbel.size (.cells #[.int .u64 YM] 22)
      have cn := cell_new wr (.int .u64 YM) 22
      have HH : Hid (wr.heap.size + 1 = (wr.alloc (.cells #[.int .u64 YM] 22)).heap.size) := by show _ = _; simp
      have HSN : Hid ((bs.take j).map restP ++ [YM] = (bs.take (j + 1)).map restP) := by
        show _ = _
        rw [← take_snocI (by omega) HX.out, List.map_append, List.map_cons, List.map_nil]
        unfold restP
        rw [HYM.out]
      clear HYM
      go_wp2_with (at_builtin; refine wpList_append_word (by rfl) _ _ (by rfl) W.heap.size _ ([MB, MS, MR, MT, (n : Int)] ++ (bs.take j).map restP) YM wr.heap.size W (by rfl) (by rfl) (by exact al1) (by exact cn) (by rw [hl2]; omega) (by exact bl1.size) (by exact bl1) ?_; intro v1 w2 hown1 hbel1)
      go_roundw
      case rel => exact ⟨j + 1, by omega, by go_num, hown1.congr (by rw [List.append_assoc, HSN.out]), hbel1⟩
      case measure => simp [intOf]; omega
    · obtain rfl : j = n := by omega
      obtain ⟨av, cv, rfl, lw⟩ := hown.lst' (n := 5 + j) (by simp; omega)
      rw [List.take_of_length_le (show bs.length ≤ j by omega)] at lw
      go_wp2_with fail
      go_ret
      exact ⟨av, cv, rfl, lw, hal.trans (hbel.mono hal.size)⟩
end Go.Proofs.YtimciamfgpdjlaaGreat.Fx
