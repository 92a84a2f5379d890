/- What coachtop.said returns: a small course is kept, and a bent journal told. -/
import Derived.Test.YtkikhfdkibekgaaGreatJ22
import Derived.Test.YtkikhfdkibekgaaGreatJ24
import Derived.Test.YtkikhfdkibekgaaGreatJ21
import Derived.Test.YtkikhfdkibekgaaGreatJ23
import Derived.Test.YtkikhfdkibekgaaGreatJ09
import Derived.Test.YtkikhfdkibekgaaGreatJ08
import Derived.Test.YtkikhfdkibekgaaGreatJ01
import Derived.Test.YtkikhfdkibekgaaGreatJ15
import Derived.Test.YtkikhfdkibekgaaGreatJ07
import Derived.Test.YtkikhfdkibekgaaGreatJ12
namespace Go.Proofs.YtkikhfdkibekgaaGreat.Fx
open Go.RowKit

def rateR (x : Rcm) (r : Int) : Rcm := ⟨x.s, x.a, x.n, x.k, r, x.root, x.chain⟩
theorem rcsR_rate {w : World} {b t n K N : Nat} {R : Nat → Rcm} (h : w.rowIs b t n (rcsR R N)) (r : Int) (hK : K < N) : (w.setCell ⟨b, K * 5 + 2, none⟩ (.int .i64 r)).rowIs b t n (rcsR (bentR R K (rateR (R K) r)) N) := by
  refine (h.set (K * 5 + 2) (.int .i64 r)).congr (fun i hi => ?_)
  unfold rcsR
  by_cases h0 : i < N * 5
  · rw [if_pos h0]
    by_cases e : i / 5 = K
    · have hb : bentR R K (rateR (R K) r) (i / 5) = rateR (R K) r := by unfold bentR; rw [if_pos e]
      rw [hb, if_pos h0, e]
      rcases lt5 (Nat.mod_lt i (show 0 < 5 by omega)) with hm | hm | hm | hm | hm
      · rw [if_neg (by omega), hm]; rfl
      · rw [if_neg (by omega), hm]; rfl
      · rw [if_pos (by omega), hm]; rfl
      · rw [if_neg (by omega), hm]; rfl
      · rw [if_neg (by omega), hm]; rfl
    · have hb : bentR R K (rateR (R K) r) (i / 5) = R (i / 5) := by unfold bentR; rw [if_neg e]
      rw [hb, if_neg (by omega), if_pos h0]
  · rw [if_neg h0, if_neg (by omega), if_neg h0]
theorem small_rate : mkRV smallC 1 = 6554 := by decide +kernel

set_option maxRecDepth 100000 in
set_option maxHeartbeats 1600000 in
theorem said_calls (w : World) : Calls Tryz.prog 4 #[] w fun e w' => e = .returned (.bool true) ∧ Below w.heap.size w w' := by
  have h0 := low_alloc w (.cells smallC.cells 24)
  obtain ⟨v0, H0⟩ : ∃ q, Hid (q = w.alloc (.cells smallC.cells 24)) := ⟨_, rfl⟩
  have hs0 : v0.heap.size = w.heap.size + 1 := by rw [H0.out]; simp
  rw [← H0.out] at h0
  have h1 := low_alloc v0 (.cells #[.int .i64 65536] 3)
  have l1 := one_lst v0 65536 3
  obtain ⟨v1, H1⟩ : ∃ q, Hid (q = v0.alloc (.cells #[.int .i64 65536] 3)) := ⟨_, rfl⟩
  have hs1 : v1.heap.size = w.heap.size + 1 + 1 := by rw [H1.out]; simp [hs0]
  rw [← H1.out] at h1 l1
  have h2 := low_alloc v1 (.cells #[.int .i64 131072] 3)
  have l2 := one_lst v1 131072 3
  obtain ⟨v2, H2⟩ : ∃ q, Hid (q = v1.alloc (.cells #[.int .i64 131072] 3)) := ⟨_, rfl⟩
  have hs2 : v2.heap.size = w.heap.size + 1 + 1 + 1 := by rw [H2.out]; simp [hs1]
  rw [← H2.out] at h2 l2
  rw [hs0] at l1
  rw [hs1] at l2
  have h3 := low_alloc v2 (.cells #[.slice (some ⟨w.heap.size + 1, 0, none⟩) 1 1, .slice (some ⟨w.heap.size + 1 + 1, 0, none⟩) 1 1] 51)
  have row := fn2_alloc v2 (.slice (some ⟨w.heap.size + 1, 0, none⟩) 1 1) (.slice (some ⟨w.heap.size + 1 + 1, 0, none⟩) 1 1) 51
  obtain ⟨v3, H3⟩ : ∃ q, Hid (q = v2.alloc (.cells #[.slice (some ⟨w.heap.size + 1, 0, none⟩) 1 1, .slice (some ⟨w.heap.size + 1 + 1, 0, none⟩) 1 1] 51)) := ⟨_, rfl⟩
  rw [← H3.out] at h3 row
  rw [hs2] at row
  have b1 := h0.trans (h1.mono h0.size)
  have b2 := b1.trans (h2.mono b1.size)
  have b3 := b2.trans (h3.mono b2.size)
  have k1 := h1.trans ((h2.trans (h3.mono h2.size)).mono h1.size)
  have kc : BoxC v3 w.heap.size smallC := by
    rw [H0.out] at k1
    exact boxC k1 (by simp)
  have l1' := (l1.below h2 (Nat.le_refl _)).below h3 (Nat.le_refl _)
  have l2' := l2.below h3 (Nat.le_refl _)
  have hcl := fn2_cells row
  have hlt := row.lt
  have hx : Exs v3 (some ⟨w.heap.size + 1 + 1 + 1, 0, none⟩) 1 1 (fun _ => ⟨some ⟨w.heap.size + 1, 0, none⟩, 1, 1, some ⟨w.heap.size + 1 + 1, 0, none⟩, 1, 1⟩) smallI smallO := by
    refine ⟨Nat.le_refl _, .inr ⟨_, _, rfl, hlt, fun i hi => ?_⟩⟩
    obtain rfl : i = 0 := by omega
    exact ⟨hcl.1, hcl.2, ⟨l1', l2'⟩⟩
  have hco : courseI smallC 1 (fun _ => ⟨some ⟨w.heap.size + 1, 0, none⟩, 1, 1, some ⟨w.heap.size + 1 + 1, 0, none⟩, 1, 1⟩) smallI smallO = 0 := small_course rfl rfl
  have hs : okW smallC.seed := ⟨by decide, by decide⟩
  have KB : Hid (∀ q, Below v3.heap.size v3 q → BoxC q w.heap.size smallC) := fun q hq => by
    have k : ∀ i, q.cell? ⟨w.heap.size, i, none⟩ = v3.cell? ⟨w.heap.size, i, none⟩ := fun i => hq.cell (p := ⟨w.heap.size, i, none⟩) (by show w.heap.size < _; omega)
    exact ⟨(k 0).trans kc.c0, (k 1).trans kc.c1, (k 2).trans kc.c2, (k 3).trans kc.c3, (k 4).trans kc.c4, (k 5).trans kc.c5, (k 6).trans kc.c6, (k 7).trans kc.c7, (k 8).trans kc.c8, (k 9).trans kc.c9, (k 10).trans kc.c10⟩
  have MK : Calls Tryz.prog 7 #[.agg #[.int .i64 1, .int .i64 1, .int .i64 1, .int .u64 1, .int .i64 1, .int .i64 3, .int .i64 6554, .int .i64 0, .int .i64 0, .int .i64 0, .int .i64 0], .slice (some ⟨w.heap.size + 1 + 1 + 1, 0, none⟩) 1 1, .int .i64 3] v3 fun e w' => ∃ g R, e = .returned (.tuple #[.slice (some ⟨g, 0, none⟩) 3 3, .int .i64 0]) ∧ v3.heap.size ≤ g ∧ w'.rowIs g 30 (3 * 5) (rcsR R 3) ∧ JrIn w' g v3.heap.size 1 3 R (jrG smallC 1) ∧ JrN 3 R (mkRV smallC) (mkRO smallC 1 smallI smallO) (mkCH smallC 1 smallI smallO) ∧ Below v3.heap.size v3 w' := jMake_good smallC _ 1 1 _ smallI smallO 3 v3 hs hx hco (by decide)
  have HWO : Hid (∀ (q : World) (g : Nat) (R : Nat → Rcm), Below v3.heap.size v3 q → q.rowIs g 30 (3 * 5) (rcsR R 3) → JrIn q g v3.heap.size 1 3 R (jrG smallC 1) → JrN 3 R (mkRV smallC) (mkRO smallC 1 smallI smallO) (mkCH smallC 1 smallI smallO) → Calls Tryz.prog 8 #[.agg #[.int .i64 1, .int .i64 1, .int .i64 1, .int .u64 1, .int .i64 1, .int .i64 3, .int .i64 6554, .int .i64 0, .int .i64 0, .int .i64 0, .int .i64 0], .slice (some ⟨w.heap.size + 1 + 1 + 1, 0, none⟩) 1 1, .slice (some ⟨g, 0, none⟩) 3 3] q fun e w' => e = .returned (.tuple #[.int .i64 3, .int .i64 0]) ∧ Below q.heap.size q w') := fun q g R hq hr hj hJ => whole_own smallC hs _ 1 1 _ smallI smallO _ 3 3 R q (hx.below hq (Nat.le_refl _)) (recs_of hr hj) (fun j hj2 => by have := (hj j hj2).1; omega) hco (by decide) hJ
  have HWB : Hid (∀ (q : World) (g : Nat) (R : Nat → Rcm), Below v3.heap.size v3 q → q.rowIs g 30 (3 * 5) (rcsR (bentR R 1 (rateR (R 1) 6555)) 3) → JrIn q g v3.heap.size 1 3 R (jrG smallC 1) → JrN 3 R (mkRV smallC) (mkRO smallC 1 smallI smallO) (mkCH smallC 1 smallI smallO) → Calls Tryz.prog 8 #[.agg #[.int .i64 1, .int .i64 1, .int .i64 1, .int .u64 1, .int .i64 1, .int .i64 3, .int .i64 6554, .int .i64 0, .int .i64 0, .int .i64 0, .int .i64 0], .slice (some ⟨w.heap.size + 1 + 1 + 1, 0, none⟩) 1 1, .slice (some ⟨g, 0, none⟩) 3 3] q fun e w' => e = .returned (.tuple #[.int .i64 1, .int .i64 0]) ∧ Below q.heap.size q w') := fun q g R hq hr hj hJ => by
    obtain ⟨x1, x2, bg, x3, _, _, x6⟩ := hj 1 (by omega)
    have hl : Lst q (rateR (R 1) 6555).a (rateR (R 1) 6555).n (rateR (R 1) 6555).k (jrBatch smallC 1 1) := by
      show Lst q (R 1).a (R 1).n (R 1).k _
      rw [x1, x2, x3]
      exact x6.lst
    have h := whole_good smallC hs _ 1 1 _ smallI smallO _ 3 3 _ _ q (hx.below hq (Nat.le_refl _)) (recs_bent hr hj hl) (fun j hj2 => by
      unfold bentR
      by_cases e : j = 1
      · rw [if_pos e]; show (R 1).n ≤ _; omega
      · rw [if_neg e]; have := (hj j hj2).1; omega) hco (by decide)
    have e := first_bent hJ (rateR (R 1) 6555) (jrBatch smallC 1 1) (K := 1) (by omega)
    have hrb : recB (rateR (R 1) 6555) (R 1) (jrBatch smallC 1 1) (jrBatch smallC 1 1) = false := by
      unfold recB likeB
      have hr1 : (R 1).r = 6554 := by rw [(hJ 1 (by omega)).2.1]; exact small_rate
      have : ¬ (rateR (R 1) 6555).r = (R 1).r := by rw [hr1]; show ¬ (6555 : Int) = 6554; decide
      rw [decide_eq_false this]
      simp
    rw [hrb] at e
    rw [if_neg (by decide)] at e
    have e2 : firstNo (auB smallC 1 smallI smallO (bentR R 1 (rateR (R 1) 6555)) (bentD (fun k => (List.range 1).map (jrG smallC 1 k)) 1 (jrBatch smallC 1 1))) 3 = 1 := e
    rw [e2] at h
    exact h
  have HR1 : Hid (∀ R : Nat → Rcm, JrN 3 R (mkRV smallC) (mkRO smallC 1 smallI smallO) (mkCH smallC 1 smallI smallO) → (R 1).r = 6554) := fun R hJ => by rw [(hJ 1 (by omega)).2.1]; exact small_rate
  clear l1 l2 h0 h1 h2 h3 b1 b2 k1 hs1 hs0 hs2 l1' l2' hcl row hx hco hs hlt
  generalize jrG smallC 1 = DG at *
  generalize mkRV smallC = RV at *
  generalize mkRO smallC 1 smallI smallO = RO at *
  generalize mkCH smallC 1 smallI smallO = CH at *
  obtain ⟨c0, c1, c2, c3, c4, c5, c6, c7, c8, c9, c10⟩ := kc
  simp only [smallC, Cfg.cells] at *
  go_enter Tryz.func4, Tryz.ntmps4
  go_wp2_with fail
  rw [← H0.out, ← H1.out, ← H2.out, ← H3.out]
  clear H0 H1 H2 H3
  refine MK.mono ?_
  rintro e w4 ⟨g, R, rfl, hg, rrow, hji, hjn, hw4⟩
  have HJI : Hid (JrIn w4 g v3.heap.size 1 3 R DG) := hji
  have HJN : Hid (JrN 3 R RV RO CH) := hjn
  have WO := HWO.out w4 g R hw4 rrow hji hjn
  clear MK HWO hji hjn c0 c1 c2 c3 c4 c5 c6 c7 c8 c9 c10
  obtain ⟨c0, c1, c2, c3, c4, c5, c6, c7, c8, c9, c10⟩ := KB.out _ hw4
  dsimp only at c0 c1 c2 c3 c4 c5 c6 c7 c8 c9 c10
  go_wp2_with fail
  refine WO.mono ?_
  rintro e w5 ⟨rfl, hw5⟩
  have T5 := hw4.trans (hw5.mono hw4.size)
  have rrow5 := rrow.of_block (hw5.block _ rrow.lt)
  have HJI5 : Hid (JrIn w5 g v3.heap.size 1 3 R DG) := HJI.out.below hw5
  have r7 : w5.cell? ⟨g, 7, none⟩ = some (.int .i64 6554) := by
    have h := rcsR_cell rrow5 (j := 1) (by omega) (Nat.le_refl _) (i := 2) (by omega)
    have e : recC (R 1) 2 = .int .i64 6554 := by show Value.int .i64 (R 1).r = _; rw [HR1.out R HJN.out]
    rw [e] at h
    exact h
  have f7 := rrow5.frozen 7
  have T6 : Below v3.heap.size v3 (w5.setCell ⟨g, 7, none⟩ (.int .i64 6555)) := T5.setCell hg _
  have WB := HWB.out (w5.setCell ⟨g, 7, none⟩ (.int .i64 6555)) g R T6 (rcsR_rate rrow5 (K := 1) 6555 (by omega)) (HJI5.out.setO _ _) HJN.out
  clear WO HWB HJI HJI5 HJN HR1 rrow rrow5 c0 c1 c2 c3 c4 c5 c6 c7 c8 c9 c10
  obtain ⟨c0, c1, c2, c3, c4, c5, c6, c7, c8, c9, c10⟩ := KB.out _ T6
  dsimp only at c0 c1 c2 c3 c4 c5 c6 c7 c8 c9 c10
  have hT6 := b3.trans (T6.mono b3.size)
  go_wp2_with fail
  refine WB.mono ?_
  rintro e w7 ⟨rfl, hw7⟩
  go_wp2_with fail
  go_ret
  exact ⟨rfl, hT6.trans (hw7.mono hT6.size)⟩
end Go.Proofs.YtkikhfdkibekgaaGreat.Fx

/- What audit.Judge returns, whatever is handed in. -/
namespace Go.Proofs.YtkikhfdkibekgaaGreat.Fx
open Go.RowKit

def jdN (E : Int) (qa qb : Bool) : Int := if E = 0 then (if qa = true then 1 else 0) + (if qb = true then 2 else 0) else 0

structure JdBox (w : World) (c : Cfg) (v0 v1 : Value) (x y : Rcm) (wr : World) : Prop where
  cfg : BoxC wr w.heap.size c
  st : wr.rowIs (w.heap.size + 1) 28 2 (fn2 v0 v1)
  ra : wr.rowIs (w.heap.size + 1 + 1) 30 5 (fn5 (.int .i64 x.s) (.slice x.a x.n x.k) (.int .i64 x.r) (.int .u64 x.root) (.int .u64 x.chain))
  rb : wr.rowIs (w.heap.size + 1 + 1 + 1) 30 5 (fn5 (.int .i64 y.s) (.slice y.a y.n y.k) (.int .i64 y.r) (.int .u64 y.root) (.int .u64 y.chain))
  bel : Below w.heap.size w wr
theorem JdBox.start (w : World) (c : Cfg) (v0 v1 : Value) (x y : Rcm) : JdBox w c v0 v1 x y ((((w.alloc (.cells c.cells 24)).alloc (.cells #[v0, v1] 28)).alloc (.cells x.cells 30)).alloc (.cells y.cells 30)) := by
  refine ⟨?_, ?_, ?_, ?_, ((((Below.refl w.heap.size w).alloc (Nat.le_refl _) _).alloc (by simp) _).alloc (by simp; omega) _).alloc (by simp; omega) _⟩
  · exact boxC (B := w.heap.size + 1) ((((Below.refl _ _).alloc (by simp) _).alloc (by simp) _).alloc (by simp) _) (by omega)
  · have h := ((fn2_alloc (w.alloc (.cells c.cells 24)) v0 v1 28).alloc (.cells x.cells 30)).alloc (.cells y.cells 30)
    simpa using h
  · have h := (fn5_alloc ((w.alloc (.cells c.cells 24)).alloc (.cells #[v0, v1] 28)) (.int .i64 x.s) (.slice x.a x.n x.k) (.int .i64 x.r) (.int .u64 x.root) (.int .u64 x.chain) 30).alloc (.cells y.cells 30)
    simpa [Rcm.cells] using h
  · have h := fn5_alloc (((w.alloc (.cells c.cells 24)).alloc (.cells #[v0, v1] 28)).alloc (.cells x.cells 30)) (.int .i64 y.s) (.slice y.a y.n y.k) (.int .i64 y.r) (.int .u64 y.root) (.int .u64 y.chain) 30
    simpa [Rcm.cells] using h
theorem JdBox.below {w : World} {c : Cfg} {v0 v1 : Value} {x y : Rcm} {wr w2 : World} (h : JdBox w c v0 v1 x y wr) (hb : Below wr.heap.size wr w2) : JdBox w c v0 v1 x y w2 := by
  have l2 := h.rb.lt
  have k : ∀ i, w2.cell? ⟨w.heap.size, i, none⟩ = wr.cell? ⟨w.heap.size, i, none⟩ := fun i => hb.cell (p := ⟨w.heap.size, i, none⟩) (by show w.heap.size < _; omega)
  exact ⟨⟨(k 0).trans h.cfg.c0, (k 1).trans h.cfg.c1, (k 2).trans h.cfg.c2, (k 3).trans h.cfg.c3, (k 4).trans h.cfg.c4, (k 5).trans h.cfg.c5, (k 6).trans h.cfg.c6, (k 7).trans h.cfg.c7, (k 8).trans h.cfg.c8, (k 9).trans h.cfg.c9, (k 10).trans h.cfg.c10⟩,
    h.st.of_block (hb.block _ (by omega)), h.ra.of_block (hb.block _ (by omega)), h.rb.of_block (hb.block _ l2), h.bel.trans (hb.mono h.bel.size)⟩

set_option maxRecDepth 100000 in
set_option maxHeartbeats 1600000 in
theorem judge_good (c : Cfg) (hs : okW c.seed) (a : Option Addr) (n cap : Nat) (X : Nat → Exm) (DI DO : Nat → List Int) (a1 : Option Addr) (n1 k1 : Nat) (ws : List Int) (a2 : Option Addr) (n2 k2 : Nat) (ms : List Int) (step : Int) (x y : Rcm) (xs ys : List Int) (w : World) (hx : Exs w a n cap X DI DO) (l1 : Lst w a1 n1 k1 ws) (l2 : Lst w a2 n2 k2 ms) (lx : Lst w x.a x.n x.k xs) (ly : Lst w y.a y.n y.k ys) (hx1 : x.n ≤ 9223372036854775807) (hy1 : y.n ≤ 9223372036854775807) (hz : nextE c n X DI DO n1 ws n2 ms step = 0) :
    Calls Tryz.prog 23 #[c.val, .slice a n cap, .agg #[.slice a1 n1 k1, .slice a2 n2 k2], .int .i64 step, x.val, y.val] w fun e w' => e = .returned (.tuple #[.int .i64 (jdN 0 (jgB c n X DI DO n1 ws n2 ms step x xs) (jgB c n X DI DO n1 ws n2 ms step y ys)), .int .i64 0]) ∧ Below w.heap.size w w' := by
  have jb0 := JdBox.start w c (.slice a1 n1 k1) (.slice a2 n2 k2) x y
  have RD := redo_good c hs a n cap X DI DO a1 n1 k1 ws a2 n2 k2 ms step _ (hx.below jb0.bel (Nat.le_refl _)) (l1.below jb0.bel (Nat.le_refl _)) (l2.below jb0.bel (Nat.le_refl _)) hz
  have HSA : Hid (∀ (r : Rcm) q, Below w.heap.size w q → r.s = step → r.r = nxR c n X DI DO n1 ws n2 ms step → r.root = nxZ c n X DI DO n1 ws n2 ms step → Lst q r.a r.n r.k (nxB c n X DI DO n1 ws n2 ms step) → Calls Tryz.prog 19 #[x.val, r.val] q fun e w' => e = .returned (.bool (jgB c n X DI DO n1 ws n2 ms step x xs)) ∧ Below q.heap.size q w') := fun r q hq e1 e2 e3 lr => by
    have h := sstep_calls x r xs _ q (lx.below hq (Nat.le_refl _)) lr hx1
    have e : likeB x r xs (nxB c n X DI DO n1 ws n2 ms step) = jgB c n X DI DO n1 ws n2 ms step x xs := by simp only [jgB, likeB, e1, e2, e3]
    rw [e] at h
    exact h
  have HSB : Hid (∀ (r : Rcm) q, Below w.heap.size w q → r.s = step → r.r = nxR c n X DI DO n1 ws n2 ms step → r.root = nxZ c n X DI DO n1 ws n2 ms step → Lst q r.a r.n r.k (nxB c n X DI DO n1 ws n2 ms step) → Calls Tryz.prog 19 #[y.val, r.val] q fun e w' => e = .returned (.bool (jgB c n X DI DO n1 ws n2 ms step y ys)) ∧ Below q.heap.size q w') := fun r q hq e1 e2 e3 lr => by
    have h := sstep_calls y r ys _ q (ly.below hq (Nat.le_refl _)) lr hy1
    have e : likeB y r ys (nxB c n X DI DO n1 ws n2 ms step) = jgB c n X DI DO n1 ws n2 ms step y ys := by simp only [jgB, likeB, e1, e2, e3]
    rw [e] at h
    exact h
  generalize jgB c n X DI DO n1 ws n2 ms step x xs = QA at *
  generalize jgB c n X DI DO n1 ws n2 ms step y ys = QB at *
  generalize nxR c n X DI DO n1 ws n2 ms step = NR at *
  generalize nxZ c n X DI DO n1 ws n2 ms step = NZ at *
  generalize nxB c n X DI DO n1 ws n2 ms step = NB at *
  clear hx l1 l2 hz hs lx ly hx1 hy1
  obtain ⟨i, h, o, seed, batch, steps, crate, decay, how, keep, clip⟩ := c
  obtain ⟨xs0, xa, xn, xk, xr, xroot, xchain⟩ := x
  obtain ⟨ys0, ya, yn, yk, yr, yroot, ychain⟩ := y
  simp only [Cfg.val, Cfg.cells, Rcm.val, Rcm.cells] at *
  obtain ⟨c0, c1, c2, c3, c4, c5, c6, c7, c8, c9, c10⟩ := jb0.cfg
  obtain ⟨s0, s1⟩ := fn2_cells jb0.st
  dsimp only at c0 c1 c2 c3 c4 c5 c6 c7 c8 c9 c10
  go_enter Tryz.func23, Tryz.ntmps23
  go_wp2_with fail
  refine RD.mono ?_
  rintro e u1 ⟨a3, m3, k3, rfl, hm3, l3, hu1⟩
  have jb1 := jb0.below hu1
  clear RD c0 c1 c2 c3 c4 c5 c6 c7 c8 c9 c10 s0 s1 jb0
  have hal := low_alloc u1 (.cells #[.int .i64 step, .slice a3 m3 k3, .int .i64 NR, .int .u64 NZ, .int .u64 0] 30)
  have orow := fn5_alloc u1 (.int .i64 step) (.slice a3 m3 k3) (.int .i64 NR) (.int .u64 NZ) (.int .u64 0) 30
  have jb2 := jb1.below hal
  have l4 := l3.below hal (Nat.le_refl _)
  have SA := HSA.out ⟨step, a3, m3, k3, NR, NZ, 0⟩ _ jb2.bel rfl rfl rfl l4
  dsimp only at SA
  obtain ⟨o0, o1, o2, o3, o4⟩ := fn5_box orow
  obtain ⟨x0, x1, x2, x3, x4⟩ := fn5_box jb2.ra
  clear jb1 hu1 l3 HSA
  go_wp2_with fail
  refine SA.mono ?_
  rintro e u2 ⟨rfl, hu2⟩
  have jb3 := jb2.below hu2
  have l5 := l4.below hu2 (Nat.le_refl _)
  have SB := HSB.out ⟨step, a3, m3, k3, NR, NZ, 0⟩ _ jb3.bel rfl rfl rfl l5
  dsimp only at SB
  have orow2 := orow.of_block (hu2.block _ orow.lt)
  clear x0 x1 x2 x3 x4 o0 o1 o2 o3 o4 SA HSB
  obtain ⟨o0, o1, o2, o3, o4⟩ := fn5_box orow2
  obtain ⟨y0, y1, y2, y3, y4⟩ := fn5_box jb3.rb
  have hb3 := jb3.bel
  clear jb2 jb3 orow orow2 l4 l5 hal hu2
  cases QA with
  | false =>
    go_wp2_with fail
    refine SB.mono ?_
    rintro e u3 ⟨rfl, hu3⟩
    cases QB with
    | false =>
      go_wp2_with fail
      go_ret2
      exact ⟨rfl, hb3.trans (hu3.mono hb3.size)⟩
    | true =>
      go_wp2_with fail
      go_ret2
      exact ⟨rfl, hb3.trans (hu3.mono hb3.size)⟩
  | true =>
    go_wp2_with fail
    refine SB.mono ?_
    rintro e u3 ⟨rfl, hu3⟩
    cases QB with
    | false =>
      go_wp2_with fail
      go_ret2
      exact ⟨rfl, hb3.trans (hu3.mono hb3.size)⟩
    | true =>
      go_wp2_with fail
      go_ret2
      exact ⟨rfl, hb3.trans (hu3.mono hb3.size)⟩

set_option maxRecDepth 100000 in
set_option maxHeartbeats 1600000 in
theorem judge_calls (c : Cfg) (hs : okW c.seed) (a : Option Addr) (n cap : Nat) (X : Nat → Exm) (DI DO : Nat → List Int) (a1 : Option Addr) (n1 k1 : Nat) (ws : List Int) (a2 : Option Addr) (n2 k2 : Nat) (ms : List Int) (step : Int) (x y : Rcm) (xs ys : List Int) (w : World) (hx : Exs w a n cap X DI DO) (l1 : Lst w a1 n1 k1 ws) (l2 : Lst w a2 n2 k2 ms) (lx : Lst w x.a x.n x.k xs) (ly : Lst w y.a y.n y.k ys) (hx1 : x.n ≤ 9223372036854775807) (hy1 : y.n ≤ 9223372036854775807) :
    Calls Tryz.prog 23 #[c.val, .slice a n cap, .agg #[.slice a1 n1 k1, .slice a2 n2 k2], .int .i64 step, x.val, y.val] w fun e w' => e = .returned (.tuple #[.int .i64 (jdN (nextE c n X DI DO n1 ws n2 ms step) (jgB c n X DI DO n1 ws n2 ms step x xs) (jgB c n X DI DO n1 ws n2 ms step y ys)), .int .i64 (nextE c n X DI DO n1 ws n2 ms step)]) ∧ Below w.heap.size w w' := by
  by_cases hz : nextE c n X DI DO n1 ws n2 ms step = 0
  · rw [hz]
    exact judge_good c hs a n cap X DI DO a1 n1 k1 ws a2 n2 k2 ms step x y xs ys w hx l1 l2 lx ly hx1 hy1 hz
  · have jb0 := JdBox.start w c (.slice a1 n1 k1) (.slice a2 n2 k2) x y
    have RD := redo_bad c hs a n cap X DI DO a1 n1 k1 ws a2 n2 k2 ms step _ (hx.below jb0.bel (Nat.le_refl _)) (l1.below jb0.bel (Nat.le_refl _)) (l2.below jb0.bel (Nat.le_refl _)) _ rfl hz
    have hJ : jdN (nextE c n X DI DO n1 ws n2 ms step) (jgB c n X DI DO n1 ws n2 ms step x xs) (jgB c n X DI DO n1 ws n2 ms step y ys) = 0 := if_neg hz
    rw [hJ]
    have hb : (nextE c n X DI DO n1 ws n2 ms step != 0) = true := by rw [bne_iff_ne]; exact hz
    generalize nextE c n X DI DO n1 ws n2 ms step = E at *
    clear hx l1 l2 hs lx ly hx1 hy1 hJ hz
    obtain ⟨i, h, o, seed, batch, steps, crate, decay, how, keep, clip⟩ := c
    obtain ⟨xs0, xa, xn, xk, xr, xroot, xchain⟩ := x
    obtain ⟨ys0, ya, yn, yk, yr, yroot, ychain⟩ := y
    simp only [Cfg.val, Cfg.cells, Rcm.val, Rcm.cells] at *
    obtain ⟨c0, c1, c2, c3, c4, c5, c6, c7, c8, c9, c10⟩ := jb0.cfg
    obtain ⟨s0, s1⟩ := fn2_cells jb0.st
    dsimp only at c0 c1 c2 c3 c4 c5 c6 c7 c8 c9 c10
    go_enter Tryz.func23, Tryz.ntmps23
    go_wp2_with fail
    refine RD.mono ?_
    rintro e u1 ⟨rfl, hu1⟩
    have hb1 := (jb0.below hu1).bel
    have hal := low_alloc u1 (.cells #[.int .i64 0, .slice none 0 0, .int .i64 0, .int .u64 0, .int .u64 0] 30)
    go_wp2_with fail
    go_ret2
    exact ⟨rfl, hb1.trans (hal.mono hb1.size)⟩
end Go.Proofs.YtkikhfdkibekgaaGreat.Fx

/- coachref.SameRecords, of records whose batches are of whatever length. -/
namespace Go.Proofs.YtkikhfdkibekgaaGreat.Fx
open Go.RowKit
end Go.Proofs.YtkikhfdkibekgaaGreat.Fx

/- Lists of records that say the same are the same; no function of package journal is spoken of. -/
namespace Go.Proofs.YtkikhfdkibekgaaGreat.Fx
open Go.RowKit

theorem recs_same {k : Nat} {R R2 : Nat → Rcm} {D : Nat → List Int} {RV RO CH : Nat → Int} (h : JrN k R RV RO CH) (h2 : JrN k R2 RV RO CH) : recsB k k R R2 D D = true := by
  unfold recsB
  rw [decide_eq_true rfl, Bool.true_and, List.all_eq_true]
  intro j hj
  rw [List.mem_range] at hj
  obtain ⟨e1, e2, e3, e4⟩ := h j hj
  obtain ⟨f1, f2, f3, f4⟩ := h2 j hj
  unfold recB likeB
  rw [e1, e2, e3, e4, f1, f2, f3, f4]
  simp
theorem JrN.take {k m : Nat} {R : Nat → Rcm} {RV RO CH : Nat → Int} (h : JrN k R RV RO CH) (hm : m ≤ k) : JrN m R RV RO CH := fun j hj => h j (by omega)
theorem Recs.take {w : World} {a : Option Addr} {n c m : Nat} {R : Nat → Rcm} {D : Nat → List Int} (h : Recs w a n c R D) (hm : m ≤ n) : Recs w a m c R D := by
  refine ⟨Nat.le_trans hm h.1, ?_⟩
  rcases h.2 with h0 | ⟨b, off, e, hs, hc⟩
  · exact .inl (by omega)
  · exact .inr ⟨b, off, e, hs, fun i hi => hc i (by omega)⟩
end Go.Proofs.YtkikhfdkibekgaaGreat.Fx

/- What coachref.Rest returns: a number below the second one. -/
namespace Go.Proofs.YtkikhfdkibekgaaGreat.Fx
open Go.RowKit

theorem rest_any (n : Int) (m : Nat) (h1 : 1 ≤ m) (h2 : m ≤ 2000) (w : World) :
    Calls Tryz.prog 6 #[.int .i64 n, .int .i64 m] w fun e w' => (∃ k : Nat, k < m ∧ e = .returned (.int .i64 k)) ∧ w' = w := by
  obtain ⟨r, hr⟩ : ∃ r, n.tmod (m : Int) = r := ⟨_, rfl⟩
  have r1 : r < (m : Int) := by rw [← hr]; exact Int.tmod_lt_of_pos _ (by omega)
  have r2 : -(m : Int) < r := by
    rw [← hr]
    have := Int.tmod_lt_of_pos (-n) (b := (m : Int)) (by omega)
    rw [Int.neg_tmod] at this
    omega
  by_cases h : r < 0
  · go_enter Tryz.func6, Tryz.ntmps6
    go_wp2
    go_ret
    exact ⟨⟨(r + m).toNat, by omega, ret_word (by omega)⟩, rfl⟩
  · go_enter Tryz.func6, Tryz.ntmps6
    go_wp2
    go_ret
    exact ⟨⟨r.toNat, by omega, ret_word (by omega)⟩, rfl⟩
end Go.Proofs.YtkikhfdkibekgaaGreat.Fx

/- What coachref's Size, StateFits and SameState return. -/
namespace Go.Proofs.YtkikhfdkibekgaaGreat.Fx
open Go.RowKit

theorem fit_two {c : Cfg} {n1 n2 : Nat} {ws ms : List Int} {S : Int} {p q r s : Bool} (hS : sizeN c = S) (hp : decide ((n1 : Int) = S) = p) (hq : decide ((n2 : Int) = S) = q) (hr : rightB ws = r) (hs : rightB ms = s) : (fitB c n1 ws && fitB c n2 ms) = (p && q && r && s) := by
  unfold fitB
  rw [hS, hp, hq, hr, hs]
  cases p <;> cases q <;> cases r <;> cases s <;> rfl

set_option maxHeartbeats 800000 in
theorem rsameS_calls (a1 : Option Addr) (n1 k1 : Nat) (a2 : Option Addr) (n2 k2 : Nat) (b1 : Option Addr) (m1 d1 : Nat) (b2 : Option Addr) (m2 d2 : Nat) (XS YS : List Int) (w : World) (l1 : Lst w a1 n1 k1 XS) (l2 : Lst w a2 n2 k2 YS) (l3 : Lst w b1 m1 d1 XS) (l4 : Lst w b2 m2 d2 YS) (h1 : n1 ≤ 200) (h2 : n2 ≤ 200) :
    Calls Tryz.prog 13 #[.agg #[.slice a1 n1 k1, .slice a2 n2 k2], .agg #[.slice b1 m1 d1, .slice b2 m2 d2]] w fun e w' => e = .returned (.bool true) ∧ Below w.heap.size w w' := by
  have hal := ((Below.refl w.heap.size w).alloc (Nat.le_refl _) (.cells #[.slice a1 n1 k1, .slice a2 n2 k2] 28)).alloc (by simp) (.cells #[.slice b1 m1 d1, .slice b2 m2 d2] 28)
  have l1 := l1.below hal (Nat.le_refl _)
  have l2 := l2.below hal (Nat.le_refl _)
  have l3 := l3.below hal (Nat.le_refl _)
  have l4 := l4.below hal (Nat.le_refl _)
  go_enter Tryz.func13, Tryz.ntmps13
  go_wp2_with fail
  refine (eq_calls _ _ _ _ _ _ XS XS _ l1 l3 (by omega)).mono ?_
  rintro e w1 ⟨rfl, k5, hw5⟩
  subst hw5
  rw [decide_eq_true (Eq.refl XS)]
  go_wp2_with fail
  refine (eq_calls _ _ _ _ _ _ YS YS _ (l2.drewN _) (l4.drewN _) (by omega)).mono ?_
  rintro e w1 ⟨rfl, k6, hw6⟩
  subst hw6
  rw [decide_eq_true (Eq.refl YS)]
  go_wp2
  go_ret
  exact ⟨rfl, below_drewN hal _⟩

end Go.Proofs.YtkikhfdkibekgaaGreat.Fx

/- What coachkeep.spoil does to a list of integers that lies in a block of its own; what coachref.SameState returns of any two states. -/
namespace Go.Proofs.YtkikhfdkibekgaaGreat.Fx
open Go.RowKit

/-- Only that block was written. -/
structure OnlyB (g : Nat) (w w' : World) : Prop where
  size : w'.heap.size = w.heap.size
  blk : ∀ b, b ≠ g → w'.heap[b]? = w.heap[b]?
  bel : ∀ B W, B ≤ g → Below B W w → Below B W w'
theorem OnlyB.refl (g : Nat) (w : World) : OnlyB g w w := ⟨rfl, fun _ _ => rfl, fun _ _ _ h => h⟩
theorem OnlyB.set {g : Nat} {w q : World} (h : OnlyB g w q) (i : Nat) (v : Value) : OnlyB g w (q.setCell ⟨g, i, none⟩ v) :=
  ⟨by rw [World.size_setCell]; exact h.size, fun b hb => (Go.Deep.blk_setCell_other q ⟨g, i, none⟩ v b hb).trans (h.blk b hb), fun B W hB hw => (h.bel B W hB hw).setCell hB v⟩
theorem OnlyB.row {g : Nat} {w q : World} (h : OnlyB g w q) {b t n : Nat} {f : Nat → Value} (hr : w.rowIs b t n f) (hb : b ≠ g) : q.rowIs b t n f := hr.of_block (h.blk b hb)
theorem OnlyB.arr {g : Nat} {w q : World} (h : OnlyB g w q) {b c n : Nat} {f : Nat → Int} (hr : Arr w b c n f) (hb : b ≠ g) : Arr q b c n f := by
  obtain ⟨hc, F, hr, hf⟩ := hr
  exact ⟨hc, F, h.row hr hb, hf⟩
theorem OnlyB.st1 {g : Nat} {w q : World} (h : OnlyB g w q) {base OB N : Nat} {x : Exm} {WL ML : List Int} (hs : St1 w base OB N x WL ML) (ha : x.a ≠ some ⟨g, 0, none⟩) (hb : x.b ≠ some ⟨g, 0, none⟩) : St1 q base OB N x WL ML := by
  obtain ⟨g1, d1, g2, d2, rfl, b1, b2, b3, b4, b5, b6, a1, a2⟩ := hs
  refine ⟨g1, d1, g2, d2, rfl, b1, b2, b3, b4, b5, b6, h.arr a1 (fun e => ha (by rw [e])), h.arr a2 (fun e => hb (by rw [e]))⟩

set_option maxHeartbeats 800000 in
theorem rsameS_any (a1 : Option Addr) (n1 k1 : Nat) (a2 : Option Addr) (n2 k2 : Nat) (b1 : Option Addr) (m1 d1 : Nat) (b2 : Option Addr) (m2 d2 : Nat) (XS YS ZS US : List Int) (w : World) (l1 : Lst w a1 n1 k1 XS) (l2 : Lst w a2 n2 k2 YS) (l3 : Lst w b1 m1 d1 ZS) (l4 : Lst w b2 m2 d2 US) (h1 : n1 ≤ 200) (h2 : n2 ≤ 200) :
    Calls Tryz.prog 13 #[.agg #[.slice a1 n1 k1, .slice a2 n2 k2], .agg #[.slice b1 m1 d1, .slice b2 m2 d2]] w fun e w' => e = .returned (.bool (decide (XS = ZS) && decide (YS = US))) ∧ Below w.heap.size w w' := by
  have hal := ((Below.refl w.heap.size w).alloc (Nat.le_refl _) (.cells #[.slice a1 n1 k1, .slice a2 n2 k2] 28)).alloc (by simp) (.cells #[.slice b1 m1 d1, .slice b2 m2 d2] 28)
  have l1 := l1.below hal (Nat.le_refl _)
  have l2 := l2.below hal (Nat.le_refl _)
  have l3 := l3.below hal (Nat.le_refl _)
  have l4 := l4.below hal (Nat.le_refl _)
  by_cases e1 : XS = ZS
  · rw [decide_eq_true e1, Bool.true_and]
    obtain ⟨r, HR⟩ : ∃ r, Hid (decide (YS = US) = r) := ⟨_, rfl⟩
    rw [HR.out]
    subst e1
    go_enter Tryz.func13, Tryz.ntmps13
    go_wp2_with fail
    refine (eq_calls _ _ _ _ _ _ XS XS _ l1 l3 (by omega)).mono ?_
    rintro e w1 ⟨rfl, k5, hw5⟩
    subst hw5
    rw [decide_eq_true (Eq.refl XS)]
    go_wp2_with fail
    refine (eq_calls _ _ _ _ _ _ YS US _ (l2.drewN _) (l4.drewN _) (by omega)).mono ?_
    rintro e w1 ⟨rfl, k6, hw6⟩
    subst hw6
    rw [HR.out]
    go_wp2
    go_ret
    exact ⟨rfl, below_drewN hal _⟩
  · rw [decide_eq_false e1, Bool.false_and]
    go_enter Tryz.func13, Tryz.ntmps13
    go_wp2_with fail
    refine (eq_calls _ _ _ _ _ _ XS ZS _ l1 l3 (by omega)).mono ?_
    rintro e w1 ⟨rfl, k5, hw5⟩
    subst hw5
    rw [decide_eq_false e1]
    go_wp2_with fail
    go_ret
    exact ⟨rfl, below_drewN hal _⟩
end Go.Proofs.YtkikhfdkibekgaaGreat.Fx

/- A list of records that the program itself makes by append: what is known of it, and what one append more leaves. -/
namespace Go.Proofs.YtkikhfdkibekgaaGreat.Fx
open Go.RowKit

def rcCells (R : Nat → Rcm) : Nat → List Value
  | 0 => []
  | n + 1 => rcCells R n ++ [.int .i64 (R n).s, .slice (R n).a (R n).n (R n).k, .int .i64 (R n).r, .int .u64 (R n).root, .int .u64 (R n).chain]
theorem rcCells_len (R : Nat → Rcm) (n : Nat) : (rcCells R n).length = n * 5 := by
  induction n with
  | zero => rfl
  | succ k ih => simp [rcCells, ih]; omega
theorem rcCells_congr {X Y : Nat → Rcm} {n : Nat} (h : ∀ i, i < n → X i = Y i) : rcCells X n = rcCells Y n := by
  induction n with
  | zero => rfl
  | succ k ih => simp only [rcCells]; rw [ih (fun i hi => h i (by omega)), h k (by omega)]
theorem rcCells_at (R : Nat → Rcm) {n i : Nat} (h : i < n) : (rcCells R n)[i * 5]? = some (.int .i64 (R i).s) ∧ (rcCells R n)[i * 5 + 1]? = some (.slice (R i).a (R i).n (R i).k) ∧ (rcCells R n)[i * 5 + 2]? = some (.int .i64 (R i).r) ∧ (rcCells R n)[i * 5 + 3]? = some (.int .u64 (R i).root) ∧ (rcCells R n)[i * 5 + 4]? = some (.int .u64 (R i).chain) := by
  induction n with
  | zero => omega
  | succ k ih =>
    have hl := rcCells_len R k
    simp only [rcCells]
    by_cases e : i = k
    · subst e
      rw [List.getElem?_append_right (by omega), List.getElem?_append_right (by omega), List.getElem?_append_right (by omega), List.getElem?_append_right (by omega), List.getElem?_append_right (by omega), hl]
      simp
    · have g := ih (by omega)
      rw [List.getElem?_append_left (by omega), List.getElem?_append_left (by omega), List.getElem?_append_left (by omega), List.getElem?_append_left (by omega), List.getElem?_append_left (by omega)]
      exact g
/-- The slice value v, made from block number base on, owns the records R. -/
def OwnR (base : Nat) (w : World) (v : Value) (n : Nat) (R : Nat → Rcm) : Prop := w.ownsRow base 30 5 v n (rcCells R n)
theorem OwnR.nil (base : Nat) (w : World) (R : Nat → Rcm) : OwnR base w (.slice none 0 0) 0 R := World.ownsRow_nil _ _ _ _
theorem OwnR.below {base : Nat} {w w' : World} {v : Value} {n : Nat} {R : Nat → Rcm} (h : OwnR base w v n R) (hb : Below w.heap.size w w') : OwnR base w' v n R := by
  refine ⟨h.1, ?_⟩
  rcases h.2 with h0 | ⟨g, cap, cur, hv, hg, hh, r⟩
  · exact .inl h0
  · exact .inr ⟨g, cap, cur, hv, hg, by rw [hb.block g (Array.getElem?_eq_some_iff.1 hh).1]; exact hh, r⟩
theorem OwnR.congr {base : Nat} {w : World} {v : Value} {n : Nat} {X Y : Nat → Rcm} (h : OwnR base w v n X) (e : ∀ i, i < n → X i = Y i) : OwnR base w v n Y := by
  unfold OwnR at *
  rw [← rcCells_congr e]
  exact h
theorem OwnR.blk {base : Nat} {w : World} {v : Value} {n : Nat} {R : Nat → Rcm} (h : OwnR base w v n R) : v.ownBlock = none ∨ ∃ g, v.ownBlock = some g ∧ base ≤ g ∧ g < w.heap.size := by
  rcases h.2 with ⟨rfl, _⟩ | ⟨g, cap, cur, rfl, hg, hh, _⟩
  · exact .inl rfl
  · exact .inr ⟨g, rfl, hg, (Array.getElem?_eq_some_iff.1 hh).1⟩
theorem OwnR.recs {base : Nat} {w : World} {v : Value} {n : Nat} {R : Nat → Rcm} {D : Nat → List Int} (h : OwnR base w v n R) (hin : ∀ i, i < n → Lst w (R i).a (R i).n (R i).k (D i)) : ∃ a c, v = .slice a n c ∧ Recs w a n c R D := by
  obtain ⟨hl, h2⟩ := h
  rcases h2 with ⟨rfl, rfl⟩ | ⟨g, cap, cur, rfl, _, hh, hle, _, hsz, hcur⟩
  · exact ⟨none, 0, rfl, Recs.nil _ _ _ _ _⟩
  · refine ⟨_, cap, rfl, hle, .inr ⟨g, 0, rfl, (Array.getElem?_eq_some_iff.1 hh).1, fun i hi => ?_⟩⟩
    have hc : ∀ j, j < n * 5 → w.cell? ⟨g, j, none⟩ = (rcCells R n)[j]? := fun j hj => by
      rw [← hcur, List.getElem?_take_of_lt hj]
      simp [World.cell?, hh]
    have g2 := rcCells_at R hi
    simp only [Nat.zero_add]
    exact ⟨(hc _ (by omega)).trans g2.1, (hc _ (by omega)).trans g2.2.1, (hc _ (by omega)).trans g2.2.2.1, (hc _ (by omega)).trans g2.2.2.2.1, (hc _ (by omega)).trans g2.2.2.2.2, hin i hi⟩


section
variable {w' W0 : World} {ops : Array Oper} {o : Oper} {a : Act} {Q : Exit → Act → World → Prop}
theorem run_append_rc (ty : TypeId) (base : Nat) (v : Value) (n : Nat) (R : Nat → Rcm) (g : Nat) (hown : OwnR base w' v n R) (hrow : w'.rowIs g 30 5 (fn5 (.int .i64 (R n).s) (.slice (R n).a (R n).n (R n).k) (.int .i64 (R n).r) (.int .u64 (R n).root) (.int .u64 (R n).chain))) (hn : (n + 1) * 56 ≤ 140737488355328) (hbase : base ≤ w'.heap.size) :
    ∃ v' w1, (Builtin.append_ #[35, 35] ty #[v, .slice (some ⟨g, 0, none⟩) 1 1]).run Tryz.prog w' = .ok v' w1 ∧ OwnR base w1 v' (n + 1) R ∧ w'.grownBy w1 v.ownBlock ∧ (v'.ownBlock = v.ownBlock ∨ v'.ownBlock = some w'.heap.size) := by
  obtain ⟨i0, hi, hz0, hz1, hz2⟩ := info_parts infoR
  obtain ⟨b0, b1, b2, b3, b4⟩ := fn5_box hrow
  obtain ⟨v', w1, hrun, h1, h2, _, h3⟩ := run_append_own_at (P := Tryz.prog) w' base 35 ty 30 i0 (.agg #[.int .i64 0, .slice none 0 0, .int .i64 0, .int .u64 0, .int .u64 0]) 5 56 Tryz.underlying35 hi hz0 hz1 hz2 rfl (by decide) v n _ hown ⟨g, 0, none⟩ 1 1 [.int .i64 (R n).s, .slice (R n).a (R n).n (R n).k, .int .i64 (R n).r, .int .u64 (R n).root, .int .u64 (R n).chain] rfl
    (by intro j u hj
        match j, hj with
        | 0, hj => simp at hj; subst hj; simpa [Addr.add] using b0
        | 1, hj => simp at hj; subst hj; simpa [Addr.add] using b1
        | 2, hj => simp at hj; subst hj; simpa [Addr.add] using b2
        | 3, hj => simp at hj; subst hj; simpa [Addr.add] using b3
        | 4, hj => simp at hj; subst hj; simpa [Addr.add] using b4)
    (by intro u hu
        simp at hu
        rcases hu with rfl | rfl | rfl | rfl | rfl <;> rfl) (by unfold maxLen; omega) hn hbase
  exact ⟨v', w1, hrun, h1, h2, h3⟩

theorem wpList_append_rc {rest : List Oper} (hgd : o.guard = none) (s x : Operand) (ho : o.op = .call { callee := .builtin .append, args := #[s, x], argTypes := #[35, 35] })
    (base : Nat) (v : Value) (n : Nat) (R : Nat → Rcm) (g : Nat) (hs : a.eval s = v) (hx : a.eval x = .slice (some ⟨g, 0, none⟩) 1 1) (hown : OwnR base w' v n R) (hrow : w'.rowIs g 30 5 (fn5 (.int .i64 (R n).s) (.slice (R n).a (R n).n (R n).k) (.int .i64 (R n).r) (.int .u64 (R n).root) (.int .u64 (R n).chain))) (hn : (n + 1) * 56 ≤ 140737488355328) (hbase : base ≤ w'.heap.size)
    (h : ∀ v' w1, OwnR base w1 v' (n + 1) R → w'.grownBy w1 v.ownBlock → (v'.ownBlock = v.ownBlock ∨ v'.ownBlock = some w'.heap.size) → wpList Tryz.prog ops Q rest (a.put o.dst v') w1) : wpList Tryz.prog ops Q (o :: rest) a w' := by
  obtain ⟨v', w1, hrun, h1, h2, h3⟩ := run_append_rc o.type base v n R g hown hrow hn hbase
  refine wpList_plain hgd fun K hK => ?_
  unfold Oper.wp
  simp [execOp, ho, resolve, invoke, builtin, hs, hx, hrun, Result.andThen]
  exact hK _ _ (h v' w1 h1 h2 h3)
end

end Go.Proofs.YtkikhfdkibekgaaGreat.Fx

/- A list of records that the program itself has cloned, and writes other records into; slices.Clone over records. -/
namespace Go.Proofs.YtkikhfdkibekgaaGreat.Fx
open Go.RowKit

/-- A block of the program's own whose first N records are Rb's. -/
def RowR (w : World) (gb cap N : Nat) (Rb : Nat → Rcm) : Prop := N ≤ cap ∧ ∃ F, w.rowIs gb 30 (cap * 5) F ∧ ∀ i, i < N * 5 → F i = recC (Rb (i / 5)) (i % 5)
theorem RowR.lt {w : World} {gb cap N : Nat} {Rb : Nat → Rcm} (h : RowR w gb cap N Rb) : gb < w.heap.size := by obtain ⟨_, F, hr, _⟩ := h; exact hr.lt
theorem RowR.frozen {w : World} {gb cap N : Nat} {Rb : Nat → Rcm} (h : RowR w gb cap N Rb) (i : Nat) : w.frozen? ⟨gb, i, none⟩ = false := by obtain ⟨_, F, hr, _⟩ := h; exact hr.frozen i
theorem RowR.cell {w : World} {gb cap N : Nat} {Rb : Nat → Rcm} (h : RowR w gb cap N Rb) {j t : Nat} (hj : j < N) (ht : t < 5) : w.cell? ⟨gb, j * 5 + t, none⟩ = some (recC (Rb j) t) := by
  obtain ⟨hc, F, hr, hf⟩ := h
  rw [hr.cell (by omega), hf _ (by omega), show (j * 5 + t) / 5 = j by omega, show (j * 5 + t) % 5 = t by omega]
theorem RowR.below {w w' : World} {gb cap N : Nat} {Rb : Nat → Rcm} (h : RowR w gb cap N Rb) (hb : Below w.heap.size w w') : RowR w' gb cap N Rb := by
  obtain ⟨hc, F, hr, hf⟩ := h
  exact ⟨hc, F, hr.of_block (hb.block _ hr.lt), hf⟩
theorem RowR.congr {w : World} {gb cap N : Nat} {R1 R2 : Nat → Rcm} (h : RowR w gb cap N R1) (he : ∀ j, j < N → R1 j = R2 j) : RowR w gb cap N R2 := by
  obtain ⟨hc, F, hr, hf⟩ := h
  exact ⟨hc, F, hr, fun i hi => by rw [hf i hi, he _ (by omega)]⟩
theorem RowR.put {w : World} {gb cap N K : Nat} {Rb : Nat → Rcm} (h : RowR w gb cap N Rb) (x : Rcm) (_hK : K < N) :
    RowR (((((w.setCell ⟨gb, K * 5, none⟩ (.int .i64 x.s)).setCell ⟨gb, K * 5 + 1, none⟩ (.slice x.a x.n x.k)).setCell ⟨gb, K * 5 + 2, none⟩ (.int .i64 x.r)).setCell ⟨gb, K * 5 + 3, none⟩ (.int .u64 x.root)).setCell ⟨gb, K * 5 + 4, none⟩ (.int .u64 x.chain)) gb cap N (bentR Rb K x) := by
  obtain ⟨hc, F, hr, hf⟩ := h
  refine ⟨hc, _, ((((hr.set (K * 5) (.int .i64 x.s)).set (K * 5 + 1) (.slice x.a x.n x.k)).set (K * 5 + 2) (.int .i64 x.r)).set (K * 5 + 3) (.int .u64 x.root)).set (K * 5 + 4) (.int .u64 x.chain), fun i hi => ?_⟩
  by_cases e : i / 5 = K
  · have hb : bentR Rb K x (i / 5) = x := by unfold bentR; rw [if_pos e]
    rw [hb]
    rcases lt5 (Nat.mod_lt i (show 0 < 5 by omega)) with hm | hm | hm | hm | hm
    · rw [if_neg (by omega), if_neg (by omega), if_neg (by omega), if_neg (by omega), if_pos (by omega), hm]; rfl
    · rw [if_neg (by omega), if_neg (by omega), if_neg (by omega), if_pos (by omega), hm]; rfl
    · rw [if_neg (by omega), if_neg (by omega), if_pos (by omega), hm]; rfl
    · rw [if_neg (by omega), if_pos (by omega), hm]; rfl
    · rw [if_pos (by omega), hm]; rfl
  · have hb : bentR Rb K x (i / 5) = Rb (i / 5) := by unfold bentR; rw [if_neg e]
    rw [hb, if_neg (by omega), if_neg (by omega), if_neg (by omega), if_neg (by omega), if_neg (by omega)]
    exact hf i hi
theorem RowR.recs {w : World} {gb cap N : Nat} {Rb : Nat → Rcm} {D : Nat → List Int} (h : RowR w gb cap N Rb) (hl : ∀ j, j < N → Lst w (Rb j).a (Rb j).n (Rb j).k (D j)) : Recs w (some ⟨gb, 0, none⟩) N cap Rb D := by
  refine ⟨h.1, .inr ⟨gb, 0, rfl, h.lt, fun i hi => ?_⟩⟩
  rw [Nat.zero_add]
  exact ⟨h.cell hi (t := 0) (by omega), h.cell hi (t := 1) (by omega), h.cell hi (t := 2) (by omega), h.cell hi (t := 3) (by omega), h.cell hi (t := 4) (by omega), hl i hi⟩

/-- Of the first k records those of L that are wanted stand in the places of R's. -/
def overR (R L : Nat → Rcm) (k j : Nat) : Rcm := if j < k ∧ (L j).s ≠ -1 then L j else R j
def overD (D DL : Nat → List Int) (L : Nat → Rcm) (k j : Nat) : List Int := if j < k ∧ (L j).s ≠ -1 then DL j else D j
theorem overR_zero (R L : Nat → Rcm) : overR R L 0 = R := by funext j; unfold overR; rw [if_neg (by omega)]
theorem overR_put {R L : Nat → Rcm} {k : Nat} (h : (L k).s ≠ -1) : bentR (overR R L k) k (L k) = overR R L (k + 1) := by
  funext j
  unfold bentR
  by_cases e : j = k
  · subst e; rw [if_pos rfl]; unfold overR; rw [if_pos ⟨by omega, h⟩]
  · rw [if_neg e]
    unfold overR
    by_cases hj : j < k ∧ (L j).s ≠ -1
    · rw [if_pos hj, if_pos ⟨by omega, hj.2⟩]
    · rw [if_neg hj, if_neg (fun h2 => hj ⟨by omega, h2.2⟩)]
theorem overR_skip {R L : Nat → Rcm} {k : Nat} (h : (L k).s = -1) : overR R L k = overR R L (k + 1) := by
  funext j
  unfold overR
  by_cases hj : j < k ∧ (L j).s ≠ -1
  · rw [if_pos hj, if_pos ⟨by omega, hj.2⟩]
  · rw [if_neg hj, if_neg (fun h2 => by
      by_cases e : j = k
      · subst e; exact h2.2 h
      · exact hj ⟨by omega, h2.2⟩)]
theorem over_lst {w : World} {R L : Nat → Rcm} {D DL : Nat → List Int} {k N : Nat} (h1 : ∀ j, j < N → Lst w (R j).a (R j).n (R j).k (D j)) (h2 : ∀ j, j < k → Lst w (L j).a (L j).n (L j).k (DL j)) : ∀ j, j < N → Lst w (overR R L k j).a (overR R L k j).n (overR R L k j).k (overD D DL L k j) := fun j hj => by
  unfold overR overD
  by_cases h : j < k ∧ (L j).s ≠ -1
  · rw [if_pos h, if_pos h]; exact h2 j h.1
  · rw [if_neg h, if_neg h]; exact h1 j hj

section
variable {w' W0 : World} {ops : Array Oper} {o : Oper} {a : Act} {Q : Exit → Act → World → Prop}
theorem OwnR.empty (w : World) (R : Nat → Rcm) : OwnR w.heap.size (w.alloc (.cells #[] 30)) (.slice (some ⟨w.heap.size, 0, none⟩) 0 0) 0 R :=
  ⟨rfl, .inr ⟨w.heap.size, 0, #[], rfl, Nat.le_refl _, Go.Deep.blk_alloc_new _ _, Nat.le_refl _, Nat.zero_le _, rfl, rfl⟩⟩
theorem rcCells_one (R : Nat → Rcm) : ∀ n, ∀ u ∈ rcCells R n, u.oneCell' = true
  | 0, u, h => by cases h
  | n + 1, u, h => by
    rw [rcCells, List.mem_append] at h
    rcases h with h | h
    · exact rcCells_one R n u h
    · simp at h
      rcases h with rfl | rfl | rfl | rfl | rfl <;> rfl
theorem rcCells_rec (R : Nat → Rcm) {N j : Nat} {u : Value} (h : (rcCells R N)[j]? = some u) : j < N * 5 ∧ u = recC (R (j / 5)) (j % 5) := by
  have hj : j < N * 5 := by
    have := (List.getElem?_eq_some_iff.1 h).1
    rw [rcCells_len] at this
    exact this
  obtain ⟨g0, g1, g2, g3, g4⟩ := rcCells_at R (i := j / 5) (n := N) (by omega)
  refine ⟨hj, ?_⟩
  rcases lt5 (Nat.mod_lt j (show 0 < 5 by omega)) with hm | hm | hm | hm | hm
  · rw [show j / 5 * 5 = j by omega, h] at g0; rw [hm]; injection g0
  · rw [show j / 5 * 5 + 1 = j by omega, h] at g1; rw [hm]; injection g1
  · rw [show j / 5 * 5 + 2 = j by omega, h] at g2; rw [hm]; injection g2
  · rw [show j / 5 * 5 + 3 = j by omega, h] at g3; rw [hm]; injection g3
  · rw [show j / 5 * 5 + 4 = j by omega, h] at g4; rw [hm]; injection g4
theorem OwnR.row {base : Nat} {w : World} {v : Value} {N : Nat} {R : Nat → Rcm} (h : OwnR base w v N R) (hv : v ≠ .slice none 0 0) : ∃ gb cap, v = .slice (some ⟨gb, 0, none⟩) N cap ∧ base ≤ gb ∧ RowR w gb cap N R ∧ cap ≤ maxLen := by
  obtain ⟨hl, h2⟩ := h
  rcases h2 with ⟨rfl, _⟩ | ⟨g, cap, cur, rfl, hg, hh, hle, hm, hsz, hcur⟩
  · exact absurd rfl hv
  · refine ⟨g, cap, rfl, hg, ⟨hle, fun i => cur.getD i default, ⟨cur, hh, hsz, fun i hi => ?_⟩, fun i hi => ?_⟩, hm⟩
    · simp [Array.getD, show i < cur.size by omega]
    · have e : (rcCells R N)[i]? = some (cur.getD i default) := by
        rw [← hcur, List.getElem?_take_of_lt hi]
        simp [Array.getD, show i < cur.size by omega]
      exact (rcCells_rec R e).2
theorem run_append_allR (ty : TypeId) (g c N : Nat) (R : Nat → Rcm) (w : World) (hr : w.rowIs g 30 (N * 5) (rcsR R N)) (hN : N ≤ 1000) :
    ∃ gb cap w1, (Builtin.append_ #[35, 35] ty #[.slice (some ⟨w.heap.size, 0, none⟩) 0 0, .slice (some ⟨g, 0, none⟩) N c]).run Tryz.prog (w.alloc (.cells #[] 30)) = .ok (.slice (some ⟨gb, 0, none⟩) N cap) w1 ∧ w.heap.size ≤ gb ∧ RowR w1 gb cap N R ∧ cap ≤ maxLen ∧ Below w.heap.size w w1 := by
  obtain ⟨i0, hi, hz0, hz1, hz2⟩ := info_parts infoR
  have hal := low_alloc w (.cells #[] 30)
  have hr2 := hr.of_block (hal.block _ hr.lt)
  obtain ⟨v', w1, hrun, h1, h2, h3, _⟩ := run_append_own_at (P := Tryz.prog) (w.alloc (.cells #[] 30)) w.heap.size 35 ty 30 i0 (.agg #[.int .i64 0, .slice none 0 0, .int .i64 0, .int .u64 0, .int .u64 0]) 5 56 Tryz.underlying35 hi hz0 hz1 hz2 rfl (by decide) (.slice (some ⟨w.heap.size, 0, none⟩) 0 0) 0 _ (OwnR.empty w R) ⟨g, 0, none⟩ N c (rcCells R N) (rcCells_len R N)
    (by intro j u hj
        obtain ⟨hj2, rfl⟩ := rcCells_rec R hj
        have hc := rcsR_cell hr2 (j := j / 5) (K := N) (by omega) (Nat.le_refl _) (i := j % 5) (by omega)
        rw [show j / 5 * 5 + j % 5 = j by omega] at hc
        rw [Go.WideShapes.add_plain, Nat.zero_add]
        exact hc)
    (rcCells_one R N) (by unfold maxLen; omega) (by omega) (by simp)
  have hne : v' ≠ .slice none 0 0 := fun e => by
    have := (h3.1 e).1
    cases this
  rw [show rcCells R 0 ++ rcCells R N = rcCells R N from rfl, Nat.zero_add] at h1
  obtain ⟨gb, cap, rfl, hb, hrow, hm⟩ := OwnR.row (R := R) h1 hne
  refine ⟨gb, cap, w1, hrun, hb, hrow, hm, hal.grown h2 (by simp) ?_⟩
  intro k hk
  simp [Value.ownBlock] at hk
  omega
theorem wpList_append_allR {rest : List Oper} (hgd : o.guard = none) (s x : Operand) (ho : o.op = .call { callee := .builtin .append, args := #[s, x], argTypes := #[35, 35] })
    (g c N : Nat) (R : Nat → Rcm) (w : World) (hs : a.eval s = .slice (some ⟨w.heap.size, 0, none⟩) 0 0) (hx : a.eval x = .slice (some ⟨g, 0, none⟩) N c) (hr : w.rowIs g 30 (N * 5) (rcsR R N)) (hN : N ≤ 1000)
    (h : ∀ gb cap w1, w.heap.size ≤ gb → RowR w1 gb cap N R → cap ≤ maxLen → Below w.heap.size w w1 → wpList Tryz.prog ops Q rest (a.put o.dst (.slice (some ⟨gb, 0, none⟩) N cap)) w1) : wpList Tryz.prog ops Q (o :: rest) a (w.alloc (.cells #[] 30)) := by
  obtain ⟨gb, cap, w1, hrun, h1, h2, h3, h4⟩ := run_append_allR o.type g c N R w hr hN
  refine wpList_plain hgd fun K hK => ?_
  unfold Oper.wp
  simp [execOp, ho, resolve, invoke, builtin, hs, hx, hrun, Result.andThen]
  exact hK _ _ (h gb cap w1 h1 h2 h3 h4)
end
end Go.Proofs.YtkikhfdkibekgaaGreat.Fx
