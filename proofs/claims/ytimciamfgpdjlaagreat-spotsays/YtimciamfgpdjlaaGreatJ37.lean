/- What coachref.Next returns of whatever fits, and what coachlaw.nextError returns. -/
import Derived.Test.YtimciamfgpdjlaaGreatJ18
import Derived.Test.YtimciamfgpdjlaaGreatJ12
import Derived.Test.YtimciamfgpdjlaaGreatJ36
import Derived.Test.YtimciamfgpdjlaaGreatJ29
import Derived.Test.YtimciamfgpdjlaaGreatJ19
import Derived.Test.YtimciamfgpdjlaaGreatJ11
import Derived.Test.YtimciamfgpdjlaaGreatJ16
import Derived.Test.YtimciamfgpdjlaaGreatJ30
namespace Go.Proofs.YtimciamfgpdjlaaGreat.Fx
open Go.RowKit

theorem rnext_any (c : Cfg) (hs : okW c.seed) (a : Option Addr) (n cap : Nat) (X : Nat → Exm) (DI DO : Nat → List Int) (a1 : Option Addr) (n1 k1 : Nat) (ws : List Int) (a2 : Option Addr) (n2 k2 : Nat) (ms : List Int) (step : Int) (q : World) (HX : Exs q a n cap X DI DO) (L1 : Lst q a1 n1 k1 ws) (L2 : Lst q a2 n2 k2 ms) (hz : nextE c n X DI DO n1 ws n2 ms step = 0) :
    Calls Tryz.prog 15 #[c.val, .slice a n cap, .agg #[.slice a1 n1 k1, .slice a2 n2 k2], .int .i64 step] q fun e w' => ∃ ga M d1 gb d2 a3 m3 k3, e = .returned (.tuple #[.agg #[.slice (some ⟨ga, 0, none⟩) M d1, .slice (some ⟨gb, 0, none⟩) M d2], .agg #[.int .i64 step, .slice a3 m3 k3, .int .i64 (nxR c n X DI DO n1 ws n2 ms step), .int .u64 (nxZ c n X DI DO n1 ws n2 ms step), .int .u64 0]]) ∧ Lst w' a3 m3 k3 (nxB c n X DI DO n1 ws n2 ms step) ∧ Below q.heap.size q w' := by
  obtain ⟨hF, f1, f2, hst⟩ := nextE_ok hz
  obtain ⟨hc, hn1, hn2, hex⟩ := course_ok hF
  have g1 := fit_len hc f1
  have g2 := fit_len hc f2
  have hzn := sizeN_bd hc
  have hn : n2 = n1 := by have := g1.1; have := g2.1; omega
  subst hn
  have hZ : nxZ c n X DI DO n2 ws n2 ms step = rootP (nextW c n ws ms DI DO step n2) (nextM c n ws ms DI DO step n2) (n2 + n2) := by
    have e1 : nxW c n X DI DO n2 ws n2 ms step = nextW c n ws ms DI DO step n2 := by unfold nxW; rw [if_pos hz]
    have e2 : nxM c n X DI DO n2 ws n2 ms step = nextM c n ws ms DI DO step n2 := by unfold nxM; rw [if_pos hz]
    have e3 : (nextW c n ws ms DI DO step n2).length = n2 := by unfold nextW; simp
    have e4 : (nextM c n ws ms DI DO step n2).length = n2 := by unfold nextM; simp
    have e5 : rootE n2 n2 = 0 := by unfold rootE; rw [if_neg (by have := g1.1; omega), if_neg (by have := g1.1; omega)]
    unfold nxZ
    rw [e1, e2, e3, e4]
    unfold rootV
    rw [if_pos e5]
  rw [hZ]
  unfold nxR nxB
  rw [hz, if_pos rfl, if_pos rfl]
  have hlow := in_is hst
  obtain ⟨T, hT⟩ := Int.eq_ofNat_of_zero_le hlow.1
  obtain ⟨⟨i1, i2⟩, ⟨h1, h2⟩, ⟨o1, o2⟩, ⟨b1, b2⟩, _⟩ := cfgB_is hc
  obtain ⟨x1, y1, rfl, _, _⟩ := L1.at (by omega)
  obtain ⟨x2, y2, rfl, _, _⟩ := L2.at (by omega)
  clear hZ hz hzn
  obtain ⟨i, h, o, seed, batch, steps, crate, decay, how, keep, clip⟩ := c
  dsimp only at i1 i2 h1 h2 o1 o2 b1 b2 hs hlow ⊢
  obtain ⟨I, rfl⟩ := Int.eq_ofNat_of_zero_le (show 0 ≤ i by omega)
  obtain ⟨H, rfl⟩ := Int.eq_ofNat_of_zero_le (show 0 ≤ h by omega)
  obtain ⟨O, rfl⟩ := Int.eq_ofNat_of_zero_le (show 0 ≤ o by omega)
  obtain ⟨B, rfl⟩ := Int.eq_ofNat_of_zero_le (show 0 ≤ batch by omega)
  subst hT
  have hN : n2 = H * I + H + O * H + O := by have := g1.1; unfold sizeN at this; dsimp only at this; exact_mod_cast this
  refine (rnext_calls I H O B T seed crate decay how keep clip hs steps hc n2 hN a n cap X DI DO x1 y1 k1 ws x2 y2 k2 ms q HX hn1 hn2 hex L1 L2 (by omega) _ _ _ rfl rfl rfl).mono ?_
  rintro e w' ⟨ga, d1, gb, d2, a3, k3, he, hga, hgb, lw, lm, lb, hnew, hb⟩
  exact ⟨ga, n2, d1, gb, d2, a3, B, k3, he, lb, hb⟩

structure NeBox (w : World) (c : Cfg) (v0 v1 : Value) (wr : World) : Prop where
  cfg : BoxC wr w.heap.size c
  st : wr.rowIs (w.heap.size + 1) 28 2 (fn2 v0 v1)
  bel : Below w.heap.size w wr
theorem NeBox.start (w : World) (c : Cfg) (v0 v1 : Value) : NeBox w c v0 v1 ((w.alloc (.cells c.cells 24)).alloc (.cells #[v0, v1] 28)) := by
  refine ⟨?_, ?_, ((Below.refl w.heap.size w).alloc (Nat.le_refl _) _).alloc (by simp) _⟩
  · exact boxC (B := w.heap.size + 1) ((Below.refl _ _).alloc (by simp) _) (by omega)
  · have h := fn2_alloc (w.alloc (.cells c.cells 24)) v0 v1 28
    simpa using h
theorem NeBox.below {w : World} {c : Cfg} {v0 v1 : Value} {wr w2 : World} (h : NeBox w c v0 v1 wr) (hb : Below wr.heap.size wr w2) : NeBox w c v0 v1 w2 := by
  have l2 := h.st.lt
  have k : ∀ i, w2.cell? ⟨w.heap.size, i, none⟩ = wr.cell? ⟨w.heap.size, i, none⟩ := fun i => hb.cell (p := ⟨w.heap.size, i, none⟩) (by show w.heap.size < _; omega)
  exact ⟨⟨(k 0).trans h.cfg.c0, (k 1).trans h.cfg.c1, (k 2).trans h.cfg.c2, (k 3).trans h.cfg.c3, (k 4).trans h.cfg.c4, (k 5).trans h.cfg.c5, (k 6).trans h.cfg.c6, (k 7).trans h.cfg.c7, (k 8).trans h.cfg.c8, (k 9).trans h.cfg.c9, (k 10).trans h.cfg.c10⟩,
    h.st.of_block (hb.block _ l2), h.bel.trans (hb.mono h.bel.size)⟩

set_option maxRecDepth 100000 in
set_option maxHeartbeats 1600000 in
theorem nextError_calls (c : Cfg) (a : Option Addr) (n cap : Nat) (X : Nat → Exm) (DI DO : Nat → List Int) (a1 : Option Addr) (n1 k1 : Nat) (ws : List Int) (a2 : Option Addr) (n2 k2 : Nat) (ms : List Int) (step : Int) (w : World) (hx : Exs w a n cap X DI DO) (l1 : Lst w a1 n1 k1 ws) (l2 : Lst w a2 n2 k2 ms) :
    Calls Tryz.prog 14 #[c.val, .slice a n cap, .agg #[.slice a1 n1 k1, .slice a2 n2 k2], .int .i64 step] w fun e w' => e = .returned (.int .i64 (nextE c n X DI DO n1 ws n2 ms step)) ∧ Below w.heap.size w w' := by
  have nb0 := NeBox.start w c (.slice a1 n1 k1) (.slice a2 n2 k2)
  have CK := rcourse_calls c a n cap X DI DO _ (hx.below nb0.bel (Nat.le_refl _))
  by_cases hF : courseI c n X DI DO = 0
  · rw [hF] at CK
    have hc := (course_ok hF).1
    have HSF : Hid (∀ q, Below w.heap.size w q → Calls Tryz.prog 55 #[c.val, .agg #[.slice a1 n1 k1, .slice a2 n2 k2]] q fun e w' => e = .returned (.bool (fitB c n1 ws && fitB c n2 ms)) ∧ Below q.heap.size q w') := fun q hq => rstfits_calls c hc a1 n1 k1 a2 n2 k2 ws ms q (l1.below hq (Nat.le_refl _)) (l2.below hq (Nat.le_refl _))
    have HIN : Hid (∀ q, Calls Tryz.prog 10 #[.int .i64 step, .int .i64 0, .int .i64 (c.steps - 1)] q fun e w' => e = .returned (.bool (inB step 0 (c.steps - 1))) ∧ w' = q) := fun q => rin_calls step 0 (c.steps - 1) q
    have hE : nextE c n X DI DO n1 ws n2 ms step = if (fitB c n1 ws && fitB c n2 ms) = true then (if inB step 0 (c.steps - 1) = true then 0 else 1) else 5 := by unfold nextE; rw [if_pos hF]
    rw [hE]
    obtain ⟨_, _, _, _, ⟨p1, p2⟩, _⟩ := cfgB_is hc
    generalize (fitB c n1 ws && fitB c n2 ms) = FB at *
    generalize inB step 0 (c.steps - 1) = IB at *
    clear hE hF hx l1 l2 hc
    obtain ⟨i, h, o, seed, batch, steps, crate, decay, how, keep, clip⟩ := c
    simp only [Cfg.val, Cfg.cells] at *
    obtain ⟨c0, c1, c2, c3, c4, c5, c6, c7, c8, c9, c10⟩ := nb0.cfg
    dsimp only at c0 c1 c2 c3 c4 c5 c6 c7 c8 c9 c10
    go_enter Tryz.func14, Tryz.ntmps14
    go_wp2_with fail
    refine CK.mono ?_
    rintro e u1 ⟨rfl, hu1⟩
    have nb1 := nb0.below hu1
    clear CK c0 c1 c2 c3 c4 c5 c6 c7 c8 c9 c10 nb0
    obtain ⟨c0, c1, c2, c3, c4, c5, c6, c7, c8, c9, c10⟩ := nb1.cfg
    obtain ⟨s0, s1⟩ := fn2_cells nb1.st
    dsimp only at c0 c1 c2 c3 c4 c5 c6 c7 c8 c9 c10
    have SF := HSF.out _ nb1.bel
    go_wp2_with fail
    refine SF.mono ?_
    rintro e u2 ⟨rfl, hu2⟩
    have nb2 := nb1.below hu2
    have hb2 := nb2.bel
    clear SF HSF c0 c1 c2 c3 c4 c5 c6 c7 c8 c9 c10 nb1 s0 s1
    obtain ⟨c0, c1, c2, c3, c4, c5, c6, c7, c8, c9, c10⟩ := nb2.cfg
    dsimp only at c0 c1 c2 c3 c4 c5 c6 c7 c8 c9 c10
    cases FB with
    | false =>
      go_wp2_with fail
      go_ret
      exact ⟨rfl, hb2⟩
    | true =>
      go_wp2_with fail
      refine (HIN.out _).mono ?_
      rintro e u3 ⟨rfl, hu3⟩
      replace hu3 := hu3.symm
      subst hu3
      cases IB with
      | false =>
        go_wp2_with fail
        go_ret
        exact ⟨rfl, hb2⟩
      | true =>
        go_wp2_with fail
        go_ret
        exact ⟨rfl, hb2⟩
  · have hE : nextE c n X DI DO n1 ws n2 ms step = courseI c n X DI DO := by unfold nextE; rw [if_neg hF]
    have hb : (courseI c n X DI DO != 0) = true := by rw [bne_iff_ne]; exact hF
    rw [hE]
    generalize courseI c n X DI DO = E at *
    clear hE hF hx l1 l2
    obtain ⟨i, h, o, seed, batch, steps, crate, decay, how, keep, clip⟩ := c
    simp only [Cfg.val, Cfg.cells] at *
    obtain ⟨c0, c1, c2, c3, c4, c5, c6, c7, c8, c9, c10⟩ := nb0.cfg
    dsimp only at c0 c1 c2 c3 c4 c5 c6 c7 c8 c9 c10
    go_enter Tryz.func14, Tryz.ntmps14
    go_wp2_with fail
    refine CK.mono ?_
    rintro e u1 ⟨rfl, hu1⟩
    have nb1 := (nb0.below hu1).bel
    go_wp2_with fail
    go_ret
    exact ⟨rfl, nb1⟩
end Go.Proofs.YtimciamfgpdjlaaGreat.Fx

/- What coachref.States returns, of right things. -/
namespace Go.Proofs.YtimciamfgpdjlaaGreat.Fx
open Go.RowKit

theorem OwnS.at {base : Nat} {w : World} {v : Value} {n : Nat} {X : Nat → Exm} (h : OwnS base w v n X) (h0 : 0 < n) : ∃ g c, v = .slice (some ⟨g, 0, none⟩) n c ∧ base ≤ g ∧ g < w.heap.size ∧ n ≤ c ∧ ∀ j, j < n → w.cell? ⟨g, j * 2, none⟩ = some (.slice (X j).a (X j).n (X j).k) ∧ w.cell? ⟨g, j * 2 + 1, none⟩ = some (.slice (X j).b (X j).m (X j).t) := by
  obtain ⟨hl, h2⟩ := h
  rcases h2 with ⟨_, hn⟩ | ⟨g, cap, cur, hv, hg, hh, hle, _, hsz, hcur⟩
  · omega
  · refine ⟨g, cap, hv, hg, (Array.getElem?_eq_some_iff.1 hh).1, hle, fun i hi => ?_⟩
    have hc : ∀ j, j < n * 2 → w.cell? ⟨g, j, none⟩ = (stCells X n)[j]? := fun j hj => by
      rw [← hcur, List.getElem?_take_of_lt hj]
      simp [World.cell?, hh]
    have g2 := stCells_at X hi
    exact ⟨(hc (i * 2) (by omega)).trans g2.1, (hc (i * 2 + 1) (by omega)).trans g2.2⟩
theorem OwnS.one (w : World) (X : Nat → Exm) : OwnS w.heap.size (w.alloc (.cells #[.slice (X 0).a (X 0).n (X 0).k, .slice (X 0).b (X 0).m (X 0).t] 28)) (.slice (some ⟨w.heap.size, 0, none⟩) 1 1) 1 X :=
  ⟨rfl, .inr ⟨w.heap.size, 1, _, rfl, Nat.le_refl _, Go.Deep.blk_alloc_new _ _, Nat.le_refl _, by decide, rfl, rfl⟩⟩
theorem OwnS.mono {base b2 : Nat} {w : World} {v : Value} {n : Nat} {X : Nat → Exm} (h : OwnS base w v n X) (hb : b2 ≤ base) : OwnS b2 w v n X := by
  refine ⟨h.1, ?_⟩
  rcases h.2 with h0 | ⟨g, cap, cur, hv, hg, r⟩
  · exact .inl h0
  · exact .inr ⟨g, cap, cur, hv, by omega, r⟩
theorem OwnS.congr {base : Nat} {w : World} {v : Value} {n : Nat} {X Y : Nat → Exm} (h : OwnS base w v n X) (e : ∀ i, i < n → X i = Y i) : OwnS base w v n Y := by
  unfold OwnS at *
  rw [← stCells_congr e]
  exact h

/-- The states of a list: where their lists lie, apart from block g. -/
def StB (w : World) (N k g : Nat) (X : Nat → Exm) (DW DM : Nat → List Int) : Prop := ∀ j, j ≤ k → ∃ xa xk xb xt, X j = ⟨some ⟨xa, 0, none⟩, N, xk, some ⟨xb, 0, none⟩, N, xt⟩ ∧ xa ≠ g ∧ xb ≠ g ∧ Lst w (some ⟨xa, 0, none⟩) N xk (DW j) ∧ Lst w (some ⟨xb, 0, none⟩) N xt (DM j)
theorem StB.below {w w' : World} {N k g : Nat} {X : Nat → Exm} {DW DM : Nat → List Int} (h : StB w N k g X DW DM) (hb : Below w.heap.size w w') : StB w' N k g X DW DM := fun j hj => by
  obtain ⟨xa, xk, xb, xt, e, n1, n2, l1, l2⟩ := h j hj
  exact ⟨xa, xk, xb, xt, e, n1, n2, l1.below hb (Nat.le_refl _), l2.below hb (Nat.le_refl _)⟩
theorem Lst.blk {w : World} {g n c : Nat} {xs : List Int} (h : Lst w (some ⟨g, 0, none⟩) n c xs) (hn : 0 < n) : g < w.heap.size := by
  obtain ⟨_, _, e, hs, _⟩ := h.at hn
  simp only [Option.some.injEq, Addr.mk.injEq, and_true] at e
  omega
theorem StB.grown {w w' : World} {N k g g' : Nat} {X : Nat → Exm} {DW DM : Nat → List Int} (h : StB w N k g X DW DM) (hN : 0 < N) (hg : w.grownBy w' (some g)) (he : g' = g ∨ g' = w.heap.size) : StB w' N k g' X DW DM := fun j hj => by
  obtain ⟨xa, xk, xb, xt, e, n1, n2, l1, l2⟩ := h j hj
  have := l1.blk hN
  have := l2.blk hN
  exact ⟨xa, xk, xb, xt, e, by omega, by omega, l1.grown hg n1, l2.grown hg n2⟩
theorem StB.push {w : World} {N k g : Nat} {X Y : Nat → Exm} {DW DM : Nat → List Int} {xa xk xb xt : Nat} (h : StB w N k g X DW DM) (hY : ∀ j, j ≤ k → Y j = X j) (hx : Y (k + 1) = ⟨some ⟨xa, 0, none⟩, N, xk, some ⟨xb, 0, none⟩, N, xt⟩) (n1 : xa ≠ g) (n2 : xb ≠ g) (l1 : Lst w (some ⟨xa, 0, none⟩) N xk (DW (k + 1))) (l2 : Lst w (some ⟨xb, 0, none⟩) N xt (DM (k + 1))) : StB w N (k + 1) g Y DW DM := fun j hj => by
  by_cases e : j = k + 1
  · subst e; exact ⟨xa, xk, xb, xt, hx, n1, n2, l1, l2⟩
  · obtain ⟨xa, xk, xb, xt, e2, r⟩ := h j (by omega)
    exact ⟨xa, xk, xb, xt, (hY j (by omega)).trans e2, r⟩
theorem set' {Bd : Nat} {W q : World} (h : Below Bd W q) {b i : Nat} (hb : Bd ≤ b) {v : Value} : Below Bd W (q.setCell ⟨b, i, none⟩ v) := h.setCell hb v
theorem Lst.far {w : World} {g n c : Nat} {xs : List Int} (h : Lst w (some ⟨g, 0, none⟩) n c xs) {b i : Nat} (hb : g ≠ b) {v : Value} : Lst (w.setCell ⟨b, i, none⟩ v) (some ⟨g, 0, none⟩) n c xs := h.setFar hb v
theorem Lst.al {w : World} {g n c : Nat} {xs : List Int} (h : Lst w (some ⟨g, 0, none⟩) n c xs) {o : Obj} : Lst (w.alloc o) (some ⟨g, 0, none⟩) n c xs := h.below (low_alloc w o) (Nat.le_refl _)
theorem row_far {w : World} {b t n : Nat} {f : Nat → Value} (h : w.rowIs b t n f) {c i : Nat} (hne : b ≠ c) {v : Value} : (w.setCell ⟨c, i, none⟩ v).rowIs b t n f := h.setOther (a := ⟨c, i, none⟩) hne v
theorem via9 {P : Prop} {F : Nat → Nat → Nat → Nat → Nat → World → Prop} {Q : Nat → Nat → Nat → Nat → Option Addr → Nat → Nat → Nat → World → Prop} (h1 : (∀ ga d1 gb d2 a3 k3 SB RB q, F ga d1 gb d2 SB q → Q ga d1 gb d2 a3 k3 SB RB q) → P) (h2 : ∀ ga d1 gb d2 a3 k3 SB RB q, F ga d1 gb d2 SB q → Q ga d1 gb d2 a3 k3 SB RB q) : P := h1 h2

set_option maxRecDepth 100000 in
set_option maxHeartbeats 6400000 in
theorem rstates_calls (I H O B : Nat) (seed crate decay how keep clip : Int) (hs : okW seed) (steps : Int) (hc : cfgB ⟨I, H, O, seed, B, steps, crate, decay, how, keep, clip⟩ = true) (N : Nat) (hN : N = H * I + H + O * H + O) (a : Option Addr) (n cap : Nat) (X : Nat → Exm) (DI DO : Nat → List Int) (nn : Nat) (w : World)
    (hx : Exs w a n cap X DI DO) (hn1 : 1 ≤ n) (hn2 : n ≤ 16) (hex : allEx ⟨I, H, O, seed, B, steps, crate, decay, how, keep, clip⟩ n X DI DO = true) (hnn : (nn : Int) ≤ steps) :
    Calls Tryz.prog 11 #[Cfg.val ⟨I, H, O, seed, B, steps, crate, decay, how, keep, clip⟩, .slice a n cap, .int .i64 nn] w fun e w' => ∃ b k Y, e = .returned (.slice b (nn + 1) k) ∧ Exs w' b (nn + 1) k Y (fun j => (stateP ⟨I, H, O, seed, B, steps, crate, decay, how, keep, clip⟩ n DI DO N j).1) (fun j => (stateP ⟨I, H, O, seed, B, steps, crate, decay, how, keep, clip⟩ n DI DO N j).2) ∧ Below w.heap.size w w' := by
  obtain ⟨⟨i1, i2⟩, ⟨h1, h2⟩, ⟨p1, p2⟩, _, ⟨s1, s2⟩, _⟩ := cfgB_is hc
  dsimp only at i1 i2 h1 h2 p1 p2 s1 s2
  have hN4 : 4 ≤ N ∧ N ≤ 40 := by
    have := prod_sideN (show H ≤ 4 by omega) (show I ≤ 4 by omega)
    have := prod_sideN (show O ≤ 4 by omega) (show H ≤ 4 by omega)
    have : 1 ≤ H * I := Nat.mul_pos (by omega) (by omega)
    have : 1 ≤ O * H := Nat.mul_pos (by omega) (by omega)
    omega
  obtain ⟨DW, HDW⟩ : ∃ f : Nat → List Int, Hid (∀ j, f j = (stateP ⟨I, H, O, seed, B, steps, crate, decay, how, keep, clip⟩ n DI DO N j).1) := ⟨_, fun _ => rfl⟩
  obtain ⟨DM, HDM⟩ : ∃ f : Nat → List Int, Hid (∀ j, f j = (stateP ⟨I, H, O, seed, B, steps, crate, decay, how, keep, clip⟩ n DI DO N j).2) := ⟨_, fun _ => rfl⟩
  have hEW : (fun j => (stateP ⟨I, H, O, seed, B, steps, crate, decay, how, keep, clip⟩ n DI DO N j).1) = DW := funext fun j => (HDW.out j).symm
  have hEM : (fun j => (stateP ⟨I, H, O, seed, B, steps, crate, decay, how, keep, clip⟩ n DI DO N j).2) = DM := funext fun j => (HDM.out j).symm
  rw [hEW, hEM]
  clear hEW hEM
  have hNI : (N : Int) = sizeN ⟨I, H, O, seed, B, steps, crate, decay, how, keep, clip⟩ := by unfold sizeN; dsimp only; rw [hN]; push_cast; rfl
  have HS : Hid (∀ q, Calls Tryz.prog 53 #[Cfg.val ⟨I, H, O, seed, B, steps, crate, decay, how, keep, clip⟩] q fun e w' => ∃ ga d1 gb d2, e = .returned (.agg #[.slice (some ⟨ga, 0, none⟩) N d1, .slice (some ⟨gb, 0, none⟩) N d2]) ∧ q.heap.size ≤ ga ∧ q.heap.size ≤ gb ∧ Lst w' (some ⟨ga, 0, none⟩) N d1 (DW 0) ∧ Lst w' (some ⟨gb, 0, none⟩) N d2 (DM 0) ∧ Below q.heap.size q w') := fun q => by
    rw [HDW.out, HDM.out]
    exact rstart_calls ⟨I, H, O, seed, B, steps, crate, decay, how, keep, clip⟩ hc hs N hNI q
  have HNX : Hid (∀ k : Nat, (k : Int) ≤ steps - 1 → ∃ R Z : Int, ∀ q x1 k1 x2 k2, Below w.heap.size w q → Lst q (some ⟨x1, 0, none⟩) N k1 (DW k) → Lst q (some ⟨x2, 0, none⟩) N k2 (DM k) → Calls Tryz.prog 15 #[Cfg.val ⟨I, H, O, seed, B, steps, crate, decay, how, keep, clip⟩, .slice a n cap, .agg #[.slice (some ⟨x1, 0, none⟩) N k1, .slice (some ⟨x2, 0, none⟩) N k2], .int .i64 k] q fun e w' => ∃ ga d1 gb d2 a3 k3, e = .returned (.tuple #[.agg #[.slice (some ⟨ga, 0, none⟩) N d1, .slice (some ⟨gb, 0, none⟩) N d2], .agg #[.int .i64 k, .slice a3 B k3, .int .i64 R, .int .u64 Z, .int .u64 0]]) ∧ q.heap.size ≤ ga ∧ q.heap.size ≤ gb ∧ Lst w' (some ⟨ga, 0, none⟩) N d1 (DW (k + 1)) ∧ Lst w' (some ⟨gb, 0, none⟩) N d2 (DM (k + 1)) ∧ Below q.heap.size q w') := fun k hk => by
    refine ⟨rateV ⟨I, H, O, seed, B, steps, crate, decay, how, keep, clip⟩ k, rootP ((List.range N).map (goneG ⟨I, H, O, seed, B, steps, crate, decay, how, keep, clip⟩ (DW k) (DM k) (pushL ⟨I, H, O, seed, B, steps, crate, decay, how, keep, clip⟩ n (DW k) DI DO k N) (rateV ⟨I, H, O, seed, B, steps, crate, decay, how, keep, clip⟩ k))) ((List.range N).map (keptG ⟨I, H, O, seed, B, steps, crate, decay, how, keep, clip⟩ (DM k) (pushL ⟨I, H, O, seed, B, steps, crate, decay, how, keep, clip⟩ n (DW k) DI DO k N))) (N + N), fun q x1 k1 x2 k2 hq l1 l2 => ?_⟩
    refine (rnext_calls I H O B k seed crate decay how keep clip hs steps hc N hN a n cap X DI DO x1 0 k1 (DW k) x2 0 k2 (DM k) q (hx.below hq (Nat.le_refl _)) hn1 hn2 hex l1 l2 hk _ _ _ rfl rfl rfl).mono ?_
    rintro e w' ⟨ga, e1, gb, e2, a3, k3, he, hga, hgb, lw, lm, _, _, hb⟩
    refine ⟨ga, e1, gb, e2, a3, k3, he, hga, hgb, ?_, ?_, hb⟩
    · rw [HDW.out (k + 1)]; rw [HDW.out, HDM.out] at lw; exact lw
    · rw [HDM.out (k + 1)]; rw [HDW.out, HDM.out] at lm; exact lm
  have hal := low_alloc w (.cells (Cfg.cells ⟨I, H, O, seed, B, steps, crate, decay, how, keep, clip⟩) 24)
  obtain ⟨W, HW⟩ : ∃ q, Hid (q = w.alloc (.cells (Cfg.cells ⟨I, H, O, seed, B, steps, crate, decay, how, keep, clip⟩) 24)) := ⟨_, rfl⟩
  have KB : Hid (∀ q, Below W.heap.size W q → BoxC q w.heap.size ⟨I, H, O, seed, B, steps, crate, decay, how, keep, clip⟩) := fun q hq => by rw [HW.out] at hq; exact boxC hq (by simp)
  have hbW : Below w.heap.size w W := by rw [HW.out]; exact hal
  have hltW : w.heap.size < W.heap.size := by rw [HW.out]; simp
  clear hx hex hc hN hNI hs HDW HDM hal
  simp only [Cfg.val, Cfg.cells] at *
  obtain ⟨c0, c1, c2, c3, c4, c5, c6, c7, c8, c9, c10⟩ := KB.out _ (Below.refl _ _)
  dsimp only at c0 c1 c2 c3 c4 c5 c6 c7 c8 c9 c10
  go_enter Tryz.func11, Tryz.ntmps11
  go_wp2_with fail
  rw [← HW.out]
  clear HW
  refine (HS.out _).mono ?_
  rintro e w1 ⟨ga, d1, gb, d2, rfl, hga, hgb, l1, l2, hw1⟩
  clear c0 c1 c2 c3 c4 c5 c6 c7 c8 c9 c10 HS
  have own1 := OwnS.one w1 (fun _ => ⟨some ⟨ga, 0, none⟩, N, d1, some ⟨gb, 0, none⟩, N, d2⟩)
  have hl1 := low_alloc w1 (.cells #[.slice (some ⟨ga, 0, none⟩) N d1, .slice (some ⟨gb, 0, none⟩) N d2] 28)
  have T1 := hw1.trans (hl1.mono hw1.size)
  have hz1 := hw1.size
  have stb1 : StB (w1.alloc (.cells #[.slice (some ⟨ga, 0, none⟩) N d1, .slice (some ⟨gb, 0, none⟩) N d2] 28)) N 0 w1.heap.size (fun _ => ⟨some ⟨ga, 0, none⟩, N, d1, some ⟨gb, 0, none⟩, N, d2⟩) DW DM := fun j hj => by
    obtain rfl : j = 0 := by omega
    have := l1.blk (by omega)
    have := l2.blk (by omega)
    exact ⟨ga, d1, gb, d2, rfl, by omega, by omega, l1.below hl1 (Nat.le_refl _), l2.below hl1 (Nat.le_refl _)⟩
  go_wp2_with fail
  go_loopw [7, 8] (fun s v wr => ∃ (k g c : Nat) (Y : Nat → Exm), k ≤ nn ∧ v = .int .i64 k ∧ s = .slice (some ⟨g, 0, none⟩) (k + 1) c ∧ OwnS W.heap.size wr (.slice (some ⟨g, 0, none⟩) (k + 1) c) (k + 1) Y ∧ StB wr N k g Y DW DM ∧ Below W.heap.size W wr) (fun _ v _ => nn - (intOf v).toNat)
  case atStart => exact ⟨0, w1.heap.size, 1, _, Nat.zero_le _, rfl, rfl, own1.mono hz1, stb1, T1⟩
  case round =>
    clear own1 stb1 T1 hl1 l1 l2 hga hgb
    obtain ⟨k, g, c, Y, hk, rfl, rfl, hown, hst, hbel⟩ := hrel
    obtain ⟨g', c', ev, hgW, hgl, hkc, hcells⟩ := hown.at (by omega)
    simp only [Value.slice.injEq, Option.some.injEq, Addr.mk.injEq, and_true, true_and] at ev
    obtain ⟨eg, ec⟩ := ev
    subst eg
    subst ec
    by_cases hlt : k < nn
    · have cl := hcells k (by omega)
      obtain ⟨xa, xk, xb, xt, hyk, na, nb, lI, lO⟩ := hst k (Nat.le_refl _)
      rw [hyk] at cl
      dsimp only at cl
      obtain ⟨u0, u1⟩ := cl
      obtain ⟨R, Z, HN⟩ := HNX.out k (by omega)
      have HNX2 : Hid (∀ q, Below wr.heap.size wr q → Calls Tryz.prog 15 #[.agg #[.int .i64 I, .int .i64 H, .int .i64 O, .int .u64 seed, .int .i64 B, .int .i64 steps, .int .i64 crate, .int .i64 decay, .int .i64 how, .int .i64 keep, .int .i64 clip], .slice a n cap, .agg #[.slice (some ⟨xa, 0, none⟩) N xk, .slice (some ⟨xb, 0, none⟩) N xt], .int .i64 k] q fun e w' => ∃ ga d1 gb d2 a3 k3, e = .returned (.tuple #[.agg #[.slice (some ⟨ga, 0, none⟩) N d1, .slice (some ⟨gb, 0, none⟩) N d2], .agg #[.int .i64 k, .slice a3 B k3, .int .i64 R, .int .u64 Z, .int .u64 0]]) ∧ q.heap.size ≤ ga ∧ q.heap.size ≤ gb ∧ Lst w' (some ⟨ga, 0, none⟩) N d1 (DW (k + 1)) ∧ Lst w' (some ⟨gb, 0, none⟩) N d2 (DM (k + 1)) ∧ Below q.heap.size q w') := fun q hq =>
        HN q xa xk xb xt (hbW.trans ((hbel.trans (hq.mono hbel.size)).mono hbW.size)) (lI.below hq (Nat.le_refl _)) (lO.below hq (Nat.le_refl _))
      have KS : Hid (∀ q, Below wr.heap.size wr q → q.cell? ⟨w.heap.size, 0, none⟩ = some (.int .i64 I) ∧ q.cell? ⟨w.heap.size, 1, none⟩ = some (.int .i64 H) ∧ q.cell? ⟨w.heap.size, 2, none⟩ = some (.int .i64 O) ∧ q.cell? ⟨w.heap.size, 3, none⟩ = some (.int .u64 seed) ∧ q.cell? ⟨w.heap.size, 4, none⟩ = some (.int .i64 B) ∧ q.cell? ⟨w.heap.size, 5, none⟩ = some (.int .i64 steps) ∧ q.cell? ⟨w.heap.size, 6, none⟩ = some (.int .i64 crate) ∧ q.cell? ⟨w.heap.size, 7, none⟩ = some (.int .i64 decay) ∧ q.cell? ⟨w.heap.size, 8, none⟩ = some (.int .i64 how) ∧ q.cell? ⟨w.heap.size, 9, none⟩ = some (.int .i64 keep) ∧ q.cell? ⟨w.heap.size, 10, none⟩ = some (.int .i64 clip) ∧ q.cell? ⟨g, k * 2, none⟩ = some (.slice (some ⟨xa, 0, none⟩) N xk) ∧ q.cell? ⟨g, k * 2 + 1, none⟩ = some (.slice (some ⟨xb, 0, none⟩) N xt)) := fun q hq => by
        obtain ⟨x0, x1, x2, x3, x4, x5, x6, x7, x8, x9, x10⟩ := KB.out q (hbel.trans (hq.mono hbel.size))
        exact ⟨x0, x1, x2, x3, x4, x5, x6, x7, x8, x9, x10, (hq.cell (p := ⟨g, k * 2, none⟩) hgl).trans u0, (hq.cell (p := ⟨g, k * 2 + 1, none⟩) hgl).trans u1⟩
      have T0 : Below wr.heap.size wr wr := Below.refl _ _
      have hle : wr.heap.size ≤ wr.heap.size := Nat.le_refl _
      have k0 : (0 : Int) ≤ (k : Int) := by omega
      have k2 : (k : Int) < (k : Int) + 1 := by omega
      have Ba : Below wr.heap.size wr wr.drew := Below.drew T0
      have Bb : Below wr.heap.size wr (wr.alloc (.cells #[.slice none 0 0, .slice none 0 0] 28)).drew := Below.drew (al T0 hle)
      have Bc : Below wr.heap.size wr (wr.alloc (.cells #[.int .i64 0, .slice none 0 0, .int .i64 0, .int .u64 0, .int .u64 0] 30)).drew := Below.drew (al T0 hle)
      have Bd : Below wr.heap.size wr ((wr.alloc (.cells #[.slice none 0 0, .slice none 0 0] 28)).alloc (.cells #[.int .i64 0, .slice none 0 0, .int .i64 0, .int .u64 0, .int .u64 0] 30)).drew := Below.drew (al (al T0 hle) hle)
      have Be : Below wr.heap.size wr ((wr.alloc (.cells #[.int .i64 0, .slice none 0 0, .int .i64 0, .int .u64 0, .int .u64 0] 30)).alloc (.cells #[.slice none 0 0, .slice none 0 0] 28)).drew := Below.drew (al (al T0 hle) hle)
      have sbS := fn2_alloc wr (.slice none 0 0) (.slice none 0 0) 28
      have sbR := fn5_alloc wr (.int .i64 0) (.slice none 0 0) (.int .i64 0) (.int .u64 0) (.int .u64 0) 30
      have sbSR : ((wr.alloc (.cells #[.int .i64 0, .slice none 0 0, .int .i64 0, .int .u64 0, .int .u64 0] 30)).alloc (.cells #[.slice none 0 0, .slice none 0 0] 28)).rowIs (wr.heap.size + 1) 28 2 (fn2 (.slice none 0 0) (.slice none 0 0)) := fn2_at _ _ _ _ (by simp)
      have sbRS : ((wr.alloc (.cells #[.slice none 0 0, .slice none 0 0] 28)).alloc (.cells #[.int .i64 0, .slice none 0 0, .int .i64 0, .int .u64 0, .int .u64 0] 30)).rowIs (wr.heap.size + 1) 30 5 (fn5 (.int .i64 0) (.slice none 0 0) (.int .i64 0) (.int .u64 0) (.int .u64 0)) := by
        have h := fn5_alloc (wr.alloc (.cells #[.slice none 0 0, .slice none 0 0] 28)) (.int .i64 0) (.slice none 0 0) (.int .i64 0) (.int .u64 0) (.int .u64 0) 30
        simpa using h
      clear lI lO HN
      go_wp2_with fail
      apply via9 (F := OutAt wr N (DW (k + 1)) (DM (k + 1)))
      · intro key
        go_region_held3 (fun q => q.cell? ⟨w.heap.size, 0, none⟩ = some (.int .i64 I) ∧ q.cell? ⟨w.heap.size, 1, none⟩ = some (.int .i64 H) ∧ q.cell? ⟨w.heap.size, 2, none⟩ = some (.int .i64 O) ∧ q.cell? ⟨w.heap.size, 3, none⟩ = some (.int .u64 seed) ∧ q.cell? ⟨w.heap.size, 4, none⟩ = some (.int .i64 B) ∧ q.cell? ⟨w.heap.size, 5, none⟩ = some (.int .i64 steps) ∧ q.cell? ⟨w.heap.size, 6, none⟩ = some (.int .i64 crate) ∧ q.cell? ⟨w.heap.size, 7, none⟩ = some (.int .i64 decay) ∧ q.cell? ⟨w.heap.size, 8, none⟩ = some (.int .i64 how) ∧ q.cell? ⟨w.heap.size, 9, none⟩ = some (.int .i64 keep) ∧ q.cell? ⟨w.heap.size, 10, none⟩ = some (.int .i64 clip) ∧ q.cell? ⟨g, k * 2, none⟩ = some (.slice (some ⟨xa, 0, none⟩) N xk) ∧ q.cell? ⟨g, k * 2 + 1, none⟩ = some (.slice (some ⟨xb, 0, none⟩) N xt)) ((with_reducible refine KS.out _ ?_; iterate 12 (first | done | with_reducible exact V1 | with_reducible exact T0 | with_reducible refine Below.drew ?_ | with_reducible refine al ?_ hle | (with_reducible refine set' ?_ ?_; rotate_left; omega))))
          (first | (go_at_call 15; (first | refine (HNX2.out _ Ba).mono ?_ | refine (HNX2.out _ Bb).mono ?_ | refine (HNX2.out _ Bc).mono ?_ | refine (HNX2.out _ Bd).mono ?_ | refine (HNX2.out _ Be).mono ?_); rintro e v1 ⟨ga, e1, gb, e2, a3, k3, rfl, hga, hgb, lw, lm, hv1⟩; have V1 : Below wr.heap.size wr v1 := (by first | exact Ba.trans (hv1.mono Ba.size) | exact Bb.trans (hv1.mono Bb.size) | exact Bc.trans (hv1.mono Bc.size) | exact Bd.trans (hv1.mono Bd.size) | exact Be.trans (hv1.mono Be.size)); have hV := V1.size; first | (have zs : v1.rowIs wr.heap.size 28 2 (fn2 (.slice none 0 0) (.slice none 0 0)) := (show (wr.alloc (.cells #[.slice none 0 0, .slice none 0 0] 28)).drew.rowIs wr.heap.size 28 2 (fn2 (.slice none 0 0) (.slice none 0 0)) from sbS).of_block (hv1.block _ sbS.lt); have zsA := zs.alloc (.cells #[.int .i64 0, .slice none 0 0, .int .i64 0, .int .u64 0, .int .u64 0] 30); obtain ⟨a10, a11⟩ := fn2_cells zsA; have f10 := zsA.frozen 0; have f11 := zsA.frozen 1; have zrA := ((fn5_alloc v1 (.int .i64 0) (.slice none 0 0) (.int .i64 0) (.int .u64 0) (.int .u64 0) 30).setOther (a := ⟨wr.heap.size, 0, none⟩) (show v1.heap.size ≠ wr.heap.size by have := zs.lt; omega) (.slice (some ⟨ga, 0, none⟩) N e1)).setOther (a := ⟨wr.heap.size, 1, none⟩) (show v1.heap.size ≠ wr.heap.size by have := zs.lt; omega) (.slice (some ⟨gb, 0, none⟩) N e2); obtain ⟨b20, b21, b22, b23, b24⟩ := fn5_box zrA; have h20 := zrA.frozen 0; have h21 := zrA.frozen 1; have h22 := zrA.frozen 2; have h23 := zrA.frozen 3; have h24 := zrA.frozen 4) | (have zr : v1.rowIs wr.heap.size 30 5 (fn5 (.int .i64 0) (.slice none 0 0) (.int .i64 0) (.int .u64 0) (.int .u64 0)) := (show (wr.alloc (.cells #[.int .i64 0, .slice none 0 0, .int .i64 0, .int .u64 0, .int .u64 0] 30)).drew.rowIs wr.heap.size 30 5 (fn5 (.int .i64 0) (.slice none 0 0) (.int .i64 0) (.int .u64 0) (.int .u64 0)) from sbR).of_block (hv1.block _ sbR.lt); have zrA := zr.alloc (.cells #[.slice (some ⟨ga, 0, none⟩) N e1, .slice (some ⟨gb, 0, none⟩) N e2] 28); obtain ⟨b20, b21, b22, b23, b24⟩ := fn5_box zrA; have h20 := zrA.frozen 0; have h21 := zrA.frozen 1; have h22 := zrA.frozen 2; have h23 := zrA.frozen 3; have h24 := zrA.frozen 4) | (have zs : v1.rowIs wr.heap.size 28 2 (fn2 (.slice none 0 0) (.slice none 0 0)) := (show ((wr.alloc (.cells #[.slice none 0 0, .slice none 0 0] 28)).alloc (.cells #[.int .i64 0, .slice none 0 0, .int .i64 0, .int .u64 0, .int .u64 0] 30)).drew.rowIs wr.heap.size 28 2 (fn2 (.slice none 0 0) (.slice none 0 0)) from sbS.alloc _).of_block (hv1.block _ (sbS.alloc _).lt); have zr : v1.rowIs (wr.heap.size + 1) 30 5 (fn5 (.int .i64 0) (.slice none 0 0) (.int .i64 0) (.int .u64 0) (.int .u64 0)) := (show ((wr.alloc (.cells #[.slice none 0 0, .slice none 0 0] 28)).alloc (.cells #[.int .i64 0, .slice none 0 0, .int .i64 0, .int .u64 0, .int .u64 0] 30)).drew.rowIs (wr.heap.size + 1) 30 5 (fn5 (.int .i64 0) (.slice none 0 0) (.int .i64 0) (.int .u64 0) (.int .u64 0)) from sbRS).of_block (hv1.block _ sbRS.lt); obtain ⟨a10, a11⟩ := fn2_cells zs; have f10 := zs.frozen 0; have f11 := zs.frozen 1; have zrA := (zr.setOther (a := ⟨wr.heap.size, 0, none⟩) (show wr.heap.size + 1 ≠ wr.heap.size by omega) (.slice (some ⟨ga, 0, none⟩) N e1)).setOther (a := ⟨wr.heap.size, 1, none⟩) (show wr.heap.size + 1 ≠ wr.heap.size by omega) (.slice (some ⟨gb, 0, none⟩) N e2); obtain ⟨b20, b21, b22, b23, b24⟩ := fn5_box zrA; have h20 := zrA.frozen 0; have h21 := zrA.frozen 1; have h22 := zrA.frozen 2; have h23 := zrA.frozen 3; have h24 := zrA.frozen 4) | (have zs : v1.rowIs (wr.heap.size + 1) 28 2 (fn2 (.slice none 0 0) (.slice none 0 0)) := (show ((wr.alloc (.cells #[.int .i64 0, .slice none 0 0, .int .i64 0, .int .u64 0, .int .u64 0] 30)).alloc (.cells #[.slice none 0 0, .slice none 0 0] 28)).drew.rowIs (wr.heap.size + 1) 28 2 (fn2 (.slice none 0 0) (.slice none 0 0)) from sbSR).of_block (hv1.block _ sbSR.lt); have zr : v1.rowIs wr.heap.size 30 5 (fn5 (.int .i64 0) (.slice none 0 0) (.int .i64 0) (.int .u64 0) (.int .u64 0)) := (show ((wr.alloc (.cells #[.int .i64 0, .slice none 0 0, .int .i64 0, .int .u64 0, .int .u64 0] 30)).alloc (.cells #[.slice none 0 0, .slice none 0 0] 28)).drew.rowIs wr.heap.size 30 5 (fn5 (.int .i64 0) (.slice none 0 0) (.int .i64 0) (.int .u64 0) (.int .u64 0)) from sbR.alloc _).of_block (hv1.block _ (sbR.alloc _).lt); obtain ⟨a10, a11⟩ := fn2_cells zs; have f10 := zs.frozen 0; have f11 := zs.frozen 1; have zrA := (zr.setOther (a := ⟨wr.heap.size + 1, 0, none⟩) (show wr.heap.size ≠ wr.heap.size + 1 by omega) (.slice (some ⟨ga, 0, none⟩) N e1)).setOther (a := ⟨wr.heap.size + 1, 1, none⟩) (show wr.heap.size ≠ wr.heap.size + 1 by omega) (.slice (some ⟨gb, 0, none⟩) N e2); obtain ⟨b20, b21, b22, b23, b24⟩ := fn5_box zrA; have h20 := zrA.frozen 0; have h21 := zrA.frozen 1; have h22 := zrA.frozen 2; have h23 := zrA.frozen 3; have h24 := zrA.frozen 4) | skip))
        all_goals
          have ba := lw.blk (by omega)
          have bb := lm.blk (by omega)
          simp at hga hgb
          (try (have zl := zs.lt))
          (try (have zl2 := zr.lt))
        · have f : OutAt wr N (DW (k + 1)) (DM (k + 1)) ga e1 gb e2 v1.heap.size ((v1.alloc (.cells #[.slice (some ⟨ga, 0, none⟩) N e1, .slice (some ⟨gb, 0, none⟩) N e2] 28)).alloc (.cells #[.int .i64 k, .slice a3 B k3, .int .i64 R, .int .u64 Z, .int .u64 0] 30)) := by
            refine ⟨?_, by omega, by omega, by omega, ?_, ?_, ?_⟩
            · iterate 12 (first | done | with_reducible exact fn2_set zs _ _ | with_reducible exact fn2_set zsA _ _ | with_reducible exact fn2_alloc _ _ _ _ | (with_reducible refine fn2_at _ _ _ _ ?_; simp; done) | (with_reducible refine row_far ?_ ?_; rotate_left; omega) | with_reducible refine World.rowIs.alloc ?_ _)
            · iterate 12 (first | done | with_reducible exact lw | with_reducible exact lm | with_reducible refine Lst.al ?_ | (with_reducible refine Lst.far ?_ ?_; rotate_left; omega))
            · iterate 12 (first | done | with_reducible exact lw | with_reducible exact lm | with_reducible refine Lst.al ?_ | (with_reducible refine Lst.far ?_ ?_; rotate_left; omega))
            · iterate 12 (first | done | with_reducible exact V1 | with_reducible refine al ?_ hle | (with_reducible refine set' ?_ ?_; rotate_left; omega))
          generalize (v1.alloc (.cells #[.slice (some ⟨ga, 0, none⟩) N e1, .slice (some ⟨gb, 0, none⟩) N e2] 28)).alloc (.cells #[.int .i64 k, .slice a3 B k3, .int .i64 R, .int .u64 Z, .int .u64 0] 30) = q at f ⊢
          generalize v1.heap.size + 1 = RB at f ⊢
          generalize v1.heap.size = SB at f ⊢
          exact key ga e1 gb e2 a3 k3 SB RB q f
        all_goals
          refine key ga e1 gb e2 a3 k3 _ _ _ ?_
          refine ⟨?_, by omega, by omega, by omega, ?_, ?_, ?_⟩
          · iterate 12 (first | done | with_reducible exact fn2_set zs _ _ | with_reducible exact fn2_set zsA _ _ | with_reducible exact fn2_alloc _ _ _ _ | (with_reducible refine fn2_at _ _ _ _ ?_; simp; done) | (with_reducible refine row_far ?_ ?_; rotate_left; omega) | with_reducible refine World.rowIs.alloc ?_ _)
          · iterate 12 (first | done | with_reducible exact lw | with_reducible exact lm | with_reducible refine Lst.al ?_ | (with_reducible refine Lst.far ?_ ?_; rotate_left; omega))
          · iterate 12 (first | done | with_reducible exact lw | with_reducible exact lm | with_reducible refine Lst.al ?_ | (with_reducible refine Lst.far ?_ ?_; rotate_left; omega))
          · iterate 12 (first | done | with_reducible exact V1 | with_reducible refine al ?_ hle | (with_reducible refine set' ?_ ?_; rotate_left; omega))
      · rintro ga e1 gb e2 a3 k3 SB RB q ⟨srow, hSB, hga, hgb, la, lb, bel⟩
        obtain ⟨o0, o1⟩ := fn2_cells srow
        obtain ⟨Y2, HY⟩ : ∃ Y2 : Nat → Exm, Hid (Y2 (k + 1) = ⟨some ⟨ga, 0, none⟩, N, e1, some ⟨gb, 0, none⟩, N, e2⟩ ∧ ∀ j, j ≤ k → Y2 j = Y j) := ⟨fun j => if j = k + 1 then ⟨some ⟨ga, 0, none⟩, N, e1, some ⟨gb, 0, none⟩, N, e2⟩ else Y j, by exact ⟨if_pos rfl, fun j hj => if_neg (by omega)⟩⟩
        have hq := low_alloc q (.cells #[.slice (some ⟨ga, 0, none⟩) N e1, .slice (some ⟨gb, 0, none⟩) N e2] 28)
        have b3 := bel.trans (hq.mono bel.size)
        have own2 : OwnS W.heap.size (q.alloc (.cells #[.slice (some ⟨ga, 0, none⟩) N e1, .slice (some ⟨gb, 0, none⟩) N e2] 28)) (.slice (some ⟨g, 0, none⟩) (k + 1) c) (k + 1) Y2 := (hown.below b3).congr (fun j hj => (HY.out.2 j (by omega)).symm)
        have frow := fn2_alloc q (.slice (some ⟨ga, 0, none⟩) N e1) (.slice (some ⟨gb, 0, none⟩) N e2) 28
        have d0 : (q.alloc (.cells #[.slice (some ⟨ga, 0, none⟩) N e1, .slice (some ⟨gb, 0, none⟩) N e2] 28)).cell? ⟨q.heap.size, 0, none⟩ = some (.slice (Y2 (k + 1)).a (Y2 (k + 1)).n (Y2 (k + 1)).k) := by rw [HY.out.1]; exact (fn2_cells frow).1
        have d1 : (q.alloc (.cells #[.slice (some ⟨ga, 0, none⟩) N e1, .slice (some ⟨gb, 0, none⟩) N e2] 28)).cell? ⟨q.heap.size, 1, none⟩ = some (.slice (Y2 (k + 1)).b (Y2 (k + 1)).m (Y2 (k + 1)).t) := by rw [HY.out.1]; exact (fn2_cells frow).2
        have HD0 : Hid ((q.alloc (.cells #[.slice (some ⟨ga, 0, none⟩) N e1, .slice (some ⟨gb, 0, none⟩) N e2] 28)).cell? ⟨q.heap.size, 0, none⟩ = some (.slice (Y2 (k + 1)).a (Y2 (k + 1)).n (Y2 (k + 1)).k)) := d0
        have HD1 : Hid ((q.alloc (.cells #[.slice (some ⟨ga, 0, none⟩) N e1, .slice (some ⟨gb, 0, none⟩) N e2] 28)).cell? ⟨q.heap.size, 1, none⟩ = some (.slice (Y2 (k + 1)).b (Y2 (k + 1)).m (Y2 (k + 1)).t)) := d1
        have stb2 := (hst.below b3).push (Y := Y2) (xa := ga) (xk := e1) (xb := gb) (xt := e2) HY.out.2 HY.out.1 (show ga ≠ g by omega) (show gb ≠ g by omega) (la.below hq (Nat.le_refl _)) (lb.below hq (Nat.le_refl _))
        have bW := hbel.trans (b3.mono hbel.size)
        have hbase : W.heap.size ≤ (q.alloc (.cells #[.slice (some ⟨ga, 0, none⟩) N e1, .slice (some ⟨gb, 0, none⟩) N e2] 28)).heap.size := bW.size
        clear d0 d1 frow sbS sbR sbSR sbRS Ba Bb Bc Bd Be KS HNX2 T0 hle u0 u1 hst hown
        go_wp2_with (at_builtin; refine wpList_append_st (by rfl) _ _ (by rfl) W.heap.size (.slice (some ⟨g, 0, none⟩) (k + 1) c) (k + 1) Y2 q.heap.size (by rfl) (by rfl) (by exact own2) (by exact HD0.out) (by exact HD1.out) (by omega) (by exact hbase) ?_; intro v3 w3 hown3 hgr3 hat3; obtain ⟨g3, c3, hv3, hg3, _, _, _⟩ := hown3.at (by omega); subst hv3)
        have he : g3 = g ∨ g3 = (q.alloc (.cells #[.slice (some ⟨ga, 0, none⟩) N e1, .slice (some ⟨gb, 0, none⟩) N e2] 28)).heap.size := by
          rcases hat3 with h | h
          · left; simpa [Value.ownBlock] using h
          · right; simpa [Value.ownBlock] using h
        go_roundw
        case rel => exact ⟨k + 1, g3, c3, Y2, by omega, by go_num, rfl, hown3, stb2.grown (by omega) hgr3 he, bW.grown hgr3 bW.size (fun t ht => by simp [Value.ownBlock] at ht; omega)⟩
        case measure => simp [intOf]; omega
    · obtain rfl : k = nn := by omega
      go_wp2_with fail
      go_ret
      refine ⟨some ⟨g, 0, none⟩, c, Y, rfl, ⟨hkc, .inr ⟨g, 0, rfl, hgl, fun j hj => ?_⟩⟩, hbW.trans (hbel.mono hbW.size)⟩
      have hcl := hcells j hj
      obtain ⟨xa, xk, xb, xt, e, _, _, l1, l2⟩ := hst j (by omega)
      rw [Nat.zero_add]
      rw [e] at hcl ⊢
      exact ⟨hcl.1, hcl.2, l1, l2⟩
end Go.Proofs.YtimciamfgpdjlaaGreat.Fx

/- What coachkeep.spoil does to a list of integers that lies in a block of its own; what coachref.SameState returns of any two states. -/
namespace Go.Proofs.YtimciamfgpdjlaaGreat.Fx
open Go.RowKit

/-- Only that block was written. -/
structure OnlyB (g : Nat) (w w' : World) : Prop where
  size : w'.heap.size = w.heap.size
  blk : ∀ b, b ≠ g → w'.heap[b]? = w.heap[b]?
  bel : ∀ B W, B ≤ g → Below B W w → Below B W w'
theorem OnlyB.refl (g : Nat) (w : World) : OnlyB g w w := ⟨rfl, fun _ _ => rfl, fun _ _ _ h => h⟩
theorem OnlyB.set {g : Nat} {w q : World} (h : OnlyB g w q) (i : Nat) (v : Value) : OnlyB g w (q.setCell ⟨g, i, none⟩ v) :=
  ⟨by rw [World.size_setCell]; exact h.size, fun b hb => (Go.Deep.blk_setCell_other q ⟨g, i, none⟩ v b hb).trans (h.blk b hb), fun B W hB hw => (h.bel B W hB hw).setCell hB v⟩
theorem OnlyB.row {g : Nat} {w q : World} (h : OnlyB g w q) {b t n : Nat} {f : Nat → Value} (hr : w.rowIs b t n f) (hb : b ≠ g) : q.rowIs b t n f := hr.of_block (h.blk b hb)
theorem OnlyB.arr {g : Nat} {w q : World} (h : OnlyB g w q) {b c n : Nat} {f : Nat → Int} (hr : Arr w b c n f) (hb : b ≠ g) : Arr q b c n f := by
  obtain ⟨hc, F, hr, hf⟩ := hr
  exact ⟨hc, F, h.row hr hb, hf⟩
theorem OnlyB.st1 {g : Nat} {w q : World} (h : OnlyB g w q) {base OB N : Nat} {x : Exm} {WL ML : List Int} (hs : St1 w base OB N x WL ML) (ha : x.a ≠ some ⟨g, 0, none⟩) (hb : x.b ≠ some ⟨g, 0, none⟩) : St1 q base OB N x WL ML := by
  obtain ⟨g1, d1, g2, d2, rfl, b1, b2, b3, b4, b5, b6, a1, a2⟩ := hs
  refine ⟨g1, d1, g2, d2, rfl, b1, b2, b3, b4, b5, b6, h.arr a1 (fun e => ha (by rw [e])), h.arr a2 (fun e => hb (by rw [e]))⟩

set_option maxHeartbeats 800000 in
theorem spoil_calls (g N d : Nat) (f : Nat → Int) (x : Int) (w : World) (h : Arr w g d N f) (hd : d ≤ 9223372036854775807) :
    Calls Tryz.prog 36 #[.slice (some ⟨g, 0, none⟩) N d, .int .i64 x] w fun e w' => e = .returned (.tuple #[]) ∧ Arr w' g d N (fun _ => x) ∧ OnlyB g w w' := by
  have hNd := h.cap
  have HA : Hid (∃ F, w.rowIs g 3 d F) := by obtain ⟨_, F, hr, _⟩ := h; exact ⟨F, hr⟩
  clear h
  go_enter Tryz.func36, Tryz.ntmps36
  go_wp2_with fail
  go_loopw [11] (fun v wr => ∃ k : Nat, k ≤ d ∧ v = .int .i64 k ∧ (∃ F, wr.rowIs g 3 d F ∧ ∀ i, i < k → F i = .int .i64 x) ∧ OnlyB g w wr) (fun v _ => d - (intOf v).toNat)
  case atStart =>
    obtain ⟨F, hr⟩ := HA.out
    exact ⟨0, Nat.zero_le _, rfl, ⟨F, hr, fun i hi => by omega⟩, OnlyB.refl _ _⟩
  case round =>
    obtain ⟨k, hk, rfl, ⟨F, hr, hf⟩, ho⟩ := hrel
    have HF : Hid (∀ i, i < k → F i = .int .i64 x) := hf
    clear hf
    by_cases hlt : k < d
    · have c1 := hr.cell hlt
      have f1 := hr.frozen k
      have HR : Hid (wr.rowIs g 3 d F) := hr
      clear hr
      go_wp2_with fail
      go_roundw
      case rel =>
        refine ⟨k + 1, by omega, by go_num, ⟨_, HR.out.set k (.int .i64 x), fun i hi => ?_⟩, ho.set k _⟩
        by_cases e : i = k
        · simp only [if_pos e]
        · simp only [if_neg e]; exact HF.out i (by omega)
      case measure => simp [intOf]; omega
    · obtain rfl : k = d := by omega
      go_wp2_with fail
      go_end0
      exact ⟨rfl, ⟨hNd, F, hr, fun i hi => HF.out i (by omega)⟩, ho⟩

set_option maxHeartbeats 800000 in
theorem rsameS_any (a1 : Option Addr) (n1 k1 : Nat) (a2 : Option Addr) (n2 k2 : Nat) (b1 : Option Addr) (m1 d1 : Nat) (b2 : Option Addr) (m2 d2 : Nat) (XS YS ZS US : List Int) (w : World) (l1 : Lst w a1 n1 k1 XS) (l2 : Lst w a2 n2 k2 YS) (l3 : Lst w b1 m1 d1 ZS) (l4 : Lst w b2 m2 d2 US) (h1 : n1 ≤ 200) (h2 : n2 ≤ 200) :
    Calls Tryz.prog 13 #[.agg #[.slice a1 n1 k1, .slice a2 n2 k2], .agg #[.slice b1 m1 d1, .slice b2 m2 d2]] w fun e w' => e = .returned (.bool (decide (XS = ZS) && decide (YS = US))) ∧ Below w.heap.size w w' := by
  have hal := ((Below.refl w.heap.size w).alloc (Nat.le_refl _) (.cells #[.slice a1 n1 k1, .slice a2 n2 k2] 28)).alloc (by simp) (.cells #[.slice b1 m1 d1, .slice b2 m2 d2] 28)
  have l1 := l1.below hal (Nat.le_refl _)
  have l2 := l2.below hal (Nat.le_refl _)
  have l3 := l3.below hal (Nat.le_refl _)
  have l4 := l4.below hal (Nat.le_refl _)
  by_cases e1 : XS = ZS
  · rw [decide_eq_true e1, Bool.true_and]
    obtain ⟨r, HR⟩ : ∃ r, Hid (decide (YS = US) = r) := ⟨_, rfl⟩
    rw [HR.out]
    subst e1
    go_enter Tryz.func13, Tryz.ntmps13
    go_wp2_with fail
    refine (eq_calls _ _ _ _ _ _ XS XS _ l1 l3 (by omega)).mono ?_
    rintro e w1 ⟨rfl, k5, hw5⟩
    subst hw5
    rw [decide_eq_true (Eq.refl XS)]
    go_wp2_with fail
    refine (eq_calls _ _ _ _ _ _ YS US _ (l2.drewN _) (l4.drewN _) (by omega)).mono ?_
    rintro e w1 ⟨rfl, k6, hw6⟩
    subst hw6
    rw [HR.out]
    go_wp2
    go_ret
    exact ⟨rfl, below_drewN hal _⟩
  · rw [decide_eq_false e1, Bool.false_and]
    go_enter Tryz.func13, Tryz.ntmps13
    go_wp2_with fail
    refine (eq_calls _ _ _ _ _ _ XS ZS _ l1 l3 (by omega)).mono ?_
    rintro e w1 ⟨rfl, k5, hw5⟩
    subst hw5
    rw [decide_eq_false e1]
    go_wp2_with fail
    go_ret
    exact ⟨rfl, below_drewN hal _⟩
end Go.Proofs.YtimciamfgpdjlaaGreat.Fx

/- An append of a whole list of integers, which may be empty, to one that the program itself makes. -/
namespace Go.Proofs.YtimciamfgpdjlaaGreat.Fx
open Go.RowKit

set_option maxRecDepth 100000 in
set_option maxHeartbeats 1600000 in
theorem rroot_any (a1 : Option Addr) (n1 k1 : Nat) (ws : List Int) (a2 : Option Addr) (n2 k2 : Nat) (ms : List Int) (w : World) (l1 : Lst w a1 n1 k1 ws) (l2 : Lst w a2 n2 k2 ms) (h1 : 1 ≤ n1 + n2) (h3 : n1 + n2 ≤ 200) :
    Calls Tryz.prog 16 #[.agg #[.slice a1 n1 k1, .slice a2 n2 k2]] w fun e w' => e = .returned (.int .u64 (rootP ws ms (n1 + n2))) ∧ Below w.heap.size w w' := by
  have hal := low_alloc w (.cells #[.slice a1 n1 k1, .slice a2 n2 k2] 28)
  obtain ⟨W, HW⟩ : ∃ q, Hid (q = w.alloc (.cells #[.slice a1 n1 k1, .slice a2 n2 k2] 28)) := ⟨_, rfl⟩
  have hW : Below w.heap.size w W := by rw [HW.out]; exact hal
  have m1 := l1.below hW (Nat.le_refl _)
  have m2 := l2.below hW (Nat.le_refl _)
  have hrow : W.rowIs w.heap.size 28 2 (fn2 (.slice a1 n1 k1) (.slice a2 n2 k2)) := by rw [HW.out]; exact fn2_alloc _ _ _ _
  have hWs : w.heap.size < W.heap.size := hrow.lt
  have S0 : W.drew.cell? ⟨w.heap.size, 0, none⟩ = some (.slice a1 n1 k1) ∧ W.drew.cell? ⟨w.heap.size, 1, none⟩ = some (.slice a2 n2 k2) := fn2_cells hrow
  have s0 := S0.1
  have s1 := S0.2
  have t0 : W.cell? ⟨w.heap.size, 0, none⟩ = some (.slice a1 n1 k1) := (fn2_cells hrow).1
  have t1 : W.cell? ⟨w.heap.size, 1, none⟩ = some (.slice a2 n2 k2) := (fn2_cells hrow).2
  have hl1 := l1.len
  have hl2 := l2.len
  have hBd : Below W.heap.size W W.drew := below_drewN (Below.refl _ _) 1
  have KS : Hid (∀ q, Below W.heap.size W q → q.cell? ⟨w.heap.size, 0, none⟩ = some (.slice a1 n1 k1) ∧ q.cell? ⟨w.heap.size, 1, none⟩ = some (.slice a2 n2 k2)) := fun q hq => fn2_cells (hrow.of_block (hq.block _ hWs))
  unfold rootP
  clear l1 l2 hal
  go_enter Tryz.func16, Tryz.ntmps16
  go_wp2_with fail
  rw [← HW.out]
  clear HW
  go_region_held3 (fun q => q.cell? ⟨w.heap.size, 0, none⟩ = some (.slice a1 n1 k1) ∧ q.cell? ⟨w.heap.size, 1, none⟩ = some (.slice a2 n2 k2)) (first | with_reducible exact S5 | with_reducible exact S4 | with_reducible exact S3 | with_reducible exact S0)
    (first | (refine step_append_any (by rfl) _ _ (by rfl) W.heap.size _ [] ws a1 n1 k1 W (by rfl) (by rfl) (by exact OwnI.nil _ _) (by exact m1.drew) (by simp; omega) (by simp) (by exact hBd) ?_; intro v3 w3 hown3 hbel3; have S3 := KS.out _ hbel3) | (refine step_append_any (by rfl) _ _ (by rfl) W.heap.size _ ([] ++ ws) ms a2 n2 k2 W (by rfl) (by rfl) (by exact hown3) (by exact m2.below hbel3 (Nat.le_refl _)) (by simp; omega) (by exact hbel3.size) (by exact hbel3) ?_; intro v4 w4 hown4 hbel4; have S4 := KS.out _ hbel4; obtain ⟨va, vc, hv4, l4⟩ := hown4.lst' (n := n1 + n2) (by simp; omega); subst hv4) | (go_at_call 64; refine (rRoot_calls va (n1 + n2) vc (ws ++ ms) _ (by simpa using l4) (by omega) h3).mono ?_; rintro e w5 ⟨rfl, hw5⟩; have S5 := KS.out _ (hbel4.trans (hw5.mono hbel4.size))))
  all_goals
    go_wp2
    go_ret
    exact ⟨rfl, hW.trans ((hbel4.trans (hw5.mono hbel4.size)).mono hW.size)⟩
end Go.Proofs.YtimciamfgpdjlaaGreat.Fx
