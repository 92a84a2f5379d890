/- A config and a state that a law is handed by value, as they lie in memory; no function of the program is spoken of. -/
import Derived.Test.YtnlcheebdkjpbabGreatJ19
import Derived.Test.YtnlcheebdkjpbabGreatJ10
import Derived.Test.YtnlcheebdkjpbabGreatJ14
import Derived.Test.YtnlcheebdkjpbabGreatJ12
import Derived.Deep.RegionLaw
namespace Go.Proofs.YtnlcheebdkjpbabGreat.Fx
open Go.RowKit

/-- A config and a state, laid one behind the other, in whatever world that left them. -/
structure LawBox (w : World) (c : Cfg) (v0 v1 : Value) (q : World) : Prop where
  cfg : BoxC q w.heap.size c
  st : q.rowIs (w.heap.size + 1) 28 2 (fn2 v0 v1)
  bel : Below w.heap.size w q
theorem LawBox.start (w : World) (c : Cfg) (v0 v1 : Value) : LawBox w c v0 v1 ((w.alloc (.cells c.cells 24)).alloc (.cells #[v0, v1] 28)) := by
  refine ⟨boxC (B := w.heap.size + 1) ((Below.refl _ _).alloc (by simp) _) (by omega), ?_, ((Below.refl w.heap.size w).alloc (Nat.le_refl _) _).alloc (by simp) _⟩
  have h := fn2_alloc (w.alloc (.cells c.cells 24)) v0 v1 28
  simpa using h
theorem LawBox.below {w : World} {c : Cfg} {v0 v1 : Value} {q q2 : World} (h : LawBox w c v0 v1 q) (hb : Below q.heap.size q q2) : LawBox w c v0 v1 q2 := by
  have l2 := h.st.lt
  have k : ∀ i, q2.cell? ⟨w.heap.size, i, none⟩ = q.cell? ⟨w.heap.size, i, none⟩ := fun i => hb.cell (p := ⟨w.heap.size, i, none⟩) (by show w.heap.size < _; omega)
  exact ⟨⟨(k 0).trans h.cfg.c0, (k 1).trans h.cfg.c1, (k 2).trans h.cfg.c2, (k 3).trans h.cfg.c3, (k 4).trans h.cfg.c4, (k 5).trans h.cfg.c5, (k 6).trans h.cfg.c6, (k 7).trans h.cfg.c7, (k 8).trans h.cfg.c8, (k 9).trans h.cfg.c9, (k 10).trans h.cfg.c10⟩,
    h.st.of_block (hb.block _ l2), h.bel.trans (hb.mono h.bel.size)⟩

end Go.Proofs.YtnlcheebdkjpbabGreat.Fx

/- Two lists of integers that are made by append side by side, each held in a field of a state: an append to one leaves the other. -/
namespace Go.Proofs.YtnlcheebdkjpbabGreat.Fx
open Go.RowKit

/-- Two growing lists x and y, and the state at block G that holds them. -/
structure Two (wm : World) (G : Nat) (x y : Value) (Lx Ly : List Int) (wr : World) : Prop where
  row : wr.rowIs G 28 2 (fn2 x y)
  ox : OwnI wm.heap.size wr x Lx
  oy : OwnI wm.heap.size wr y Ly
  ap : Apart x y
  gr : wm.grownBy wr (some G)
theorem Two.below {wm : World} {G : Nat} {x y : Value} {Lx Ly : List Int} {wr w2 : World} (h : Two wm G x y Lx Ly wr) (hb : Below wr.heap.size wr w2) : Two wm G x y Lx Ly w2 :=
  ⟨h.row.of_block (hb.block _ h.row.lt), OwnI.below h.ox hb, OwnI.below h.oy hb, h.ap, grown_below h.gr hb⟩
theorem own_min {base : Nat} {w : World} {x : Value} {L : List Int} (h : OwnI base w x L) : ∀ k, x.ownBlock = some k → base ≤ k := by
  intro k hk
  rcases h.blk with e | ⟨g, e, hg, _⟩
  · rw [e] at hk; cases hk
  · rw [e] at hk; cases hk; exact hg
/-- Behind an append to x: the state still holds the two old ones. -/
theorem Two.still {wm : World} {G : Nat} {x y : Value} {Lx Ly : List Int} {w2 w3 : World} (h : Two wm G x y Lx Ly w2) (hG : G < wm.heap.size) (h2 : w2.grownBy w3 x.ownBlock) : w3.rowIs G 28 2 (fn2 x y) :=
  h.row.of_block (h2.block G h.row.lt (fun e => by have := own_min h.ox G e.symm; omega))
theorem Two.still' {wm : World} {G : Nat} {x y : Value} {Lx Ly : List Int} {w2 w3 : World} (h : Two wm G x y Lx Ly w2) (hG : G < wm.heap.size) (h2 : w2.grownBy w3 y.ownBlock) : w3.rowIs G 28 2 (fn2 x y) :=
  h.row.of_block (h2.block G h.row.lt (fun e => by have := own_min h.oy G e.symm; omega))
theorem apart_new {wm : World} {x y x1 : Value} {Ly : List Int} {w2 : World} (hap : Apart x y) (hoy : OwnI wm.heap.size w2 y Ly) (h3 : x1.ownBlock = x.ownBlock ∨ x1.ownBlock = some w2.heap.size) : Apart x1 y := by
  rcases h3 with e | e
  · unfold Apart; rw [e]; exact hap
  · unfold Apart
    rw [e]
    rcases hoy.blk with e2 | ⟨g, e2, _, hg⟩
    · exact .inl e2
    · right; rw [e2]; simp; omega
/-- x has one more, and the field that holds it is written. -/
theorem Two.push {wm : World} {G : Nat} {x y x1 : Value} {Lx Ly : List Int} {z : Int} {w2 w3 : World} (h : Two wm G x y Lx Ly w2) (hG : G < wm.heap.size) (h1 : OwnI wm.heap.size w3 x1 (Lx ++ [z])) (h2 : w2.grownBy w3 x.ownBlock) (h3 : x1.ownBlock = x.ownBlock ∨ x1.ownBlock = some w2.heap.size) :
    Two wm G x1 y (Lx ++ [z]) Ly (w3.setCell ⟨G, 0, none⟩ x1) := by
  refine ⟨((h.still hG h2).set 0 x1).congr (fun i hi => ?_), ownsRow_setCell_below h1 hG _, ownsRow_setCell_below (h.oy.kept h2 h.ap) hG _, apart_new h.ap h.oy h3, grown1 (grown_trans h.gr h2 (fun k hk => .inl (own_min h.ox k hk))) 0 x1⟩
  rcases (show i = 0 ∨ i = 1 from by omega) with rfl | rfl <;> rfl
theorem Two.push' {wm : World} {G : Nat} {x y y1 : Value} {Lx Ly : List Int} {z : Int} {w2 w3 : World} (h : Two wm G x y Lx Ly w2) (hG : G < wm.heap.size) (h1 : OwnI wm.heap.size w3 y1 (Ly ++ [z])) (h2 : w2.grownBy w3 y.ownBlock) (h3 : y1.ownBlock = y.ownBlock ∨ y1.ownBlock = some w2.heap.size) :
    Two wm G x y1 Lx (Ly ++ [z]) (w3.setCell ⟨G, 1, none⟩ y1) := by
  refine ⟨((h.still' hG h2).set 1 y1).congr (fun i hi => ?_), ownsRow_setCell_below (h.ox.kept h2 h.ap.symm) hG _, ownsRow_setCell_below h1 hG _, (apart_new h.ap.symm h.ox h3).symm, grown1 (grown_trans h.gr h2 (fun k hk => .inl (own_min h.oy k hk))) 1 y1⟩
  rcases (show i = 0 ∨ i = 1 from by omega) with rfl | rfl <;> rfl
theorem Two.congr {wm : World} {G : Nat} {x y : Value} {Lx Ly Lx' Ly' : List Int} {wr : World} (h : Two wm G x y Lx Ly wr) (e1 : Lx = Lx') (e2 : Ly = Ly') : Two wm G x y Lx' Ly' wr := by
  subst e1 e2
  exact h
end Go.Proofs.YtnlcheebdkjpbabGreat.Fx

/- What coachref's Size, StateFits and SameState return. -/
namespace Go.Proofs.YtnlcheebdkjpbabGreat.Fx
open Go.RowKit

theorem rsizeI_calls (i h o : Int) (w : World) (i1 : 1 ≤ i) (i2 : i ≤ 4) (h1 : 1 ≤ h) (h2 : h ≤ 4) (o1 : 1 ≤ o) (o2 : o ≤ 4) :
    Calls Tryz.prog 30 #[.int .i64 i, .int .i64 h, .int .i64 o] w fun e w' => e = .returned (.int .i64 (h * i + h + o * h + o)) ∧ w' = w := by
  have s1 : h * (i + 1) = h * i + h := by rw [Int.mul_add, Int.mul_one]
  have s2 : o * (h + 1) = o * h + o := by rw [Int.mul_add, Int.mul_one]
  have a1 := Int.mul_le_mul_of_nonneg_right (c := i) h2 (by omega)
  have a2 := Int.mul_le_mul_of_nonneg_right (c := i) h1 (by omega)
  have b1 := Int.mul_le_mul_of_nonneg_right (c := h) o2 (by omega)
  have b2 := Int.mul_le_mul_of_nonneg_right (c := h) o1 (by omega)
  have c1 : 0 ≤ h * i := by omega
  have c2 : h * i ≤ 16 := by omega
  have c3 : 0 ≤ o * h := by omega
  have c4 : o * h ≤ 16 := by omega
  clear a1 a2 b1 b2
  go_enter Tryz.func30, Tryz.ntmps30
  go_wp2
  go_ret
  exact ⟨ret_int (by omega), rfl⟩

theorem fit_two {c : Cfg} {n1 n2 : Nat} {ws ms : List Int} {S : Int} {p q r s : Bool} (hS : sizeN c = S) (hp : decide ((n1 : Int) = S) = p) (hq : decide ((n2 : Int) = S) = q) (hr : rightB ws = r) (hs : rightB ms = s) : (fitB c n1 ws && fitB c n2 ms) = (p && q && r && s) := by
  unfold fitB
  rw [hS, hp, hq, hr, hs]
  cases p <;> cases q <;> cases r <;> cases s <;> rfl

set_option maxHeartbeats 1600000 in
theorem rstfits_calls (c : Cfg) (hc : cfgB c = true) (a1 : Option Addr) (n1 k1 : Nat) (a2 : Option Addr) (n2 k2 : Nat) (ws ms : List Int) (w : World) (l1 : Lst w a1 n1 k1 ws) (l2 : Lst w a2 n2 k2 ms) :
    Calls Tryz.prog 8 #[c.val, .agg #[.slice a1 n1 k1, .slice a2 n2 k2]] w fun e w' => e = .returned (.bool (fitB c n1 ws && fitB c n2 ms)) ∧ Below w.heap.size w w' := by
  have hal := ((Below.refl w.heap.size w).alloc (Nat.le_refl _) (.cells c.cells 24)).alloc (by simp) (.cells #[.slice a1 n1 k1, .slice a2 n2 k2] 28)
  have l1 := l1.below hal (Nat.le_refl _)
  have l2 := l2.below hal (Nat.le_refl _)
  obtain ⟨⟨i1, i2⟩, ⟨h1, h2⟩, ⟨o1, o2⟩, _⟩ := cfgB_is hc
  have hz := sizeN_bd hc
  have RS : ∀ q, Calls Tryz.prog 30 #[.int .i64 c.i, .int .i64 c.h, .int .i64 c.o] q fun e w' => e = .returned (.int .i64 (sizeN c)) ∧ w' = q := fun q => rsizeI_calls c.i c.h c.o q i1 i2 h1 h2 o1 o2
  have FT := @fit_two c n1 n2 ws ms
  generalize (fitB c n1 ws && fitB c n2 ms) = F at *
  generalize sizeN c = S at *
  have HRS : Hid (∀ q, Calls Tryz.prog 30 #[.int .i64 c.i, .int .i64 c.h, .int .i64 c.o] q fun e w' => e = .returned (.int .i64 S) ∧ w' = q) := RS
  clear RS i1 i2 h1 h2 o1 o2 hc
  by_cases e1 : (n1 : Int) = S
  · have b1 : ((n1 : Int) == S) = true := by simpa using e1
    by_cases e2 : (n2 : Int) = S
    · have b2 : ((n2 : Int) == S) = true := by simpa using e2
      cases e3 : rightB ws with
      | true =>
        have hF := FT rfl (decide_eq_true e1) (decide_eq_true e2) e3 rfl
        rw [show (true && true && true && rightB ms) = rightB ms from by cases rightB ms <;> rfl] at hF
        subst hF
        have h1000 : n1 ≤ 1000 := by omega
        have h2000 : n2 ≤ 1000 := by omega
        have HE : Hid (rightB ws = true) := e3
        clear e1 e2 e3 FT
        obtain ⟨i, h, o, seed, batch, steps, rate, decay, how, keep, clip⟩ := c
        simp only [Cfg.val, Cfg.cells] at *
        go_enter Tryz.func8, Tryz.ntmps8
        go_wp2_with (go_at_call 30; refine (HRS.out _).mono ?_; rintro e w' ⟨rfl, hw'⟩; replace hw' := hw'.symm; subst hw')
        refine (rright_calls _ _ _ ws _ l1 (by omega)).mono ?_
        rintro e w1 ⟨rfl, kk, hw'⟩
        subst hw'
        rw [HE.out]
        go_wp2_with fail
        refine (rright_calls _ _ _ ms _ (l2.drewN _) (by omega)).mono ?_
        rintro e w1 ⟨rfl, kk2, hw'⟩
        subst hw'
        go_wp2
        go_ret
        exact ⟨rfl, below_drewN hal _⟩
      | false =>
        have hF := FT rfl (decide_eq_true e1) (decide_eq_true e2) e3 rfl
        rw [show (true && true && false && rightB ms) = false from by cases rightB ms <;> rfl] at hF
        subst hF
        have h1000 : n1 ≤ 1000 := by omega
        have HE : Hid (rightB ws = false) := e3
        clear e1 e2 e3 FT
        obtain ⟨i, h, o, seed, batch, steps, rate, decay, how, keep, clip⟩ := c
        simp only [Cfg.val, Cfg.cells] at *
        go_enter Tryz.func8, Tryz.ntmps8
        go_wp2_with (go_at_call 30; refine (HRS.out _).mono ?_; rintro e w' ⟨rfl, hw'⟩; replace hw' := hw'.symm; subst hw')
        refine (rright_calls _ _ _ ws _ l1 (by omega)).mono ?_
        rintro e w1 ⟨rfl, kk, hw'⟩
        subst hw'
        rw [HE.out]
        go_wp2
        go_ret
        exact ⟨rfl, below_drewN hal _⟩
    · have b2 : ((n2 : Int) == S) = false := by simpa using e2
      have hF := FT rfl (decide_eq_true e1) (decide_eq_false e2) rfl rfl
      rw [show (true && false && rightB ws && rightB ms) = false from by cases rightB ws <;> cases rightB ms <;> rfl] at hF
      subst hF
      clear e1 e2 FT
      obtain ⟨i, h, o, seed, batch, steps, rate, decay, how, keep, clip⟩ := c
      simp only [Cfg.val, Cfg.cells] at *
      go_enter Tryz.func8, Tryz.ntmps8
      go_wp2_with (go_at_call 30; refine (HRS.out _).mono ?_; rintro e w' ⟨rfl, hw'⟩; replace hw' := hw'.symm; subst hw')
      go_ret
      exact ⟨rfl, hal⟩
  · have b1 : ((n1 : Int) == S) = false := by simpa using e1
    have hF := FT rfl (decide_eq_false e1) rfl rfl rfl
    rw [show (false && decide ((n2 : Int) = S) && rightB ws && rightB ms) = false from rfl] at hF
    subst hF
    clear e1 FT
    obtain ⟨i, h, o, seed, batch, steps, rate, decay, how, keep, clip⟩ := c
    simp only [Cfg.val, Cfg.cells] at *
    go_enter Tryz.func8, Tryz.ntmps8
    go_wp2_with (go_at_call 30; refine (HRS.out _).mono ?_; rintro e w' ⟨rfl, hw'⟩; replace hw' := hw'.symm; subst hw')
    go_ret
    exact ⟨rfl, hal⟩

set_option maxHeartbeats 800000 in
theorem rsameS_calls (a1 : Option Addr) (n1 k1 : Nat) (a2 : Option Addr) (n2 k2 : Nat) (b1 : Option Addr) (m1 d1 : Nat) (b2 : Option Addr) (m2 d2 : Nat) (XS YS : List Int) (w : World) (l1 : Lst w a1 n1 k1 XS) (l2 : Lst w a2 n2 k2 YS) (l3 : Lst w b1 m1 d1 XS) (l4 : Lst w b2 m2 d2 YS) (h1 : n1 ≤ 200) (h2 : n2 ≤ 200) :
    Calls Tryz.prog 16 #[.agg #[.slice a1 n1 k1, .slice a2 n2 k2], .agg #[.slice b1 m1 d1, .slice b2 m2 d2]] w fun e w' => e = .returned (.bool true) ∧ Below w.heap.size w w' := by
  have hal := ((Below.refl w.heap.size w).alloc (Nat.le_refl _) (.cells #[.slice a1 n1 k1, .slice a2 n2 k2] 28)).alloc (by simp) (.cells #[.slice b1 m1 d1, .slice b2 m2 d2] 28)
  have l1 := l1.below hal (Nat.le_refl _)
  have l2 := l2.below hal (Nat.le_refl _)
  have l3 := l3.below hal (Nat.le_refl _)
  have l4 := l4.below hal (Nat.le_refl _)
  go_enter Tryz.func16, Tryz.ntmps16
  go_wp2_with fail
  refine (eq_calls _ _ _ _ _ _ XS XS _ l1 l3 (by omega)).mono ?_
  rintro e w1 ⟨rfl, k5, hw5⟩
  subst hw5
  rw [decide_eq_true (Eq.refl XS)]
  go_wp2_with fail
  refine (eq_calls _ _ _ _ _ _ YS YS _ (l2.drewN _) (l4.drewN _) (by omega)).mono ?_
  rintro e w1 ⟨rfl, k6, hw6⟩
  subst hw6
  rw [decide_eq_true (Eq.refl YS)]
  go_wp2
  go_ret
  exact ⟨rfl, below_drewN hal _⟩

end Go.Proofs.YtnlcheebdkjpbabGreat.Fx

/- What coachref.Start returns, of a right config. -/
namespace Go.Proofs.YtnlcheebdkjpbabGreat.Fx
open Go.RowKit

theorem LawBox.grown {w : World} {c : Cfg} {v0 v1 : Value} {wr q : World} {G : Nat} (h : LawBox w c v0 v1 wr) (hg : wr.grownBy q (some G)) (hG : w.heap.size + 1 < G) : LawBox w c v0 v1 q := by
  have l2 := h.st.lt
  have k : ∀ {i : Nat} {v : Value}, wr.cell? ⟨w.heap.size, i, none⟩ = some v → q.cell? ⟨w.heap.size, i, none⟩ = some v := fun hc => hg.cell hc (by simp; omega)
  exact ⟨⟨k h.cfg.c0, k h.cfg.c1, k h.cfg.c2, k h.cfg.c3, k h.cfg.c4, k h.cfg.c5, k h.cfg.c6, k h.cfg.c7, k h.cfg.c8, k h.cfg.c9, k h.cfg.c10⟩,
    h.st.of_block (hg.block _ l2 (by simp; omega)), h.bel.grown hg h.bel.size (fun k hk => by simp at hk; omega)⟩

theorem wrapW {x : Int} (h0 : 0 ≤ x) (h1 : x ≤ 18446744073709551615) : IntKind.u64.wrap x = x := by
  rw [IntKind.wrap_u64]; omega

set_option maxRecDepth 100000 in
set_option maxHeartbeats 6400000 in
theorem rstart_calls (c : Cfg) (hc : cfgB c = true) (hs : okW c.seed) (N : Nat) (hN : (N : Int) = sizeN c) (w : World) :
    Calls Tryz.prog 7 #[c.val] w fun e w' => ∃ ga d1 gb d2, e = .returned (.agg #[.slice (some ⟨ga, 0, none⟩) N d1, .slice (some ⟨gb, 0, none⟩) N d2]) ∧ w.heap.size ≤ ga ∧ w.heap.size ≤ gb ∧ Lst w' (some ⟨ga, 0, none⟩) N d1 ((List.range N).map (startG c.seed)) ∧ Lst w' (some ⟨gb, 0, none⟩) N d2 ((List.range N).map zeroG) ∧ Below w.heap.size w w' := by
  have lb := LawBox.start w c (.slice none 0 0) (.slice none 0 0)
  obtain ⟨wm, hwm⟩ : ∃ q, q = (((w.alloc (.cells c.cells 24)).alloc (.cells #[.slice none 0 0, .slice none 0 0] 28)).alloc (.cells #[.slice none 0 0, .slice none 0 0] 28)) := ⟨_, rfl⟩
  have lbm : LawBox w c (.slice none 0 0) (.slice none 0 0) wm := by rw [hwm]; exact lb.below ((Below.refl _ _).alloc (Nat.le_refl _) _)
  have hrm : wm.rowIs (w.heap.size + 1 + 1) 28 2 (fn2 (.slice none 0 0) (.slice none 0 0)) := by
    rw [hwm]
    have h := fn2_alloc ((w.alloc (.cells c.cells 24)).alloc (.cells #[.slice none 0 0, .slice none 0 0] 28)) (.slice none 0 0) (.slice none 0 0) 28
    simpa using h
  have hGlt : w.heap.size + 1 + 1 < wm.heap.size := hrm.lt
  have KQ : Hid (∀ q, wm.grownBy q (some (w.heap.size + 1 + 1)) → LawBox w c (.slice none 0 0) (.slice none 0 0) q) := fun q hq => lbm.grown hq (by omega)
  have st0 : Two wm (w.heap.size + 1 + 1) (.slice none 0 0) (.slice none 0 0) [] [] wm := ⟨hrm, OwnI.nil _ _, OwnI.nil _ _, .inl rfl, World.grownBy.refl _ _⟩
  obtain ⟨⟨i1, i2⟩, ⟨h1, h2⟩, ⟨o1, o2⟩, _⟩ := cfgB_is hc
  have RS : ∀ q, Calls Tryz.prog 30 #[.int .i64 c.i, .int .i64 c.h, .int .i64 c.o] q fun e w' => e = .returned (.int .i64 (N : Int)) ∧ w' = q := fun q => by rw [hN]; exact rsizeI_calls c.i c.h c.o q i1 i2 h1 h2 o1 o2
  have HRS : Hid (∀ q, Calls Tryz.prog 30 #[.int .i64 c.i, .int .i64 c.h, .int .i64 c.o] q fun e w' => e = .returned (.int .i64 (N : Int)) ∧ w' = q) := RS
  have hNb := sizeN_bd hc
  have N4 : 4 ≤ N := by omega
  have N40 : N ≤ 40 := by omega
  have HW : Hid (wm = (((w.alloc (.cells c.cells 24)).alloc (.cells #[.slice none 0 0, .slice none 0 0] 28)).alloc (.cells #[.slice none 0 0, .slice none 0 0] 28))) := hwm
  clear hwm lb lbm hrm RS hNb hN hc i1 i2 h1 h2 o1 o2
  obtain ⟨i, h, o, seed, batch, steps, crate, decay, how, keep, clip⟩ := c
  simp only [Cfg.val, Cfg.cells] at *
  go_enter Tryz.func7, Tryz.ntmps7
  go_wp2_with fail
  rw [← HW.out]
  clear HW
  go_loopw [4] (fun v wr => ∃ k : Nat, k ≤ N ∧ v = .int .i64 k ∧ ∃ ax cx ay cy, Two wm (w.heap.size + 1 + 1) (.slice ax k cx) (.slice ay k cy) ((List.range k).map (startG seed)) ((List.range k).map zeroG) wr) (fun v _ => N - (intOf v).toNat)
  case atStart => exact ⟨0, Nat.zero_le _, rfl, none, 0, none, 0, st0⟩
  case round =>
    obtain ⟨k, hk, rfl, ax, cx, ay, cy, htw⟩ := hrel
    clear st0
    have lb := KQ.out _ htw.gr
    have ⟨⟨c0, c1, c2, c3, c4, c5, c6, c7, c8, c9, c10⟩, hr, hb⟩ := lb
    dsimp only at c0 c1 c2 c3 c4 c5 c6 c7 c8 c9 c10
    by_cases hlt : k < N
    · obtain ⟨T, HT⟩ : ∃ T, Hid (ofP 2 [seed, 1000 + (k : Int)] = T) := ⟨_, rfl⟩
      obtain ⟨r, hr0⟩ : ∃ r, T % 131073 = r := ⟨_, rfl⟩
      have hT0 : 0 ≤ T := by rw [← HT.out]; exact (ofP_ok 2 _).1
      have r0 : 0 ≤ r := by rw [← hr0]; exact Int.emod_nonneg _ (by omega)
      have r1 : r < 131073 := by rw [← hr0]; exact Int.emod_lt_of_pos _ (by omega)
      have HS : Hid (startG seed k = r - 65536) := by
        show startG seed k = _
        unfold startG
        rw [HT.out, hr0]
      have t1 : T.tmod 131073 = r := by rw [tmod_pos hT0]; exact hr0
      have t2 : IntKind.i64.wrap r = r := wrap_in _ (by omega) (by omega)
      have t3 : IntKind.i64.wrap (r - 65536) = r - 65536 := wrap_in _ (by omega) (by omega)
      have t4 : IntKind.u64.wrap (k : Int) = (k : Int) := wrapW (by omega) (by omega)
      have t5 : IntKind.u64.wrap (1000 + (k : Int)) = 1000 + (k : Int) := wrapW (by omega) (by omega)
      have t6 : IntKind.u64.wrap r = r := wrapW (by omega) (by omega)
      have hw2 : okW (1000 + (k : Int)) := ⟨by omega, by omega⟩
      obtain ⟨g0, g1⟩ := fn2_cells htw.row
      have g0f := htw.row.frozen 0
      clear hT0
      go_wp2_with (go_at_call 30; refine (HRS.out _).mono ?_; rintro e w' ⟨rfl, hw'⟩; replace hw' := hw'.symm; subst hw')
      go_region_law (first | (refine step_append_at (by rfl) _ _ (by rfl) wm.heap.size _ ((List.range k).map (startG seed)) (r - 65536) wq.heap.size (by rfl) (by rfl) (by exact hg2.ox) (by exact cell_new _ _ _) (by simp; omega) (by simp; omega) ?_; intro v1 w2 hown1 hgr1 hat1; obtain ⟨av2, cv2, hv2, _⟩ := hown1.lst' (n := k + 1) (by simp); subst hv2; have hrow2 := hg2.still hGlt hgr1; have q0 := (fn2_cells hrow2).1; have q0f := hrow2.frozen 0) | (go_simp; go_at_call 31; refine (rWord_calls _ _ hs hw2 _).mono ?_; rintro e wq ⟨rfl, hwq⟩; rw [HT.out]; have htq := Two.below (show Two _ _ _ _ _ _ wr.drew from htw.below (below_drewN (Below.refl _ _) 1)) hwq; have hszq := htq.gr.size; obtain ⟨y0, y1⟩ := fn2_cells htq.row; have y0f := htq.row.frozen 0; have hg2 := htq.below (low_alloc wq (.cells #[.int .i64 (r - 65536)] 3)); have d0 := (fn2_cells hg2.row).1))
      all_goals
        have htw3 := (hg2.push hGlt hown1 hgr1 hat1).congr (range_snoc (startG seed) k _ HS.out) rfl
        clear hown1 hgr1 hat1 hrow2 q0 q0f hg2 d0 y0 y1 y0f htq hszq hwq g0 g1 g0f htw c0 c1 c2 c3 c4 c5 c6 c7 c8 c9 c10 hr hb lb
        generalize w2.setCell ⟨w.heap.size + 1 + 1, 0, none⟩ (.slice av2 (k + 1) cv2) = w3 at htw3 ⊢
        obtain ⟨y0, y1⟩ := fn2_cells htw3.row
        have y1f := htw3.row.frozen 1
        have hsz3 := htw3.gr.size
        have hg3 := htw3.below (low_alloc w3 (.cells #[.int .i64 0] 3))
        go_wp2_with (at_builtin; refine wpList_append_at (by rfl) _ _ (by rfl) wm.heap.size _ ((List.range k).map zeroG) 0 w3.heap.size (by rfl) (by rfl) (by exact hg3.oy) (by exact cell_new _ _ _) (by simp; omega) (by simp; omega) ?_; intro v3 w4 hown3 hgr3 hat3; obtain ⟨av4, cv4, hv4, _⟩ := hown3.lst' (n := k + 1) (by simp); subst hv4; have hrow4 := hg3.still' hGlt hgr3; have q1 := (fn2_cells hrow4).2; have q1f := hrow4.frozen 1)
        go_roundw
        case rel => exact ⟨k + 1, by omega, by go_num, av2, cv2, av4, cv4, (hg3.push' hGlt hown3 hgr3 hat3).congr rfl (range_snoc zeroG k _ rfl)⟩
        case measure => simp [intOf]; omega
    · obtain rfl : k = N := by omega
      obtain ⟨ga, rfl, hga, hla⟩ := htw.ox.at (by simp) (by omega)
      obtain ⟨gb, rfl, hgb, hlb⟩ := htw.oy.at (by simp) (by omega)
      obtain ⟨g0, g1⟩ := fn2_cells htw.row
      obtain ⟨r0, r1⟩ := fn2_cells hr
      have f0 := hr.frozen 0
      have f1 := hr.frozen 1
      go_wp2_with (go_at_call 30; refine (HRS.out _).mono ?_; rintro e w' ⟨rfl, hw'⟩; replace hw' := hw'.symm; subst hw')
      obtain ⟨q0, q1⟩ := fn2_cells (fn2_set hr (.slice (some ⟨ga, 0, none⟩) k cx) (.slice (some ⟨gb, 0, none⟩) k cy))
      refine bodyPost_ret (v := .agg #[.slice (some ⟨ga, 0, none⟩) k cx, .slice (some ⟨gb, 0, none⟩) k cy]) (by simp [results, Tryz.results7, go_sem, q0, q1]) rfl ⟨_, _, _, _, rfl, by omega, by omega, ?_, ?_, (hb.setCell (show w.heap.size ≤ w.heap.size + 1 by omega) _).setCell (show w.heap.size ≤ w.heap.size + 1 by omega) _⟩
      · exact (hla.setFar (show ga ≠ w.heap.size + 1 by omega) _).setFar (show ga ≠ w.heap.size + 1 by omega) _
      · exact (hlb.setFar (show gb ≠ w.heap.size + 1 by omega) _).setFar (show gb ≠ w.heap.size + 1 by omega) _

end Go.Proofs.YtnlcheebdkjpbabGreat.Fx
