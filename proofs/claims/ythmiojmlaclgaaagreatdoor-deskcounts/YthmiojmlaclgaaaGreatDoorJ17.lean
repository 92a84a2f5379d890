/- What journal.head returns, of right things. -/
import Derived.Test.YthmiojmlaclgaaaGreatDoorJ11
import Derived.Test.YthmiojmlaclgaaaGreatDoorJ06
import Derived.Test.YthmiojmlaclgaaaGreatDoorJ16
import Derived.Test.YthmiojmlaclgaaaGreatDoorJ14
import Derived.Test.YthmiojmlaclgaaaGreatDoorJ05
import Derived.Test.YthmiojmlaclgaaaGreatDoorJ12
namespace Go.Proofs.YthmiojmlaclgaaaGreatDoor.Fx
open Go.RowKit

theorem tStart_good (c : Cfg) (hc : cfgB c = true) (hs : okW c.seed) (N : Nat) (hN : (N : Int) = sizeN c) (q : World) :
    Calls Tryz.prog 166 #[c.val] q fun e w' => ∃ ga d1 gb d2, e = .returned (.tuple #[.agg #[.slice ga N d1, .slice gb N d2], .int .i64 0]) ∧ Lst w' ga N d1 ((List.range N).map (startG c.seed)) ∧ Lst w' gb N d2 ((List.range N).map zeroG) ∧ Below q.heap.size q w' := by
  refine (tStart_calls c hs q).mono ?_
  rintro e w' ⟨b1, m1, d1, b2, m2, d2, rfl, _, _, l1, l2, hb⟩
  have hNt : (sizeN c).toNat = N := by omega
  unfold startL at l1
  unfold zeroL0 at l2
  rw [if_pos hc, hNt] at l1 l2
  rw [cfgI_yes hc]
  have e1 : N = m1 := by rw [← l1.len]; simp
  have e2 : N = m2 := by rw [← l2.len]; simp
  subst e1
  rw [← e2] at l2 ⊢
  exact ⟨b1, d1, b2, d2, rfl, l1, l2, hb⟩

set_option maxRecDepth 100000 in
set_option maxHeartbeats 3200000 in
theorem jhead_calls (c : Cfg) (hc : cfgB c = true) (hs : okW c.seed) (N : Nat) (hN : (N : Int) = sizeN c) (a : Option Addr) (n cap : Nat) (X : Nat → Exm) (DI DO : Nat → List Int) (w : World) (hx : Exs w a n cap X DI DO) (hn2 : n ≤ 16) (hex : allEx c n X DI DO = true) :
    Calls Tryz.prog 165 #[c.val, .slice a n cap] w fun e w' => e = .returned (.int .u64 (headP c n DI DO N)) ∧ Below w.heap.size w w' := by
  have HOK : Hid (okL (headL c n DI DO N)) := headL_ok hc hs n DI DO N
  have hNb := sizeN_bd hc
  have N4 : 4 ≤ N := by omega
  have N40 : N ≤ 40 := by omega
  obtain ⟨SL, HSL⟩ : ∃ l, Hid ((List.range N).map (startG c.seed) = l) := ⟨_, rfl⟩
  obtain ⟨ZL, HZL⟩ : ∃ l, Hid ((List.range N).map zeroG = l) := ⟨_, rfl⟩
  obtain ⟨SR, HSR⟩ : ∃ r, Hid (rootP SL ZL (N + N) = r) := ⟨_, rfl⟩
  have HRV : Hid (rootV N SL N ZL = SR) := by show rootV N SL N ZL = SR; unfold rootV; rw [if_pos (show rootE N N = 0 by unfold rootE; rw [if_neg (by omega), if_neg (by omega)])]; exact HSR.out
  have HRE : Hid (rootE N N = 0) := by show rootE N N = 0; unfold rootE; rw [if_neg (by omega), if_neg (by omega)]
  have HRS : Hid (∀ q, Calls Tryz.prog 166 #[c.val] q fun e w' => ∃ ga d1 gb d2, e = .returned (.tuple #[.agg #[.slice ga N d1, .slice gb N d2], .int .i64 0]) ∧ Lst w' ga N d1 SL ∧ Lst w' gb N d2 ZL ∧ Below q.heap.size q w') := fun q => by
    have h := tStart_good c hc hs N hN q
    rw [HSL.out, HZL.out] at h
    exact h
  have HEX : Hid (∀ j, j < n → (X j).n = (DI j).length ∧ (X j).m = (DO j).length ∧ 1 ≤ (X j).n ∧ (X j).n ≤ 4 ∧ (X j).m ≤ 4) := fun j hj => by
    have he := exB_is (allEx_is hex hj)
    obtain ⟨⟨i1, i2⟩, _, ⟨o1, o2⟩, _⟩ := cfgB_is hc
    obtain ⟨b, off, _, _, _, hin⟩ := hx.at hj
    exact ⟨hin.i.len.symm, hin.o.len.symm, by omega, by omega, by omega⟩
  obtain ⟨⟨i1, i2⟩, ⟨h1, h2⟩, ⟨o1, o2⟩, ⟨b1, b2⟩, ⟨s1, s2⟩, ⟨r1, r2⟩, ⟨d1, d2⟩, ⟨w1, w2⟩, ⟨k1, k2⟩, ⟨q1, q2⟩⟩ := cfgB_is hc
  have hal := low_alloc w (.cells c.cells 50)
  have hx0 := hx.below hal (Nat.le_refl _)
  obtain ⟨W, HW⟩ : ∃ q, Hid (q = w.alloc (.cells c.cells 50)) := ⟨_, rfl⟩
  have KB : Hid (∀ q, Below W.heap.size W q → BoxC q w.heap.size c) := fun q hq => by rw [HW.out] at hq; exact boxC hq (by simp)
  have HWS : Hid (w.heap.size + 1 = W.heap.size) := by show _ = _; rw [HW.out]; simp
  rw [← HW.out] at hal hx0
  have hHP : headP c n DI DO N = ofP 5 (headL c n DI DO N) := rfl
  rw [hHP]
  have own0 := OwnW.lit W [c.i, c.h, c.o, c.seed, c.batch, c.steps, c.rate, c.decay, c.how, c.keep, c.clip] (by simp)
  have hl0 := low_alloc W (.cells #[.int .u64 c.i, .int .u64 c.h, .int .u64 c.o, .int .u64 c.seed, .int .u64 c.batch, .int .u64 c.steps, .int .u64 c.rate, .int .u64 c.decay, .int .u64 c.how, .int .u64 c.keep, .int .u64 c.clip] 48)
  have HHL : Hid (headL c n DI DO N = ([c.i, c.h, c.o, c.seed, c.batch, c.steps, c.rate, c.decay, c.how, c.keep, c.clip] ++ (List.range n).map (exRoot DI DO)) ++ [SR]) := by
    show headL c n DI DO N = _
    rw [← HSR.out, ← HSL.out, ← HZL.out]
    rfl
  obtain ⟨HL, hHLe⟩ : ∃ l, headL c n DI DO N = l := ⟨_, rfl⟩
  rw [hHLe] at HOK HHL ⊢
  clear hHLe hHP hx hex hc hNb hN HSR HSL HZL
  obtain ⟨i, h, o, seed, batch, steps, crate, decay, how, keep, clip⟩ := c
  simp only [Cfg.val, Cfg.cells] at *
  obtain ⟨c0, c1, c2, c3, c4, c5, c6, c7, c8, c9, c10⟩ := KB.out _ (Below.refl _ _)
  dsimp only at c0 c1 c2 c3 c4 c5 c6 c7 c8 c9 c10
  go_enter Tryz.func165, Tryz.ntmps165
  go_wp2_with fail
  rw [← HW.out]
  clear HW
  go_loopw [5, 51] (fun v t wr => ∃ k : Nat, k ≤ n ∧ t = .int .i64 k ∧ OwnW W.heap.size wr v ([i, h, o, seed, batch, steps, crate, decay, how, keep, clip] ++ (List.range k).map (exRoot DI DO)) ∧ Below W.heap.size W wr) (fun _ t _ => n - (intOf t).toNat)
  case atStart => exact ⟨0, Nat.zero_le _, rfl, by rw [HWS.out]; simpa using own0, hl0⟩
  case round =>
    clear own0 hl0 c0 c1 c2 c3 c4 c5 c6 c7 c8 c9 c10
    obtain ⟨k, hk, rfl, hown, hbel⟩ := hrel
    have hsz := hbel.size
    have hll : ([i, h, o, seed, batch, steps, crate, decay, how, keep, clip] ++ (List.range k).map (exRoot DI DO)).length = 11 + k := by simp; omega
    by_cases hlt : k < n
    · obtain ⟨g1, g2, g3, g4, g5⟩ := HEX.out k hlt
      obtain ⟨xb, xo, rfl, e1, e2, hin⟩ := hx0.at hlt
      obtain ⟨x, hxk⟩ : ∃ x, X k = x := ⟨_, rfl⟩
      rw [hxk] at e1 e2 hin g1 g2 g3 g4 g5
      obtain ⟨xa, xn, xk, ya, yn, yk⟩ := x
      dsimp only at e1 e2 g1 g2 g3 g4 g5
      obtain ⟨lI, lO⟩ := hin
      dsimp only at lI lO
      obtain ⟨RT, HRT⟩ : ∃ t, Hid (exRoot DI DO k = t) := ⟨_, rfl⟩
      have hE0 : rootE xn yn = 0 := by unfold rootE; rw [if_neg (by omega), if_neg (by omega)]
      have hV0 : rootV xn (DI k) yn (DO k) = RT := by unfold rootV; rw [if_pos hE0, ← HRT.out, g1, g2]; rfl
      have hal1 := low_alloc wr (.cells #[.slice xa xn xk, .slice ya yn yk] 78)
      have RB := rob_calls xa xn xk (DI k) ya yn yk (DO k) _ ((lI.below hbel (Nat.le_refl _)).below hal1 (Nat.le_refl _)) ((lO.below hbel (Nat.le_refl _)).below hal1 (Nat.le_refl _)) (by omega)
      rw [hV0, hE0] at RB
      have t1 := (hbel.cell (p := ⟨xb, xo + k * 2, none⟩) (cell_lt e1)).trans e1
      have t2 := (hbel.cell (p := ⟨xb, xo + k * 2 + 1, none⟩) (cell_lt e2)).trans e2
      obtain ⟨y0, y1⟩ := fn2_cells (fn2_alloc wr (.slice xa xn xk) (.slice ya yn yk) 78)
      clear lI lO e1 e2 hxk g1 g2 hE0 hV0
      go_wp2_with fail
      refine RB.mono ?_
      rintro e u1 ⟨rfl, hu1⟩
      have T1 := hal1.trans (hu1.mono hal1.size)
      have T2 := T1.alloc T1.size (.cells #[.int .u64 RT] 48)
      have O2 := hown.below T2
      have B2 := hbel.trans (T2.mono hbel.size)
      clear y0 y1 t1 t2 RB
      go_wp2_with (at_builtin; refine wpList_append_word (by rfl) _ _ (by rfl) W.heap.size _ ([i, h, o, seed, batch, steps, crate, decay, how, keep, clip] ++ (List.range k).map (exRoot DI DO)) RT u1.heap.size W (by rfl) (by rfl) (by exact O2) (by exact cell_new _ _ _) (by rw [hll]; omega) (by exact B2.size) (by exact B2) ?_; intro v7 w7 hown7 hbel7)
      go_roundw
      case rel => exact ⟨k + 1, by omega, by go_num, hown7.congr (by rw [List.append_assoc, range_snocW (exRoot DI DO) k RT HRT.out]), hbel7⟩
      case measure => simp [intOf]; omega
    · obtain rfl : k = n := by omega
      obtain ⟨c0, c1, c2, c3, c4, c5, c6, c7, c8, c9, c10⟩ := KB.out _ hbel
      dsimp only at c0 c1 c2 c3 c4 c5 c6 c7 c8 c9 c10
      go_wp2_with fail
      refine (HRS.out _).mono ?_
      rintro e u1 ⟨ga, e1, gb, e2, rfl, l1, l2, hu1⟩
      clear c0 c1 c2 c3 c4 c5 c6 c7 c8 c9 c10
      have hal1 := low_alloc u1 (.cells #[.slice ga N e1, .slice gb N e2] 106)
      obtain ⟨y0, y1⟩ := fn2_cells (fn2_alloc u1 (.slice ga N e1) (.slice gb N e2) 106)
      have RR := jroot_calls ga N e1 SL gb N e2 ZL _ (l1.below hal1 (Nat.le_refl _)) (l2.below hal1 (Nat.le_refl _)) (by omega)
      rw [HRV.out, HRE.out] at RR
      clear l1 l2
      go_wp2_with fail
      refine RR.mono ?_
      rintro e u2 ⟨rfl, hu2⟩
      have T1 := hu1.trans ((hal1.trans (hu2.mono hal1.size)).mono hu1.size)
      have T3 := T1.alloc T1.size (.cells #[.int .u64 SR] 48)
      have O3 := hown.below T3
      have B3 := hbel.trans (T3.mono hbel.size)
      clear y0 y1 RR
      go_wp2_with (at_builtin; refine wpList_append_word (by rfl) _ _ (by rfl) W.heap.size _ ([i, h, o, seed, batch, steps, crate, decay, how, keep, clip] ++ (List.range k).map (exRoot DI DO)) SR u2.heap.size W (by rfl) (by rfl) (by exact O3) (by exact cell_new _ _ _) (by rw [hll]; omega) (by exact B3.size) (by exact B3) ?_; intro v7 w7 hown7 hbel7; obtain ⟨va, vc, hv7, l7⟩ := hown7.lst' (n := 12 + k) (by simp; omega); subst hv7; rw [← HHL.out] at l7)
      have HO := dOf_calls 5 ⟨by omega, by omega⟩ _ _ _ _ _ l7 HOK.out
      rw [show ofA 5 HL (12 + k) = ofP 5 HL from if_neg (by omega), show bigI (12 + k) = 0 from if_neg (by omega)] at HO
      refine HO.mono ?_
      rintro e w8 ⟨rfl, hw8⟩
      go_wp2_with fail
      go_ret
      exact ⟨rfl, hal.trans ((hbel7.trans (hw8.mono hbel7.size)).mono hal.size)⟩

end Go.Proofs.YthmiojmlaclgaaaGreatDoor.Fx

/- A list of states that the program itself makes by append: what is known of it, and what one append more leaves. -/
namespace Go.Proofs.YthmiojmlaclgaaaGreatDoor.Fx
open Go.RowKit

def stCells (X : Nat → Exm) : Nat → List Value
  | 0 => []
  | n + 1 => stCells X n ++ [.slice (X n).a (X n).n (X n).k, .slice (X n).b (X n).m (X n).t]
theorem stCells_len (X : Nat → Exm) (n : Nat) : (stCells X n).length = n * 2 := by
  induction n with
  | zero => rfl
  | succ k ih => simp [stCells, ih]; omega
theorem stCells_congr {X Y : Nat → Exm} {n : Nat} (h : ∀ i, i < n → X i = Y i) : stCells X n = stCells Y n := by
  induction n with
  | zero => rfl
  | succ k ih => simp only [stCells]; rw [ih (fun i hi => h i (by omega)), h k (by omega)]
theorem stCells_at (X : Nat → Exm) {n i : Nat} (h : i < n) : (stCells X n)[i * 2]? = some (.slice (X i).a (X i).n (X i).k) ∧ (stCells X n)[i * 2 + 1]? = some (.slice (X i).b (X i).m (X i).t) := by
  induction n with
  | zero => omega
  | succ k ih =>
    have hl := stCells_len X k
    simp only [stCells]
    by_cases e : i = k
    · subst e
      rw [List.getElem?_append_right (by omega), List.getElem?_append_right (by omega), hl]
      simp
    · have g := ih (by omega)
      rw [List.getElem?_append_left (by omega), List.getElem?_append_left (by omega)]
      exact g
/-- The slice value v, made from block number base on, owns the states X. -/
def OwnS (base : Nat) (w : World) (v : Value) (n : Nat) (X : Nat → Exm) : Prop := w.ownsRow base 106 2 v n (stCells X n)
theorem OwnS.nil (base : Nat) (w : World) (X : Nat → Exm) : OwnS base w (.slice none 0 0) 0 X := World.ownsRow_nil _ _ _ _
theorem OwnS.below {base : Nat} {w w' : World} {v : Value} {n : Nat} {X : Nat → Exm} (h : OwnS base w v n X) (hb : Below w.heap.size w w') : OwnS base w' v n X := by
  refine ⟨h.1, ?_⟩
  rcases h.2 with h0 | ⟨g, cap, cur, hv, hg, hh, r⟩
  · exact .inl h0
  · exact .inr ⟨g, cap, cur, hv, hg, by rw [hb.block g (Array.getElem?_eq_some_iff.1 hh).1]; exact hh, r⟩
theorem OwnS.exs {base : Nat} {w : World} {v : Value} {n : Nat} {X : Nat → Exm} {DI DO : Nat → List Int} (h : OwnS base w v n X) (hin : ∀ i, i < n → InEx w (X i) (DI i) (DO i)) : ∃ a c, v = .slice a n c ∧ Exs w a n c X DI DO := by
  obtain ⟨hl, h2⟩ := h
  rcases h2 with ⟨rfl, rfl⟩ | ⟨g, cap, cur, rfl, _, hh, hle, _, hsz, hcur⟩
  · exact ⟨none, 0, rfl, Nat.le_refl _, .inl rfl⟩
  · refine ⟨_, cap, rfl, hle, .inr ⟨g, 0, rfl, (Array.getElem?_eq_some_iff.1 hh).1, fun i hi => ?_⟩⟩
    have hc : ∀ j, j < n * 2 → w.cell? ⟨g, 0 + j, none⟩ = (stCells X n)[j]? := fun j hj => by
      rw [← hcur, List.getElem?_take_of_lt hj]
      simp [World.cell?, hh]
    have g2 := stCells_at X hi
    refine ⟨(hc (i * 2) (by omega)).trans g2.1, ?_, hin i hi⟩
    have := hc (i * 2 + 1) (by omega)
    rw [← Nat.add_assoc] at this
    exact this.trans g2.2

theorem infoS : (Tryz.prog.info? 106).map (fun i => (i.zero, i.size, i.bytes)) = some (some (.agg #[.slice none 0 0, .slice none 0 0]), 2, 48) := by kernel_rfl

section
variable {w' W0 : World} {ops : Array Oper} {o : Oper} {a : Act} {Q : Exit → Act → World → Prop}
end

end Go.Proofs.YthmiojmlaclgaaaGreatDoor.Fx

/- What TrainSays holds in memory on its way: the document's start, next state, record and states; no function of the program is spoken of. -/
namespace Go.Proofs.YthmiojmlaclgaaaGreatDoor.Fx
open Go.RowKit

/-- A list does not lie in block b. -/
def FarB (a : Option Addr) (b : Nat) : Prop := ∀ bg o, a = some ⟨bg, o, none⟩ → bg ≠ b
theorem FarB.none (b : Nat) : FarB Option.none b := fun _ _ h => by cases h
theorem FarB.some {g b : Nat} (h : g ≠ b) {o : Nat} : FarB (Option.some ⟨g, o, Option.none⟩) b := fun bg o' e => by
  simp only [Option.some.injEq, Addr.mk.injEq, and_true] at e
  omega
theorem Lst.offB {w : World} {a : Option Addr} {n c : Nat} {xs : List Int} (h : Lst w a n c xs) {b : Nat} (hf : FarB a b) (i : Nat) (v : Value) : Lst (w.setCell ⟨b, i, none⟩ v) a n c xs := by
  rcases h.2.2 with h0 | ⟨g, off, rfl, hs, hc⟩
  · exact ⟨h.1, h.2.1, .inl h0⟩
  · exact h.setFar (a := ⟨b, i, none⟩) (hf g off rfl) v
theorem InEx.offB {w : World} {x : Exm} {I O : List Int} (h : InEx w x I O) {b : Nat} (h1 : FarB x.a b) (h2 : FarB x.b b) (i : Nat) (v : Value) : InEx (w.setCell ⟨b, i, none⟩ v) x I O := ⟨h.i.offB h1 i v, h.o.offB h2 i v⟩
theorem InEx.offS {w : World} {x : Exm} {I O : List Int} (h : InEx w x I O) {p : Addr} {u : Option Addr} {y z : Nat} (hp : w.cell? p = some (.slice u y z)) (v : Value) : InEx (w.setCell p v) x I O := ⟨h.i.setOff hp v, h.o.setOff hp v⟩

/-- Behind the start: it lies there; the next state and the record are empty yet. -/
structure Cut1M (w1 : World) (SW SM : List Int) (x0 : Exm) (q : World) : Prop where
  r0 : q.rowIs w1.heap.size 106 2 (fn2 (.slice x0.a x0.n x0.k) (.slice x0.b x0.m x0.t))
  l0 : InEx q x0 SW SM
  fa : FarB x0.a (w1.heap.size + 1 + 1)
  fb : FarB x0.b (w1.heap.size + 1 + 1)
  r1 : q.rowIs (w1.heap.size + 1) 106 2 (fn2 (.slice none 0 0) (.slice none 0 0))
  r2 : q.rowIs (w1.heap.size + 1 + 1) 111 5 (fn5 (.int .i64 0) (.slice none 0 0) (.int .i64 0) (.int .u64 0) (.int .u64 0))
  bel : Below w1.heap.size w1 q
theorem Cut1M.below {w1 : World} {SW SM : List Int} {x0 : Exm} {q q2 : World} (h : Cut1M w1 SW SM x0 q) (hb : Below q.heap.size q q2) : Cut1M w1 SW SM x0 q2 :=
  ⟨h.r0.of_block (hb.block _ h.r0.lt), h.l0.below hb (Nat.le_refl _), h.fa, h.fb, h.r1.of_block (hb.block _ h.r1.lt), h.r2.of_block (hb.block _ h.r2.lt), h.bel.trans (hb.mono h.bel.size)⟩

/-- Behind the switch: the start, the next state and the record lie there. -/
structure SwM (w1 : World) (SW SM NW NM NB : List Int) (NR : Int) (x0 x1 : Exm) (v0 : Value) (a3 : Option Addr) (m3 d3 : Nat) (v3 v4 : Value) (q : World) : Prop where
  r0 : q.rowIs w1.heap.size 106 2 (fn2 (.slice x0.a x0.n x0.k) (.slice x0.b x0.m x0.t))
  l0 : InEx q x0 SW SM
  r1 : q.rowIs (w1.heap.size + 1) 106 2 (fn2 (.slice x1.a x1.n x1.k) (.slice x1.b x1.m x1.t))
  l1 : InEx q x1 NW NM
  r2 : q.rowIs (w1.heap.size + 1 + 1) 111 5 (fn5 v0 (.slice a3 m3 d3) (.int .i64 NR) v3 v4)
  l2 : Lst q a3 m3 d3 NB
  bel : Below w1.heap.size w1 q
theorem SwM.below {w1 : World} {SW SM NW NM NB : List Int} {NR : Int} {x0 x1 : Exm} {v0 : Value} {a3 : Option Addr} {m3 d3 : Nat} {v3 v4 : Value} {q q2 : World} (h : SwM w1 SW SM NW NM NB NR x0 x1 v0 a3 m3 d3 v3 v4 q) (hb : Below q.heap.size q q2) : SwM w1 SW SM NW NM NB NR x0 x1 v0 a3 m3 d3 v3 v4 q2 :=
  ⟨h.r0.of_block (hb.block _ h.r0.lt), h.l0.below hb (Nat.le_refl _), h.r1.of_block (hb.block _ h.r1.lt), h.l1.below hb (Nat.le_refl _), h.r2.of_block (hb.block _ h.r2.lt), h.l2.below hb (Nat.le_refl _), h.bel.trans (hb.mono h.bel.size)⟩
def zeroX : Exm := ⟨none, 0, 0, none, 0, 0⟩
theorem Cut1M.put {w1 : World} {SW SM NW NM NB : List Int} {x0 x1 : Exm} {u : World} {a3 : Option Addr} {m3 d3 : Nat} (h : Cut1M w1 SW SM x0 u) (l1 : InEx u x1 NW NM) (l3 : Lst u a3 m3 d3 NB) (h1 : FarB x1.a (w1.heap.size + 1 + 1)) (h2 : FarB x1.b (w1.heap.size + 1 + 1)) (h3 : FarB a3 (w1.heap.size + 1 + 1)) (v0 v3 v4 : Value) (NR : Int) :
    SwM w1 SW SM NW NM NB NR x0 x1 v0 a3 m3 d3 v3 v4 (((((((u.setCell ⟨w1.heap.size + 1, 0, none⟩ (.slice x1.a x1.n x1.k)).setCell ⟨w1.heap.size + 1, 1, none⟩ (.slice x1.b x1.m x1.t)).setCell ⟨w1.heap.size + 1 + 1, 0, none⟩ v0).setCell ⟨w1.heap.size + 1 + 1, 1, none⟩ (.slice a3 m3 d3)).setCell ⟨w1.heap.size + 1 + 1, 2, none⟩ (.int .i64 NR)).setCell ⟨w1.heap.size + 1 + 1, 3, none⟩ v3).setCell ⟨w1.heap.size + 1 + 1, 4, none⟩ v4) := by
  have c0 := (fn2_cells h.r1).1
  have c1 : (u.setCell ⟨w1.heap.size + 1, 0, none⟩ (.slice x1.a x1.n x1.k)).cell? ⟨w1.heap.size + 1, 1, none⟩ = some (.slice none 0 0) := (h.r1.set 0 _).cell (i := 1) (by omega)
  have n0 : ∀ k, w1.heap.size ≠ (⟨w1.heap.size + 1, k, none⟩ : Addr).block := fun k => by show w1.heap.size ≠ w1.heap.size + 1; omega
  have n1 : ∀ k, w1.heap.size ≠ (⟨w1.heap.size + 1 + 1, k, none⟩ : Addr).block := fun k => by show w1.heap.size ≠ w1.heap.size + 1 + 1; omega
  have n2 : ∀ k, w1.heap.size + 1 ≠ (⟨w1.heap.size + 1 + 1, k, none⟩ : Addr).block := fun k => by show w1.heap.size + 1 ≠ w1.heap.size + 1 + 1; omega
  have n3 : ∀ k, w1.heap.size + 1 + 1 ≠ (⟨w1.heap.size + 1, k, none⟩ : Addr).block := fun k => by show w1.heap.size + 1 + 1 ≠ w1.heap.size + 1; omega
  refine ⟨?_, ?_, ?_, ?_, ?_, ?_, ?_⟩
  · exact ((((((h.r0.setOther (n0 0) _).setOther (n0 1) _).setOther (n1 0) _).setOther (n1 1) _).setOther (n1 2) _).setOther (n1 3) _).setOther (n1 4) _
  · exact ((((((h.l0.offS c0 _).offS c1 _).offB h.fa h.fb 0 _).offB h.fa h.fb 1 _).offB h.fa h.fb 2 _).offB h.fa h.fb 3 _).offB h.fa h.fb 4 _
  · exact (((((fn2_set h.r1 (.slice x1.a x1.n x1.k) (.slice x1.b x1.m x1.t)).setOther (n2 0) _).setOther (n2 1) _).setOther (n2 2) _).setOther (n2 3) _).setOther (n2 4) _
  · exact ((((((l1.offS c0 _).offS c1 _).offB h1 h2 0 _).offB h1 h2 1 _).offB h1 h2 2 _).offB h1 h2 3 _).offB h1 h2 4 _
  · exact fn5_set ((h.r2.setOther (n3 0) _).setOther (n3 1) _) v0 (.slice a3 m3 d3) (.int .i64 NR) v3 v4
  · exact ((((((l3.setOff c0 _).setOff c1 _).offB h3 0 _).offB h3 1 _).offB h3 2 _).offB h3 3 _).offB h3 4 _
  · exact below_set5 (below_set2 h.bel (show w1.heap.size ≤ w1.heap.size + 1 by omega) _ _) (show w1.heap.size ≤ w1.heap.size + 1 + 1 by omega) _ _ _ _ _
theorem Cut1M.start (w1 : World) : Cut1M w1 [] [] zeroX (((w1.alloc (.cells #[.slice none 0 0, .slice none 0 0] 106)).alloc (.cells #[.slice none 0 0, .slice none 0 0] 106)).alloc (.cells #[.int .i64 0, .slice none 0 0, .int .i64 0, .int .u64 0, .int .u64 0] 111)) := by
  refine ⟨((fn2_alloc w1 _ _ _).alloc _).alloc _, ⟨Lst.nil _ _ _, Lst.nil _ _ _⟩, FarB.none _, FarB.none _, ?_, ?_, (((Below.refl w1.heap.size w1).alloc (Nat.le_refl _) _).alloc (by simp) _).alloc (by simp; omega) _⟩
  · have h := (fn2_alloc (w1.alloc (.cells #[.slice none 0 0, .slice none 0 0] 106)) (.slice none 0 0) (.slice none 0 0) 106).alloc (.cells #[.int .i64 0, .slice none 0 0, .int .i64 0, .int .u64 0, .int .u64 0] 111)
    simpa using h
  · have h := fn5_alloc ((w1.alloc (.cells #[.slice none 0 0, .slice none 0 0] 106)).alloc (.cells #[.slice none 0 0, .slice none 0 0] 106)) (.int .i64 0) (.slice none 0 0) (.int .i64 0) (.int .u64 0) (.int .u64 0) 111
    simpa using h
theorem Cut1M.first {w1 u : World} (h : Cut1M w1 [] [] zeroX u) {SW SM : List Int} {x0 : Exm} (l : InEx u x0 SW SM) (h1 : FarB x0.a (w1.heap.size + 1 + 1)) (h2 : FarB x0.b (w1.heap.size + 1 + 1)) : Cut1M w1 SW SM x0 ((u.setCell ⟨w1.heap.size, 0, none⟩ (.slice x0.a x0.n x0.k)).setCell ⟨w1.heap.size, 1, none⟩ (.slice x0.b x0.m x0.t)) := by
  have c0 : u.cell? ⟨w1.heap.size, 0, none⟩ = some (.slice none 0 0) := (fn2_cells h.r0).1
  have c1 : (u.setCell ⟨w1.heap.size, 0, none⟩ (.slice x0.a x0.n x0.k)).cell? ⟨w1.heap.size, 1, none⟩ = some (.slice none 0 0) := (h.r0.set 0 _).cell (i := 1) (by omega)
  refine ⟨fn2_set h.r0 _ _, (l.offS c0 _).offS c1 _, h1, h2, ?_, ?_, (h.bel.setCell (Nat.le_refl _) _).setCell (Nat.le_refl _) _⟩
  · exact (h.r1.setOther (a := ⟨w1.heap.size, 0, none⟩) (show w1.heap.size + 1 ≠ w1.heap.size by omega) _).setOther (a := ⟨w1.heap.size, 1, none⟩) (show w1.heap.size + 1 ≠ w1.heap.size by omega) _
  · exact (h.r2.setOther (a := ⟨w1.heap.size, 0, none⟩) (show w1.heap.size + 1 + 1 ≠ w1.heap.size by omega) _).setOther (a := ⟨w1.heap.size, 1, none⟩) (show w1.heap.size + 1 + 1 ≠ w1.heap.size by omega) _
end Go.Proofs.YthmiojmlaclgaaaGreatDoor.Fx

/- The cells of a list of records, written one after another; lists of numbers lie apart from them. No function of the program is spoken of. -/
namespace Go.Proofs.YthmiojmlaclgaaaGreatDoor.Fx
open Go.RowKit

/-- The cells of a record. -/
def recC (x : Rcm) (t : Nat) : Value := fn5 (.int .i64 x.s) (.slice x.a x.n x.k) (.int .i64 x.r) (.int .u64 x.root) (.int .u64 x.chain) t
def zeroRc : Rcm := ⟨0, none, 0, 0, 0, 0, 0⟩
/-- The cells of a list of records, of which the first K are R's. -/
def rcsR (R : Nat → Rcm) (K i : Nat) : Value := if i < K * 5 then recC (R (i / 5)) (i % 5) else recC zeroRc (i % 5)
theorem made5 (w : World) (z0 z1 z2 z3 z4 : Value) (m : Nat) (t : TypeId) : (w.alloc (.cells (madeCells #[z0, z1, z2, z3, z4] m) t)).rowIs w.heap.size t m (fun i => fn5 z0 z1 z2 z3 z4 (i % 5)) := by
  refine ⟨_, Go.Deep.blk_alloc_new _ _, size_madeCells _ _, fun i hi => ?_⟩
  rcases lt5 (Nat.mod_lt i (show 0 < 5 by omega)) with h | h | h | h | h <;> simp [madeCells, hi, h, fn5]
theorem rcsR_zero {w : World} {b t n : Nat} {R : Nat → Rcm} (h : w.rowIs b t n (fun i => fn5 (.int .i64 0) (.slice none 0 0) (.int .i64 0) (.int .u64 0) (.int .u64 0) (i % 5))) : w.rowIs b t n (rcsR R 0) := h.congr (fun i _ => by unfold rcsR; rw [if_neg (by omega)]; rfl)
theorem rcsR_cell {w : World} {b t n K j : Nat} {R : Nat → Rcm} (h : w.rowIs b t n (rcsR R K)) (hj : j < K) (hn : K * 5 ≤ n) {i : Nat} (hi : i < 5) : w.cell? ⟨b, j * 5 + i, none⟩ = some (recC (R j) i) := by
  rw [h.cell (by omega)]
  unfold rcsR
  rw [if_pos (by omega), show (j * 5 + i) / 5 = j by omega, show (j * 5 + i) % 5 = i by omega]
theorem rcsR_new {w : World} {b t n K j : Nat} {R : Nat → Rcm} (h : w.rowIs b t n (rcsR R K)) (hj : K ≤ j) (hn : j * 5 + 5 ≤ n) {i : Nat} (hi : i < 5) : w.cell? ⟨b, j * 5 + i, none⟩ = some (recC zeroRc i) := by
  rw [h.cell (by omega)]
  unfold rcsR
  rw [if_neg (by omega), show (j * 5 + i) % 5 = i by omega]
theorem rcsR_push {w : World} {b t n K : Nat} {R R2 : Nat → Rcm} (h : w.rowIs b t n (rcsR R K)) (x : Rcm) (h2 : R2 K = x) (h3 : ∀ j, j < K → R2 j = R j) :
    (((((w.setCell ⟨b, K * 5, none⟩ (.int .i64 x.s)).setCell ⟨b, K * 5 + 1, none⟩ (.slice x.a x.n x.k)).setCell ⟨b, K * 5 + 2, none⟩ (.int .i64 x.r)).setCell ⟨b, K * 5 + 3, none⟩ (.int .u64 x.root)).setCell ⟨b, K * 5 + 4, none⟩ (.int .u64 x.chain)).rowIs b t n (rcsR R2 (K + 1)) := by
  refine (((((h.set _ _).set _ _).set _ _).set _ _).set _ _).congr (fun i hi => ?_)
  have e5 : i = K * 5 + 4 ∨ i = K * 5 + 3 ∨ i = K * 5 + 2 ∨ i = K * 5 + 1 ∨ i = K * 5 ∨ i < K * 5 ∨ K * 5 + 5 ≤ i := by omega
  unfold rcsR
  rcases e5 with e | e | e | e | e | e | e
  · rw [if_pos e, if_pos (by omega), show i / 5 = K by omega, show i % 5 = 4 by omega, h2]; rfl
  · rw [if_neg (by omega), if_pos e, if_pos (by omega), show i / 5 = K by omega, show i % 5 = 3 by omega, h2]; rfl
  · rw [if_neg (by omega), if_neg (by omega), if_pos e, if_pos (by omega), show i / 5 = K by omega, show i % 5 = 2 by omega, h2]; rfl
  · rw [if_neg (by omega), if_neg (by omega), if_neg (by omega), if_pos e, if_pos (by omega), show i / 5 = K by omega, show i % 5 = 1 by omega, h2]; rfl
  · rw [if_neg (by omega), if_neg (by omega), if_neg (by omega), if_neg (by omega), if_pos e, if_pos (by omega), show i / 5 = K by omega, show i % 5 = 0 by omega, h2]; rfl
  · rw [if_neg (by omega), if_neg (by omega), if_neg (by omega), if_neg (by omega), if_neg (by omega), if_pos e, if_pos (by omega), h3 (i / 5) (by omega)]
  · rw [if_neg (by omega), if_neg (by omega), if_neg (by omega), if_neg (by omega), if_neg (by omega), if_neg (by omega), if_neg (by omega)]
theorem recC_int {x : Rcm} {t : Nat} {y : Int} (h : recC x t = .int .i64 y) (ht : t < 5) : t = 0 ∨ t = 2 := by
  rcases lt5 ht with rfl | rfl | rfl | rfl | rfl
  · exact .inl rfl
  · cases h
  · exact .inr rfl
  · cases h
  · cases h
theorem row_lt {w : World} {b t n i : Nat} {f : Nat → Value} {v : Value} (h : w.rowIs b t n f) (hc : w.cell? ⟨b, i, none⟩ = some v) : i < n ∧ f i = v := by
  by_cases hi : i < n
  · rw [h.cell hi] at hc
    exact ⟨hi, by simpa using hc⟩
  · obtain ⟨cs, hb, hsz, _⟩ := h
    simp only [World.cell?, hb] at hc
    rw [Array.getElem?_eq_none (by omega)] at hc
    cases hc
/-- A list of two numbers and more does not lie among cells of which no two in a row are numbers. -/
theorem Lst.apart {w : World} {b t n len c : Nat} {f : Nat → Value} {a : Option Addr} {xs : List Int} (hl : Lst w a len c xs) (h2 : 2 ≤ len) (h : w.rowIs b t n f) (hf : ∀ i x y, f i = .int .i64 x → f (i + 1) = .int .i64 y → False) : FarB a b := fun bg o e hb => by
  obtain ⟨b', off, e', hs, hc⟩ := hl.at (by omega)
  rw [e] at e'
  simp only [Option.some.injEq, Addr.mk.injEq, and_true] at e'
  obtain ⟨rfl, rfl⟩ := e'
  subst hb
  exact hf _ _ _ (row_lt h (hc 0 (by omega))).2 (row_lt h (hc 1 (by omega))).2
theorem recC_apart (x : Rcm) (i : Nat) (hi : i + 1 < 5) (u v : Int) (h1 : recC x i = .int .i64 u) (h2 : recC x (i + 1) = .int .i64 v) : False := by
  have := recC_int h1 (by omega)
  have := recC_int h2 hi
  omega
theorem rcsR_apart (R : Nat → Rcm) (K i : Nat) (u v : Int) (h1 : rcsR R K i = .int .i64 u) (h2 : rcsR R K (i + 1) = .int .i64 v) : False := by
  have k : ∀ j w, rcsR R K j = .int .i64 w → j % 5 = 0 ∨ j % 5 = 2 := fun j w h => by
    unfold rcsR at h
    by_cases e : j < K * 5
    · rw [if_pos e] at h; exact recC_int h (Nat.mod_lt _ (by omega))
    · rw [if_neg e] at h; exact recC_int h (Nat.mod_lt _ (by omega))
  have := k _ _ h1
  have := k _ _ h2
  omega
theorem Lst.apart5 {w : World} {b t len c : Nat} {x : Rcm} {a : Option Addr} {xs : List Int} (hl : Lst w a len c xs) (h2 : 2 ≤ len) (h : w.rowIs b t 5 (recC x)) : FarB a b := fun bg o e hb => by
  obtain ⟨b', off, e', hs, hc⟩ := hl.at (by omega)
  rw [e] at e'
  simp only [Option.some.injEq, Addr.mk.injEq, and_true] at e'
  obtain ⟨rfl, rfl⟩ := e'
  subst hb
  have k1 := row_lt h (hc 0 (by omega))
  have k2 := row_lt h (hc 1 (by omega))
  exact recC_apart x o k2.1 _ _ k1.2 k2.2

theorem infoR : (Tryz.prog.info? 111).map (fun i => (i.zero, i.size, i.bytes)) = some (some (.agg #[.int .i64 0, .slice none 0 0, .int .i64 0, .int .u64 0, .int .u64 0]), 5, 56) := by kernel_rfl
theorem Arr.offS {w : World} {b c n : Nat} {f : Nat → Int} (h : Arr w b c n f) {p : Addr} {x : Option Addr} {y z : Nat} (hp : w.cell? p = some (.slice x y z)) (u : Value) : Arr (w.setCell p u) b c n f := by
  by_cases e : b = p.block
  · obtain ⟨hc, F, hr, hf⟩ := h
    obtain ⟨pb, po, ps⟩ := p
    have hs : ps = none := by simpa using World.cell?_spot hp
    subst hs
    dsimp only at e
    subst e
    refine ⟨hc, _, hr.set po u, fun i hi => ?_⟩
    have hne : i ≠ po := fun e2 => by
      subst e2
      rw [hr.cell (by omega), hf i hi] at hp
      cases hp
    simp only [if_neg hne]
    exact hf i hi
  · exact h.setOther e u

/-- The batches of records that were made: each lies in a block of its own, apart from the records. -/
def JrIn (w : World) (OB base B k : Nat) (R : Nat → Rcm) (DG : Nat → Nat → Int) : Prop := ∀ j, j < k → (R j).n = B ∧ (R j).k = B ∧ ∃ bg, (R j).a = some ⟨bg, 0, none⟩ ∧ base ≤ bg ∧ bg ≠ OB ∧ Arr w bg B B (DG j)
theorem JrIn.below {w w' : World} {OB base B k : Nat} {R : Nat → Rcm} {DG : Nat → Nat → Int} (h : JrIn w OB base B k R DG) (hb : Below w.heap.size w w') : JrIn w' OB base B k R DG := fun j hj => by
  obtain ⟨h1, h2, bg, h3, h4, h5, hl⟩ := h j hj
  exact ⟨h1, h2, bg, h3, h4, h5, hl.below hb⟩
theorem JrIn.setS {w : World} {OB base B k : Nat} {R : Nat → Rcm} {DG : Nat → Nat → Int} (h : JrIn w OB base B k R DG) {p : Addr} {x : Option Addr} {y z : Nat} (hp : w.cell? p = some (.slice x y z)) (u : Value) : JrIn (w.setCell p u) OB base B k R DG := fun j hj => by
  obtain ⟨h1, h2, bg, h3, h4, h5, hl⟩ := h j hj
  exact ⟨h1, h2, bg, h3, h4, h5, hl.offS hp u⟩
theorem JrIn.setO {w : World} {OB base B k : Nat} {R : Nat → Rcm} {DG : Nat → Nat → Int} (h : JrIn w OB base B k R DG) (i : Nat) (u : Value) : JrIn (w.setCell ⟨OB, i, none⟩ u) OB base B k R DG := fun j hj => by
  obtain ⟨h1, h2, bg, h3, h4, h5, hl⟩ := h j hj
  exact ⟨h1, h2, bg, h3, h4, h5, hl.setOther (a := ⟨OB, i, none⟩) h5 u⟩
/-- None of them lies in that block. -/
def JrNo (k b : Nat) (R : Nat → Rcm) : Prop := ∀ j, j < k → FarB (R j).a b
theorem JrIn.no {w : World} {OB base B k : Nat} {R : Nat → Rcm} {DG : Nat → Nat → Int} (h : JrIn w OB base B k R DG) {b : Nat} (hb : w.heap.size ≤ b) : JrNo k b R := fun j hj => by
  obtain ⟨h1, h2, bg, h3, h4, h5, hl⟩ := h j hj
  have := hl.lt
  rw [h3]
  exact FarB.some (by omega)
theorem JrIn.setN {w : World} {OB base B k : Nat} {R : Nat → Rcm} {DG : Nat → Nat → Int} (h : JrIn w OB base B k R DG) {b : Nat} (hb : JrNo k b R) (i : Nat) (u : Value) : JrIn (w.setCell ⟨b, i, none⟩ u) OB base B k R DG := fun j hj => by
  obtain ⟨h1, h2, bg, h3, h4, h5, hl⟩ := h j hj
  have := hb j hj
  rw [h3] at this
  exact ⟨h1, h2, bg, h3, h4, h5, hl.setOther (a := ⟨b, i, none⟩) (this bg 0 rfl) u⟩
theorem JrIn.push {w : World} {OB base B k : Nat} {R R2 : Nat → Rcm} {DG : Nat → Nat → Int} (h : JrIn w OB base B k R DG) (hR : ∀ j, j < k → R2 j = R j) {s r root chain : Int} {bg : Nat} (h2 : R2 k = ⟨s, some ⟨bg, 0, none⟩, B, B, r, root, chain⟩) (h4 : base ≤ bg) (h5 : bg ≠ OB) (hl : Arr w bg B B (DG k)) : JrIn w OB base B (k + 1) R2 DG := fun j hj => by
  by_cases e : j = k
  · subst e; rw [h2]; exact ⟨rfl, rfl, bg, rfl, h4, h5, hl⟩
  · rw [hR j (by omega)]; exact h j (by omega)
end Go.Proofs.YthmiojmlaclgaaaGreatDoor.Fx
