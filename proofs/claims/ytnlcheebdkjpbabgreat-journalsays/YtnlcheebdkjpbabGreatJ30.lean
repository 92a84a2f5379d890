/- What coachref.Head returns, of right things. -/
import Derived.Test.YtnlcheebdkjpbabGreatJ29
import Derived.Test.YtnlcheebdkjpbabGreatJ20
import Derived.Test.YtnlcheebdkjpbabGreatJ10
namespace Go.Proofs.YtnlcheebdkjpbabGreat.Fx
open Go.RowKit

set_option maxRecDepth 100000 in
set_option maxHeartbeats 6400000 in
theorem rhead_calls (c : Cfg) (hc : cfgB c = true) (hs : okW c.seed) (N : Nat) (hN : (N : Int) = sizeN c) (a : Option Addr) (n cap : Nat) (X : Nat → Exm) (DI DO : Nat → List Int) (w : World) (hx : Exs w a n cap X DI DO) (hn2 : n ≤ 16) (hex : allEx c n X DI DO = true) :
    Calls Tryz.prog 19 #[c.val, .slice a n cap] w fun e w' => e = .returned (.int .u64 (headP c n DI DO N)) ∧ Below w.heap.size w w' := by
  have HOK : Hid (okL (headL c n DI DO N)) := headL_ok hc hs n DI DO N
  have HRS : Hid (∀ q, Calls Tryz.prog 7 #[c.val] q fun e w' => ∃ ga d1 gb d2, e = .returned (.agg #[.slice (some ⟨ga, 0, none⟩) N d1, .slice (some ⟨gb, 0, none⟩) N d2]) ∧ q.heap.size ≤ ga ∧ q.heap.size ≤ gb ∧ Lst w' (some ⟨ga, 0, none⟩) N d1 ((List.range N).map (startG c.seed)) ∧ Lst w' (some ⟨gb, 0, none⟩) N d2 ((List.range N).map zeroG) ∧ Below q.heap.size q w') := fun q => rstart_calls c hc hs N hN q
  have hNb := sizeN_bd hc
  have N4 : 4 ≤ N := by omega
  have N40 : N ≤ 40 := by omega
  have HEX : Hid (∀ j, j < n → (X j).n = (DI j).length ∧ (X j).m = (DO j).length ∧ 1 ≤ (X j).n ∧ (X j).n ≤ 4 ∧ (X j).m ≤ 4) := fun j hj => by
    have he := exB_is (allEx_is hex hj)
    obtain ⟨⟨i1, i2⟩, _, ⟨o1, o2⟩, _⟩ := cfgB_is hc
    obtain ⟨b, off, _, _, _, hin⟩ := hx.at hj
    exact ⟨hin.i.len.symm, hin.o.len.symm, by omega, by omega, by omega⟩
  obtain ⟨⟨i1, i2⟩, ⟨h1, h2⟩, ⟨o1, o2⟩, ⟨b1, b2⟩, ⟨s1, s2⟩, ⟨r1, r2⟩, ⟨d1, d2⟩, ⟨w1, w2⟩, ⟨k1, k2⟩, ⟨q1, q2⟩⟩ := cfgB_is hc
  have hal := low_alloc w (.cells c.cells 24)
  have hx0 := hx.below hal (Nat.le_refl _)
  obtain ⟨W, HW⟩ : ∃ q, Hid (q = w.alloc (.cells c.cells 24)) := ⟨_, rfl⟩
  have KB : Hid (∀ q, Below W.heap.size W q → BoxC q w.heap.size c) := fun q hq => by rw [HW.out] at hq; exact boxC hq (by simp)
  have HWS : Hid (w.heap.size + 1 = W.heap.size) := by show _ = _; rw [HW.out]; simp
  rw [← HW.out] at hal hx0
  have hHP : headP c n DI DO N = ofP 5 (headL c n DI DO N) := rfl
  rw [hHP]
  have own0 := OwnW.lit W [c.i, c.h, c.o, c.seed, c.batch, c.steps, c.rate, c.decay, c.how, c.keep, c.clip] (by simp)
  have hl0 := low_alloc W (.cells #[.int .u64 c.i, .int .u64 c.h, .int .u64 c.o, .int .u64 c.seed, .int .u64 c.batch, .int .u64 c.steps, .int .u64 c.rate, .int .u64 c.decay, .int .u64 c.how, .int .u64 c.keep, .int .u64 c.clip] 22)
  have HHL : Hid (headL c n DI DO N = ([c.i, c.h, c.o, c.seed, c.batch, c.steps, c.rate, c.decay, c.how, c.keep, c.clip] ++ (List.range n).map (exRoot DI DO)) ++ [rootP ((List.range N).map (startG c.seed)) ((List.range N).map zeroG) (N + N)]) := rfl
  obtain ⟨HL, hHLe⟩ : ∃ l, headL c n DI DO N = l := ⟨_, rfl⟩
  rw [hHLe] at HOK HHL ⊢
  clear hHLe hHP hx hex hc hNb hN
  obtain ⟨i, h, o, seed, batch, steps, crate, decay, how, keep, clip⟩ := c
  simp only [Cfg.val, Cfg.cells] at *
  obtain ⟨c0, c1, c2, c3, c4, c5, c6, c7, c8, c9, c10⟩ := KB.out _ (Below.refl _ _)
  dsimp only at c0 c1 c2 c3 c4 c5 c6 c7 c8 c9 c10
  go_enter Tryz.func19, Tryz.ntmps19
  go_wp2_with fail
  rw [← HW.out]
  clear HW
  go_loopw [5, 6] (fun v t wr => ∃ k : Nat, k ≤ n ∧ t = .int .i64 k ∧ OwnW W.heap.size wr v ([i, h, o, seed, batch, steps, crate, decay, how, keep, clip] ++ (List.range k).map (exRoot DI DO)) ∧ Below W.heap.size W wr) (fun _ t _ => n - (intOf t).toNat)
  case atStart => exact ⟨0, Nat.zero_le _, rfl, by rw [HWS.out]; simpa using own0, hl0⟩
  case round =>
    clear own0 hl0 c0 c1 c2 c3 c4 c5 c6 c7 c8 c9 c10
    obtain ⟨k, hk, rfl, hown, hbel⟩ := hrel
    have hsz := hbel.size
    have hll : ([i, h, o, seed, batch, steps, crate, decay, how, keep, clip] ++ (List.range k).map (exRoot DI DO)).length = 11 + k := by simp; omega
    by_cases hlt : k < n
    · obtain ⟨g1, g2, g3, g4, g5⟩ := HEX.out k hlt
      obtain ⟨xb, xo, rfl, e1, e2, hin⟩ := hx0.at hlt
      obtain ⟨x, hxk⟩ : ∃ x, X k = x := ⟨_, rfl⟩
      rw [hxk] at e1 e2 hin g1 g2 g3 g4 g5
      obtain ⟨xa, xn, xk, ya, yn, yk⟩ := x
      dsimp only at e1 e2 g1 g2 g3 g4 g5
      obtain ⟨lI, lO⟩ := hin
      dsimp only at lI lO
      obtain ⟨RT, HRT⟩ : ∃ t, Hid (exRoot DI DO k = t) := ⟨_, rfl⟩
      have HRE : Hid (rootP (DI k) (DO k) (xn + yn) = RT) := by show rootP (DI k) (DO k) (xn + yn) = RT; rw [← HRT.out, g1, g2]; rfl
      have HRo : Hid (∀ q va vc, Lst q va (xn + yn) vc (DI k ++ DO k) → Calls Tryz.prog 46 #[.slice va (xn + yn) vc] q fun e w' => e = .returned (.int .u64 RT) ∧ Below q.heap.size q w') := fun q va vc hq => by
        have h := rRoot_calls va (xn + yn) vc (DI k ++ DO k) q hq (by omega) (by omega)
        rw [show ofP 3 [((xn + yn : Nat) : Int), treeP (leavesP (DI k ++ DO k) (xn + yn))] = RT from HRE.out] at h
        exact h
      have KS : Hid (∀ q, Below W.heap.size W q → q.cell? ⟨xb, xo + k * 2, none⟩ = some (.slice xa xn xk) ∧ q.cell? ⟨xb, xo + k * 2 + 1, none⟩ = some (.slice ya yn yk)) := fun q hq => ⟨(hq.cell (p := ⟨xb, xo + k * 2, none⟩) (cell_lt e1)).trans e1, (hq.cell (p := ⟨xb, xo + k * 2 + 1, none⟩) (cell_lt e2)).trans e2⟩
      have hBd : Below wr.heap.size wr wr.drew := Below.drew (Below.refl _ _)
      have hBW : Below W.heap.size W wr.drew := Below.drew hbel
      have S0 := KS.out _ hBW
      have mI := (lI.below hbel (Nat.le_refl _)).drew
      have KO : Hid (∀ q, Below W.heap.size W q → Lst q ya yn yk (DO k)) := fun q hq => lO.below hq (Nat.le_refl _)
      have UP : Hid (∀ q, Below wr.heap.size wr q → Below W.heap.size W q) := fun q hq => hbel.trans (hq.mono hbel.size)
      have HOW : Hid (∀ q, Below wr.heap.size wr q → OwnW W.heap.size q _ ([i, h, o, seed, batch, steps, crate, decay, how, keep, clip] ++ (List.range k).map (exRoot DI DO))) := fun q hq => hown.below hq
      have k0 : (0 : Int) ≤ (k : Int) := by omega
      have kn : (k : Int) < (n : Int) := by omega
      have hl1 := lI.len
      have hl2 := lO.len
      clear lI lO e1 e2 hxk g1 g2
      go_wp2_with fail
      go_region_held3 (fun q => q.cell? ⟨xb, xo + k * 2, none⟩ = some (.slice xa xn xk) ∧ q.cell? ⟨xb, xo + k * 2 + 1, none⟩ = some (.slice ya yn yk)) (first | with_reducible exact S7 | with_reducible exact S6 | with_reducible exact S5 | with_reducible exact S4 | with_reducible exact S3 | with_reducible exact S0)
        (first | (refine step_append_any (by rfl) _ _ (by rfl) wr.heap.size _ [] (DI k) xa xn xk wr (by rfl) (by rfl) (by exact OwnI.nil _ _) (by exact mI) (by simp; omega) (by simp) (by exact hBd) ?_; intro v3 w3 hown3 hbel3; have S3 := KS.out _ (UP.out _ hbel3)) | (refine step_append_any (by rfl) _ _ (by rfl) wr.heap.size _ ([] ++ DI k) (DO k) ya yn yk wr (by rfl) (by rfl) (by exact hown3) (by exact KO.out _ (UP.out _ hbel3)) (by simp; omega) (by exact hbel3.size) (by exact hbel3) ?_; intro v4 w4 hown4 hbel4; have S4 := KS.out _ (UP.out _ hbel4); obtain ⟨va, vc, hv4, l4⟩ := hown4.lst' (n := xn + yn) (by simp; omega); subst hv4) | (go_at_call 46; refine (HRo.out _ va vc (by simpa using l4)).mono ?_; rintro e u5 ⟨rfl, hw5⟩; have T5 := hbel4.trans (hw5.mono hbel4.size); have S5 := KS.out _ (UP.out _ T5); have T6 := T5.alloc T5.size (.cells #[.int .u64 RT] 22); have S6 := KS.out _ (UP.out _ T6); have O6 := HOW.out _ T6; have B6 := UP.out _ T6) | (refine step_append_word (by rfl) _ _ (by rfl) W.heap.size _ ([i, h, o, seed, batch, steps, crate, decay, how, keep, clip] ++ (List.range k).map (exRoot DI DO)) RT u5.heap.size W (by rfl) (by rfl) (by exact O6) (by exact cell_new _ _ _) (by rw [hll]; omega) (by exact B6.size) (by exact B6) ?_; intro v7 w7 hown7 hbel7; have S7 := KS.out _ hbel7))
      all_goals
        go_wp2_with fail
        go_roundw
        case rel => exact ⟨k + 1, by omega, by go_num, hown7.congr (by rw [List.append_assoc, range_snocW (exRoot DI DO) k RT HRT.out]), hbel7⟩
        case measure => simp [intOf]; omega
    · obtain rfl : k = n := by omega
      obtain ⟨c0, c1, c2, c3, c4, c5, c6, c7, c8, c9, c10⟩ := KB.out _ hbel
      dsimp only at c0 c1 c2 c3 c4 c5 c6 c7 c8 c9 c10
      go_wp2_with fail
      refine (HRS.out _).mono ?_
      rintro e u1 ⟨ga, e1, gb, e2, rfl, hga, hgb, l1, l2, hu1⟩
      clear c0 c1 c2 c3 c4 c5 c6 c7 c8 c9 c10
      go_wp2_with fail
      refine (rstateRoot_calls ga 0 N e1 _ gb 0 N e2 _ _ l1 l2 (by omega) (by omega) (by omega)).mono ?_
      rintro e u2 ⟨rfl, hu2⟩
      have T2 := hu1.trans (hu2.mono hu1.size)
      have T3 := T2.alloc T2.size (.cells #[.int .u64 (rootP ((List.range N).map (startG seed)) ((List.range N).map zeroG) (N + N))] 22)
      have O3 := hown.below T3
      have B3 := hbel.trans (T3.mono hbel.size)
      go_wp2_with (at_builtin; refine wpList_append_word (by rfl) _ _ (by rfl) W.heap.size _ ([i, h, o, seed, batch, steps, crate, decay, how, keep, clip] ++ (List.range k).map (exRoot DI DO)) (rootP ((List.range N).map (startG seed)) ((List.range N).map zeroG) (N + N)) u2.heap.size W (by rfl) (by rfl) (by exact O3) (by exact cell_new _ _ _) (by rw [hll]; omega) (by exact B3.size) (by exact B3) ?_; intro v7 w7 hown7 hbel7; obtain ⟨va, vc, hv7, l7⟩ := hown7.lst' (n := 12 + k) (by simp; omega); subst hv7; rw [← HHL.out] at l7)
      refine (rof_calls 5 ⟨by omega, by omega⟩ _ _ _ _ _ l7 HOK.out (by omega)).mono ?_
      rintro e w8 ⟨rfl, hw8⟩
      go_wp2_with fail
      go_ret
      exact ⟨rfl, hal.trans ((hbel7.trans (hw8.mono hbel7.size)).mono hal.size)⟩
end Go.Proofs.YtnlcheebdkjpbabGreat.Fx

/- A list of states that the program itself makes by append: what is known of it, and what one append more leaves. -/
namespace Go.Proofs.YtnlcheebdkjpbabGreat.Fx
open Go.RowKit

def stCells (X : Nat → Exm) : Nat → List Value
  | 0 => []
  | n + 1 => stCells X n ++ [.slice (X n).a (X n).n (X n).k, .slice (X n).b (X n).m (X n).t]
theorem stCells_len (X : Nat → Exm) (n : Nat) : (stCells X n).length = n * 2 := by
  induction n with
  | zero => rfl
  | succ k ih => simp [stCells, ih]; omega
theorem stCells_congr {X Y : Nat → Exm} {n : Nat} (h : ∀ i, i < n → X i = Y i) : stCells X n = stCells Y n := by
  induction n with
  | zero => rfl
  | succ k ih => simp only [stCells]; rw [ih (fun i hi => h i (by omega)), h k (by omega)]
theorem stCells_at (X : Nat → Exm) {n i : Nat} (h : i < n) : (stCells X n)[i * 2]? = some (.slice (X i).a (X i).n (X i).k) ∧ (stCells X n)[i * 2 + 1]? = some (.slice (X i).b (X i).m (X i).t) := by
  induction n with
  | zero => omega
  | succ k ih =>
    have hl := stCells_len X k
    simp only [stCells]
    by_cases e : i = k
    · subst e
      rw [List.getElem?_append_right (by omega), List.getElem?_append_right (by omega), hl]
      simp
    · have g := ih (by omega)
      rw [List.getElem?_append_left (by omega), List.getElem?_append_left (by omega)]
      exact g
theorem stCells_one {X : Nat → Exm} {n : Nat} {v : Value} (h : v ∈ stCells X n) : v.oneCell' = true := by
  induction n with
  | zero => cases h
  | succ k ih =>
    simp only [stCells, List.mem_append, List.mem_cons, List.not_mem_nil, or_false] at h
    rcases h with h | h | h
    · exact ih h
    · rw [h]; rfl
    · rw [h]; rfl
/-- The slice value v, made from block number base on, owns the states X. -/
def OwnS (base : Nat) (w : World) (v : Value) (n : Nat) (X : Nat → Exm) : Prop := w.ownsRow base 28 2 v n (stCells X n)
theorem OwnS.nil (base : Nat) (w : World) (X : Nat → Exm) : OwnS base w (.slice none 0 0) 0 X := World.ownsRow_nil _ _ _ _
theorem OwnS.below {base : Nat} {w w' : World} {v : Value} {n : Nat} {X : Nat → Exm} (h : OwnS base w v n X) (hb : Below w.heap.size w w') : OwnS base w' v n X := by
  refine ⟨h.1, ?_⟩
  rcases h.2 with h0 | ⟨g, cap, cur, hv, hg, hh, r⟩
  · exact .inl h0
  · exact .inr ⟨g, cap, cur, hv, hg, by rw [hb.block g (Array.getElem?_eq_some_iff.1 hh).1]; exact hh, r⟩
theorem OwnS.exs {base : Nat} {w : World} {v : Value} {n : Nat} {X : Nat → Exm} {DI DO : Nat → List Int} (h : OwnS base w v n X) (hin : ∀ i, i < n → InEx w (X i) (DI i) (DO i)) : ∃ a c, v = .slice a n c ∧ Exs w a n c X DI DO := by
  obtain ⟨hl, h2⟩ := h
  rcases h2 with ⟨rfl, rfl⟩ | ⟨g, cap, cur, rfl, _, hh, hle, _, hsz, hcur⟩
  · exact ⟨none, 0, rfl, Nat.le_refl _, .inl rfl⟩
  · refine ⟨_, cap, rfl, hle, .inr ⟨g, 0, rfl, (Array.getElem?_eq_some_iff.1 hh).1, fun i hi => ?_⟩⟩
    have hc : ∀ j, j < n * 2 → w.cell? ⟨g, 0 + j, none⟩ = (stCells X n)[j]? := fun j hj => by
      rw [← hcur, List.getElem?_take_of_lt hj]
      simp [World.cell?, hh]
    have g2 := stCells_at X hi
    refine ⟨(hc (i * 2) (by omega)).trans g2.1, ?_, hin i hi⟩
    have := hc (i * 2 + 1) (by omega)
    rw [← Nat.add_assoc] at this
    exact this.trans g2.2

theorem infoS : (Tryz.prog.info? 28).map (fun i => (i.zero, i.size, i.bytes)) = some (some (.agg #[.slice none 0 0, .slice none 0 0]), 2, 48) := by kernel_rfl

section
variable {w' W0 : World} {ops : Array Oper} {o : Oper} {a : Act} {Q : Exit → Act → World → Prop}
theorem run_append_st (ty : TypeId) (base : Nat) (v : Value) (n : Nat) (X : Nat → Exm) (g : Nat) (hown : OwnS base w' v n X) (hc0 : w'.cell? ⟨g, 0, none⟩ = some (.slice (X n).a (X n).n (X n).k)) (hc1 : w'.cell? ⟨g, 1, none⟩ = some (.slice (X n).b (X n).m (X n).t)) (hn : (n + 1) * 48 ≤ 140737488355328) (hbase : base ≤ w'.heap.size) :
    ∃ v' w1, (Builtin.append_ #[34, 34] ty #[v, .slice (some ⟨g, 0, none⟩) 1 1]).run Tryz.prog w' = .ok v' w1 ∧ OwnS base w1 v' (n + 1) X ∧ w'.grownBy w1 v.ownBlock ∧ (v'.ownBlock = v.ownBlock ∨ v'.ownBlock = some w'.heap.size) := by
  obtain ⟨i0, hi, hz0, hz1, hz2⟩ := info_parts infoS
  obtain ⟨v', w1, hrun, h1, h2, _, h3⟩ := run_append_own_at (P := Tryz.prog) w' base 34 ty 28 i0 (.agg #[.slice none 0 0, .slice none 0 0]) 2 48 Tryz.underlying34 hi hz0 hz1 hz2 rfl (by decide) v n _ hown ⟨g, 0, none⟩ 1 1 [.slice (X n).a (X n).n (X n).k, .slice (X n).b (X n).m (X n).t] rfl
    (by intro j u hj
        match j, hj with
        | 0, hj => simp at hj; subst hj; simpa [Addr.add] using hc0
        | 1, hj => simp at hj; subst hj; simpa [Addr.add] using hc1)
    (by intro u hu
        simp at hu
        rcases hu with rfl | rfl <;> rfl) (by unfold maxLen; omega) hn hbase
  exact ⟨v', w1, hrun, h1, h2, h3⟩

theorem wpList_append_st {rest : List Oper} (hgd : o.guard = none) (s x : Operand) (ho : o.op = .call { callee := .builtin .append, args := #[s, x], argTypes := #[34, 34] })
    (base : Nat) (v : Value) (n : Nat) (X : Nat → Exm) (g : Nat) (hs : a.eval s = v) (hx : a.eval x = .slice (some ⟨g, 0, none⟩) 1 1) (hown : OwnS base w' v n X) (hc0 : w'.cell? ⟨g, 0, none⟩ = some (.slice (X n).a (X n).n (X n).k)) (hc1 : w'.cell? ⟨g, 1, none⟩ = some (.slice (X n).b (X n).m (X n).t)) (hn : (n + 1) * 48 ≤ 140737488355328) (hbase : base ≤ w'.heap.size)
    (h : ∀ v' w1, OwnS base w1 v' (n + 1) X → w'.grownBy w1 v.ownBlock → (v'.ownBlock = v.ownBlock ∨ v'.ownBlock = some w'.heap.size) → wpList Tryz.prog ops Q rest (a.put o.dst v') w1) : wpList Tryz.prog ops Q (o :: rest) a w' := by
  obtain ⟨v', w1, hrun, h1, h2, h3⟩ := run_append_st o.type base v n X g hown hc0 hc1 hn hbase
  refine wpList_plain hgd fun K hK => ?_
  unfold Oper.wp
  simp [execOp, ho, resolve, invoke, builtin, hs, hx, hrun, Result.andThen]
  exact hK _ _ (h v' w1 h1 h2 h3)
end

end Go.Proofs.YtnlcheebdkjpbabGreat.Fx
