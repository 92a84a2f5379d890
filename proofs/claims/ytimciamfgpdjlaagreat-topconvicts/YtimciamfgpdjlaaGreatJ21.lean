/- A list of records with one bent record in it: how it lies, and which record is the first that is not as it was made. -/
import Derived.Test.YtimciamfgpdjlaaGreatJ20
import Derived.Test.YtimciamfgpdjlaaGreatJ18
import Derived.Test.YtimciamfgpdjlaaGreatJ09
import Derived.Test.YtimciamfgpdjlaaGreatJ05
namespace Go.Proofs.YtimciamfgpdjlaaGreat.Fx
open Go.RowKit

/-- The list with that record put in the place of number K. -/
def bentR (R : Nat → Rcm) (K : Nat) (x : Rcm) (j : Nat) : Rcm := if j = K then x else R j
def bentD (D : Nat → List Int) (K : Nat) (xs : List Int) (j : Nat) : List Int := if j = K then xs else D j
theorem rcsR_put {w : World} {b t n K N : Nat} {R : Nat → Rcm} (h : w.rowIs b t n (rcsR R N)) (x : Rcm) (hK : K < N) :
    (((((w.setCell ⟨b, K * 5, none⟩ (.int .i64 x.s)).setCell ⟨b, K * 5 + 1, none⟩ (.slice x.a x.n x.k)).setCell ⟨b, K * 5 + 2, none⟩ (.int .i64 x.r)).setCell ⟨b, K * 5 + 3, none⟩ (.int .u64 x.root)).setCell ⟨b, K * 5 + 4, none⟩ (.int .u64 x.chain)).rowIs b t n (rcsR (bentR R K x) N) := by
  refine (((((h.set (K * 5) (.int .i64 x.s)).set (K * 5 + 1) (.slice x.a x.n x.k)).set (K * 5 + 2) (.int .i64 x.r)).set (K * 5 + 3) (.int .u64 x.root)).set (K * 5 + 4) (.int .u64 x.chain)).congr (fun i hi => ?_)
  unfold rcsR
  by_cases h0 : i < N * 5
  · rw [if_pos h0]
    by_cases e : i / 5 = K
    · have hb : bentR R K x (i / 5) = x := by unfold bentR; rw [if_pos e]
      rw [hb]
      rcases lt5 (Nat.mod_lt i (show 0 < 5 by omega)) with hm | hm | hm | hm | hm
      · rw [if_neg (by omega), if_neg (by omega), if_neg (by omega), if_neg (by omega), if_pos (by omega), hm, if_pos h0]; rfl
      · rw [if_neg (by omega), if_neg (by omega), if_neg (by omega), if_pos (by omega), hm, if_pos h0]; rfl
      · rw [if_neg (by omega), if_neg (by omega), if_pos (by omega), hm, if_pos h0]; rfl
      · rw [if_neg (by omega), if_pos (by omega), hm, if_pos h0]; rfl
      · rw [if_pos (by omega), hm, if_pos h0]; rfl
    · have hb : bentR R K x (i / 5) = R (i / 5) := by unfold bentR; rw [if_neg e]
      rw [hb, if_neg (by omega), if_neg (by omega), if_neg (by omega), if_neg (by omega), if_neg (by omega), if_pos h0]
  · rw [if_neg h0, if_neg (by omega), if_neg (by omega), if_neg (by omega), if_neg (by omega), if_neg (by omega), if_neg h0]
theorem recs_bent {w : World} {g base B N K : Nat} {R : Nat → Rcm} {DG : Nat → Nat → Int} {x : Rcm} {xs : List Int} (h : w.rowIs g 30 (N * 5) (rcsR (bentR R K x) N)) (hj : JrIn w g base B N R DG) (hl : Lst w x.a x.n x.k xs) : Recs w (some ⟨g, 0, none⟩) N N (bentR R K x) (bentD (fun k => (List.range B).map (DG k)) K xs) := by
  refine ⟨Nat.le_refl _, .inr ⟨g, 0, rfl, h.lt, fun i hi => ?_⟩⟩
  rw [Nat.zero_add]
  refine ⟨rcsR_cell h hi (Nat.le_refl _) (i := 0) (by omega), rcsR_cell h hi (Nat.le_refl _) (i := 1) (by omega), rcsR_cell h hi (Nat.le_refl _) (i := 2) (by omega), rcsR_cell h hi (Nat.le_refl _) (i := 3) (by omega), rcsR_cell h hi (Nat.le_refl _) (i := 4) (by omega), ?_⟩
  by_cases e : i = K
  · unfold bentR bentD
    rw [if_pos e, if_pos e]
    exact hl
  · obtain ⟨h1, h2, bg, h3, _, _, ha⟩ := hj i hi
    unfold bentR bentD
    rw [if_neg e, if_neg e, h1, h2, h3]
    exact ha.lst
theorem one_recs {w : World} (x : Rcm) (xs : List Int) (h : Lst w x.a x.n x.k xs) : Recs (w.alloc (.cells x.cells 30)) (some ⟨w.heap.size, 0, none⟩) 1 1 (fun _ => x) (fun _ => xs) := by
  obtain ⟨b0, b1, b2, b3, b4⟩ := fn5_box (fn5_alloc w (.int .i64 x.s) (.slice x.a x.n x.k) (.int .i64 x.r) (.int .u64 x.root) (.int .u64 x.chain) 30)
  refine ⟨Nat.le_refl _, .inr ⟨w.heap.size, 0, rfl, by simp, fun i hi => ?_⟩⟩
  obtain rfl : i = 0 := by omega
  exact ⟨b0, b1, b2, b3, b4, h.below (low_alloc w _) (Nat.le_refl _)⟩
theorem part_recs {w : World} {g N : Nat} {R : Nat → Rcm} {D : Nat → List Int} (h : Recs w (some ⟨g, 0, none⟩) N N R D) (K : Nat) (hK : K < N) : Recs w (some ⟨g, K * 5, none⟩) 1 (N - K) (fun _ => R K) (fun _ => D K) := by
  obtain ⟨b, off, e, hc⟩ := h.at (by omega)
  simp only [Option.some.injEq, Addr.mk.injEq, and_true] at e
  obtain ⟨rfl, rfl⟩ := e
  have hh := hc K hK
  rw [Nat.zero_add] at hh
  refine ⟨by omega, .inr ⟨g, K * 5, rfl, cell_lt hh.1, fun i hi => ?_⟩⟩
  obtain rfl : i = 0 := by omega
  rw [Nat.zero_mul, Nat.add_zero]
  exact hh
theorem one_same (x y : Rcm) (xs ys : List Int) : recsB 1 1 (fun _ => x) (fun _ => y) (fun _ => xs) (fun _ => ys) = recB x y xs ys := by
  unfold recsB
  rw [decide_eq_true rfl, Bool.true_and]
  simp [List.range_succ]
/-- Of a list with one bent record the first that is not as it was made is that one, or there is none. -/
theorem first_bent {c : Cfg} {n : Nat} {DI DO : Nat → List Int} {m : Nat} {R : Nat → Rcm} (h : JrN m R (mkRV c) (mkRO c n DI DO) (mkCH c n DI DO)) (x : Rcm) (xs : List Int) {K : Nat} (hK : K < m) :
    firstNo (auB c n DI DO (bentR R K x) (bentD (jrBatch c n) K xs)) m = if recB x (R K) xs (jrBatch c n K) = true then m else K := by
  have hne : ∀ j, j < m → j ≠ K → auB c n DI DO (bentR R K x) (bentD (jrBatch c n) K xs) j = true := fun j hj e => by
    have h1 := auB_own h hj
    unfold auB at h1 ⊢
    unfold bentR bentD
    rw [if_neg e, if_neg e]
    exact h1
  have heq : auB c n DI DO (bentR R K x) (bentD (jrBatch c n) K xs) K = recB x (R K) xs (jrBatch c n K) := by
    rw [auB_is h _ _ hK]
    unfold bentR bentD
    rw [if_pos rfl, if_pos rfl]
  by_cases hr : recB x (R K) xs (jrBatch c n K) = true
  · rw [if_pos hr]
    refine firstNo_eq _ m m (Nat.le_refl _) (fun j hj => ?_) (fun h => by omega)
    by_cases e : j = K
    · subst e; rw [heq]; exact hr
    · exact hne j hj e
  · rw [if_neg hr]
    refine firstNo_eq _ m K (by omega) (fun j hj => hne j (by omega) (by omega)) (fun _ => ?_)
    rw [heq]
    exact Bool.not_eq_true _ ▸ hr

end Go.Proofs.YtimciamfgpdjlaaGreat.Fx

/- A list of records that the program itself has cloned, and writes other records into; slices.Clone over records. -/
namespace Go.Proofs.YtimciamfgpdjlaaGreat.Fx
open Go.RowKit

/-- A block of the program's own whose first N records are Rb's. -/
def RowR (w : World) (gb cap N : Nat) (Rb : Nat → Rcm) : Prop := N ≤ cap ∧ ∃ F, w.rowIs gb 30 (cap * 5) F ∧ ∀ i, i < N * 5 → F i = recC (Rb (i / 5)) (i % 5)
theorem RowR.lt {w : World} {gb cap N : Nat} {Rb : Nat → Rcm} (h : RowR w gb cap N Rb) : gb < w.heap.size := by obtain ⟨_, F, hr, _⟩ := h; exact hr.lt
theorem RowR.frozen {w : World} {gb cap N : Nat} {Rb : Nat → Rcm} (h : RowR w gb cap N Rb) (i : Nat) : w.frozen? ⟨gb, i, none⟩ = false := by obtain ⟨_, F, hr, _⟩ := h; exact hr.frozen i
theorem RowR.cell {w : World} {gb cap N : Nat} {Rb : Nat → Rcm} (h : RowR w gb cap N Rb) {j t : Nat} (hj : j < N) (ht : t < 5) : w.cell? ⟨gb, j * 5 + t, none⟩ = some (recC (Rb j) t) := by
  obtain ⟨hc, F, hr, hf⟩ := h
  rw [hr.cell (by omega), hf _ (by omega), show (j * 5 + t) / 5 = j by omega, show (j * 5 + t) % 5 = t by omega]
theorem RowR.below {w w' : World} {gb cap N : Nat} {Rb : Nat → Rcm} (h : RowR w gb cap N Rb) (hb : Below w.heap.size w w') : RowR w' gb cap N Rb := by
  obtain ⟨hc, F, hr, hf⟩ := h
  exact ⟨hc, F, hr.of_block (hb.block _ hr.lt), hf⟩
theorem RowR.congr {w : World} {gb cap N : Nat} {R1 R2 : Nat → Rcm} (h : RowR w gb cap N R1) (he : ∀ j, j < N → R1 j = R2 j) : RowR w gb cap N R2 := by
  obtain ⟨hc, F, hr, hf⟩ := h
  exact ⟨hc, F, hr, fun i hi => by rw [hf i hi, he _ (by omega)]⟩
theorem RowR.put {w : World} {gb cap N K : Nat} {Rb : Nat → Rcm} (h : RowR w gb cap N Rb) (x : Rcm) (_hK : K < N) :
    RowR (((((w.setCell ⟨gb, K * 5, none⟩ (.int .i64 x.s)).setCell ⟨gb, K * 5 + 1, none⟩ (.slice x.a x.n x.k)).setCell ⟨gb, K * 5 + 2, none⟩ (.int .i64 x.r)).setCell ⟨gb, K * 5 + 3, none⟩ (.int .u64 x.root)).setCell ⟨gb, K * 5 + 4, none⟩ (.int .u64 x.chain)) gb cap N (bentR Rb K x) := by
  obtain ⟨hc, F, hr, hf⟩ := h
  refine ⟨hc, _, ((((hr.set (K * 5) (.int .i64 x.s)).set (K * 5 + 1) (.slice x.a x.n x.k)).set (K * 5 + 2) (.int .i64 x.r)).set (K * 5 + 3) (.int .u64 x.root)).set (K * 5 + 4) (.int .u64 x.chain), fun i hi => ?_⟩
  by_cases e : i / 5 = K
  · have hb : bentR Rb K x (i / 5) = x := by unfold bentR; rw [if_pos e]
    rw [hb]
    rcases lt5 (Nat.mod_lt i (show 0 < 5 by omega)) with hm | hm | hm | hm | hm
    · rw [if_neg (by omega), if_neg (by omega), if_neg (by omega), if_neg (by omega), if_pos (by omega), hm]; rfl
    · rw [if_neg (by omega), if_neg (by omega), if_neg (by omega), if_pos (by omega), hm]; rfl
    · rw [if_neg (by omega), if_neg (by omega), if_pos (by omega), hm]; rfl
    · rw [if_neg (by omega), if_pos (by omega), hm]; rfl
    · rw [if_pos (by omega), hm]; rfl
  · have hb : bentR Rb K x (i / 5) = Rb (i / 5) := by unfold bentR; rw [if_neg e]
    rw [hb, if_neg (by omega), if_neg (by omega), if_neg (by omega), if_neg (by omega), if_neg (by omega)]
    exact hf i hi
theorem RowR.recs {w : World} {gb cap N : Nat} {Rb : Nat → Rcm} {D : Nat → List Int} (h : RowR w gb cap N Rb) (hl : ∀ j, j < N → Lst w (Rb j).a (Rb j).n (Rb j).k (D j)) : Recs w (some ⟨gb, 0, none⟩) N cap Rb D := by
  refine ⟨h.1, .inr ⟨gb, 0, rfl, h.lt, fun i hi => ?_⟩⟩
  rw [Nat.zero_add]
  exact ⟨h.cell hi (t := 0) (by omega), h.cell hi (t := 1) (by omega), h.cell hi (t := 2) (by omega), h.cell hi (t := 3) (by omega), h.cell hi (t := 4) (by omega), hl i hi⟩

/-- Of the first k records those of L that are wanted stand in the places of R's. -/
def overR (R L : Nat → Rcm) (k j : Nat) : Rcm := if j < k ∧ (L j).s ≠ -1 then L j else R j
def overD (D DL : Nat → List Int) (L : Nat → Rcm) (k j : Nat) : List Int := if j < k ∧ (L j).s ≠ -1 then DL j else D j
theorem overR_zero (R L : Nat → Rcm) : overR R L 0 = R := by funext j; unfold overR; rw [if_neg (by omega)]
theorem overR_put {R L : Nat → Rcm} {k : Nat} (h : (L k).s ≠ -1) : bentR (overR R L k) k (L k) = overR R L (k + 1) := by
  funext j
  unfold bentR
  by_cases e : j = k
  · subst e; rw [if_pos rfl]; unfold overR; rw [if_pos ⟨by omega, h⟩]
  · rw [if_neg e]
    unfold overR
    by_cases hj : j < k ∧ (L j).s ≠ -1
    · rw [if_pos hj, if_pos ⟨by omega, hj.2⟩]
    · rw [if_neg hj, if_neg (fun h2 => hj ⟨by omega, h2.2⟩)]
theorem overR_skip {R L : Nat → Rcm} {k : Nat} (h : (L k).s = -1) : overR R L k = overR R L (k + 1) := by
  funext j
  unfold overR
  by_cases hj : j < k ∧ (L j).s ≠ -1
  · rw [if_pos hj, if_pos ⟨by omega, hj.2⟩]
  · rw [if_neg hj, if_neg (fun h2 => by
      by_cases e : j = k
      · subst e; exact h2.2 h
      · exact hj ⟨by omega, h2.2⟩)]
theorem over_lst {w : World} {R L : Nat → Rcm} {D DL : Nat → List Int} {k N : Nat} (h1 : ∀ j, j < N → Lst w (R j).a (R j).n (R j).k (D j)) (h2 : ∀ j, j < k → Lst w (L j).a (L j).n (L j).k (DL j)) : ∀ j, j < N → Lst w (overR R L k j).a (overR R L k j).n (overR R L k j).k (overD D DL L k j) := fun j hj => by
  unfold overR overD
  by_cases h : j < k ∧ (L j).s ≠ -1
  · rw [if_pos h, if_pos h]; exact h2 j h.1
  · rw [if_neg h, if_neg h]; exact h1 j hj

section
variable {w' W0 : World} {ops : Array Oper} {o : Oper} {a : Act} {Q : Exit → Act → World → Prop}
theorem OwnR.empty (w : World) (R : Nat → Rcm) : OwnR w.heap.size (w.alloc (.cells #[] 30)) (.slice (some ⟨w.heap.size, 0, none⟩) 0 0) 0 R :=
  ⟨rfl, .inr ⟨w.heap.size, 0, #[], rfl, Nat.le_refl _, Go.Deep.blk_alloc_new _ _, Nat.le_refl _, Nat.zero_le _, rfl, rfl⟩⟩
theorem rcCells_one (R : Nat → Rcm) : ∀ n, ∀ u ∈ rcCells R n, u.oneCell' = true
  | 0, u, h => by cases h
  | n + 1, u, h => by
    rw [rcCells, List.mem_append] at h
    rcases h with h | h
    · exact rcCells_one R n u h
    · simp at h
      rcases h with rfl | rfl | rfl | rfl | rfl <;> rfl
theorem rcCells_rec (R : Nat → Rcm) {N j : Nat} {u : Value} (h : (rcCells R N)[j]? = some u) : j < N * 5 ∧ u = recC (R (j / 5)) (j % 5) := by
  have hj : j < N * 5 := by
    have := (List.getElem?_eq_some_iff.1 h).1
    rw [rcCells_len] at this
    exact this
  obtain ⟨g0, g1, g2, g3, g4⟩ := rcCells_at R (i := j / 5) (n := N) (by omega)
  refine ⟨hj, ?_⟩
  rcases lt5 (Nat.mod_lt j (show 0 < 5 by omega)) with hm | hm | hm | hm | hm
  · rw [show j / 5 * 5 = j by omega, h] at g0; rw [hm]; injection g0
  · rw [show j / 5 * 5 + 1 = j by omega, h] at g1; rw [hm]; injection g1
  · rw [show j / 5 * 5 + 2 = j by omega, h] at g2; rw [hm]; injection g2
  · rw [show j / 5 * 5 + 3 = j by omega, h] at g3; rw [hm]; injection g3
  · rw [show j / 5 * 5 + 4 = j by omega, h] at g4; rw [hm]; injection g4
theorem OwnR.row {base : Nat} {w : World} {v : Value} {N : Nat} {R : Nat → Rcm} (h : OwnR base w v N R) (hv : v ≠ .slice none 0 0) : ∃ gb cap, v = .slice (some ⟨gb, 0, none⟩) N cap ∧ base ≤ gb ∧ RowR w gb cap N R ∧ cap ≤ maxLen := by
  obtain ⟨hl, h2⟩ := h
  rcases h2 with ⟨rfl, _⟩ | ⟨g, cap, cur, rfl, hg, hh, hle, hm, hsz, hcur⟩
  · exact absurd rfl hv
  · refine ⟨g, cap, rfl, hg, ⟨hle, fun i => cur.getD i default, ⟨cur, hh, hsz, fun i hi => ?_⟩, fun i hi => ?_⟩, hm⟩
    · simp [Array.getD, show i < cur.size by omega]
    · have e : (rcCells R N)[i]? = some (cur.getD i default) := by
        rw [← hcur, List.getElem?_take_of_lt hi]
        simp [Array.getD, show i < cur.size by omega]
      exact (rcCells_rec R e).2
theorem run_append_allR (ty : TypeId) (g c N : Nat) (R : Nat → Rcm) (w : World) (hr : w.rowIs g 30 (N * 5) (rcsR R N)) (hN : N ≤ 1000) :
    ∃ gb cap w1, (Builtin.append_ #[49, 49] ty #[.slice (some ⟨w.heap.size, 0, none⟩) 0 0, .slice (some ⟨g, 0, none⟩) N c]).run Tryz.prog (w.alloc (.cells #[] 30)) = .ok (.slice (some ⟨gb, 0, none⟩) N cap) w1 ∧ w.heap.size ≤ gb ∧ RowR w1 gb cap N R ∧ cap ≤ maxLen ∧ Below w.heap.size w w1 := by
  obtain ⟨i0, hi, hz0, hz1, hz2⟩ := info_parts infoR
  have hal := low_alloc w (.cells #[] 30)
  have hr2 := hr.of_block (hal.block _ hr.lt)
  obtain ⟨v', w1, hrun, h1, h2, h3, _⟩ := run_append_own_at (P := Tryz.prog) (w.alloc (.cells #[] 30)) w.heap.size 49 ty 30 i0 (.agg #[.int .i64 0, .slice none 0 0, .int .i64 0, .int .u64 0, .int .u64 0]) 5 56 Tryz.underlying49 hi hz0 hz1 hz2 rfl (by decide) (.slice (some ⟨w.heap.size, 0, none⟩) 0 0) 0 _ (OwnR.empty w R) ⟨g, 0, none⟩ N c (rcCells R N) (rcCells_len R N)
    (by intro j u hj
        obtain ⟨hj2, rfl⟩ := rcCells_rec R hj
        have hc := rcsR_cell hr2 (j := j / 5) (K := N) (by omega) (Nat.le_refl _) (i := j % 5) (by omega)
        rw [show j / 5 * 5 + j % 5 = j by omega] at hc
        rw [Go.WideShapes.add_plain, Nat.zero_add]
        exact hc)
    (rcCells_one R N) (by unfold maxLen; omega) (by omega) (by simp)
  have hne : v' ≠ .slice none 0 0 := fun e => by
    have := (h3.1 e).1
    cases this
  rw [show rcCells R 0 ++ rcCells R N = rcCells R N from rfl, Nat.zero_add] at h1
  obtain ⟨gb, cap, rfl, hb, hrow, hm⟩ := OwnR.row (R := R) h1 hne
  refine ⟨gb, cap, w1, hrun, hb, hrow, hm, hal.grown h2 (by simp) ?_⟩
  intro k hk
  simp [Value.ownBlock] at hk
  omega
theorem wpList_append_allR {rest : List Oper} (hgd : o.guard = none) (s x : Operand) (ho : o.op = .call { callee := .builtin .append, args := #[s, x], argTypes := #[49, 49] })
    (g c N : Nat) (R : Nat → Rcm) (w : World) (hs : a.eval s = .slice (some ⟨w.heap.size, 0, none⟩) 0 0) (hx : a.eval x = .slice (some ⟨g, 0, none⟩) N c) (hr : w.rowIs g 30 (N * 5) (rcsR R N)) (hN : N ≤ 1000)
    (h : ∀ gb cap w1, w.heap.size ≤ gb → RowR w1 gb cap N R → cap ≤ maxLen → Below w.heap.size w w1 → wpList Tryz.prog ops Q rest (a.put o.dst (.slice (some ⟨gb, 0, none⟩) N cap)) w1) : wpList Tryz.prog ops Q (o :: rest) a (w.alloc (.cells #[] 30)) := by
  obtain ⟨gb, cap, w1, hrun, h1, h2, h3, h4⟩ := run_append_allR o.type g c N R w hr hN
  refine wpList_plain hgd fun K hK => ?_
  unfold Oper.wp
  simp [execOp, ho, resolve, invoke, builtin, hs, hx, hrun, Result.andThen]
  exact hK _ _ (h gb cap w1 h1 h2 h3 h4)
end

set_option maxRecDepth 100000 in
theorem cloneR_calls (g c N : Nat) (R : Nat → Rcm) (w : World) (hr : w.rowIs g 30 (N * 5) (rcsR R N)) (hN : N ≤ 1000) :
    Calls Tryz.prog 41 #[.slice (some ⟨g, 0, none⟩) N c] w fun e w' => ∃ gb cap, e = .returned (.slice (some ⟨gb, 0, none⟩) N cap) ∧ w.heap.size ≤ gb ∧ RowR w' gb cap N R ∧ cap ≤ maxLen ∧ Below w.heap.size w w' := by
  have q22 : ∀ (w : World) (a : Option Addr) (n c n' c' : Nat), (binOp .eql 49 (.slice a n c) (.slice none n' c')).run Tryz.prog w = .ok (.bool a.isNone) w := fun w a n c n' c' => Lib.run_eql_slice_nil w _ _ a n c n' c' Tryz.underlying49
  go_enter Tryz.func41, Tryz.ntmps41
  go_wp2_with (at_builtin; refine wpList_append_allR (by rfl) _ _ (by rfl) g c N R w (by rfl) (by rfl) hr hN ?_; intro gb cap w1 h1 h2 h3 h4)
  go_ret
  exact ⟨gb, cap, rfl, h1, h2, h3, h4⟩
end Go.Proofs.YtimciamfgpdjlaaGreat.Fx

/- A small course in plain numbers: its records' chains are not the same. -/
namespace Go.Proofs.YtimciamfgpdjlaaGreat.Fx
open Go.RowKit

def smallC : Cfg := ⟨1, 1, 1, 1, 1, 3, 6554, 0, 0, 0, 0⟩
def smallI (_ : Nat) : List Int := [65536]
def smallO (_ : Nat) : List Int := [131072]
set_option maxRecDepth 1000000 in
theorem small_chain : jrChain smallC 1 smallI smallO 4 1 ≠ jrChain smallC 1 smallI smallO 4 2 := by decide +kernel
theorem small_cfg : cfgB smallC = true := by decide +kernel
theorem small_batch : jrBatch smallC 1 0 = [0] := by decide +kernel
end Go.Proofs.YtimciamfgpdjlaaGreat.Fx
