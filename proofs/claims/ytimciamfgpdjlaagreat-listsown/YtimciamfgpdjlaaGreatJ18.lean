/- What TrainSays holds in memory on its way: the document's start, next state, record and states; no function of the program is spoken of. -/
import Derived.Test.YtimciamfgpdjlaaGreatJ10
import Derived.Test.YtimciamfgpdjlaaGreatJ17
import Derived.Test.YtimciamfgpdjlaaGreatJ13
import Derived.Test.YtimciamfgpdjlaaGreatJ00
import Derived.Test.YtimciamfgpdjlaaGreatJ08
import Derived.Test.YtimciamfgpdjlaaGreatJ14
import Derived.Test.YtimciamfgpdjlaaGreatJ03
namespace Go.Proofs.YtimciamfgpdjlaaGreat.Fx
open Go.RowKit

/-- A list does not lie in block b. -/
def FarB (a : Option Addr) (b : Nat) : Prop := ∀ bg o, a = some ⟨bg, o, none⟩ → bg ≠ b
theorem FarB.none (b : Nat) : FarB Option.none b := fun _ _ h => by cases h
theorem FarB.some {g b : Nat} (h : g ≠ b) {o : Nat} : FarB (Option.some ⟨g, o, Option.none⟩) b := fun bg o' e => by
  simp only [Option.some.injEq, Addr.mk.injEq, and_true] at e
  omega
theorem Lst.offB {w : World} {a : Option Addr} {n c : Nat} {xs : List Int} (h : Lst w a n c xs) {b : Nat} (hf : FarB a b) (i : Nat) (v : Value) : Lst (w.setCell ⟨b, i, none⟩ v) a n c xs := by
  rcases h.2.2 with h0 | ⟨g, off, rfl, hs, hc⟩
  · exact ⟨h.1, h.2.1, .inl h0⟩
  · exact h.setFar (a := ⟨b, i, none⟩) (hf g off rfl) v
theorem InEx.offB {w : World} {x : Exm} {I O : List Int} (h : InEx w x I O) {b : Nat} (h1 : FarB x.a b) (h2 : FarB x.b b) (i : Nat) (v : Value) : InEx (w.setCell ⟨b, i, none⟩ v) x I O := ⟨h.i.offB h1 i v, h.o.offB h2 i v⟩
theorem InEx.offS {w : World} {x : Exm} {I O : List Int} (h : InEx w x I O) {p : Addr} {u : Option Addr} {y z : Nat} (hp : w.cell? p = some (.slice u y z)) (v : Value) : InEx (w.setCell p v) x I O := ⟨h.i.setOff hp v, h.o.setOff hp v⟩

/-- Behind the start: it lies there; the next state and the record are empty yet. -/
structure Cut1M (w1 : World) (SW SM : List Int) (x0 : Exm) (q : World) : Prop where
  r0 : q.rowIs w1.heap.size 28 2 (fn2 (.slice x0.a x0.n x0.k) (.slice x0.b x0.m x0.t))
  l0 : InEx q x0 SW SM
  fa : FarB x0.a (w1.heap.size + 1 + 1)
  fb : FarB x0.b (w1.heap.size + 1 + 1)
  r1 : q.rowIs (w1.heap.size + 1) 28 2 (fn2 (.slice none 0 0) (.slice none 0 0))
  r2 : q.rowIs (w1.heap.size + 1 + 1) 30 5 (fn5 (.int .i64 0) (.slice none 0 0) (.int .i64 0) (.int .u64 0) (.int .u64 0))
  bel : Below w1.heap.size w1 q
theorem Cut1M.below {w1 : World} {SW SM : List Int} {x0 : Exm} {q q2 : World} (h : Cut1M w1 SW SM x0 q) (hb : Below q.heap.size q q2) : Cut1M w1 SW SM x0 q2 :=
  ⟨h.r0.of_block (hb.block _ h.r0.lt), h.l0.below hb (Nat.le_refl _), h.fa, h.fb, h.r1.of_block (hb.block _ h.r1.lt), h.r2.of_block (hb.block _ h.r2.lt), h.bel.trans (hb.mono h.bel.size)⟩

/-- Behind the switch: the start, the next state and the record lie there. -/
structure SwM (w1 : World) (SW SM NW NM NB : List Int) (NR : Int) (x0 x1 : Exm) (v0 : Value) (a3 : Option Addr) (m3 d3 : Nat) (v3 v4 : Value) (q : World) : Prop where
  r0 : q.rowIs w1.heap.size 28 2 (fn2 (.slice x0.a x0.n x0.k) (.slice x0.b x0.m x0.t))
  l0 : InEx q x0 SW SM
  r1 : q.rowIs (w1.heap.size + 1) 28 2 (fn2 (.slice x1.a x1.n x1.k) (.slice x1.b x1.m x1.t))
  l1 : InEx q x1 NW NM
  r2 : q.rowIs (w1.heap.size + 1 + 1) 30 5 (fn5 v0 (.slice a3 m3 d3) (.int .i64 NR) v3 v4)
  l2 : Lst q a3 m3 d3 NB
  bel : Below w1.heap.size w1 q
theorem SwM.below {w1 : World} {SW SM NW NM NB : List Int} {NR : Int} {x0 x1 : Exm} {v0 : Value} {a3 : Option Addr} {m3 d3 : Nat} {v3 v4 : Value} {q q2 : World} (h : SwM w1 SW SM NW NM NB NR x0 x1 v0 a3 m3 d3 v3 v4 q) (hb : Below q.heap.size q q2) : SwM w1 SW SM NW NM NB NR x0 x1 v0 a3 m3 d3 v3 v4 q2 :=
  ⟨h.r0.of_block (hb.block _ h.r0.lt), h.l0.below hb (Nat.le_refl _), h.r1.of_block (hb.block _ h.r1.lt), h.l1.below hb (Nat.le_refl _), h.r2.of_block (hb.block _ h.r2.lt), h.l2.below hb (Nat.le_refl _), h.bel.trans (hb.mono h.bel.size)⟩
def zeroX : Exm := ⟨none, 0, 0, none, 0, 0⟩
theorem Cut1M.sw {w1 : World} {SW SM : List Int} {x0 : Exm} {q : World} (h : Cut1M w1 SW SM x0 q) : SwM w1 SW SM [] [] [] 0 x0 zeroX (.int .i64 0) none 0 0 (.int .u64 0) (.int .u64 0) q :=
  ⟨h.r0, h.l0, h.r1, ⟨Lst.nil _ _ _, Lst.nil _ _ _⟩, h.r2, Lst.nil _ _ _, h.bel⟩
theorem Cut1M.put {w1 : World} {SW SM NW NM NB : List Int} {x0 x1 : Exm} {u : World} {a3 : Option Addr} {m3 d3 : Nat} (h : Cut1M w1 SW SM x0 u) (l1 : InEx u x1 NW NM) (l3 : Lst u a3 m3 d3 NB) (h1 : FarB x1.a (w1.heap.size + 1 + 1)) (h2 : FarB x1.b (w1.heap.size + 1 + 1)) (h3 : FarB a3 (w1.heap.size + 1 + 1)) (v0 v3 v4 : Value) (NR : Int) :
    SwM w1 SW SM NW NM NB NR x0 x1 v0 a3 m3 d3 v3 v4 (((((((u.setCell ⟨w1.heap.size + 1, 0, none⟩ (.slice x1.a x1.n x1.k)).setCell ⟨w1.heap.size + 1, 1, none⟩ (.slice x1.b x1.m x1.t)).setCell ⟨w1.heap.size + 1 + 1, 0, none⟩ v0).setCell ⟨w1.heap.size + 1 + 1, 1, none⟩ (.slice a3 m3 d3)).setCell ⟨w1.heap.size + 1 + 1, 2, none⟩ (.int .i64 NR)).setCell ⟨w1.heap.size + 1 + 1, 3, none⟩ v3).setCell ⟨w1.heap.size + 1 + 1, 4, none⟩ v4) := by
  have c0 := (fn2_cells h.r1).1
  have c1 : (u.setCell ⟨w1.heap.size + 1, 0, none⟩ (.slice x1.a x1.n x1.k)).cell? ⟨w1.heap.size + 1, 1, none⟩ = some (.slice none 0 0) := (h.r1.set 0 _).cell (i := 1) (by omega)
  have n0 : ∀ k, w1.heap.size ≠ (⟨w1.heap.size + 1, k, none⟩ : Addr).block := fun k => by show w1.heap.size ≠ w1.heap.size + 1; omega
  have n1 : ∀ k, w1.heap.size ≠ (⟨w1.heap.size + 1 + 1, k, none⟩ : Addr).block := fun k => by show w1.heap.size ≠ w1.heap.size + 1 + 1; omega
  have n2 : ∀ k, w1.heap.size + 1 ≠ (⟨w1.heap.size + 1 + 1, k, none⟩ : Addr).block := fun k => by show w1.heap.size + 1 ≠ w1.heap.size + 1 + 1; omega
  have n3 : ∀ k, w1.heap.size + 1 + 1 ≠ (⟨w1.heap.size + 1, k, none⟩ : Addr).block := fun k => by show w1.heap.size + 1 + 1 ≠ w1.heap.size + 1; omega
  refine ⟨?_, ?_, ?_, ?_, ?_, ?_, ?_⟩
  · exact ((((((h.r0.setOther (n0 0) _).setOther (n0 1) _).setOther (n1 0) _).setOther (n1 1) _).setOther (n1 2) _).setOther (n1 3) _).setOther (n1 4) _
  · exact ((((((h.l0.offS c0 _).offS c1 _).offB h.fa h.fb 0 _).offB h.fa h.fb 1 _).offB h.fa h.fb 2 _).offB h.fa h.fb 3 _).offB h.fa h.fb 4 _
  · exact (((((fn2_set h.r1 (.slice x1.a x1.n x1.k) (.slice x1.b x1.m x1.t)).setOther (n2 0) _).setOther (n2 1) _).setOther (n2 2) _).setOther (n2 3) _).setOther (n2 4) _
  · exact ((((((l1.offS c0 _).offS c1 _).offB h1 h2 0 _).offB h1 h2 1 _).offB h1 h2 2 _).offB h1 h2 3 _).offB h1 h2 4 _
  · exact fn5_set ((h.r2.setOther (n3 0) _).setOther (n3 1) _) v0 (.slice a3 m3 d3) (.int .i64 NR) v3 v4
  · exact ((((((l3.setOff c0 _).setOff c1 _).offB h3 0 _).offB h3 1 _).offB h3 2 _).offB h3 3 _).offB h3 4 _
  · exact below_set5 (below_set2 h.bel (show w1.heap.size ≤ w1.heap.size + 1 by omega) _ _) (show w1.heap.size ≤ w1.heap.size + 1 + 1 by omega) _ _ _ _ _
theorem Cut1M.start (w1 : World) : Cut1M w1 [] [] zeroX (((w1.alloc (.cells #[.slice none 0 0, .slice none 0 0] 28)).alloc (.cells #[.slice none 0 0, .slice none 0 0] 28)).alloc (.cells #[.int .i64 0, .slice none 0 0, .int .i64 0, .int .u64 0, .int .u64 0] 30)) := by
  refine ⟨((fn2_alloc w1 _ _ _).alloc _).alloc _, ⟨Lst.nil _ _ _, Lst.nil _ _ _⟩, FarB.none _, FarB.none _, ?_, ?_, (((Below.refl w1.heap.size w1).alloc (Nat.le_refl _) _).alloc (by simp) _).alloc (by simp; omega) _⟩
  · have h := (fn2_alloc (w1.alloc (.cells #[.slice none 0 0, .slice none 0 0] 28)) (.slice none 0 0) (.slice none 0 0) 28).alloc (.cells #[.int .i64 0, .slice none 0 0, .int .i64 0, .int .u64 0, .int .u64 0] 30)
    simpa using h
  · have h := fn5_alloc ((w1.alloc (.cells #[.slice none 0 0, .slice none 0 0] 28)).alloc (.cells #[.slice none 0 0, .slice none 0 0] 28)) (.int .i64 0) (.slice none 0 0) (.int .i64 0) (.int .u64 0) (.int .u64 0) 30
    simpa using h
theorem Cut1M.first {w1 u : World} (h : Cut1M w1 [] [] zeroX u) {SW SM : List Int} {x0 : Exm} (l : InEx u x0 SW SM) (h1 : FarB x0.a (w1.heap.size + 1 + 1)) (h2 : FarB x0.b (w1.heap.size + 1 + 1)) : Cut1M w1 SW SM x0 ((u.setCell ⟨w1.heap.size, 0, none⟩ (.slice x0.a x0.n x0.k)).setCell ⟨w1.heap.size, 1, none⟩ (.slice x0.b x0.m x0.t)) := by
  have c0 : u.cell? ⟨w1.heap.size, 0, none⟩ = some (.slice none 0 0) := (fn2_cells h.r0).1
  have c1 : (u.setCell ⟨w1.heap.size, 0, none⟩ (.slice x0.a x0.n x0.k)).cell? ⟨w1.heap.size, 1, none⟩ = some (.slice none 0 0) := (h.r0.set 0 _).cell (i := 1) (by omega)
  refine ⟨fn2_set h.r0 _ _, (l.offS c0 _).offS c1 _, h1, h2, ?_, ?_, (h.bel.setCell (Nat.le_refl _) _).setCell (Nat.le_refl _) _⟩
  · exact (h.r1.setOther (a := ⟨w1.heap.size, 0, none⟩) (show w1.heap.size + 1 ≠ w1.heap.size by omega) _).setOther (a := ⟨w1.heap.size, 1, none⟩) (show w1.heap.size + 1 ≠ w1.heap.size by omega) _
  · exact (h.r2.setOther (a := ⟨w1.heap.size, 0, none⟩) (show w1.heap.size + 1 + 1 ≠ w1.heap.size by omega) _).setOther (a := ⟨w1.heap.size, 1, none⟩) (show w1.heap.size + 1 + 1 ≠ w1.heap.size by omega) _
end Go.Proofs.YtimciamfgpdjlaaGreat.Fx

/- How records lie in memory; no function of the program is spoken of. -/
namespace Go.Proofs.YtimciamfgpdjlaaGreat.Fx
open Go.RowKit

/-- A record's value: its numbers, and where its batch lies. -/
structure Rcm where
  s : Int
  a : Option Addr
  n : Nat
  k : Nat
  r : Int
  root : Int
  chain : Int
def Rcm.cells (x : Rcm) : Array Value := #[.int .i64 x.s, .slice x.a x.n x.k, .int .i64 x.r, .int .u64 x.root, .int .u64 x.chain]
def Rcm.val (x : Rcm) : Value := .agg x.cells
/-- A slice of records: their values, and their batches' numbers. -/
def Recs (w : World) (a : Option Addr) (n cap : Nat) (R : Nat → Rcm) (D : Nat → List Int) : Prop :=
  n ≤ cap ∧ (n = 0 ∨ ∃ b off, a = some ⟨b, off, none⟩ ∧ b < w.heap.size ∧ ∀ i, i < n → w.cell? ⟨b, off + i * 5, none⟩ = some (.int .i64 (R i).s) ∧ w.cell? ⟨b, off + i * 5 + 1, none⟩ = some (.slice (R i).a (R i).n (R i).k) ∧ w.cell? ⟨b, off + i * 5 + 2, none⟩ = some (.int .i64 (R i).r) ∧ w.cell? ⟨b, off + i * 5 + 3, none⟩ = some (.int .u64 (R i).root) ∧ w.cell? ⟨b, off + i * 5 + 4, none⟩ = some (.int .u64 (R i).chain) ∧ Lst w (R i).a (R i).n (R i).k (D i))
theorem Recs.below {w w' : World} {a : Option Addr} {n c : Nat} {R : Nat → Rcm} {D : Nat → List Int} {B : Nat} (h : Recs w a n c R D) (hb : Below B w w') (hB : w.heap.size ≤ B) : Recs w' a n c R D := by
  refine ⟨h.1, ?_⟩
  rcases h.2 with h0 | ⟨b, off, e, hs, hc⟩
  · exact .inl h0
  · have k : ∀ o, w'.cell? ⟨b, o, none⟩ = w.cell? ⟨b, o, none⟩ := fun o => hb.cell (p := ⟨b, o, none⟩) (Nat.lt_of_lt_of_le hs hB)
    exact .inr ⟨b, off, e, Nat.lt_of_lt_of_le hs hb.size, fun i hi =>
      ⟨(k _).trans (hc i hi).1, (k _).trans (hc i hi).2.1, (k _).trans (hc i hi).2.2.1, (k _).trans (hc i hi).2.2.2.1, (k _).trans (hc i hi).2.2.2.2.1, (hc i hi).2.2.2.2.2.below hb hB⟩⟩
theorem Recs.nil (w : World) (a : Option Addr) (c : Nat) (R : Nat → Rcm) (D : Nat → List Int) : Recs w a 0 c R D := ⟨Nat.zero_le _, .inl rfl⟩
theorem Recs.at {w : World} {a : Option Addr} {n c : Nat} {R : Nat → Rcm} {D : Nat → List Int} (h : Recs w a n c R D) (hn : 0 < n) : ∃ b off, a = some ⟨b, off, none⟩ ∧ ∀ i, i < n → w.cell? ⟨b, off + i * 5, none⟩ = some (.int .i64 (R i).s) ∧ w.cell? ⟨b, off + i * 5 + 1, none⟩ = some (.slice (R i).a (R i).n (R i).k) ∧ w.cell? ⟨b, off + i * 5 + 2, none⟩ = some (.int .i64 (R i).r) ∧ w.cell? ⟨b, off + i * 5 + 3, none⟩ = some (.int .u64 (R i).root) ∧ w.cell? ⟨b, off + i * 5 + 4, none⟩ = some (.int .u64 (R i).chain) ∧ Lst w (R i).a (R i).n (R i).k (D i) := by
  rcases h.2 with h0 | ⟨b, off, e, _, hc⟩
  · omega
  · exact ⟨b, off, e, hc⟩
end Go.Proofs.YtimciamfgpdjlaaGreat.Fx

/- A journal in plain numbers: roots, heads, chains, records; and how records lie in memory; no function of the program is spoken of. -/
namespace Go.Proofs.YtimciamfgpdjlaaGreat.Fx
open Go.RowKit

/-- What a head is a digest of. -/
def headL (c : Cfg) (n : Nat) (DI DO : Nat → List Int) (N : Nat) : List Int :=
  [c.i, c.h, c.o, c.seed, c.batch, c.steps, c.rate, c.decay, c.how, c.keep, c.clip] ++ (List.range n).map (fun j => rootP (DI j) (DO j) ((DI j).length + (DO j).length)) ++ [rootP ((List.range N).map (startG c.seed)) ((List.range N).map zeroG) (N + N)]
def headP (c : Cfg) (n : Nat) (DI DO : Nat → List Int) (N : Nat) : Int := ofP 5 (headL c n DI DO N)
def chainL (before step rate root : Int) (bs : List Int) : List Int := [before, step, rate, root, (bs.length : Int)] ++ bs
def chainP (before step rate root : Int) (bs : List Int) : Int := ofP 6 (chainL before step rate root bs)
/-- May a record be chained? -/
def nonB (bs : List Int) : Bool := bs.all fun x => decide (0 ≤ x)
def chB (step rate : Int) (len : Nat) (bs : List Int) : Bool := decide (0 ≤ step) && decide (0 ≤ rate) && decide (len ≤ 8) && nonB bs
theorem nonB_true {xs : List Int} (h : ∀ j, j < xs.length → 0 ≤ xs.getD j 0) : nonB xs = true := by
  unfold nonB
  rw [List.all_eq_true]
  intro x hx
  obtain ⟨i, hi, rfl⟩ := List.getElem_of_mem hx
  have := h i hi
  rw [List.getD_eq_getElem?_getD, List.getElem?_eq_getElem hi, Option.getD_some] at this
  exact decide_eq_true this
theorem nonB_get {xs : List Int} (h : nonB xs = true) (j : Nat) : 0 ≤ xs.getD j 0 := by
  unfold nonB at h
  rw [List.all_eq_true] at h
  rcases Nat.lt_or_ge j xs.length with hj | hj
  · have := of_decide_eq_true (h (xs[j]) (List.getElem_mem hj))
    rw [List.getD_eq_getElem?_getD, List.getElem?_eq_getElem hj, Option.getD_some]
    exact this
  · rw [List.getD_eq_getElem?_getD, List.getElem?_eq_none hj]
    exact Int.le_refl _
theorem nonB_false {xs : List Int} {k : Nat} (h : ¬ 0 ≤ xs.getD k 0) : nonB xs = false := by
  cases e : nonB xs with
  | false => rfl
  | true => exact absurd (nonB_get e k) h
/-- Whether the first k are not below nothing. -/
def nonTo (xs : List Int) (k : Nat) (b0 ok : Bool) : Prop := ok = true ↔ (b0 = true ∧ ∀ j, j < k → 0 ≤ xs.getD j 0)
theorem nonTo_zero (xs : List Int) (b0 : Bool) : nonTo xs 0 b0 b0 := ⟨fun h => ⟨h, fun j hj => by omega⟩, fun h => h.1⟩
theorem nonTo_step {xs : List Int} {k : Nat} {b0 ok : Bool} {x : Int} (h : nonTo xs k b0 ok) (hx : xs.getD k 0 = x) : nonTo xs (k + 1) b0 (ok && decide (0 ≤ x)) := by
  unfold nonTo
  rw [Bool.and_eq_true, decide_eq_true_eq]
  refine ⟨fun g => ⟨(h.1 g.1).1, fun j hj => ?_⟩, fun g => ⟨h.2 ⟨g.1, fun j hj => g.2 j (by omega)⟩, by rw [← hx]; exact g.2 k (by omega)⟩⟩
  by_cases e : j = k
  · subst e; rw [hx]; exact g.2
  · exact (h.1 g.1).2 j (by omega)
theorem nonTo_end {xs : List Int} {k : Nat} {b0 ok : Bool} (h : nonTo xs k b0 ok) (hk : xs.length = k) : ok = (b0 && nonB xs) := by
  cases ok with
  | true =>
    obtain ⟨g1, g2⟩ := h.1 rfl
    rw [g1, nonB_true (fun j hj => g2 j (by omega))]; rfl
  | false =>
    cases e1 : b0 with
    | false => rfl
    | true =>
      cases e2 : nonB xs with
      | false => rfl
      | true => exact absurd (h.2 ⟨e1, fun j _ => nonB_get e2 j⟩) (by decide)

/-- The records of a course. -/
def jrRoot (c : Cfg) (n : Nat) (DI DO : Nat → List Int) (N k : Nat) : Int := rootP (stateP c n DI DO N (k + 1)).1 (stateP c n DI DO N (k + 1)).2 (N + N)
def jrBatch (c : Cfg) (n k : Nat) : List Int := batchP c.seed c.batch.toNat n (k * c.batch.toNat)
def jrChain (c : Cfg) (n : Nat) (DI DO : Nat → List Int) (N : Nat) : Nat → Int
  | 0 => headP c n DI DO N
  | k + 1 => chainP (jrChain c n DI DO N k) (k : Int) (rateV c k) (jrRoot c n DI DO N k) (jrBatch c n k)

theorem okL_app {xs ys : List Int} (hx : okL xs) (hy : okL ys) : okL (xs ++ ys) := by
  intro i hi
  rw [List.length_append] at hi
  rcases Nat.lt_or_ge i xs.length with h | h
  · rw [List.getD_eq_getElem?_getD, List.getElem?_append_left h, ← List.getD_eq_getElem?_getD]; exact hx i h
  · rw [List.getD_eq_getElem?_getD, List.getElem?_append_right h, ← List.getD_eq_getElem?_getD]; exact hy _ (by omega)
theorem okL_non {xs : List Int} (h : nonB xs = true) (h2 : ∀ j, xs.getD j 0 ≤ 9223372036854775807) : okL xs := fun i _ => ⟨nonB_get h i, by have := h2 i; omega⟩
end Go.Proofs.YtimciamfgpdjlaaGreat.Fx

/- What package journal's functions answer, in plain numbers, for every input; no function of the program is spoken of. -/
namespace Go.Proofs.YtimciamfgpdjlaaGreat.Fx
open Go.RowKit

def rootE (n1 n2 : Nat) : Int := if n1 + n2 = 0 then 1 else if 200 < n1 + n2 then 2 else 0
def rootV (n1 : Nat) (ws : List Int) (n2 : Nat) (ms : List Int) : Int := if rootE n1 n2 = 0 then rootP ws ms (n1 + n2) else 0
def headV (c : Cfg) (n : Nat) (X : Nat → Exm) (DI DO : Nat → List Int) : Int := if courseI c n X DI DO = 0 then headP c n DI DO (sizeN c).toNat else 0
def chE (step rate : Int) (len : Nat) (bs : List Int) : Int := if chB step rate len bs = true then 0 else 5
def chV (before step rate root : Int) (len : Nat) (bs : List Int) : Int := if chB step rate len bs = true then chainP before step rate root bs else 0
def mkE (c : Cfg) (n : Nat) (X : Nat → Exm) (DI DO : Nat → List Int) (m : Int) : Int := if courseI c n X DI DO = 0 then (if inB m 0 c.steps = true then 0 else 1) else courseI c n X DI DO
def mkN (c : Cfg) (n : Nat) (X : Nat → Exm) (DI DO : Nat → List Int) (m : Int) : Nat := if mkE c n X DI DO m = 0 then m.toNat else 0
def mkRV (c : Cfg) (j : Nat) : Int := rateV c j
def mkRO (c : Cfg) (n : Nat) (DI DO : Nat → List Int) : Nat → Int := jrRoot c n DI DO (sizeN c).toNat
def mkCH (c : Cfg) (n : Nat) (DI DO : Nat → List Int) : Nat → Int := jrChain c n DI DO (sizeN c).toNat
theorem course_is {c : Cfg} {n : Nat} {X : Nat → Exm} {DI DO : Nat → List Int} (h : courseI c n X DI DO = 0) : cfgB c = true ∧ 1 ≤ n ∧ n ≤ 16 ∧ allEx c n X DI DO = true := by
  unfold courseI at h
  by_cases h1 : cfgB c = true
  · rw [if_pos h1] at h
    by_cases h2 : n = 0
    · rw [if_pos h2] at h; cases h
    · rw [if_neg h2] at h
      by_cases h3 : 16 < n
      · rw [if_pos h3] at h; cases h
      · rw [if_neg h3] at h
        by_cases h4 : allEx c n X DI DO = true
        · exact ⟨h1, by omega, by omega, h4⟩
        · rw [if_neg h4] at h; cases h
  · rw [if_neg h1] at h; cases h
/-- A batch's numbers, one by one. -/
def jrG (c : Cfg) (n k : Nat) : Nat → Int := batchG c.seed n (k * c.batch.toNat)
theorem jrBatch_is (c : Cfg) (n : Nat) : jrBatch c n = fun k => (List.range c.batch.toNat).map (jrG c n k) := rfl
def noRec : Nat → Rcm := fun _ => ⟨0, none, 0, 0, 0, 0, 0⟩
/-- What the first records say. -/
def JrN (k : Nat) (R : Nat → Rcm) (RV RO CH : Nat → Int) : Prop := ∀ j, j < k → (R j).s = (j : Int) ∧ (R j).r = RV j ∧ (R j).root = RO j ∧ (R j).chain = CH (j + 1)
theorem JrN.push {k : Nat} {R R2 : Nat → Rcm} {RV RO CH : Nat → Int} (h : JrN k R RV RO CH) (hR : ∀ j, j < k → R2 j = R j) (h1 : (R2 k).s = (k : Int)) (h2 : (R2 k).r = RV k) (h3 : (R2 k).root = RO k) (h4 : (R2 k).chain = CH (k + 1)) : JrN (k + 1) R2 RV RO CH := fun j hj => by
  by_cases e : j = k
  · subst e; exact ⟨h1, h2, h3, h4⟩
  · rw [hR j (by omega)]; exact h j (by omega)
end Go.Proofs.YtimciamfgpdjlaaGreat.Fx

/- The cells of a list of records, written one after another; lists of numbers lie apart from them. No function of the program is spoken of. -/
namespace Go.Proofs.YtimciamfgpdjlaaGreat.Fx
open Go.RowKit

/-- The cells of a record. -/
def recC (x : Rcm) (t : Nat) : Value := fn5 (.int .i64 x.s) (.slice x.a x.n x.k) (.int .i64 x.r) (.int .u64 x.root) (.int .u64 x.chain) t
def zeroRc : Rcm := ⟨0, none, 0, 0, 0, 0, 0⟩
/-- The cells of a list of records, of which the first K are R's. -/
def rcsR (R : Nat → Rcm) (K i : Nat) : Value := if i < K * 5 then recC (R (i / 5)) (i % 5) else recC zeroRc (i % 5)
theorem made5 (w : World) (z0 z1 z2 z3 z4 : Value) (m : Nat) (t : TypeId) : (w.alloc (.cells (madeCells #[z0, z1, z2, z3, z4] m) t)).rowIs w.heap.size t m (fun i => fn5 z0 z1 z2 z3 z4 (i % 5)) := by
  refine ⟨_, Go.Deep.blk_alloc_new _ _, size_madeCells _ _, fun i hi => ?_⟩
  rcases lt5 (Nat.mod_lt i (show 0 < 5 by omega)) with h | h | h | h | h <;> simp [madeCells, hi, h, fn5]
theorem rcsR_zero {w : World} {b t n : Nat} {R : Nat → Rcm} (h : w.rowIs b t n (fun i => fn5 (.int .i64 0) (.slice none 0 0) (.int .i64 0) (.int .u64 0) (.int .u64 0) (i % 5))) : w.rowIs b t n (rcsR R 0) := h.congr (fun i _ => by unfold rcsR; rw [if_neg (by omega)]; rfl)
theorem rcsR_cell {w : World} {b t n K j : Nat} {R : Nat → Rcm} (h : w.rowIs b t n (rcsR R K)) (hj : j < K) (hn : K * 5 ≤ n) {i : Nat} (hi : i < 5) : w.cell? ⟨b, j * 5 + i, none⟩ = some (recC (R j) i) := by
  rw [h.cell (by omega)]
  unfold rcsR
  rw [if_pos (by omega), show (j * 5 + i) / 5 = j by omega, show (j * 5 + i) % 5 = i by omega]
theorem rcsR_new {w : World} {b t n K j : Nat} {R : Nat → Rcm} (h : w.rowIs b t n (rcsR R K)) (hj : K ≤ j) (hn : j * 5 + 5 ≤ n) {i : Nat} (hi : i < 5) : w.cell? ⟨b, j * 5 + i, none⟩ = some (recC zeroRc i) := by
  rw [h.cell (by omega)]
  unfold rcsR
  rw [if_neg (by omega), show (j * 5 + i) % 5 = i by omega]
theorem rcsR_push {w : World} {b t n K : Nat} {R R2 : Nat → Rcm} (h : w.rowIs b t n (rcsR R K)) (x : Rcm) (h2 : R2 K = x) (h3 : ∀ j, j < K → R2 j = R j) :
    (((((w.setCell ⟨b, K * 5, none⟩ (.int .i64 x.s)).setCell ⟨b, K * 5 + 1, none⟩ (.slice x.a x.n x.k)).setCell ⟨b, K * 5 + 2, none⟩ (.int .i64 x.r)).setCell ⟨b, K * 5 + 3, none⟩ (.int .u64 x.root)).setCell ⟨b, K * 5 + 4, none⟩ (.int .u64 x.chain)).rowIs b t n (rcsR R2 (K + 1)) := by
  refine (((((h.set _ _).set _ _).set _ _).set _ _).set _ _).congr (fun i hi => ?_)
  have e5 : i = K * 5 + 4 ∨ i = K * 5 + 3 ∨ i = K * 5 + 2 ∨ i = K * 5 + 1 ∨ i = K * 5 ∨ i < K * 5 ∨ K * 5 + 5 ≤ i := by omega
  unfold rcsR
  rcases e5 with e | e | e | e | e | e | e
  · rw [if_pos e, if_pos (by omega), show i / 5 = K by omega, show i % 5 = 4 by omega, h2]; rfl
  · rw [if_neg (by omega), if_pos e, if_pos (by omega), show i / 5 = K by omega, show i % 5 = 3 by omega, h2]; rfl
  · rw [if_neg (by omega), if_neg (by omega), if_pos e, if_pos (by omega), show i / 5 = K by omega, show i % 5 = 2 by omega, h2]; rfl
  · rw [if_neg (by omega), if_neg (by omega), if_neg (by omega), if_pos e, if_pos (by omega), show i / 5 = K by omega, show i % 5 = 1 by omega, h2]; rfl
  · rw [if_neg (by omega), if_neg (by omega), if_neg (by omega), if_neg (by omega), if_pos e, if_pos (by omega), show i / 5 = K by omega, show i % 5 = 0 by omega, h2]; rfl
  · rw [if_neg (by omega), if_neg (by omega), if_neg (by omega), if_neg (by omega), if_neg (by omega), if_pos e, if_pos (by omega), h3 (i / 5) (by omega)]
  · rw [if_neg (by omega), if_neg (by omega), if_neg (by omega), if_neg (by omega), if_neg (by omega), if_neg (by omega), if_neg (by omega)]
theorem recC_int {x : Rcm} {t : Nat} {y : Int} (h : recC x t = .int .i64 y) (ht : t < 5) : t = 0 ∨ t = 2 := by
  rcases lt5 ht with rfl | rfl | rfl | rfl | rfl
  · exact .inl rfl
  · cases h
  · exact .inr rfl
  · cases h
  · cases h
theorem row_lt {w : World} {b t n i : Nat} {f : Nat → Value} {v : Value} (h : w.rowIs b t n f) (hc : w.cell? ⟨b, i, none⟩ = some v) : i < n ∧ f i = v := by
  by_cases hi : i < n
  · rw [h.cell hi] at hc
    exact ⟨hi, by simpa using hc⟩
  · obtain ⟨cs, hb, hsz, _⟩ := h
    simp only [World.cell?, hb] at hc
    rw [Array.getElem?_eq_none (by omega)] at hc
    cases hc
/-- A list of two numbers and more does not lie among cells of which no two in a row are numbers. -/
theorem Lst.apart {w : World} {b t n len c : Nat} {f : Nat → Value} {a : Option Addr} {xs : List Int} (hl : Lst w a len c xs) (h2 : 2 ≤ len) (h : w.rowIs b t n f) (hf : ∀ i x y, f i = .int .i64 x → f (i + 1) = .int .i64 y → False) : FarB a b := fun bg o e hb => by
  obtain ⟨b', off, e', hs, hc⟩ := hl.at (by omega)
  rw [e] at e'
  simp only [Option.some.injEq, Addr.mk.injEq, and_true] at e'
  obtain ⟨rfl, rfl⟩ := e'
  subst hb
  exact hf _ _ _ (row_lt h (hc 0 (by omega))).2 (row_lt h (hc 1 (by omega))).2
theorem recC_apart (x : Rcm) (i : Nat) (hi : i + 1 < 5) (u v : Int) (h1 : recC x i = .int .i64 u) (h2 : recC x (i + 1) = .int .i64 v) : False := by
  have := recC_int h1 (by omega)
  have := recC_int h2 hi
  omega
theorem rcsR_apart (R : Nat → Rcm) (K i : Nat) (u v : Int) (h1 : rcsR R K i = .int .i64 u) (h2 : rcsR R K (i + 1) = .int .i64 v) : False := by
  have k : ∀ j w, rcsR R K j = .int .i64 w → j % 5 = 0 ∨ j % 5 = 2 := fun j w h => by
    unfold rcsR at h
    by_cases e : j < K * 5
    · rw [if_pos e] at h; exact recC_int h (Nat.mod_lt _ (by omega))
    · rw [if_neg e] at h; exact recC_int h (Nat.mod_lt _ (by omega))
  have := k _ _ h1
  have := k _ _ h2
  omega
theorem Lst.apart5 {w : World} {b t len c : Nat} {x : Rcm} {a : Option Addr} {xs : List Int} (hl : Lst w a len c xs) (h2 : 2 ≤ len) (h : w.rowIs b t 5 (recC x)) : FarB a b := fun bg o e hb => by
  obtain ⟨b', off, e', hs, hc⟩ := hl.at (by omega)
  rw [e] at e'
  simp only [Option.some.injEq, Addr.mk.injEq, and_true] at e'
  obtain ⟨rfl, rfl⟩ := e'
  subst hb
  have k1 := row_lt h (hc 0 (by omega))
  have k2 := row_lt h (hc 1 (by omega))
  exact recC_apart x o k2.1 _ _ k1.2 k2.2

theorem infoR : (Tryz.prog.info? 30).map (fun i => (i.zero, i.size, i.bytes)) = some (some (.agg #[.int .i64 0, .slice none 0 0, .int .i64 0, .int .u64 0, .int .u64 0]), 5, 56) := by kernel_rfl
theorem Arr.offS {w : World} {b c n : Nat} {f : Nat → Int} (h : Arr w b c n f) {p : Addr} {x : Option Addr} {y z : Nat} (hp : w.cell? p = some (.slice x y z)) (u : Value) : Arr (w.setCell p u) b c n f := by
  by_cases e : b = p.block
  · obtain ⟨hc, F, hr, hf⟩ := h
    obtain ⟨pb, po, ps⟩ := p
    have hs : ps = none := by simpa using World.cell?_spot hp
    subst hs
    dsimp only at e
    subst e
    refine ⟨hc, _, hr.set po u, fun i hi => ?_⟩
    have hne : i ≠ po := fun e2 => by
      subst e2
      rw [hr.cell (by omega), hf i hi] at hp
      cases hp
    simp only [if_neg hne]
    exact hf i hi
  · exact h.setOther e u

/-- The batches of records that were made: each lies in a block of its own, apart from the records. -/
def JrIn (w : World) (OB base B k : Nat) (R : Nat → Rcm) (DG : Nat → Nat → Int) : Prop := ∀ j, j < k → (R j).n = B ∧ (R j).k = B ∧ ∃ bg, (R j).a = some ⟨bg, 0, none⟩ ∧ base ≤ bg ∧ bg ≠ OB ∧ Arr w bg B B (DG j)
theorem JrIn.below {w w' : World} {OB base B k : Nat} {R : Nat → Rcm} {DG : Nat → Nat → Int} (h : JrIn w OB base B k R DG) (hb : Below w.heap.size w w') : JrIn w' OB base B k R DG := fun j hj => by
  obtain ⟨h1, h2, bg, h3, h4, h5, hl⟩ := h j hj
  exact ⟨h1, h2, bg, h3, h4, h5, hl.below hb⟩
theorem JrIn.setS {w : World} {OB base B k : Nat} {R : Nat → Rcm} {DG : Nat → Nat → Int} (h : JrIn w OB base B k R DG) {p : Addr} {x : Option Addr} {y z : Nat} (hp : w.cell? p = some (.slice x y z)) (u : Value) : JrIn (w.setCell p u) OB base B k R DG := fun j hj => by
  obtain ⟨h1, h2, bg, h3, h4, h5, hl⟩ := h j hj
  exact ⟨h1, h2, bg, h3, h4, h5, hl.offS hp u⟩
theorem JrIn.setO {w : World} {OB base B k : Nat} {R : Nat → Rcm} {DG : Nat → Nat → Int} (h : JrIn w OB base B k R DG) (i : Nat) (u : Value) : JrIn (w.setCell ⟨OB, i, none⟩ u) OB base B k R DG := fun j hj => by
  obtain ⟨h1, h2, bg, h3, h4, h5, hl⟩ := h j hj
  exact ⟨h1, h2, bg, h3, h4, h5, hl.setOther (a := ⟨OB, i, none⟩) h5 u⟩
/-- None of them lies in that block. -/
def JrNo (k b : Nat) (R : Nat → Rcm) : Prop := ∀ j, j < k → FarB (R j).a b
theorem JrIn.no {w : World} {OB base B k : Nat} {R : Nat → Rcm} {DG : Nat → Nat → Int} (h : JrIn w OB base B k R DG) {b : Nat} (hb : w.heap.size ≤ b) : JrNo k b R := fun j hj => by
  obtain ⟨h1, h2, bg, h3, h4, h5, hl⟩ := h j hj
  have := hl.lt
  rw [h3]
  exact FarB.some (by omega)
theorem JrIn.setN {w : World} {OB base B k : Nat} {R : Nat → Rcm} {DG : Nat → Nat → Int} (h : JrIn w OB base B k R DG) {b : Nat} (hb : JrNo k b R) (i : Nat) (u : Value) : JrIn (w.setCell ⟨b, i, none⟩ u) OB base B k R DG := fun j hj => by
  obtain ⟨h1, h2, bg, h3, h4, h5, hl⟩ := h j hj
  have := hb j hj
  rw [h3] at this
  exact ⟨h1, h2, bg, h3, h4, h5, hl.setOther (a := ⟨b, i, none⟩) (this bg 0 rfl) u⟩
theorem JrIn.push {w : World} {OB base B k : Nat} {R R2 : Nat → Rcm} {DG : Nat → Nat → Int} (h : JrIn w OB base B k R DG) (hR : ∀ j, j < k → R2 j = R j) {s r root chain : Int} {bg : Nat} (h2 : R2 k = ⟨s, some ⟨bg, 0, none⟩, B, B, r, root, chain⟩) (h4 : base ≤ bg) (h5 : bg ≠ OB) (hl : Arr w bg B B (DG k)) : JrIn w OB base B (k + 1) R2 DG := fun j hj => by
  by_cases e : j = k
  · subst e; rw [h2]; exact ⟨rfl, rfl, bg, rfl, h4, h5, hl⟩
  · rw [hR j (by omega)]; exact h j (by omega)
end Go.Proofs.YtimciamfgpdjlaaGreat.Fx

/- What coachref's Size, StateFits and SameState return. -/
namespace Go.Proofs.YtimciamfgpdjlaaGreat.Fx
open Go.RowKit

theorem rsizeI_calls (i h o : Int) (w : World) (i1 : 1 ≤ i) (i2 : i ≤ 4) (h1 : 1 ≤ h) (h2 : h ≤ 4) (o1 : 1 ≤ o) (o2 : o ≤ 4) :
    Calls Tryz.prog 110 #[.int .i64 i, .int .i64 h, .int .i64 o] w fun e w' => e = .returned (.int .i64 (h * i + h + o * h + o)) ∧ w' = w := by
  have s1 : h * (i + 1) = h * i + h := by rw [Int.mul_add, Int.mul_one]
  have s2 : o * (h + 1) = o * h + o := by rw [Int.mul_add, Int.mul_one]
  have a1 := Int.mul_le_mul_of_nonneg_right (c := i) h2 (by omega)
  have a2 := Int.mul_le_mul_of_nonneg_right (c := i) h1 (by omega)
  have b1 := Int.mul_le_mul_of_nonneg_right (c := h) o2 (by omega)
  have b2 := Int.mul_le_mul_of_nonneg_right (c := h) o1 (by omega)
  have c1 : 0 ≤ h * i := by omega
  have c2 : h * i ≤ 16 := by omega
  have c3 : 0 ≤ o * h := by omega
  have c4 : o * h ≤ 16 := by omega
  clear a1 a2 b1 b2
  go_enter Tryz.func110, Tryz.ntmps110
  go_wp2
  go_ret
  exact ⟨ret_int (by omega), rfl⟩

theorem fit_two {c : Cfg} {n1 n2 : Nat} {ws ms : List Int} {S : Int} {p q r s : Bool} (hS : sizeN c = S) (hp : decide ((n1 : Int) = S) = p) (hq : decide ((n2 : Int) = S) = q) (hr : rightB ws = r) (hs : rightB ms = s) : (fitB c n1 ws && fitB c n2 ms) = (p && q && r && s) := by
  unfold fitB
  rw [hS, hp, hq, hr, hs]
  cases p <;> cases q <;> cases r <;> cases s <;> rfl

set_option maxHeartbeats 1600000 in
theorem rstfits_calls (c : Cfg) (hc : cfgB c = true) (a1 : Option Addr) (n1 k1 : Nat) (a2 : Option Addr) (n2 k2 : Nat) (ws ms : List Int) (w : World) (l1 : Lst w a1 n1 k1 ws) (l2 : Lst w a2 n2 k2 ms) :
    Calls Tryz.prog 55 #[c.val, .agg #[.slice a1 n1 k1, .slice a2 n2 k2]] w fun e w' => e = .returned (.bool (fitB c n1 ws && fitB c n2 ms)) ∧ Below w.heap.size w w' := by
  have hal := ((Below.refl w.heap.size w).alloc (Nat.le_refl _) (.cells c.cells 24)).alloc (by simp) (.cells #[.slice a1 n1 k1, .slice a2 n2 k2] 28)
  have l1 := l1.below hal (Nat.le_refl _)
  have l2 := l2.below hal (Nat.le_refl _)
  obtain ⟨⟨i1, i2⟩, ⟨h1, h2⟩, ⟨o1, o2⟩, _⟩ := cfgB_is hc
  have hz := sizeN_bd hc
  have RS : ∀ q, Calls Tryz.prog 110 #[.int .i64 c.i, .int .i64 c.h, .int .i64 c.o] q fun e w' => e = .returned (.int .i64 (sizeN c)) ∧ w' = q := fun q => rsizeI_calls c.i c.h c.o q i1 i2 h1 h2 o1 o2
  have FT := @fit_two c n1 n2 ws ms
  generalize (fitB c n1 ws && fitB c n2 ms) = F at *
  generalize sizeN c = S at *
  have HRS : Hid (∀ q, Calls Tryz.prog 110 #[.int .i64 c.i, .int .i64 c.h, .int .i64 c.o] q fun e w' => e = .returned (.int .i64 S) ∧ w' = q) := RS
  clear RS i1 i2 h1 h2 o1 o2 hc
  by_cases e1 : (n1 : Int) = S
  · have b1 : ((n1 : Int) == S) = true := by simpa using e1
    by_cases e2 : (n2 : Int) = S
    · have b2 : ((n2 : Int) == S) = true := by simpa using e2
      cases e3 : rightB ws with
      | true =>
        have hF := FT rfl (decide_eq_true e1) (decide_eq_true e2) e3 rfl
        rw [show (true && true && true && rightB ms) = rightB ms from by cases rightB ms <;> rfl] at hF
        subst hF
        have h1000 : n1 ≤ 1000 := by omega
        have h2000 : n2 ≤ 1000 := by omega
        have HE : Hid (rightB ws = true) := e3
        clear e1 e2 e3 FT
        obtain ⟨i, h, o, seed, batch, steps, rate, decay, how, keep, clip⟩ := c
        simp only [Cfg.val, Cfg.cells] at *
        go_enter Tryz.func55, Tryz.ntmps55
        go_wp2_with (go_at_call 110; refine (HRS.out _).mono ?_; rintro e w' ⟨rfl, hw'⟩; replace hw' := hw'.symm; subst hw')
        refine (rright_calls _ _ _ ws _ l1 (by omega)).mono ?_
        rintro e w1 ⟨rfl, kk, hw'⟩
        subst hw'
        rw [HE.out]
        go_wp2_with fail
        refine (rright_calls _ _ _ ms _ (l2.drewN _) (by omega)).mono ?_
        rintro e w1 ⟨rfl, kk2, hw'⟩
        subst hw'
        go_wp2
        go_ret
        exact ⟨rfl, below_drewN hal _⟩
      | false =>
        have hF := FT rfl (decide_eq_true e1) (decide_eq_true e2) e3 rfl
        rw [show (true && true && false && rightB ms) = false from by cases rightB ms <;> rfl] at hF
        subst hF
        have h1000 : n1 ≤ 1000 := by omega
        have HE : Hid (rightB ws = false) := e3
        clear e1 e2 e3 FT
        obtain ⟨i, h, o, seed, batch, steps, rate, decay, how, keep, clip⟩ := c
        simp only [Cfg.val, Cfg.cells] at *
        go_enter Tryz.func55, Tryz.ntmps55
        go_wp2_with (go_at_call 110; refine (HRS.out _).mono ?_; rintro e w' ⟨rfl, hw'⟩; replace hw' := hw'.symm; subst hw')
        refine (rright_calls _ _ _ ws _ l1 (by omega)).mono ?_
        rintro e w1 ⟨rfl, kk, hw'⟩
        subst hw'
        rw [HE.out]
        go_wp2
        go_ret
        exact ⟨rfl, below_drewN hal _⟩
    · have b2 : ((n2 : Int) == S) = false := by simpa using e2
      have hF := FT rfl (decide_eq_true e1) (decide_eq_false e2) rfl rfl
      rw [show (true && false && rightB ws && rightB ms) = false from by cases rightB ws <;> cases rightB ms <;> rfl] at hF
      subst hF
      clear e1 e2 FT
      obtain ⟨i, h, o, seed, batch, steps, rate, decay, how, keep, clip⟩ := c
      simp only [Cfg.val, Cfg.cells] at *
      go_enter Tryz.func55, Tryz.ntmps55
      go_wp2_with (go_at_call 110; refine (HRS.out _).mono ?_; rintro e w' ⟨rfl, hw'⟩; replace hw' := hw'.symm; subst hw')
      go_ret
      exact ⟨rfl, hal⟩
  · have b1 : ((n1 : Int) == S) = false := by simpa using e1
    have hF := FT rfl (decide_eq_false e1) rfl rfl rfl
    rw [show (false && decide ((n2 : Int) = S) && rightB ws && rightB ms) = false from rfl] at hF
    subst hF
    clear e1 FT
    obtain ⟨i, h, o, seed, batch, steps, rate, decay, how, keep, clip⟩ := c
    simp only [Cfg.val, Cfg.cells] at *
    go_enter Tryz.func55, Tryz.ntmps55
    go_wp2_with (go_at_call 110; refine (HRS.out _).mono ?_; rintro e w' ⟨rfl, hw'⟩; replace hw' := hw'.symm; subst hw')
    go_ret
    exact ⟨rfl, hal⟩

set_option maxHeartbeats 800000 in
theorem rsameS_calls (a1 : Option Addr) (n1 k1 : Nat) (a2 : Option Addr) (n2 k2 : Nat) (b1 : Option Addr) (m1 d1 : Nat) (b2 : Option Addr) (m2 d2 : Nat) (XS YS : List Int) (w : World) (l1 : Lst w a1 n1 k1 XS) (l2 : Lst w a2 n2 k2 YS) (l3 : Lst w b1 m1 d1 XS) (l4 : Lst w b2 m2 d2 YS) (h1 : n1 ≤ 200) (h2 : n2 ≤ 200) :
    Calls Tryz.prog 13 #[.agg #[.slice a1 n1 k1, .slice a2 n2 k2], .agg #[.slice b1 m1 d1, .slice b2 m2 d2]] w fun e w' => e = .returned (.bool true) ∧ Below w.heap.size w w' := by
  have hal := ((Below.refl w.heap.size w).alloc (Nat.le_refl _) (.cells #[.slice a1 n1 k1, .slice a2 n2 k2] 28)).alloc (by simp) (.cells #[.slice b1 m1 d1, .slice b2 m2 d2] 28)
  have l1 := l1.below hal (Nat.le_refl _)
  have l2 := l2.below hal (Nat.le_refl _)
  have l3 := l3.below hal (Nat.le_refl _)
  have l4 := l4.below hal (Nat.le_refl _)
  go_enter Tryz.func13, Tryz.ntmps13
  go_wp2_with fail
  refine (eq_calls _ _ _ _ _ _ XS XS _ l1 l3 (by omega)).mono ?_
  rintro e w1 ⟨rfl, k5, hw5⟩
  subst hw5
  rw [decide_eq_true (Eq.refl XS)]
  go_wp2_with fail
  refine (eq_calls _ _ _ _ _ _ YS YS _ (l2.drewN _) (l4.drewN _) (by omega)).mono ?_
  rintro e w1 ⟨rfl, k6, hw6⟩
  subst hw6
  rw [decide_eq_true (Eq.refl YS)]
  go_wp2
  go_ret
  exact ⟨rfl, below_drewN hal _⟩

end Go.Proofs.YtimciamfgpdjlaaGreat.Fx

/- What coachkeep.spoil does to a list of integers that lies in a block of its own; what coachref.SameState returns of any two states. -/
namespace Go.Proofs.YtimciamfgpdjlaaGreat.Fx
open Go.RowKit

/-- Only that block was written. -/
structure OnlyB (g : Nat) (w w' : World) : Prop where
  size : w'.heap.size = w.heap.size
  blk : ∀ b, b ≠ g → w'.heap[b]? = w.heap[b]?
  bel : ∀ B W, B ≤ g → Below B W w → Below B W w'
theorem OnlyB.refl (g : Nat) (w : World) : OnlyB g w w := ⟨rfl, fun _ _ => rfl, fun _ _ _ h => h⟩
theorem OnlyB.set {g : Nat} {w q : World} (h : OnlyB g w q) (i : Nat) (v : Value) : OnlyB g w (q.setCell ⟨g, i, none⟩ v) :=
  ⟨by rw [World.size_setCell]; exact h.size, fun b hb => (Go.Deep.blk_setCell_other q ⟨g, i, none⟩ v b hb).trans (h.blk b hb), fun B W hB hw => (h.bel B W hB hw).setCell hB v⟩
theorem OnlyB.row {g : Nat} {w q : World} (h : OnlyB g w q) {b t n : Nat} {f : Nat → Value} (hr : w.rowIs b t n f) (hb : b ≠ g) : q.rowIs b t n f := hr.of_block (h.blk b hb)
theorem OnlyB.arr {g : Nat} {w q : World} (h : OnlyB g w q) {b c n : Nat} {f : Nat → Int} (hr : Arr w b c n f) (hb : b ≠ g) : Arr q b c n f := by
  obtain ⟨hc, F, hr, hf⟩ := hr
  exact ⟨hc, F, h.row hr hb, hf⟩
theorem OnlyB.st1 {g : Nat} {w q : World} (h : OnlyB g w q) {base OB N : Nat} {x : Exm} {WL ML : List Int} (hs : St1 w base OB N x WL ML) (ha : x.a ≠ some ⟨g, 0, none⟩) (hb : x.b ≠ some ⟨g, 0, none⟩) : St1 q base OB N x WL ML := by
  obtain ⟨g1, d1, g2, d2, rfl, b1, b2, b3, b4, b5, b6, a1, a2⟩ := hs
  refine ⟨g1, d1, g2, d2, rfl, b1, b2, b3, b4, b5, b6, h.arr a1 (fun e => ha (by rw [e])), h.arr a2 (fun e => hb (by rw [e]))⟩

set_option maxHeartbeats 800000 in
theorem spoil_calls (g N d : Nat) (f : Nat → Int) (x : Int) (w : World) (h : Arr w g d N f) (hd : d ≤ 9223372036854775807) :
    Calls Tryz.prog 36 #[.slice (some ⟨g, 0, none⟩) N d, .int .i64 x] w fun e w' => e = .returned (.tuple #[]) ∧ Arr w' g d N (fun _ => x) ∧ OnlyB g w w' := by
  have hNd := h.cap
  have HA : Hid (∃ F, w.rowIs g 3 d F) := by obtain ⟨_, F, hr, _⟩ := h; exact ⟨F, hr⟩
  clear h
  go_enter Tryz.func36, Tryz.ntmps36
  go_wp2_with fail
  go_loopw [11] (fun v wr => ∃ k : Nat, k ≤ d ∧ v = .int .i64 k ∧ (∃ F, wr.rowIs g 3 d F ∧ ∀ i, i < k → F i = .int .i64 x) ∧ OnlyB g w wr) (fun v _ => d - (intOf v).toNat)
  case atStart =>
    obtain ⟨F, hr⟩ := HA.out
    exact ⟨0, Nat.zero_le _, rfl, ⟨F, hr, fun i hi => by omega⟩, OnlyB.refl _ _⟩
  case round =>
    obtain ⟨k, hk, rfl, ⟨F, hr, hf⟩, ho⟩ := hrel
    have HF : Hid (∀ i, i < k → F i = .int .i64 x) := hf
    clear hf
    by_cases hlt : k < d
    · have c1 := hr.cell hlt
      have f1 := hr.frozen k
      have HR : Hid (wr.rowIs g 3 d F) := hr
      clear hr
      go_wp2_with fail
      go_roundw
      case rel =>
        refine ⟨k + 1, by omega, by go_num, ⟨_, HR.out.set k (.int .i64 x), fun i hi => ?_⟩, ho.set k _⟩
        by_cases e : i = k
        · simp only [if_pos e]
        · simp only [if_neg e]; exact HF.out i (by omega)
      case measure => simp [intOf]; omega
    · obtain rfl : k = d := by omega
      go_wp2_with fail
      go_end0
      exact ⟨rfl, ⟨hNd, F, hr, fun i hi => HF.out i (by omega)⟩, ho⟩

set_option maxHeartbeats 800000 in
theorem rsameS_any (a1 : Option Addr) (n1 k1 : Nat) (a2 : Option Addr) (n2 k2 : Nat) (b1 : Option Addr) (m1 d1 : Nat) (b2 : Option Addr) (m2 d2 : Nat) (XS YS ZS US : List Int) (w : World) (l1 : Lst w a1 n1 k1 XS) (l2 : Lst w a2 n2 k2 YS) (l3 : Lst w b1 m1 d1 ZS) (l4 : Lst w b2 m2 d2 US) (h1 : n1 ≤ 200) (h2 : n2 ≤ 200) :
    Calls Tryz.prog 13 #[.agg #[.slice a1 n1 k1, .slice a2 n2 k2], .agg #[.slice b1 m1 d1, .slice b2 m2 d2]] w fun e w' => e = .returned (.bool (decide (XS = ZS) && decide (YS = US))) ∧ Below w.heap.size w w' := by
  have hal := ((Below.refl w.heap.size w).alloc (Nat.le_refl _) (.cells #[.slice a1 n1 k1, .slice a2 n2 k2] 28)).alloc (by simp) (.cells #[.slice b1 m1 d1, .slice b2 m2 d2] 28)
  have l1 := l1.below hal (Nat.le_refl _)
  have l2 := l2.below hal (Nat.le_refl _)
  have l3 := l3.below hal (Nat.le_refl _)
  have l4 := l4.below hal (Nat.le_refl _)
  by_cases e1 : XS = ZS
  · rw [decide_eq_true e1, Bool.true_and]
    obtain ⟨r, HR⟩ : ∃ r, Hid (decide (YS = US) = r) := ⟨_, rfl⟩
    rw [HR.out]
    subst e1
    go_enter Tryz.func13, Tryz.ntmps13
    go_wp2_with fail
    refine (eq_calls _ _ _ _ _ _ XS XS _ l1 l3 (by omega)).mono ?_
    rintro e w1 ⟨rfl, k5, hw5⟩
    subst hw5
    rw [decide_eq_true (Eq.refl XS)]
    go_wp2_with fail
    refine (eq_calls _ _ _ _ _ _ YS US _ (l2.drewN _) (l4.drewN _) (by omega)).mono ?_
    rintro e w1 ⟨rfl, k6, hw6⟩
    subst hw6
    rw [HR.out]
    go_wp2
    go_ret
    exact ⟨rfl, below_drewN hal _⟩
  · rw [decide_eq_false e1, Bool.false_and]
    go_enter Tryz.func13, Tryz.ntmps13
    go_wp2_with fail
    refine (eq_calls _ _ _ _ _ _ XS ZS _ l1 l3 (by omega)).mono ?_
    rintro e w1 ⟨rfl, k5, hw5⟩
    subst hw5
    rw [decide_eq_false e1]
    go_wp2_with fail
    go_ret
    exact ⟨rfl, below_drewN hal _⟩
end Go.Proofs.YtimciamfgpdjlaaGreat.Fx

/- What coachref's Dot returns: the plain number of the text Lists. -/
namespace Go.Proofs.YtimciamfgpdjlaaGreat.Fx
open Go.RowKit

set_option maxHeartbeats 400000 in
theorem rdot_calls (a b : Option Addr) (la ca cb : Nat) (xs ys : List Int) (w : World) (ha : Lst w a la ca xs) (hb : Lst w b la cb ys) (h63 : la ≤ 1000000000000000000) :
    Calls Tryz.prog 118 #[.slice a la ca, .slice b la cb] w fun e w' => e = .returned (.int .i64 (dotTo xs ys la)) ∧ ∃ k, w' = w.drewN k := by
  go_enter Tryz.func118, Tryz.ntmps118
  go_wp2
  go_loopw [5, 6] (fun s i wr => ∃ k n : Nat, k ≤ la ∧ i = .int .i64 k ∧ s = .int .i64 (dotTo xs ys k) ∧ wr = w.drewN n) (fun _ i _ => la - (intOf i).toNat)
  case atStart => exact ⟨0, 0, Nat.zero_le _, rfl, rfl, rfl⟩
  case round =>
    obtain ⟨k, n, hk, rfl, rfl, hw⟩ := hrel
    have ha' : Lst wr a la ca xs := hw ▸ ha.drewN n
    have hb' : Lst wr b la cb ys := hw ▸ hb.drewN n
    have HW : Hid (wr = w.drewN n) := hw
    clear hw ha hb
    by_cases hlt : k < la
    · obtain ⟨b1, o1, x, rfl, _, c1, HX⟩ := ha'.at1 hlt
      obtain ⟨b2, o2, y, rfl, _, c2, HY⟩ := hb'.at1 hlt
      go_wp2
      go_quiet ((first | (go_at_call 115; exact Calls.quiet_of_same (rmul_calls _ _ _)) | (go_at_call 60; exact Calls.quiet_of_same (radd_calls _ _ _))))
      go_wp2
      go_roundw
      case rel => exact ⟨k + 1, _, by omega, by go_num, by simp only [dotTo, HX.out, HY.out], by rw [HW.out, World.drewN_drewN]⟩
      case measure => simp [intOf]; omega
    · go_wp2
      go_ret
      obtain rfl : k = la := by omega
      exact ⟨rfl, _, HW.out⟩
end Go.Proofs.YtimciamfgpdjlaaGreat.Fx

/- What coachref's Matrix and SameMatrix return: the plain answers of the text Mats. -/
namespace Go.Proofs.YtimciamfgpdjlaaGreat.Fx
open Go.RowKit

set_option maxHeartbeats 800000 in
theorem rmat_calls (r c : Int) (a : Option Addr) (len cap : Nat) (xs : List Int) (w : World) (ha : Lst w a len cap xs) :
    Calls Tryz.prog 78 #[.agg #[.int .i64 r, .int .i64 c, .slice a len cap]] w fun e w' => e = .returned (.int .i64 (chkI r c len xs)) ∧ Below w.heap.size w w' := by
  have hal := (Below.refl w.heap.size w).alloc (Nat.le_refl _) (.cells #[.int .i64 r, .int .i64 c, .slice a len cap] 60)
  cases hr : sideB r with
  | false =>
    have hr' : inB r 1 4 = false := hr
    go_enter Tryz.func78, Tryz.ntmps78
    go_wp2_with (go_at_call 10; refine (rin_calls _ _ _ _).mono ?_; rintro e w' ⟨rfl, rfl⟩)
    go_ret
    exact ⟨ret_int (by simp [chkI, hr]), hal⟩
  | true =>
    have hr' : inB r 1 4 = true := hr
    cases hc : sideB c with
    | false =>
      have hc' : inB c 1 4 = false := hc
      go_enter Tryz.func78, Tryz.ntmps78
      go_wp2_with (go_at_call 10; refine (rin_calls _ _ _ _).mono ?_; rintro e w' ⟨rfl, rfl⟩)
      go_ret
      exact ⟨ret_int (by simp [chkI, hc]), hal⟩
    | true =>
      have hc' : inB c 1 4 = true := hc
      have br := sideB_true hr
      have bc := sideB_true hc
      have bp := prod_side br.1 br.2 bc.1 bc.2
      by_cases hl : (len : Int) = r * c
      · have ht : ((len : Int) != r * c) = false := by rw [bne_eq_false_iff_eq]; exact hl
        have HL : Hid ((len : Int) = r * c) := hl
        have hlen : len ≤ 16 := by omega
        clear hl
        have ha' := ha.below hal (Nat.le_refl _)
        clear ha
        cases hx : rightB xs with
        | true =>
          go_enter Tryz.func78, Tryz.ntmps78
          go_wp2_with (first | (go_at_call 10; refine (rin_calls _ _ _ _).mono ?_; rintro e w' ⟨rfl, rfl⟩) | (go_at_call 52; refine (rright_calls _ _ _ xs _ ha' (by omega)).mono ?_; rintro e w' ⟨rfl, nd, rfl⟩))
          go_ret
          exact ⟨ret_int (by simp only [chkI, hr, hc, and_self, if_true, HL.out, hx]), below_drewN hal _⟩
        | false =>
          go_enter Tryz.func78, Tryz.ntmps78
          go_wp2_with (first | (go_at_call 10; refine (rin_calls _ _ _ _).mono ?_; rintro e w' ⟨rfl, rfl⟩) | (go_at_call 52; refine (rright_calls _ _ _ xs _ ha' (by omega)).mono ?_; rintro e w' ⟨rfl, nd, rfl⟩))
          go_ret
          exact ⟨ret_int (by simp only [chkI, hr, hc, and_self, if_true, hx, Bool.false_eq_true, and_false, if_false]), below_drewN hal _⟩
      · have ht : ((len : Int) != r * c) = true := by rw [bne_iff_ne]; exact hl
        go_enter Tryz.func78, Tryz.ntmps78
        go_wp2_with (go_at_call 10; refine (rin_calls _ _ _ _).mono ?_; rintro e w' ⟨rfl, rfl⟩)
        go_ret
        exact ⟨ret_int (by simp only [chkI, hr, hc, and_self, if_true, hl, false_and, if_false]), hal⟩
end Go.Proofs.YtimciamfgpdjlaaGreat.Fx
