/- What coachref's Size, StateFits and SameState return. -/
import Derived.Test.YtnlcheebdkjpbaeJ19
import Derived.Test.YtnlcheebdkjpbaeJ11
import Derived.Test.YtnlcheebdkjpbaeJ26
import Derived.Test.YtnlcheebdkjpbaeJ17
import Derived.Test.YtnlcheebdkjpbaeJ00
import Derived.Test.YtnlcheebdkjpbaeJ01
namespace Go.Proofs.Ytnlcheebdkjpbae.Fx
open Go.RowKit

theorem fit_two {c : Cfg} {n1 n2 : Nat} {ws ms : List Int} {S : Int} {p q r s : Bool} (hS : sizeN c = S) (hp : decide ((n1 : Int) = S) = p) (hq : decide ((n2 : Int) = S) = q) (hr : rightB ws = r) (hs : rightB ms = s) : (fitB c n1 ws && fitB c n2 ms) = (p && q && r && s) := by
  unfold fitB
  rw [hS, hp, hq, hr, hs]
  cases p <;> cases q <;> cases r <;> cases s <;> rfl

set_option maxHeartbeats 800000 in
theorem rsameS_calls (a1 : Option Addr) (n1 k1 : Nat) (a2 : Option Addr) (n2 k2 : Nat) (b1 : Option Addr) (m1 d1 : Nat) (b2 : Option Addr) (m2 d2 : Nat) (XS YS : List Int) (w : World) (l1 : Lst w a1 n1 k1 XS) (l2 : Lst w a2 n2 k2 YS) (l3 : Lst w b1 m1 d1 XS) (l4 : Lst w b2 m2 d2 YS) (h1 : n1 ≤ 200) (h2 : n2 ≤ 200) :
    Calls Try.prog 31 #[.agg #[.slice a1 n1 k1, .slice a2 n2 k2], .agg #[.slice b1 m1 d1, .slice b2 m2 d2]] w fun e w' => e = .returned (.bool true) ∧ Below w.heap.size w w' := by
  have hal := ((Below.refl w.heap.size w).alloc (Nat.le_refl _) (.cells #[.slice a1 n1 k1, .slice a2 n2 k2] 51)).alloc (by simp) (.cells #[.slice b1 m1 d1, .slice b2 m2 d2] 51)
  have l1 := l1.below hal (Nat.le_refl _)
  have l2 := l2.below hal (Nat.le_refl _)
  have l3 := l3.below hal (Nat.le_refl _)
  have l4 := l4.below hal (Nat.le_refl _)
  go_enter Try.func31, Try.ntmps31
  go_wp2_with fail
  refine (eq_calls _ _ _ _ _ _ XS XS _ l1 l3 (by omega)).mono ?_
  rintro e w1 ⟨rfl, k5, hw5⟩
  subst hw5
  rw [decide_eq_true (Eq.refl XS)]
  go_wp2_with fail
  refine (eq_calls _ _ _ _ _ _ YS YS _ (l2.drewN _) (l4.drewN _) (by omega)).mono ?_
  rintro e w1 ⟨rfl, k6, hw6⟩
  subst hw6
  rw [decide_eq_true (Eq.refl YS)]
  go_wp2
  go_ret
  exact ⟨rfl, below_drewN hal _⟩

end Go.Proofs.Ytnlcheebdkjpbae.Fx

/- What TrainSays holds in memory on its way: the document's start, next state, record and states; no function of the program is spoken of. -/
namespace Go.Proofs.Ytnlcheebdkjpbae.Fx
open Go.RowKit

/-- A list does not lie in block b. -/
def FarB (a : Option Addr) (b : Nat) : Prop := ∀ bg o, a = some ⟨bg, o, none⟩ → bg ≠ b
theorem FarB.none (b : Nat) : FarB Option.none b := fun _ _ h => by cases h
theorem FarB.some {g b : Nat} (h : g ≠ b) {o : Nat} : FarB (Option.some ⟨g, o, Option.none⟩) b := fun bg o' e => by
  simp only [Option.some.injEq, Addr.mk.injEq, and_true] at e
  omega
theorem Lst.offB {w : World} {a : Option Addr} {n c : Nat} {xs : List Int} (h : Lst w a n c xs) {b : Nat} (hf : FarB a b) (i : Nat) (v : Value) : Lst (w.setCell ⟨b, i, none⟩ v) a n c xs := by
  rcases h.2.2 with h0 | ⟨g, off, rfl, hs, hc⟩
  · exact ⟨h.1, h.2.1, .inl h0⟩
  · exact h.setFar (a := ⟨b, i, none⟩) (hf g off rfl) v
theorem InEx.offB {w : World} {x : Exm} {I O : List Int} (h : InEx w x I O) {b : Nat} (h1 : FarB x.a b) (h2 : FarB x.b b) (i : Nat) (v : Value) : InEx (w.setCell ⟨b, i, none⟩ v) x I O := ⟨h.i.offB h1 i v, h.o.offB h2 i v⟩
theorem InEx.offS {w : World} {x : Exm} {I O : List Int} (h : InEx w x I O) {p : Addr} {u : Option Addr} {y z : Nat} (hp : w.cell? p = some (.slice u y z)) (v : Value) : InEx (w.setCell p v) x I O := ⟨h.i.setOff hp v, h.o.setOff hp v⟩

/-- Behind the start: it lies there; the next state and the record are empty yet. -/
structure Cut1M (w1 : World) (SW SM : List Int) (x0 : Exm) (q : World) : Prop where
  r0 : q.rowIs w1.heap.size 51 2 (fn2 (.slice x0.a x0.n x0.k) (.slice x0.b x0.m x0.t))
  l0 : InEx q x0 SW SM
  fa : FarB x0.a (w1.heap.size + 1 + 1)
  fb : FarB x0.b (w1.heap.size + 1 + 1)
  r1 : q.rowIs (w1.heap.size + 1) 51 2 (fn2 (.slice none 0 0) (.slice none 0 0))
  r2 : q.rowIs (w1.heap.size + 1 + 1) 95 5 (fn5 (.int .i64 0) (.slice none 0 0) (.int .i64 0) (.int .u64 0) (.int .u64 0))
  bel : Below w1.heap.size w1 q
theorem Cut1M.below {w1 : World} {SW SM : List Int} {x0 : Exm} {q q2 : World} (h : Cut1M w1 SW SM x0 q) (hb : Below q.heap.size q q2) : Cut1M w1 SW SM x0 q2 :=
  ⟨h.r0.of_block (hb.block _ h.r0.lt), h.l0.below hb (Nat.le_refl _), h.fa, h.fb, h.r1.of_block (hb.block _ h.r1.lt), h.r2.of_block (hb.block _ h.r2.lt), h.bel.trans (hb.mono h.bel.size)⟩

/-- Behind the switch: the start, the next state and the record lie there. -/
structure SwM (w1 : World) (SW SM NW NM NB : List Int) (NR : Int) (x0 x1 : Exm) (v0 : Value) (a3 : Option Addr) (m3 d3 : Nat) (v3 v4 : Value) (q : World) : Prop where
  r0 : q.rowIs w1.heap.size 51 2 (fn2 (.slice x0.a x0.n x0.k) (.slice x0.b x0.m x0.t))
  l0 : InEx q x0 SW SM
  r1 : q.rowIs (w1.heap.size + 1) 51 2 (fn2 (.slice x1.a x1.n x1.k) (.slice x1.b x1.m x1.t))
  l1 : InEx q x1 NW NM
  r2 : q.rowIs (w1.heap.size + 1 + 1) 95 5 (fn5 v0 (.slice a3 m3 d3) (.int .i64 NR) v3 v4)
  l2 : Lst q a3 m3 d3 NB
  bel : Below w1.heap.size w1 q
theorem SwM.below {w1 : World} {SW SM NW NM NB : List Int} {NR : Int} {x0 x1 : Exm} {v0 : Value} {a3 : Option Addr} {m3 d3 : Nat} {v3 v4 : Value} {q q2 : World} (h : SwM w1 SW SM NW NM NB NR x0 x1 v0 a3 m3 d3 v3 v4 q) (hb : Below q.heap.size q q2) : SwM w1 SW SM NW NM NB NR x0 x1 v0 a3 m3 d3 v3 v4 q2 :=
  ⟨h.r0.of_block (hb.block _ h.r0.lt), h.l0.below hb (Nat.le_refl _), h.r1.of_block (hb.block _ h.r1.lt), h.l1.below hb (Nat.le_refl _), h.r2.of_block (hb.block _ h.r2.lt), h.l2.below hb (Nat.le_refl _), h.bel.trans (hb.mono h.bel.size)⟩
def zeroX : Exm := ⟨none, 0, 0, none, 0, 0⟩
theorem Cut1M.sw {w1 : World} {SW SM : List Int} {x0 : Exm} {q : World} (h : Cut1M w1 SW SM x0 q) : SwM w1 SW SM [] [] [] 0 x0 zeroX (.int .i64 0) none 0 0 (.int .u64 0) (.int .u64 0) q :=
  ⟨h.r0, h.l0, h.r1, ⟨Lst.nil _ _ _, Lst.nil _ _ _⟩, h.r2, Lst.nil _ _ _, h.bel⟩
theorem Cut1M.put {w1 : World} {SW SM NW NM NB : List Int} {x0 x1 : Exm} {u : World} {a3 : Option Addr} {m3 d3 : Nat} (h : Cut1M w1 SW SM x0 u) (l1 : InEx u x1 NW NM) (l3 : Lst u a3 m3 d3 NB) (h1 : FarB x1.a (w1.heap.size + 1 + 1)) (h2 : FarB x1.b (w1.heap.size + 1 + 1)) (h3 : FarB a3 (w1.heap.size + 1 + 1)) (v0 v3 v4 : Value) (NR : Int) :
    SwM w1 SW SM NW NM NB NR x0 x1 v0 a3 m3 d3 v3 v4 (((((((u.setCell ⟨w1.heap.size + 1, 0, none⟩ (.slice x1.a x1.n x1.k)).setCell ⟨w1.heap.size + 1, 1, none⟩ (.slice x1.b x1.m x1.t)).setCell ⟨w1.heap.size + 1 + 1, 0, none⟩ v0).setCell ⟨w1.heap.size + 1 + 1, 1, none⟩ (.slice a3 m3 d3)).setCell ⟨w1.heap.size + 1 + 1, 2, none⟩ (.int .i64 NR)).setCell ⟨w1.heap.size + 1 + 1, 3, none⟩ v3).setCell ⟨w1.heap.size + 1 + 1, 4, none⟩ v4) := by
  have c0 := (fn2_cells h.r1).1
  have c1 : (u.setCell ⟨w1.heap.size + 1, 0, none⟩ (.slice x1.a x1.n x1.k)).cell? ⟨w1.heap.size + 1, 1, none⟩ = some (.slice none 0 0) := (h.r1.set 0 _).cell (i := 1) (by omega)
  have n0 : ∀ k, w1.heap.size ≠ (⟨w1.heap.size + 1, k, none⟩ : Addr).block := fun k => by show w1.heap.size ≠ w1.heap.size + 1; omega
  have n1 : ∀ k, w1.heap.size ≠ (⟨w1.heap.size + 1 + 1, k, none⟩ : Addr).block := fun k => by show w1.heap.size ≠ w1.heap.size + 1 + 1; omega
  have n2 : ∀ k, w1.heap.size + 1 ≠ (⟨w1.heap.size + 1 + 1, k, none⟩ : Addr).block := fun k => by show w1.heap.size + 1 ≠ w1.heap.size + 1 + 1; omega
  have n3 : ∀ k, w1.heap.size + 1 + 1 ≠ (⟨w1.heap.size + 1, k, none⟩ : Addr).block := fun k => by show w1.heap.size + 1 + 1 ≠ w1.heap.size + 1; omega
  refine ⟨?_, ?_, ?_, ?_, ?_, ?_, ?_⟩
  · exact ((((((h.r0.setOther (n0 0) _).setOther (n0 1) _).setOther (n1 0) _).setOther (n1 1) _).setOther (n1 2) _).setOther (n1 3) _).setOther (n1 4) _
  · exact ((((((h.l0.offS c0 _).offS c1 _).offB h.fa h.fb 0 _).offB h.fa h.fb 1 _).offB h.fa h.fb 2 _).offB h.fa h.fb 3 _).offB h.fa h.fb 4 _
  · exact (((((fn2_set h.r1 (.slice x1.a x1.n x1.k) (.slice x1.b x1.m x1.t)).setOther (n2 0) _).setOther (n2 1) _).setOther (n2 2) _).setOther (n2 3) _).setOther (n2 4) _
  · exact ((((((l1.offS c0 _).offS c1 _).offB h1 h2 0 _).offB h1 h2 1 _).offB h1 h2 2 _).offB h1 h2 3 _).offB h1 h2 4 _
  · exact fn5_set ((h.r2.setOther (n3 0) _).setOther (n3 1) _) v0 (.slice a3 m3 d3) (.int .i64 NR) v3 v4
  · exact ((((((l3.setOff c0 _).setOff c1 _).offB h3 0 _).offB h3 1 _).offB h3 2 _).offB h3 3 _).offB h3 4 _
  · exact below_set5 (below_set2 h.bel (show w1.heap.size ≤ w1.heap.size + 1 by omega) _ _) (show w1.heap.size ≤ w1.heap.size + 1 + 1 by omega) _ _ _ _ _
theorem Cut1M.start (w1 : World) : Cut1M w1 [] [] zeroX (((w1.alloc (.cells #[.slice none 0 0, .slice none 0 0] 51)).alloc (.cells #[.slice none 0 0, .slice none 0 0] 51)).alloc (.cells #[.int .i64 0, .slice none 0 0, .int .i64 0, .int .u64 0, .int .u64 0] 95)) := by
  refine ⟨((fn2_alloc w1 _ _ _).alloc _).alloc _, ⟨Lst.nil _ _ _, Lst.nil _ _ _⟩, FarB.none _, FarB.none _, ?_, ?_, (((Below.refl w1.heap.size w1).alloc (Nat.le_refl _) _).alloc (by simp) _).alloc (by simp; omega) _⟩
  · have h := (fn2_alloc (w1.alloc (.cells #[.slice none 0 0, .slice none 0 0] 51)) (.slice none 0 0) (.slice none 0 0) 51).alloc (.cells #[.int .i64 0, .slice none 0 0, .int .i64 0, .int .u64 0, .int .u64 0] 95)
    simpa using h
  · have h := fn5_alloc ((w1.alloc (.cells #[.slice none 0 0, .slice none 0 0] 51)).alloc (.cells #[.slice none 0 0, .slice none 0 0] 51)) (.int .i64 0) (.slice none 0 0) (.int .i64 0) (.int .u64 0) (.int .u64 0) 95
    simpa using h
theorem Cut1M.first {w1 u : World} (h : Cut1M w1 [] [] zeroX u) {SW SM : List Int} {x0 : Exm} (l : InEx u x0 SW SM) (h1 : FarB x0.a (w1.heap.size + 1 + 1)) (h2 : FarB x0.b (w1.heap.size + 1 + 1)) : Cut1M w1 SW SM x0 ((u.setCell ⟨w1.heap.size, 0, none⟩ (.slice x0.a x0.n x0.k)).setCell ⟨w1.heap.size, 1, none⟩ (.slice x0.b x0.m x0.t)) := by
  have c0 : u.cell? ⟨w1.heap.size, 0, none⟩ = some (.slice none 0 0) := (fn2_cells h.r0).1
  have c1 : (u.setCell ⟨w1.heap.size, 0, none⟩ (.slice x0.a x0.n x0.k)).cell? ⟨w1.heap.size, 1, none⟩ = some (.slice none 0 0) := (h.r0.set 0 _).cell (i := 1) (by omega)
  refine ⟨fn2_set h.r0 _ _, (l.offS c0 _).offS c1 _, h1, h2, ?_, ?_, (h.bel.setCell (Nat.le_refl _) _).setCell (Nat.le_refl _) _⟩
  · exact (h.r1.setOther (a := ⟨w1.heap.size, 0, none⟩) (show w1.heap.size + 1 ≠ w1.heap.size by omega) _).setOther (a := ⟨w1.heap.size, 1, none⟩) (show w1.heap.size + 1 ≠ w1.heap.size by omega) _
  · exact (h.r2.setOther (a := ⟨w1.heap.size, 0, none⟩) (show w1.heap.size + 1 + 1 ≠ w1.heap.size by omega) _).setOther (a := ⟨w1.heap.size, 1, none⟩) (show w1.heap.size + 1 + 1 ≠ w1.heap.size by omega) _
end Go.Proofs.Ytnlcheebdkjpbae.Fx

/- How a word, and a slice of words, that come in as arguments are opened. -/
namespace Go.Proofs.Ytnlcheebdkjpbae.Fx
open Go.ChangeShapes Go.WideShapes Go.ChangeAt Go.RowKit

theorem wf_word {n : Int} (h : (Lit.int .u64 n).wf = true) : okW n := by
  simp [Lit.wf, IntKind.min, IntKind.max, IntKind.signed, IntKind.bits] at h
  exact ⟨by omega, by omega⟩

set_option maxRecDepth 100000 in
theorem openWords {H : Type} {enc : TypeId × Value → H} {W : World} {b0 : Nat} {v : Value} {d : DataW H} {p : List MemPlace} (hv : Value.okWide Try.prog W .any b0 25 v) (h : DataW.Trod enc Try.prog W 0 (fun _ => true) true 25 v d p) :
    ∃ a len cap xs, v = .slice a len cap ∧ LstW W a len cap xs ∧ ∀ i, i < xs.length → okW (xs.getD i 0) := by
  obtain ⟨a, len, cap, rfl⟩ := okWide_slice Try.underlying25 hv
  obtain ⟨fuel, hf⟩ := h
  rcases open_ints Try.underlying25 Try.underlying31 (by kernel_rfl) hf with ⟨hcs, _⟩ | ⟨x, l, c, zs, hcs, _, hl, hm, hz, _, hcell, hwz⟩
  · simp [Value.cells] at hcs
    obtain ⟨rfl, rfl, rfl⟩ := hcs
    exact ⟨_, _, _, [], rfl, LstW.nil _ _ _, fun i hi => by simp at hi⟩
  · simp [Value.cells] at hcs
    obtain ⟨rfl, rfl, rfl⟩ := hcs
    refine ⟨_, _, _, zs.take len, rfl, LstW.came hl (by simpa using hz) hcell, fun i hi => wf_word (hwz _ (List.mem_of_mem_take (i := len) ?_))⟩
    rw [List.getD_eq_getElem?_getD, List.getElem?_eq_getElem hi]
    exact List.getElem_mem hi
end Go.Proofs.Ytnlcheebdkjpbae.Fx
