/- A config and a state that a law is handed by value, as they lie in memory; no function of the program is spoken of. -/
import Derived.Test.YtllgpjhbhndlhaeOptE
import Derived.Test.YtllgpjhbhndlhaeAppsGr
namespace Go.Proofs.Ytllgpjhbhndlhae.Fx
open Go.RowKit

/-- A config and a state, laid one behind the other, in whatever world that left them. -/
structure LawBox (w : World) (c : Cfg) (v0 v1 : Value) (q : World) : Prop where
  cfg : BoxC q w.heap.size c
  st : q.rowIs (w.heap.size + 1) 51 2 (fn2 v0 v1)
  bel : Below w.heap.size w q
theorem LawBox.start (w : World) (c : Cfg) (v0 v1 : Value) : LawBox w c v0 v1 ((w.alloc (.cells c.cells 49)).alloc (.cells #[v0, v1] 51)) := by
  refine ⟨boxC (B := w.heap.size + 1) ((Below.refl _ _).alloc (by simp) _) (by omega), ?_, ((Below.refl w.heap.size w).alloc (Nat.le_refl _) _).alloc (by simp) _⟩
  have h := fn2_alloc (w.alloc (.cells c.cells 49)) v0 v1 51
  simpa using h
theorem LawBox.below {w : World} {c : Cfg} {v0 v1 : Value} {q q2 : World} (h : LawBox w c v0 v1 q) (hb : Below q.heap.size q q2) : LawBox w c v0 v1 q2 := by
  have l2 := h.st.lt
  have k : ∀ i, q2.cell? ⟨w.heap.size, i, none⟩ = q.cell? ⟨w.heap.size, i, none⟩ := fun i => hb.cell (p := ⟨w.heap.size, i, none⟩) (by show w.heap.size < _; omega)
  exact ⟨⟨(k 0).trans h.cfg.c0, (k 1).trans h.cfg.c1, (k 2).trans h.cfg.c2, (k 3).trans h.cfg.c3, (k 4).trans h.cfg.c4, (k 5).trans h.cfg.c5, (k 6).trans h.cfg.c6, (k 7).trans h.cfg.c7, (k 8).trans h.cfg.c8, (k 9).trans h.cfg.c9, (k 10).trans h.cfg.c10⟩,
    h.st.of_block (hb.block _ l2), h.bel.trans (hb.mono h.bel.size)⟩

end Go.Proofs.Ytllgpjhbhndlhae.Fx
