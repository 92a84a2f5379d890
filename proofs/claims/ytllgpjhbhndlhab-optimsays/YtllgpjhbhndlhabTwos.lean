/- Two lists of integers that are made by append side by side, each held in a field of a state: an append to one leaves the other. -/
import Derived.Test.YtllgpjhbhndlhabOptE
import Derived.Test.YtllgpjhbhndlhabAppsGr
namespace Go.Proofs.Ytllgpjhbhndlhab.Fx
open Go.RowKit

/-- Two growing lists x and y, and the state at block G that holds them. -/
structure Two (wm : World) (G : Nat) (x y : Value) (Lx Ly : List Int) (wr : World) : Prop where
  row : wr.rowIs G 51 2 (fn2 x y)
  ox : OwnI wm.heap.size wr x Lx
  oy : OwnI wm.heap.size wr y Ly
  ap : Apart x y
  gr : wm.grownBy wr (some G)
theorem Two.below {wm : World} {G : Nat} {x y : Value} {Lx Ly : List Int} {wr w2 : World} (h : Two wm G x y Lx Ly wr) (hb : Below wr.heap.size wr w2) : Two wm G x y Lx Ly w2 :=
  ⟨h.row.of_block (hb.block _ h.row.lt), OwnI.below h.ox hb, OwnI.below h.oy hb, h.ap, grown_below h.gr hb⟩
theorem own_min {base : Nat} {w : World} {x : Value} {L : List Int} (h : OwnI base w x L) : ∀ k, x.ownBlock = some k → base ≤ k := by
  intro k hk
  rcases h.blk with e | ⟨g, e, hg, _⟩
  · rw [e] at hk; cases hk
  · rw [e] at hk; cases hk; exact hg
/-- Behind an append to x: the state still holds the two old ones. -/
theorem Two.still {wm : World} {G : Nat} {x y : Value} {Lx Ly : List Int} {w2 w3 : World} (h : Two wm G x y Lx Ly w2) (hG : G < wm.heap.size) (h2 : w2.grownBy w3 x.ownBlock) : w3.rowIs G 51 2 (fn2 x y) :=
  h.row.of_block (h2.block G h.row.lt (fun e => by have := own_min h.ox G e.symm; omega))
theorem Two.still' {wm : World} {G : Nat} {x y : Value} {Lx Ly : List Int} {w2 w3 : World} (h : Two wm G x y Lx Ly w2) (hG : G < wm.heap.size) (h2 : w2.grownBy w3 y.ownBlock) : w3.rowIs G 51 2 (fn2 x y) :=
  h.row.of_block (h2.block G h.row.lt (fun e => by have := own_min h.oy G e.symm; omega))
theorem apart_new {wm : World} {x y x1 : Value} {Ly : List Int} {w2 : World} (hap : Apart x y) (hoy : OwnI wm.heap.size w2 y Ly) (h3 : x1.ownBlock = x.ownBlock ∨ x1.ownBlock = some w2.heap.size) : Apart x1 y := by
  rcases h3 with e | e
  · unfold Apart; rw [e]; exact hap
  · unfold Apart
    rw [e]
    rcases hoy.blk with e2 | ⟨g, e2, _, hg⟩
    · exact .inl e2
    · right; rw [e2]; simp; omega
/-- x has one more, and the field that holds it is written. -/
theorem Two.push {wm : World} {G : Nat} {x y x1 : Value} {Lx Ly : List Int} {z : Int} {w2 w3 : World} (h : Two wm G x y Lx Ly w2) (hG : G < wm.heap.size) (h1 : OwnI wm.heap.size w3 x1 (Lx ++ [z])) (h2 : w2.grownBy w3 x.ownBlock) (h3 : x1.ownBlock = x.ownBlock ∨ x1.ownBlock = some w2.heap.size) :
    Two wm G x1 y (Lx ++ [z]) Ly (w3.setCell ⟨G, 0, none⟩ x1) := by
  refine ⟨((h.still hG h2).set 0 x1).congr (fun i hi => ?_), ownsRow_setCell_below h1 hG _, ownsRow_setCell_below (h.oy.kept h2 h.ap) hG _, apart_new h.ap h.oy h3, grown1 (grown_trans h.gr h2 (fun k hk => .inl (own_min h.ox k hk))) 0 x1⟩
  rcases (show i = 0 ∨ i = 1 from by omega) with rfl | rfl <;> rfl
theorem Two.push' {wm : World} {G : Nat} {x y y1 : Value} {Lx Ly : List Int} {z : Int} {w2 w3 : World} (h : Two wm G x y Lx Ly w2) (hG : G < wm.heap.size) (h1 : OwnI wm.heap.size w3 y1 (Ly ++ [z])) (h2 : w2.grownBy w3 y.ownBlock) (h3 : y1.ownBlock = y.ownBlock ∨ y1.ownBlock = some w2.heap.size) :
    Two wm G x y1 Lx (Ly ++ [z]) (w3.setCell ⟨G, 1, none⟩ y1) := by
  refine ⟨((h.still' hG h2).set 1 y1).congr (fun i hi => ?_), ownsRow_setCell_below (h.ox.kept h2 h.ap.symm) hG _, ownsRow_setCell_below h1 hG _, (apart_new h.ap.symm h.ox h3).symm, grown1 (grown_trans h.gr h2 (fun k hk => .inl (own_min h.oy k hk))) 1 y1⟩
  rcases (show i = 0 ∨ i = 1 from by omega) with rfl | rfl <;> rfl
theorem Two.congr {wm : World} {G : Nat} {x y : Value} {Lx Ly Lx' Ly' : List Int} {wr : World} (h : Two wm G x y Lx Ly wr) (e1 : Lx = Lx') (e2 : Ly = Ly') : Two wm G x y Lx' Ly' wr := by
  subst e1 e2
  exact h
end Go.Proofs.Ytllgpjhbhndlhab.Fx
