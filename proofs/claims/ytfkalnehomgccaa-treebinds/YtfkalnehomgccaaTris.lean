/- Three words in one block of memory: how they are laid, read and written; no program is spoken of. -/
import Derived.Test.YtfkalnehomgccaaWords
import Derived.Test.YtfkalnehomgccaaDig
namespace Go.Proofs.Ytfkalnehomgccaa.Fx
open Go.RowKit

def fnT (s : Tri) (i : Nat) : Value := if i = 0 then .int .u64 s.x else if i = 1 then .int .u64 s.y else .int .u64 s.z
def aggT (s : Tri) : Value := .agg #[.int .u64 s.x, .int .u64 s.y, .int .u64 s.z]
theorem lt3 {i : Nat} (h : i < 3) : i = 0 ∨ i = 1 ∨ i = 2 := by omega
theorem fnT_at {s : Tri} {i : Nat} (h : i < 3) : fnT s i = .int .u64 (s.at i) := by
  rcases lt3 h with rfl | rfl | rfl <;> rfl
theorem fnT_alloc (w : World) (x y z : Int) (t : TypeId) : (w.alloc (.cells #[.int .u64 x, .int .u64 y, .int .u64 z] t)).rowIs w.heap.size t 3 (fnT ⟨x, y, z⟩) :=
  World.rowIs_alloc w _ t (fnT ⟨x, y, z⟩) (by
    intro i hi
    rcases lt3 hi with rfl | rfl | rfl <;> rfl)
theorem fnT_cells {w : World} {b t : Nat} {s : Tri} (h : w.rowIs b t 3 (fnT s)) :
    w.cell? ⟨b, 0, none⟩ = some (.int .u64 s.x) ∧ w.cell? ⟨b, 1, none⟩ = some (.int .u64 s.y) ∧ w.cell? ⟨b, 2, none⟩ = some (.int .u64 s.z) :=
  ⟨h.cell (i := 0) (by omega), h.cell (i := 1) (by omega), h.cell (i := 2) (by omega)⟩
theorem fnT_set3 {w : World} {b t : Nat} {f : Nat → Value} (h : w.rowIs b t 3 f) (x y z : Int) : (((w.setCell ⟨b, 0, none⟩ (.int .u64 x)).setCell ⟨b, 1, none⟩ (.int .u64 y)).setCell ⟨b, 2, none⟩ (.int .u64 z)).rowIs b t 3 (fnT ⟨x, y, z⟩) := by
  refine (((h.set 0 (.int .u64 x)).set 1 (.int .u64 y)).set 2 (.int .u64 z)).congr (fun i hi => ?_)
  rcases lt3 hi with rfl | rfl | rfl <;> rfl

/-- What a mix has laid: the three numbers that it turns, and the cells of its answer. -/
structure MixRel (t : Nat) (w : World) (s : Tri) (wr : World) : Prop where
  box : wr.rowIs w.heap.size t 3 (fnT s)
  res : wr.rowIs (w.heap.size + 1) t 3 (fnT ⟨0, 0, 0⟩)
  old : Below w.heap.size w wr

theorem MixRel.start (t : Nat) (w : World) (x y z : Int) : MixRel t w ⟨x, y, z⟩ ((w.alloc (.cells #[.int .u64 x, .int .u64 y, .int .u64 z] t)).alloc (.cells #[.int .u64 0, .int .u64 0, .int .u64 0] t)) :=
  ⟨(fnT_alloc w x y z t).alloc _, by have h := fnT_alloc (w.alloc (.cells #[.int .u64 x, .int .u64 y, .int .u64 z] t)) 0 0 0 t; simpa using h, ((Below.refl _ _).alloc (Nat.le_refl _) _).alloc (by simp) _⟩
theorem MixRel.drewN {t : Nat} {w wr : World} {s : Tri} (h : MixRel t w s wr) (d : Nat) : MixRel t w s (wr.drewN d) := ⟨rowIs_drewN h.box d, rowIs_drewN h.res d, below_drewN h.old d⟩
theorem MixRel.set {t : Nat} {w wr : World} {s : Tri} (h : MixRel t w s wr) (x y z : Int) : MixRel t w ⟨x, y, z⟩ (((wr.setCell ⟨w.heap.size, 0, none⟩ (.int .u64 x)).setCell ⟨w.heap.size, 1, none⟩ (.int .u64 y)).setCell ⟨w.heap.size, 2, none⟩ (.int .u64 z)) :=
  ⟨fnT_set3 h.box x y z, ((h.res.setOther (by simp) _).setOther (by simp) _).setOther (by simp) _, ((h.old.setCell (Nat.le_refl _) _).setCell (Nat.le_refl _) _).setCell (Nat.le_refl _) _⟩

theorem fnT_set0 {w : World} {b t : Nat} {s : Tri} (h : w.rowIs b t 3 (fnT s)) (x : Int) : (w.setCell ⟨b, 0, none⟩ (.int .u64 x)).rowIs b t 3 (fnT ⟨x, s.y, s.z⟩) := by
  refine (h.set 0 (.int .u64 x)).congr (fun i hi => ?_)
  rcases lt3 hi with rfl | rfl | rfl <;> rfl

/-- What the making of a list's digest has laid: its three numbers, in block b. -/
structure OfRel (t : Nat) (w : World) (b : Nat) (s : Tri) (wr : World) : Prop where
  box : wr.rowIs b t 3 (fnT s)
  ge : w.heap.size ≤ b
  old : Below w.heap.size w wr

theorem OfRel.start {t : Nat} {w w1 : World} (h : Below w.heap.size w w1) (x y z : Int) : OfRel t w w1.heap.size ⟨x, y, z⟩ (w1.alloc (.cells #[.int .u64 x, .int .u64 y, .int .u64 z] t)) :=
  ⟨fnT_alloc w1 x y z t, h.size, h.alloc h.size _⟩
theorem OfRel.set0 {t b : Nat} {w wr : World} {s : Tri} (h : OfRel t w b s wr) (x : Int) : OfRel t w b ⟨x, s.y, s.z⟩ (wr.setCell ⟨b, 0, none⟩ (.int .u64 x)) :=
  ⟨fnT_set0 h.box x, h.ge, h.old.setCell h.ge _⟩
theorem OfRel.drewN {t b : Nat} {w wr : World} {s : Tri} (h : OfRel t w b s wr) (d : Nat) : OfRel t w b s (wr.drewN d) := ⟨rowIs_drewN h.box d, h.ge, below_drewN h.old d⟩
theorem OfRel.below {t b : Nat} {w wr w' : World} {s : Tri} (h : OfRel t w b s wr) (hb : Below wr.heap.size wr w') : OfRel t w b s w' :=
  ⟨h.box.of_block (hb.block b h.box.lt), h.ge, h.old.trans (hb.mono h.old.size)⟩
theorem OfRel.set {t b : Nat} {w wr : World} {s : Tri} (h : OfRel t w b s wr) (x y z : Int) : OfRel t w b ⟨x, y, z⟩ (((wr.setCell ⟨b, 0, none⟩ (.int .u64 x)).setCell ⟨b, 1, none⟩ (.int .u64 y)).setCell ⟨b, 2, none⟩ (.int .u64 z)) :=
  ⟨fnT_set3 h.box x y z, h.ge, ((h.old.setCell h.ge _).setCell h.ge _).setCell h.ge _⟩

/-- Two words that are laid as a list. -/
theorem LstW.two (w : World) (a b : Int) (t : TypeId) : LstW (w.alloc (.cells #[.int .u64 a, .int .u64 b] t)) (some ⟨w.heap.size, 0, none⟩) 2 2 [a, b] := by
  have h := World.rowIs_alloc w #[.int .u64 a, .int .u64 b] t (fun i => if i = 0 then .int .u64 a else .int .u64 b) (by
    intro i hi
    rcases (show i = 0 ∨ i = 1 from by have : i < 2 := hi
                                       omega) with rfl | rfl <;> rfl)
  refine LstW.row h rfl (fun i hi => ?_)
  rcases (show i = 0 ∨ i = 1 from by omega) with rfl | rfl <;> rfl

end Go.Proofs.Ytfkalnehomgccaa.Fx
