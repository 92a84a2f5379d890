/- Five cells in one block of memory: how they are laid, read and written; no program is spoken of. -/
import Derived.Test.YtfcnnolpcnacoaaDoorLists
namespace Go.Proofs.YtfcnnolpcnacoaaDoor.Fx
open Go.RowKit

def fn5 (v0 v1 v2 v3 v4 : Value) (i : Nat) : Value := if i = 0 then v0 else if i = 1 then v1 else if i = 2 then v2 else if i = 3 then v3 else v4
theorem lt5 {i : Nat} (h : i < 5) : i = 0 ∨ i = 1 ∨ i = 2 ∨ i = 3 ∨ i = 4 := by omega
theorem fn5_alloc (w : World) (v0 v1 v2 v3 v4 : Value) (t : TypeId) : (w.alloc (.cells #[v0, v1, v2, v3, v4] t)).rowIs w.heap.size t 5 (fn5 v0 v1 v2 v3 v4) :=
  World.rowIs_alloc w #[v0, v1, v2, v3, v4] t (fn5 v0 v1 v2 v3 v4) (by
    intro i hi
    rcases lt5 hi with rfl | rfl | rfl | rfl | rfl <;> rfl)
structure Box5 (w : World) (b : Nat) (v0 v1 v2 v3 v4 : Value) : Prop where
  c0 : w.cell? ⟨b, 0, none⟩ = some v0
  c1 : w.cell? ⟨b, 1, none⟩ = some v1
  c2 : w.cell? ⟨b, 2, none⟩ = some v2
  c3 : w.cell? ⟨b, 3, none⟩ = some v3
  c4 : w.cell? ⟨b, 4, none⟩ = some v4
theorem fn5_box {w : World} {b t : Nat} {v0 v1 v2 v3 v4 : Value} (h : w.rowIs b t 5 (fn5 v0 v1 v2 v3 v4)) : Box5 w b v0 v1 v2 v3 v4 :=
  ⟨h.cell (i := 0) (by omega), h.cell (i := 1) (by omega), h.cell (i := 2) (by omega), h.cell (i := 3) (by omega), h.cell (i := 4) (by omega)⟩
theorem fn5_set {w : World} {b t : Nat} {f : Nat → Value} (h : w.rowIs b t 5 f) (v0 v1 v2 v3 v4 : Value) :
    (((((w.setCell ⟨b, 0, none⟩ v0).setCell ⟨b, 1, none⟩ v1).setCell ⟨b, 2, none⟩ v2).setCell ⟨b, 3, none⟩ v3).setCell ⟨b, 4, none⟩ v4).rowIs b t 5 (fn5 v0 v1 v2 v3 v4) := by
  refine (((((h.set 0 v0).set 1 v1).set 2 v2).set 3 v3).set 4 v4).congr (fun i hi => ?_)
  rcases lt5 hi with rfl | rfl | rfl | rfl | rfl <;> rfl

theorem below_set5 {Bd : Nat} {W q : World} {b : Nat} (h : Below Bd W q) (hb : Bd ≤ b) (v0 v1 v2 v3 v4 : Value) :
    Below Bd W (((((q.setCell ⟨b, 0, none⟩ v0).setCell ⟨b, 1, none⟩ v1).setCell ⟨b, 2, none⟩ v2).setCell ⟨b, 3, none⟩ v3).setCell ⟨b, 4, none⟩ v4) :=
  ((((h.setCell hb v0).setCell hb v1).setCell hb v2).setCell hb v3).setCell hb v4
theorem below_set2 {Bd : Nat} {W q : World} {b : Nat} (h : Below Bd W q) (hb : Bd ≤ b) (v0 v1 : Value) : Below Bd W ((q.setCell ⟨b, 0, none⟩ v0).setCell ⟨b, 1, none⟩ v1) := (h.setCell hb v0).setCell hb v1
end Go.Proofs.YtfcnnolpcnacoaaDoor.Fx
