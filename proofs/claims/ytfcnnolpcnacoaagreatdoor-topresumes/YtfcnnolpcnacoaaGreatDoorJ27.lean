/- A small course in plain numbers: its records' chains are not the same. -/
import Derived.Test.YtfcnnolpcnacoaaGreatDoorJ26
import Derived.Test.YtfcnnolpcnacoaaGreatDoorJ04
import Derived.Deep.RegionHeld3
namespace Go.Proofs.YtfcnnolpcnacoaaGreatDoor.Fx
open Go.RowKit

def smallC : Cfg := ⟨1, 1, 1, 1, 1, 3, 6554, 0, 0, 0, 0⟩
def smallI (_ : Nat) : List Int := [65536]
def smallO (_ : Nat) : List Int := [131072]
set_option maxRecDepth 1000000 in
theorem small_chain : jrChain smallC 1 smallI smallO 4 1 ≠ jrChain smallC 1 smallI smallO 4 2 := by decide +kernel
theorem small_cfg : cfgB smallC = true := by decide +kernel
theorem small_batch : jrBatch smallC 1 0 = [0] := by decide +kernel
end Go.Proofs.YtfcnnolpcnacoaaGreatDoor.Fx

/- What coachkeep.small and taught return: that a small course goes on; journal.Make's answer is handed in. -/
namespace Go.Proofs.YtfcnnolpcnacoaaGreatDoor.Fx
open Go.RowKit

theorem one_lst (w : World) (x : Int) (t : TypeId) : Lst (w.alloc (.cells #[.int .i64 x] t)) (some ⟨w.heap.size, 0, none⟩) 1 1 [x] := by
  refine Lst.row (World.rowIs_alloc w #[.int .i64 x] t (fun _ => .int .i64 x) ?_) rfl ?_
  · intro i hi
    obtain rfl : i = 0 := by have : i < 1 := hi
                             omega
    rfl
  · intro i hi
    obtain rfl : i = 0 := by omega
    rfl

/-- What journal.Make is to answer, whatever is handed in. -/
def MakeSays : Prop := ∀ (c : Cfg) (a : Option Addr) (n cap : Nat) (X : Nat → Exm) (DI DO : Nat → List Int) (m : Int) (w : World), okW c.seed → Exs w a n cap X DI DO →
  Calls Tryz.prog 7 #[c.val, .slice a n cap, .int .i64 m] w fun e w' => ∃ b k R, e = .returned (.tuple #[.slice b (mkN c n X DI DO m) k, .int .i64 (mkE c n X DI DO m)]) ∧ Recs w' b (mkN c n X DI DO m) k R (jrBatch c n) ∧ JrN (mkN c n X DI DO m) R (mkRV c) (mkRO c n DI DO) (mkCH c n DI DO) ∧ (∀ j, j < mkN c n X DI DO m → (R j).n ≤ 8) ∧ Below w.heap.size w w'
theorem small_course {X : Nat → Exm} (h1 : (X 0).n = 1) (h2 : (X 0).m = 1) : courseI smallC 1 X smallI smallO = 0 := by
  have he : allEx smallC 1 X smallI smallO = true := allEx_yes (fun i hi => by
    obtain rfl : i = 0 := by omega
    unfold exB
    rw [h1, h2]
    decide)
  unfold courseI
  rw [if_pos small_cfg, if_neg (by omega), if_neg (by omega), if_pos he]
end Go.Proofs.YtfcnnolpcnacoaaGreatDoor.Fx
