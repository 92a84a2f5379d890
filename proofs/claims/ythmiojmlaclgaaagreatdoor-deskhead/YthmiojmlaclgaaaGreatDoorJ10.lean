/- What optim's moved and momentum return. -/
import Derived.Test.YthmiojmlaclgaaaGreatDoorJ09
import Derived.Test.YthmiojmlaclgaaaGreatDoorJ01
namespace Go.Proofs.YthmiojmlaclgaaaGreatDoor.Fx
open Go.RowKit

def movedG (ws ms : List Int) (rate : Int) (i : Nat) : Int := subI (ws.getD i 0) (mulI rate (ms.getD i 0))
def momG (keep : Int) (ms gs : List Int) (i : Nat) : Int := addI (mulI keep (ms.getD i 0)) (gs.getD i 0)

set_option maxHeartbeats 800000 in
theorem moved_own (a b : Option Addr) (la ca cb : Nat) (xs ys : List Int) (rate : Int) (w : World) (ha : Lst w a la ca xs) (hb : Lst w b la cb ys) (hl : la ≤ 200) :
    Calls Tryz.prog 192 #[.slice a la ca, .slice b la cb, .int .i64 rate] w fun e w' => e = .returned (.slice (some ⟨w.heap.size, 0, none⟩) la la) ∧ Arr w' w.heap.size la la (movedG xs ys rate) ∧ Below w.heap.size w w' := by
  have hmk := run_make_row' (P := Tryz.prog) 66 3 (.int .i64 0) 8 Tryz.underlying66 info3 rfl .i64 .i64 la (by omega) (by omega)
  go_enter Tryz.func192, Tryz.ntmps192
  go_wp2
  go_loopw [14] (fun i wr => ∃ k : Nat, k ≤ la ∧ i = .int .i64 k ∧ wr.rowIs w.heap.size 3 la (rowTo (movedG xs ys rate) k) ∧ Below w.heap.size w wr) (fun i _ => la - (intOf i).toNat)
  case atStart => exact ⟨0, Nat.zero_le _, rfl, rowTo_made (World.rowIs_made _ _ _ _), (Below.refl _ _).alloc (Nat.le_refl _) _⟩
  case round =>
    obtain ⟨k, hk, rfl, hrow, hbel⟩ := hrel
    have ha' := ha.below hbel (Nat.le_refl _)
    have hb' := hb.below hbel (Nat.le_refl _)
    clear ha hb hmk
    by_cases hlt : k < la
    · obtain ⟨b1, o1, x, rfl, _, c1, HX⟩ := ha'.at1 hlt
      obtain ⟨b2, o2, y, rfl, _, c2, HY⟩ := hb'.at1 hlt
      have c3 := rowTo_cell hrow hlt
      have f3 := hrow.frozen k
      go_wp2
      go_region_with ((first | (go_at_call 190; refine (mul_calls _ _ _).mono ?_; rintro e w' ⟨rfl, nd, rfl⟩) | (go_at_call 140; refine (sub_calls _ _ _).mono ?_; rintro e w' ⟨rfl, hw'⟩; replace hw' := hw'.symm; subst hw')))
      all_goals go_wp2
      all_goals
        go_roundw
        case rel =>
          have st := rowTo_step (g := movedG xs ys rate) hrow
          simp only [movedG, HX.out, HY.out] at st
          exact ⟨k + 1, by omega, by go_num, rowIs_drewN st _, below_drewN (hbel.setCell (Nat.le_refl _) _) _⟩
        case measure => simp [intOf]; omega
    · obtain rfl : k = la := by omega
      go_wp2
      go_ret
      exact ⟨rfl, Arr.row hrow, hbel⟩

set_option maxHeartbeats 800000 in
theorem momentum_own (keep : Int) (a b : Option Addr) (la ca cb : Nat) (xs ys : List Int) (w : World) (ha : Lst w a la ca xs) (hb : Lst w b la cb ys) (hl : la ≤ 200) :
    Calls Tryz.prog 194 #[.int .i64 keep, .slice a la ca, .slice b la cb] w fun e w' => e = .returned (.slice (some ⟨w.heap.size, 0, none⟩) la la) ∧ Arr w' w.heap.size la la (momG keep xs ys) ∧ Below w.heap.size w w' := by
  have hmk := run_make_row' (P := Tryz.prog) 66 3 (.int .i64 0) 8 Tryz.underlying66 info3 rfl .i64 .i64 la (by omega) (by omega)
  go_enter Tryz.func194, Tryz.ntmps194
  go_wp2
  go_loopw [14] (fun i wr => ∃ k : Nat, k ≤ la ∧ i = .int .i64 k ∧ wr.rowIs w.heap.size 3 la (rowTo (momG keep xs ys) k) ∧ Below w.heap.size w wr) (fun i _ => la - (intOf i).toNat)
  case atStart => exact ⟨0, Nat.zero_le _, rfl, rowTo_made (World.rowIs_made _ _ _ _), (Below.refl _ _).alloc (Nat.le_refl _) _⟩
  case round =>
    obtain ⟨k, hk, rfl, hrow, hbel⟩ := hrel
    have ha' := ha.below hbel (Nat.le_refl _)
    have hb' := hb.below hbel (Nat.le_refl _)
    clear ha hb hmk
    by_cases hlt : k < la
    · obtain ⟨b1, o1, x, rfl, _, c1, HX⟩ := ha'.at1 hlt
      obtain ⟨b2, o2, y, rfl, _, c2, HY⟩ := hb'.at1 hlt
      have c3 := rowTo_cell hrow hlt
      have f3 := hrow.frozen k
      go_wp2
      go_region_with ((first | (go_at_call 190; refine (mul_calls _ _ _).mono ?_; rintro e w' ⟨rfl, nd, rfl⟩) | (go_at_call 200; refine (add_calls _ _ _).mono ?_; rintro e w' ⟨rfl, hw'⟩; replace hw' := hw'.symm; subst hw')))
      all_goals go_wp2
      all_goals
        go_roundw
        case rel =>
          have st := rowTo_step (g := momG keep xs ys) hrow
          simp only [momG, HX.out, HY.out] at st
          exact ⟨k + 1, by omega, by go_num, rowIs_drewN st _, below_drewN (hbel.setCell (Nat.le_refl _) _) _⟩
        case measure => simp [intOf]; omega
    · obtain rfl : k = la := by omega
      go_wp2
      go_ret
      exact ⟨rfl, Arr.row hrow, hbel⟩

end Go.Proofs.YthmiojmlaclgaaaGreatDoor.Fx
