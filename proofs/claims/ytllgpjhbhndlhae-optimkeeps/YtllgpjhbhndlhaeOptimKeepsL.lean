/- What the walk of OptimKeeps leans on: small facts in plain numbers, and two lists that are laid. -/
import Derived.Test.YtllgpjhbhndlhaeLawBox
import Derived.Test.YtllgpjhbhndlhaeOptKeep
import Derived.Deep.DeepCutAuto
import Derived.Deep.CutBlock
namespace Go.Proofs.Ytllgpjhbhndlhae.Fx
open Go.RowKit

theorem pairK (w : World) (x y : Int) (t : TypeId) : Lst (w.alloc (.cells #[.int .i64 x, .int .i64 y] t)) (some ⟨w.heap.size, 0, none⟩) 2 2 [x, y] := by
  refine Lst.row (World.rowIs_alloc w #[.int .i64 x, .int .i64 y] t (fun i => if i = 0 then .int .i64 x else .int .i64 y) ?_) rfl ?_
  · intro i hi
    rcases (show i = 0 ∨ i = 1 from by have : i < 2 := hi
                                       omega) with rfl | rfl <;> rfl
  · intro i hi
    rcases (show i = 0 ∨ i = 1 from by omega) with rfl | rfl <;> rfl
theorem clip_case : clipL [-4, 2] 2 2 = [-2, 1] := by decide
theorem clip_fine : clipE 2 2 = 0 := by decide

theorem rate_cases (c : Cfg) (step : Int) : (rateE c step = 0 ∧ 0 ≤ rateI c step ∧ rateI c step ≤ c.rate) ∨ rateE c step = 1 := by
  by_cases h : cfgB c = true ∧ inB step 0 (c.steps - 1) = true
  · have b := rateV_bd h.1 h.2
    have e : rateI c step = rateV c step := if_pos h
    exact .inl ⟨if_pos h, by rw [e]; exact b.1, by rw [e]; exact b.2⟩
  · exact .inr (if_neg h)
theorem clip_ok {la : Nat} {most : Int} (h : clipE la most = 0) : la ≤ 200 ∧ 0 ≤ most := by
  unfold clipE at h
  by_cases h1 : 200 < la
  · rw [if_pos h1] at h; cases h
  · rw [if_neg h1] at h
    by_cases h2 : inB most 0 2147483647 = true
    · exact ⟨by omega, (in_is h2).1⟩
    · rw [if_neg h2] at h; cases h
theorem minus_clipL {xs : List Int} {la : Nat} {most : Int} (h : clipE la most = 0) : clipL (minusL xs la) most la = (List.range la).map (fun i => -clipG xs most la i) := by
  unfold clipL
  rw [if_pos h]
  exact List.map_congr_left (fun i hi => minus_clip (List.mem_range.1 hi))
theorem step_zero {c : Cfg} {ws ms gs : List Int} {n1 n2 n3 : Nat} (hl : ws.length = n1) : (stepE c ws ms n1 n2 n3 0 = 0 ∧ stepW c ws ms gs n1 n2 n3 0 = ws) ∨ (stepE c ws ms n1 n2 n3 0 ≠ 0 ∧ stepW c ws ms gs n1 n2 n3 0 = []) := by
  by_cases h : stepE c ws ms n1 n2 n3 0 = 0
  · refine .inl ⟨h, ?_⟩
    unfold stepW
    rw [if_pos h]
    unfold stepE at h
    by_cases h1 : cfgB c = true
    · rw [if_pos h1] at h
      by_cases h2 : stepF c ws ms n1 n2 n3 = true
      · exact stepW_still hl h1 h2
      · rw [if_neg h2] at h; cases h
    · rw [if_neg h1] at h; cases h
  · exact .inr ⟨h, by unfold stepW; rw [if_neg h]⟩

end Go.Proofs.Ytllgpjhbhndlhae.Fx
