/- What coachkeep.made returns. -/
import Derived.Test.YtfkalnehomgccaaAppsV
import Derived.Test.YtfkalnehomgccaaBindP
import Derived.Test.YtfkalnehomgccaaTreePathsWalk
import Derived.Deep.DeepCutAuto
import Derived.Deep.CutBlock
import Derived.Deep.RegionHeld3
namespace Go.Proofs.Ytfkalnehomgccaa.Fx
open Go.RowKit

set_option maxRecDepth 100000 in
theorem made_calls (a : Option Addr) (n c : Nat) (l : List Int) (w : World) (h : LstW w a n c l) (h2 : 2 ≤ n) (hn : n ≤ 201) (hok : okL l) :
    Calls Try.prog 18 #[.slice a n c] w fun e w' => e = .returned (.int .u64 (madeP l)) ∧ Below w.heap.size w w' := by
  have hlen := h.len
  have hcap := h.cap
  obtain ⟨b, off, x, rfl, hbl, hc, HX⟩ := h.at1 (k := 0) (by omega)
  have ht := h.tail (by omega) (k := 1) (by omega)
  have hx : okW x := by rw [← HX.out]; exact hok 0 (by omega)
  have hokt : okL (l.drop 1) := fun i hi => by
    rw [List.length_drop] at hi
    have e : (l.drop 1).getD i 0 = l.getD (1 + i) 0 := by rw [List.getD_eq_getElem?_getD, List.getElem?_drop, ← List.getD_eq_getElem?_getD]
    rw [e]
    exact hok _ (by omega)
  have HM : Hid (ofA x (l.drop 1) (n - 1) = madeP l) := by
    show ofA x (l.drop 1) (n - 1) = madeP l
    unfold ofA madeP
    rw [if_neg (by omega)]
    cases l with
    | nil => simp at hlen; omega
    | cons y r =>
      have e := HX.out
      simp at e
      rw [← e]
      rfl
  have HB : Hid (bigI (n - 1) = 0) := by show _ = _; unfold bigI; rw [if_neg (by omega)]
  have hBd : Below w.heap.size w w.drew := below_drewN (Below.refl _ _) 1
  have OF := dOf_calls x hx _ _ _ _ w.drew (ht.below hBd (Nat.le_refl _)) hokt
  rw [HM.out, HB.out] at OF
  rw [Nat.add_zero] at hc
  have S0 : w.drew.cell? ⟨b, off, none⟩ = some (.int .u64 x) := hc
  have k1 : (1 : Int) ≤ (n : Int) := by omega
  have k2 : (n : Int) ≤ (c : Int) := by omega
  have k3 : ¬ c = 1 := by omega
  have k4 : ¬ c - 1 = 0 := by omega
  have k5 : (0 : Int) < (n : Int) := by omega
  have k6 : 0 < n := by omega
  have k7 : ¬ n ≤ 0 := by omega
  have HS : Hid (∀ q, Below w.heap.size w q → q.cell? ⟨b, off, none⟩ = some (.int .u64 x)) := fun q hq => (hq.cell (p := ⟨b, off, none⟩) hbl).trans hc
  clear hokt hx hok h ht HX HM HB
  go_enter Try.func18, Try.ntmps18
  go_wp2_with fail
  go_region_held3 (fun q => q.cell? ⟨b, off, none⟩ = some (.int .u64 x)) (first | with_reducible exact S1 | with_reducible exact S0) ((go_at_call 31; refine OF.mono ?_; rintro e w1 ⟨rfl, hw1⟩; have S1 := HS.out _ (hBd.trans hw1)))
  all_goals
    go_wp2_with fail
    go_ret
    exact ⟨rfl, hBd.trans hw1⟩
end Go.Proofs.Ytfkalnehomgccaa.Fx
