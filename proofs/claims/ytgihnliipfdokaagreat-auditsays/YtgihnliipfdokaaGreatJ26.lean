/- What audit.Whole returns, whatever is handed in. -/
import Derived.Test.YtgihnliipfdokaaGreatJ23
namespace Go.Proofs.YtgihnliipfdokaaGreat.Fx
open Go.RowKit

set_option maxRecDepth 100000 in
set_option maxHeartbeats 1600000 in
theorem whole_calls (c : Cfg) (hs : okW c.seed) (a : Option Addr) (n cap : Nat) (X : Nat → Exm) (DI DO : Nat → List Int) (la : Option Addr) (ln lc : Nat) (L : Nat → Rcm) (DL : Nat → List Int) (w : World) (hx : Exs w a n cap X DI DO) (hl : Recs w la ln lc L DL) (hL : ∀ j, j < ln → (L j).n ≤ 9223372036854775807) :
    Calls Tryz.prog 9 #[c.val, .slice a n cap, .slice la ln lc] w fun e w' => e = .returned (.tuple #[.int .i64 (whN c n X DI DO ln L DL : Nat), .int .i64 (whE c n X DI DO ln)]) ∧ Below w.heap.size w w' := by
  have hal := low_alloc w (.cells c.cells 24)
  have CK := tcheck_calls c a n cap X DI DO _ (hx.below hal (Nat.le_refl _))
  have KB : Hid (∀ q, Below (w.alloc (.cells c.cells 24)).heap.size (w.alloc (.cells c.cells 24)) q → BoxC q w.heap.size c) := fun q hq => boxC hq (by simp)
  by_cases h0 : courseI c n X DI DO = 0
  · by_cases hm : (ln : Int) ≤ c.steps
    · have hE : whE c n X DI DO ln = 0 := by unfold whE; rw [if_pos h0, if_pos hm]
      have hN : whN c n X DI DO ln L DL = firstNo (auB c n DI DO L DL) ln := by unfold whN; rw [if_pos hE]
      rw [hE, hN]
      exact whole_good c hs a n cap X DI DO la ln lc L DL w hx hl hL h0 hm
    · have hE : whE c n X DI DO ln = 2 := by unfold whE; rw [if_pos h0, if_neg hm]
      have hN : whN c n X DI DO ln L DL = 0 := by unfold whN; rw [hE, if_neg (by decide)]
      rw [hE, hN]
      rw [h0] at CK
      have z1 : c.steps < (ln : Int) := by omega
      clear hE hN hx hl hL hs h0 hm
      obtain ⟨i, h, o, seed, batch, steps, crate, decay, how, keep, clip⟩ := c
      simp only [Cfg.val, Cfg.cells] at *
      obtain ⟨c0, c1, c2, c3, c4, c5, c6, c7, c8, c9, c10⟩ := KB.out _ (Below.refl _ _)
      dsimp only at c0 c1 c2 c3 c4 c5 c6 c7 c8 c9 c10
      go_enter Tryz.func9, Tryz.ntmps9
      go_wp2_with fail
      refine CK.mono ?_
      rintro e w1 ⟨rfl, hw1⟩
      clear c0 c1 c2 c3 c4 c5 c6 c7 c8 c9 c10
      obtain ⟨c0, c1, c2, c3, c4, c5, c6, c7, c8, c9, c10⟩ := KB.out _ hw1
      dsimp only at c0 c1 c2 c3 c4 c5 c6 c7 c8 c9 c10
      have T1 := hal.trans (hw1.mono hal.size)
      go_wp2_with fail
      go_ret2
      exact ⟨rfl, T1⟩
  · have hE : whE c n X DI DO ln = courseI c n X DI DO := by unfold whE; rw [if_neg h0]
    have hN : whN c n X DI DO ln L DL = 0 := by unfold whN; rw [hE, if_neg h0]
    have hb : (courseI c n X DI DO != 0) = true := by rw [bne_iff_ne]; exact h0
    rw [hE, hN]
    generalize courseI c n X DI DO = E at *
    clear hE hN hx hl hL hs
    obtain ⟨i, h, o, seed, batch, steps, crate, decay, how, keep, clip⟩ := c
    simp only [Cfg.val, Cfg.cells] at *
    obtain ⟨c0, c1, c2, c3, c4, c5, c6, c7, c8, c9, c10⟩ := KB.out _ (Below.refl _ _)
    dsimp only at c0 c1 c2 c3 c4 c5 c6 c7 c8 c9 c10
    go_enter Tryz.func9, Tryz.ntmps9
    go_wp2_with fail
    refine CK.mono ?_
    rintro e w1 ⟨rfl, hw1⟩
    go_wp2_with fail
    go_ret2
    exact ⟨rfl, hal.trans (hw1.mono hal.size)⟩
end Go.Proofs.YtgihnliipfdokaaGreat.Fx
