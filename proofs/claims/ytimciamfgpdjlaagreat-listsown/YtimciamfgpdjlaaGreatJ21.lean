/- What coachkeep.small and taught return: that a small course goes on; journal.Make's answer is handed in. -/
import Derived.Test.YtimciamfgpdjlaaGreatJ20
import Derived.Test.YtimciamfgpdjlaaGreatJ18
import Derived.Test.YtimciamfgpdjlaaGreatJ00
import Derived.Deep.RegionHeld3
namespace Go.Proofs.YtimciamfgpdjlaaGreat.Fx
open Go.RowKit

theorem one_lst (w : World) (x : Int) (t : TypeId) : Lst (w.alloc (.cells #[.int .i64 x] t)) (some ⟨w.heap.size, 0, none⟩) 1 1 [x] := by
  refine Lst.row (World.rowIs_alloc w #[.int .i64 x] t (fun _ => .int .i64 x) ?_) rfl ?_
  · intro i hi
    obtain rfl : i = 0 := by have : i < 1 := hi
                             omega
    rfl
  · intro i hi
    obtain rfl : i = 0 := by omega
    rfl

set_option maxHeartbeats 1600000 in
theorem small_calls (w : World) : Calls Tryz.prog 66 #[] w fun e w' => ∃ b k X, e = .returned (.tuple #[.agg #[.int .i64 1, .int .i64 1, .int .i64 1, .int .u64 1, .int .i64 1, .int .i64 3, .int .i64 6554, .int .i64 0, .int .i64 0, .int .i64 0, .int .i64 0], .slice b 1 k]) ∧ Exs w' b 1 k X smallI smallO ∧ (X 0).n = 1 ∧ (X 0).m = 1 ∧ Below w.heap.size w w' := by
  have h0 := low_alloc w (.cells smallC.cells 24)
  obtain ⟨v0, H0⟩ : ∃ q, Hid (q = w.alloc (.cells smallC.cells 24)) := ⟨_, rfl⟩
  have hs0 : v0.heap.size = w.heap.size + 1 := by rw [H0.out]; simp
  rw [← H0.out] at h0
  have h1 := low_alloc v0 (.cells #[.int .i64 65536] 3)
  have l1 := one_lst v0 65536 3
  obtain ⟨v1, H1⟩ : ∃ q, Hid (q = v0.alloc (.cells #[.int .i64 65536] 3)) := ⟨_, rfl⟩
  have hs1 : v1.heap.size = w.heap.size + 1 + 1 := by rw [H1.out]; simp [hs0]
  rw [← H1.out] at h1 l1
  have h2 := low_alloc v1 (.cells #[.int .i64 131072] 3)
  have l2 := one_lst v1 131072 3
  obtain ⟨v2, H2⟩ : ∃ q, Hid (q = v1.alloc (.cells #[.int .i64 131072] 3)) := ⟨_, rfl⟩
  have hs2 : v2.heap.size = w.heap.size + 1 + 1 + 1 := by rw [H2.out]; simp [hs1]
  rw [← H2.out] at h2 l2
  rw [hs0] at l1
  rw [hs1] at l2
  have h3 := low_alloc v2 (.cells #[.slice (some ⟨w.heap.size + 1, 0, none⟩) 1 1, .slice (some ⟨w.heap.size + 1 + 1, 0, none⟩) 1 1] 64)
  have row := fn2_alloc v2 (.slice (some ⟨w.heap.size + 1, 0, none⟩) 1 1) (.slice (some ⟨w.heap.size + 1 + 1, 0, none⟩) 1 1) 64
  obtain ⟨v3, H3⟩ : ∃ q, Hid (q = v2.alloc (.cells #[.slice (some ⟨w.heap.size + 1, 0, none⟩) 1 1, .slice (some ⟨w.heap.size + 1 + 1, 0, none⟩) 1 1] 64)) := ⟨_, rfl⟩
  rw [← H3.out] at h3 row
  rw [hs2] at row
  have b1 := h0.trans (h1.mono h0.size)
  have b2 := b1.trans (h2.mono b1.size)
  have b3 := b2.trans (h3.mono b2.size)
  have k1 := h1.trans ((h2.trans (h3.mono h2.size)).mono h1.size)
  have kc : BoxC v3 w.heap.size smallC := by
    rw [H0.out] at k1
    exact boxC k1 (by simp)
  obtain ⟨c0, c1, c2, c3, c4, c5, c6, c7, c8, c9, c10⟩ := kc
  have l1' := (l1.below h2 (Nat.le_refl _)).below h3 (Nat.le_refl _)
  have l2' := l2.below h3 (Nat.le_refl _)
  have hcl := fn2_cells row
  have hlt := row.lt
  clear l1 l2 h0 h1 h2 h3 b1 b2 k1 hs1 hs0 hs2
  simp only [smallC, Cfg.cells] at *
  go_enter Tryz.func66, Tryz.ntmps66
  go_wp2_with fail
  rw [← H0.out, ← H1.out, ← H2.out, ← H3.out]
  refine bodyPost_ret (v := .tuple #[.agg #[.int .i64 1, .int .i64 1, .int .i64 1, .int .u64 1, .int .i64 1, .int .i64 3, .int .i64 6554, .int .i64 0, .int .i64 0, .int .i64 0, .int .i64 0], .slice (some ⟨w.heap.size + 1 + 1 + 1, 0, none⟩) 1 1]) (by simp [results, Tryz.results66, go_sem, c0, c1, c2, c3, c4, c5, c6, c7, c8, c9, c10]) rfl ?_
  refine ⟨_, _, fun _ => ⟨some ⟨w.heap.size + 1, 0, none⟩, 1, 1, some ⟨w.heap.size + 1 + 1, 0, none⟩, 1, 1⟩, rfl, ⟨Nat.le_refl _, .inr ⟨_, _, rfl, hlt, fun i hi => ?_⟩⟩, rfl, rfl, b3⟩
  obtain rfl : i = 0 := by omega
  exact ⟨hcl.1, hcl.2, ⟨l1', l2'⟩⟩

/-- What journal.Make is to answer, whatever is handed in. -/
def MakeSays : Prop := ∀ (c : Cfg) (a : Option Addr) (n cap : Nat) (X : Nat → Exm) (DI DO : Nat → List Int) (m : Int) (w : World), okW c.seed → Exs w a n cap X DI DO →
  Calls Tryz.prog 21 #[c.val, .slice a n cap, .int .i64 m] w fun e w' => ∃ b k R, e = .returned (.tuple #[.slice b (mkN c n X DI DO m) k, .int .i64 (mkE c n X DI DO m)]) ∧ Recs w' b (mkN c n X DI DO m) k R (jrBatch c n) ∧ JrN (mkN c n X DI DO m) R (mkRV c) (mkRO c n DI DO) (mkCH c n DI DO) ∧ (∀ j, j < mkN c n X DI DO m → (R j).n ≤ 8) ∧ Below w.heap.size w w'
theorem small_course {X : Nat → Exm} (h1 : (X 0).n = 1) (h2 : (X 0).m = 1) : courseI smallC 1 X smallI smallO = 0 := by
  have he : allEx smallC 1 X smallI smallO = true := allEx_yes (fun i hi => by
    obtain rfl : i = 0 := by omega
    unfold exB
    rw [h1, h2]
    decide)
  unfold courseI
  rw [if_pos small_cfg, if_neg (by omega), if_neg (by omega), if_pos he]

set_option maxRecDepth 100000 in
set_option maxHeartbeats 800000 in
theorem taught_calls (HM : MakeSays) (w : World) : Calls Tryz.prog 19 #[] w fun e w' => e = .returned (.bool true) ∧ Below w.heap.size w w' := by
  have hs : okW smallC.seed := ⟨by decide, by decide⟩
  have hz : (sizeN smallC).toNat = 4 := by decide
  have HMk : Hid MakeSays := HM
  clear HM
  go_enter Tryz.func19, Tryz.ntmps19
  go_wp2_with fail
  refine (small_calls _).mono ?_
  rintro e w1 ⟨bd, kd, X, rfl, hx, x1, x2, hw1⟩
  have hco := small_course x1 x2
  obtain ⟨W1, HW1⟩ : ∃ q, Hid (q = w1.alloc (.cells #[.int .i64 1, .int .i64 1, .int .i64 1, .int .u64 1, .int .i64 1, .int .i64 3, .int .i64 6554, .int .i64 0, .int .i64 0, .int .i64 0, .int .i64 0] 24)) := ⟨_, rfl⟩
  have hal : Below w1.heap.size w1 W1 := by rw [HW1.out]; exact low_alloc w1 (.cells #[.int .i64 1, .int .i64 1, .int .i64 1, .int .u64 1, .int .i64 1, .int .i64 3, .int .i64 6554, .int .i64 0, .int .i64 0, .int .i64 0, .int .i64 0] 24)
  have KB : Hid (∀ q, Below W1.heap.size W1 q → BoxC q w1.heap.size smallC) := fun q hq => by
    rw [HW1.out] at hq
    exact boxC (c := smallC) hq (by simp)
  have hx1 := hx.below hal (Nat.le_refl _)
  have r1 : runE smallC 1 X smallI smallO 2 = 0 := by unfold runE; rw [if_pos hco, if_pos (by decide)]
  have r2 : runN smallC 1 X smallI smallO 2 = 3 := by unfold runN; rw [r1, if_pos rfl]; rfl
  have m1 : mkE smallC 1 X smallI smallO 2 = 0 := by unfold mkE; rw [if_pos hco, if_pos (by decide)]
  have m2 : mkN smallC 1 X smallI smallO 2 = 2 := by unfold mkN; rw [m1, if_pos rfl]; rfl
  have hl0 : (stW smallC 1 smallI smallO 0).length = 4 := by unfold stW; rw [hz]; exact (stateP_len smallC 1 smallI smallO 4 0).1
  have RUN : Hid (Calls Tryz.prog 48 #[.agg #[.int .i64 1, .int .i64 1, .int .i64 1, .int .u64 1, .int .i64 1, .int .i64 3, .int .i64 6554, .int .i64 0, .int .i64 0, .int .i64 0, .int .i64 0], .slice bd 1 kd, .int .i64 2] W1 fun e w' => ∃ bl kl Y, e = .returned (.tuple #[.slice bl 3 kl, .int .i64 0]) ∧ Exs w' bl 3 kl Y (stW smallC 1 smallI smallO) (stM smallC 1 smallI smallO) ∧ Below W1.heap.size W1 w') := by
    have h := tRun_calls smallC hs bd 1 kd X smallI smallO 2 W1 hx1
    rw [r1, r2] at h
    exact h
  have MAKE : Hid (∀ q, Below W1.heap.size W1 q → Calls Tryz.prog 21 #[.agg #[.int .i64 1, .int .i64 1, .int .i64 1, .int .u64 1, .int .i64 1, .int .i64 3, .int .i64 6554, .int .i64 0, .int .i64 0, .int .i64 0, .int .i64 0], .slice bd 1 kd, .int .i64 2] q fun e w' => ∃ b k R, e = .returned (.tuple #[.slice b 2 k, .int .i64 0]) ∧ Recs w' b 2 k R (jrBatch smallC 1) ∧ JrN 2 R (mkRV smallC) (mkRO smallC 1 smallI smallO) (mkCH smallC 1 smallI smallO) ∧ Below q.heap.size q w') := fun q hq => by
    have h := HMk.out smallC bd 1 kd X smallI smallO 2 q hs (hx1.below hq (Nat.le_refl _))
    rw [m1, m2] at h
    refine h.mono ?_
    rintro e w' ⟨b, k, R, he, g1, g2, _, g3⟩
    exact ⟨b, k, R, he, g1, g2, g3⟩
  have hch : mkCH smallC 1 smallI smallO 1 ≠ mkCH smallC 1 smallI smallO 2 := by unfold mkCH; rw [hz]; exact small_chain
  have hbt : jrBatch smallC 1 0 = [0] := small_batch
  have KC : Hid (∀ q, Below W1.heap.size W1 q → q.cell? ⟨w1.heap.size, 0, none⟩ = some (.int .i64 1) ∧ q.cell? ⟨w1.heap.size, 1, none⟩ = some (.int .i64 1) ∧ q.cell? ⟨w1.heap.size, 2, none⟩ = some (.int .i64 1) ∧ q.cell? ⟨w1.heap.size, 3, none⟩ = some (.int .u64 1) ∧ q.cell? ⟨w1.heap.size, 4, none⟩ = some (.int .i64 1) ∧ q.cell? ⟨w1.heap.size, 5, none⟩ = some (.int .i64 3) ∧ q.cell? ⟨w1.heap.size, 6, none⟩ = some (.int .i64 6554) ∧ q.cell? ⟨w1.heap.size, 7, none⟩ = some (.int .i64 0) ∧ q.cell? ⟨w1.heap.size, 8, none⟩ = some (.int .i64 0) ∧ q.cell? ⟨w1.heap.size, 9, none⟩ = some (.int .i64 0) ∧ q.cell? ⟨w1.heap.size, 10, none⟩ = some (.int .i64 0)) := fun q hq => by
    obtain ⟨x0, x1, x2, x3, x4, x5, x6, x7, x8, x9, x10⟩ := KB.out q hq
    exact ⟨x0, x1, x2, x3, x4, x5, x6, x7, x8, x9, x10⟩
  clear hx hx1 hco r1 r2 m1 m2 x1 x2 HMk hs hz KB
  generalize stW smallC 1 smallI smallO = SW at *
  generalize stM smallC 1 smallI smallO = SM at *
  generalize jrBatch smallC 1 = DB at *
  generalize mkRV smallC = RV at *
  generalize mkRO smallC 1 smallI smallO = RO at *
  generalize mkCH smallC 1 smallI smallO = CH at *
  have HCH : Hid (CH 1 ≠ CH 2) := hch
  have HBT : Hid (DB 0 = [0]) := hbt
  have HL0 : Hid ((SW 0).length = 4) := hl0
  clear hch hbt hl0
  go_wp2_with fail
  rw [← HW1.out]
  clear HW1
  refine RUN.out.mono ?_
  rintro e w2 ⟨bl, kl, Y, rfl, exs, T⟩
  obtain ⟨c0, c1, c2, c3, c4, c5, c6, c7, c8, c9, c10⟩ := KC.out _ T
  go_wp2_with fail
  refine (MAKE.out _ T).mono ?_
  rintro e w3 ⟨br, kr, R, rfl, rc, jn, hw3⟩
  replace exs := exs.below hw3 (Nat.le_refl _)
  replace T := T.trans (hw3.mono T.size)
  clear c0 c1 c2 c3 c4 c5 c6 c7 c8 c9 c10 RUN MAKE KC hw3
  have TT := hw1.trans ((hal.trans (T.mono hal.size)).mono hw1.size)
  obtain ⟨lb, lo, rfl, e1, _, hin⟩ := exs.at (show 0 < 3 by omega)
  obtain ⟨rb, ro, rfl, hr⟩ := rc.at (show 0 < 2 by omega)
  obtain ⟨_, e3, _, _, e4, hb⟩ := hr 0 (by omega)
  obtain ⟨e2, _, _, _, e5, _⟩ := hr 1 (by omega)
  obtain ⟨_, _, _, j0⟩ := jn 0 (by omega)
  obtain ⟨j1, _, _, j2⟩ := jn 1 (by omega)
  have hn4 : (Y 0).n = 4 := by rw [← hin.i.len]; exact HL0.out
  rw [HBT.out] at hb
  have hn1 : (R 0).n = 1 := by rw [← hb.len]; rfl
  rw [hn1] at e3 hb
  rw [hn4] at e1
  rw [j0] at e4
  rw [j2] at e5
  rw [j1] at e2
  have hne : (CH (0 + 1) != CH (1 + 1)) = true := by rw [bne_iff_ne]; exact HCH.out
  generalize CH (0 + 1) = C1 at *
  generalize CH (1 + 1) = C2 at *
  generalize (Y 0).a = ya at *
  generalize (Y 0).k = yk at *
  generalize (R 0).a = ra at *
  generalize (R 0).k = rk at *
  have KS : Hid (∀ q, Below w3.heap.size w3 q → q.cell? ⟨lb, lo, none⟩ = some (.slice ya 4 yk) ∧ q.cell? ⟨rb, ro + 5, none⟩ = some (.int .i64 1) ∧ q.cell? ⟨rb, ro + 1, none⟩ = some (.slice ra 1 rk) ∧ q.cell? ⟨rb, ro + 4, none⟩ = some (.int .u64 C1) ∧ q.cell? ⟨rb, ro + 5 + 4, none⟩ = some (.int .u64 C2)) := fun q hq => ⟨(hq.cell (p := ⟨lb, lo, none⟩) (cell_lt e1)).trans e1, (hq.cell (p := ⟨rb, ro + 5, none⟩) (cell_lt e2)).trans e2, (hq.cell (p := ⟨rb, ro + 1, none⟩) (cell_lt e3)).trans e3, (hq.cell (p := ⟨rb, ro + 4, none⟩) (cell_lt e4)).trans e4, (hq.cell (p := ⟨rb, ro + 5 + 4, none⟩) (cell_lt e5)).trans e5⟩
  have EQ : Hid (∀ q b, Below w3.heap.size w3 q → Lst q (some ⟨b, 0, none⟩) 1 1 [0] → Calls Tryz.prog 38 #[.slice ra 1 rk, .slice (some ⟨b, 0, none⟩) 1 1] q fun e w' => e = .returned (.bool true) ∧ Below w3.heap.size w3 w') := fun q b hq hl => by
    have h := eq_calls ra (some ⟨b, 0, none⟩) 1 rk 1 1 [0] [0] q (hb.below hq (Nat.le_refl _)) hl (by omega)
    rw [decide_eq_true rfl] at h
    refine h.mono ?_
    rintro e w' ⟨he, k, rfl⟩
    exact ⟨he, below_drewN hq k⟩
  have T0 : Below w3.heap.size w3 w3 := Below.refl _ _
  have hle : w3.heap.size ≤ w3.heap.size := Nat.le_refl _
  have Ba : Below w3.heap.size w3 (w3.alloc (.cells #[.int .i64 0] 3)).drew := Below.drew (T0.alloc hle _)
  have La : Lst (w3.alloc (.cells #[.int .i64 0] 3)).drew (some ⟨w3.heap.size, 0, none⟩) 1 1 [0] := (one_lst w3 0 3).drew
  clear exs rc jn hin hr e1 e2 e3 e4 e5 hb HCH HL0 HBT j0 j1 j2 hn1 hn4
  go_wp2_with fail
  go_region_held3 (fun q => q.cell? ⟨lb, lo, none⟩ = some (.slice ya 4 yk) ∧ q.cell? ⟨rb, ro + 5, none⟩ = some (.int .i64 1) ∧ q.cell? ⟨rb, ro + 1, none⟩ = some (.slice ra 1 rk) ∧ q.cell? ⟨rb, ro + 4, none⟩ = some (.int .u64 C1) ∧ q.cell? ⟨rb, ro + 5 + 4, none⟩ = some (.int .u64 C2)) ((with_reducible refine KS.out _ ?_; iterate 6 (first | done | with_reducible exact V1 | with_reducible exact T0 | with_reducible refine Below.drew ?_ | with_reducible refine Below.alloc ?_ hle _)))
    ((go_at_call 38; refine (EQ.out _ _ Ba La).mono ?_; rintro e v1 ⟨rfl, V1⟩))
  all_goals
    go_wp2_with fail
    go_ret
    exact ⟨rfl, TT.trans (V1.mono TT.size)⟩
end Go.Proofs.YtimciamfgpdjlaaGreat.Fx
