/- What spot.Chunk returns, whatever is handed in: what it tells lies in blocks of its own. -/
import Derived.Test.YtfkalnehomgccaaSpotQ
import Derived.Test.YtfkalnehomgccaaSpotS
import Derived.Test.YtfkalnehomgccaaJCat
import Derived.Test.YtfkalnehomgccaaCloneAny
import Derived.Test.YtfkalnehomgccaaAppsGr
import Derived.Deep.DeepCutAuto
import Derived.Deep.CutBlock
namespace Go.Proofs.Ytfkalnehomgccaa.Fx
open Go.RowKit

theorem OwnI.mono {base base' : Nat} {w : World} {v : Value} {xs : List Int} (h : OwnI base w v xs) (hb : base' ≤ base) : OwnI base' w v xs :=
  ⟨h.1, h.2.imp id fun ⟨g, cap, cur, h1, h2, h3⟩ => ⟨g, cap, cur, h1, Nat.le_trans hb h2, h3⟩⟩

set_option maxRecDepth 100000 in
set_option maxHeartbeats 800000 in
theorem chunk_own (a1 : Option Addr) (n1 k1 : Nat) (ws : List Int) (a2 : Option Addr) (n2 k2 : Nat) (ms : List Int) (i : Int) (w : World) (l1 : Lst w a1 n1 k1 ws) (l2 : Lst w a2 n2 k2 ms) (hz : n1 + n2 ≤ 4611686018427387904) :
    Calls Try.prog 8 #[.agg #[.slice a1 n1 k1, .slice a2 n2 k2], .int .i64 i] w fun e w' => ∃ v b2 m2 d2, e = .returned (.tuple #[v, .slice b2 m2 d2, .int .i64 (errP i (n1 + n2))]) ∧ m2 ≤ 50 ∧ OwnI w.heap.size w' v (ckP (ws ++ ms) (n1 + n2) i) ∧ LstW w' b2 m2 d2 (wayL (ws ++ ms) (n1 + n2) i) ∧ Below w.heap.size w w' := by
  have hal := low_alloc w (.cells #[.slice a1 n1 k1, .slice a2 n2 k2] 24)
  obtain ⟨c0, c1⟩ := two_cells w (.slice a1 n1 k1) (.slice a2 n2 k2) 24
  have l1' := l1.below hal (Nat.le_refl _)
  have l2' := l2.below hal (Nat.le_refl _)
  have hlen : (ws ++ ms).length = n1 + n2 := by rw [List.length_append, l1.len, l2.len]
  by_cases h : 200 < n1 + n2
  · have hE : errP i (n1 + n2) = 2 := by unfold errP errL; rw [if_pos (.inr h), if_neg (by omega), if_pos h]
    have hC : ckP (ws ++ ms) (n1 + n2) i = [] := by unfold ckP; rw [hE, if_neg (by decide)]
    have hW : wayL (ws ++ ms) (n1 + n2) i = [] := by unfold wayL; rw [if_neg (fun g => g.1 (.inr h))]
    rw [hE, hC, hW]
    have h1 : (n1 : Int) + (n2 : Int) > 200 := by omega
    clear l1 l2 l1' l2' hE hC hW hlen
    go_enter Try.func8, Try.ntmps8
    go_wp2_with fail
    go_ret3
    exact ⟨_, none, 0, 0, rfl, by omega, OwnI.nil _ _, LstW.nil _ _ _, hal⟩
  · have h1 : ¬ (n1 : Int) + (n2 : Int) > 200 := by omega
    have hsz := hal.size
    obtain ⟨W, HW⟩ : ∃ q, Hid (q = w.alloc (.cells #[.slice a1 n1 k1, .slice a2 n2 k2] 24)) := ⟨_, rfl⟩
    rw [← HW.out] at hal c0 c1 l1' l2' hsz
    have CC : Hid (Calls Try.prog 23 #[.slice (some ⟨W.heap.size, 0, none⟩) 2 2] (W.alloc (.cells #[.slice a1 n1 k1, .slice a2 n2 k2] 22)) fun e w' => ∃ a c, e = .returned (.slice a (n1 + n2) c) ∧ Lst w' a (n1 + n2) c (ws ++ ms) ∧ Below W.heap.size W w') := concat2 a1 a2 n1 n2 k1 k2 ws ms _ _ rfl l1' l2' (by omega)
    clear l1 l2 l1' l2'
    generalize ws ++ ms = L at *
    by_cases hE : errP i (n1 + n2) = 0
    rotate_left
    · have hne : (errP i (n1 + n2) != 0) = true := by rw [bne_iff_ne]; exact hE
      have hC : ckP L (n1 + n2) i = [] := by unfold ckP; rw [if_neg hE]
      have hW : wayL L (n1 + n2) i = [] := by
        unfold wayL
        rw [if_neg]
        intro g
        apply hE
        unfold errP
        rw [if_neg g.1, if_pos g.2]
      have HPA : Hid (∀ a c q, Lst q a (n1 + n2) c L → Calls Try.prog 24 #[.slice a (n1 + n2 : Nat) c, .int .i64 i] q fun e w' => ∃ a' N c', e = .returned (.tuple #[.slice a' N c', .int .i64 (errP i (n1 + n2))]) ∧ Below q.heap.size q w') := fun a c q hl => by
        refine (Path_calls a (n1 + n2) c L i q hl).mono ?_
        rintro e w' ⟨a', N, c', he, _, _, hb⟩
        exact ⟨a', N, c', he, hb⟩
      rw [hC, hW]
      clear hC hW hE
      generalize errP i (n1 + n2) = E at *
      go_enter Try.func8, Try.ntmps8
      go_upto_region 1 with fail
      rw [← HW.out]
      clear HW
      go_wp2_with fail
      refine CC.out.mono ?_
      rintro e w1 ⟨a, c, rfl, hl, hw1⟩
      have PA := HPA.out a c w1 hl
      have hbw1 := hal.trans (hw1.mono hal.size)
      clear c0 c1 CC HPA
      go_wp2_with fail
      refine PA.mono ?_
      rintro e w2 ⟨a', m, c', rfl, hw2⟩
      go_wp2_with fail
      go_ret3
      exact ⟨_, none, 0, 0, rfl, by omega, OwnI.nil _ _, LstW.nil _ _ _, hbw1.trans (hw2.mono hbw1.size)⟩
    · obtain ⟨g1, g2, g3, g4⟩ : 1 ≤ n1 + n2 ∧ n1 + n2 ≤ 200 ∧ 0 ≤ i ∧ i < ((n1 + n2 + 3) / 4 : Nat) := by
        unfold errP at hE
        by_cases x1 : n1 + n2 = 0 ∨ 200 < n1 + n2
        · rw [if_pos x1] at hE
          unfold errL at hE
          rcases x1 with x1 | x1
          · rw [if_pos x1] at hE; cases hE
          · rw [if_neg (by omega), if_pos x1] at hE; cases hE
        · rw [if_neg x1] at hE
          by_cases x2 : 0 ≤ i ∧ i < ((n1 + n2 + 3) / 4 : Nat)
          · exact ⟨by omega, by omega, x2.1, x2.2⟩
          · rw [if_neg x2] at hE; cases hE
      have hC : ckP L (n1 + n2) i = partL L (n1 + n2) i.toNat := by unfold ckP; rw [if_pos hE]
      have HPA : Hid (∀ a c q, Lst q a (n1 + n2) c L → Calls Try.prog 24 #[.slice a (n1 + n2 : Nat) c, .int .i64 i] q fun e w' => ∃ a' N c', e = .returned (.tuple #[.slice a' N c', .int .i64 0]) ∧ N ≤ 50 ∧ LstW w' a' N c' (wayL L (n1 + n2) i) ∧ Below q.heap.size q w') := fun a c q hl => by
        have h := Path_calls a (n1 + n2) c L i q hl
        rw [hE] at h
        exact h
      rw [hE, hC]
      clear hC hE
      obtain ⟨k, hk⟩ := Int.eq_ofNat_of_zero_le g3
      subst hk
      have hT : (k : Int).toNat = k := rfl
      rw [hT]
      clear hT
      obtain ⟨hi, hhi⟩ : ∃ hi, hiN (n1 + n2) k = hi := ⟨_, rfl⟩
      have hh : k * 4 < hi ∧ hi ≤ n1 + n2 ∧ hi ≤ k * 4 + 4 := by unfold hiN at hhi; omega
      have HSB : Hid (∀ b off c q, Lst q (some ⟨b, off, none⟩) (n1 + n2) c L → Lst q (some ⟨b, off + k * 4, none⟩) (hi - k * 4) (c - k * 4) (partL L (n1 + n2) k)) := fun b off c q hl => by
        have h := hl.sub (by omega) (k * 4) hi (Nat.le_of_lt hh.1) hh.2.1
        unfold partL
        rw [hhi]
        exact h
      have SZ := fun q => size_calls ((n1 + n2 : Nat) : Int) k ⟨by omega, by omega⟩ ⟨by omega, by omega⟩ q
      have hmin : min 4 (((n1 + n2 : Nat) : Int) - 4 * (k : Int)) = ((hi - k * 4 : Nat) : Int) := by unfold hiN at hhi; omega
      rw [hmin] at SZ
      have HSZ : Hid (∀ q, Calls Try.prog 25 #[.int .i64 (n1 + n2 : Nat), .int .i64 k] q fun e w' => e = .returned (.int .i64 ((hi - k * 4 : Nat) : Int)) ∧ w' = q) := SZ
      generalize partL L (n1 + n2) k = PL at *
      generalize wayL L (n1 + n2) (k : Int) = WL at *
      obtain ⟨d, hd⟩ : ∃ d, hi - k * 4 = d := ⟨_, rfl⟩
      rw [hd] at HSB HSZ
      have hkd : k * 4 + d = hi := by omega
      have hk50 : (k : Int) ≤ 50 := by omega
      have hd4 : d ≤ 4 := by omega
      have x1 : (k : Int) * 4 ≤ (k : Int) * 4 + (d : Int) := by omega
      obtain ⟨N, HN⟩ : ∃ q, Hid (n1 + n2 = q) := ⟨_, rfl⟩
      rw [HN.out] at CC HPA HSB HSZ hh
      have hkN : k * 4 + d ≤ N := by omega
      have hN1 : 1 ≤ N := by have := HN.out; omega
      clear SZ hmin hhi HN hd
      go_enter Try.func8, Try.ntmps8
      go_upto_region 1 with fail
      rw [← HW.out]
      clear HW
      go_wp2_with fail
      refine CC.out.mono ?_
      rintro e w1 ⟨a, c, rfl, hl, hw1⟩
      have PA := HPA.out a c w1 hl
      have hbw1 := hal.trans (hw1.mono hal.size)
      clear c0 c1 CC HPA
      go_wp2_with fail
      refine PA.mono ?_
      rintro e w2 ⟨a', m, c', rfl, hm, lp, hw2⟩
      obtain ⟨b, off, rfl, _⟩ := hl.at (by omega)
      have hNc := hl.cap
      have SZ1 := HSZ.out w2
      have hsub := (HSB.out b off c w1 hl).below hw2 (Nat.le_refl _)
      have CL := cloneI_any _ _ _ _ w2 hsub (by omega)
      have y1 : (k : Int) * 4 + (d : Int) ≤ (c : Int) := by omega
      have y2 : (0 : Int) ≤ (k : Int) * 4 := by omega
      have hdd : k * 4 + d - k * 4 = d := by omega
      have hck : ¬ c = k * 4 := by omega
      have hck2 : ¬ c - k * 4 = 0 := by omega
      clear HSB HSZ hsub PA hkd hh
      go_wp2_with fail
      refine SZ1.mono ?_
      rintro e w3 ⟨rfl, hw3⟩
      replace hw3 := hw3.symm
      subst hw3
      go_wp2_with fail
      refine CL.mono ?_
      rintro e w4 ⟨v, rfl, hv, hw4⟩
      have hbw2 := hbw1.trans (hw2.mono hbw1.size)
      have hv2 : OwnI w.heap.size w4 v PL := hv.mono hbw2.size
      go_wp2_with fail
      go_ret3
      exact ⟨v, a', m, c', rfl, hm, hv2, lp.below hw4 (Nat.le_refl _), hbw2.trans (hw4.mono hbw2.size)⟩

theorem chunk_says : ChunkSays := by
  intro a1 n1 k1 ws a2 n2 k2 ms i w l1 l2 hz
  refine (chunk_own a1 n1 k1 ws a2 n2 k2 ms i w l1 l2 (by omega)).mono ?_
  rintro e w' ⟨v, b2, m2, d2, rfl, hm, hv, lp, hb⟩
  obtain ⟨b1, d1, rfl, l⟩ := hv.lst
  refine ⟨b1, _, d1, b2, m2, d2, rfl, ?_, by omega, l, lp, hb⟩
  unfold ckP
  split
  · unfold partL
    rw [List.length_take, hiN]
    omega
  · simp
end Go.Proofs.Ytfkalnehomgccaa.Fx
