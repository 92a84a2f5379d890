/- The walk of AuditFinds: it returns true, whatever two lists of records are handed in, and nothing that was there is written; audit.Find's answer is handed in. -/
import Derived.Test.YtdclclekomjlpaaFindP
import Derived.Test.YtdclclekomjlpaaProg
import Derived.Deep.QuietTactic
import Derived.Deep.DeepCutAuto
import Derived.Deep.CutBlock
namespace Go.Proofs.Ytdclclekomjlpaa.Fx
open Go.RowKit

theorem af1_calls (i : Nat) (p q : Nat) (a : Option Addr) (n c : Nat) (b : Option Addr) (d : Nat) (X Y : Nat → Rcm) (DX DY : Nat → List Int) (w : World) (h1 : w.cell? ⟨p, 0, none⟩ = some (.slice a n c)) (h2 : w.cell? ⟨q, 0, none⟩ = some (.slice b n d)) (hx : Recs w a n c X DX) (hy : Recs w b n d Y DY) (hi : i < n) (hn : n ≤ 40) :
    Calls Try.prog 6 #[.int .i64 i, .pointer (some ⟨p, 0, none⟩), .pointer (some ⟨q, 0, none⟩)] w fun e w' => e = .returned (.bool (sameAt X Y i)) ∧ ∃ k, w' = w.drewN k := by
  obtain ⟨xb, xo, rfl, hc⟩ := hx.at (by omega)
  obtain ⟨yb, yo, rfl, hd⟩ := hy.at (by omega)
  obtain ⟨_, _, _, _, c4, _⟩ := hc i hi
  obtain ⟨_, _, _, _, d4, _⟩ := hd i hi
  have HE : Hid (sameAt X Y i = ((X i).chain == (Y i).chain)) := by
    show decide ((X (i : Int).toNat).chain = (Y (i : Int).toNat).chain) = _
    rw [show (i : Int).toNat = i from rfl]
    by_cases e : (X i).chain = (Y i).chain
    · rw [decide_eq_true e, e]; simp
    · rw [decide_eq_false e]; symm; rw [beq_eq_false_iff_ne]; exact e
  rw [HE.out]
  generalize (X i).chain = A at *
  generalize (Y i).chain = B at *
  clear hc hd hx hy HE
  have i0 : (0 : Int) ≤ (i : Int) := by omega
  have i1 : (i : Int) < (n : Int) := by omega
  go_enter Try.func6, Try.ntmps6
  go_wp2_with fail
  go_quiet (fail)
  go_wp2_with fail
  go_ret
  exact ⟨rfl, _, rfl⟩

set_option maxHeartbeats 3200000 in
theorem auditFinds_core (a : Option Addr) (n c1 : Nat) (b : Option Addr) (m c2 : Nat) (X Y : Nat → Rcm) (DX DY : Nat → List Int) (w : World) (hx : Recs w a n c1 X DX) (hy : Recs w b m c2 Y DY)
    (HFD : Hid (∀ q, Below w.heap.size w q → Calls Try.prog 5 #[.slice a n c1, .slice b m c2] q fun e w' => e = .returned (.tuple #[.int .i64 (fdX X Y n m), .int .i64 (fdY X Y n m), .int .i64 (fdE n m)]) ∧ Below q.heap.size q w')) :
    Calls Try.prog 3 #[.slice a n c1, .slice b m c2] w fun e w' => e = .returned (.bool true) ∧ Below w.heap.size w w' := by
  have hal : Below w.heap.size w ((w.alloc (.cells #[.slice a n c1] 22)).alloc (.cells #[.slice b m c2] 22)) := ((Below.refl w.heap.size w).alloc (Nat.le_refl _) (.cells #[.slice a n c1] 22)).alloc (by simp) (.cells #[.slice b m c2] 22)
  have KB : Hid (∀ q, Below ((w.alloc (.cells #[.slice a n c1] 22)).alloc (.cells #[.slice b m c2] 22)).heap.size ((w.alloc (.cells #[.slice a n c1] 22)).alloc (.cells #[.slice b m c2] 22)) q → q.cell? ⟨w.heap.size, 0, none⟩ = some (.slice a n c1) ∧ q.cell? ⟨w.heap.size + 1, 0, none⟩ = some (.slice b m c2)) := fun q hq => by
    have h1 := cell_new w (.slice a n c1) 22
    have h2 := cell_new (w.alloc (.cells #[.slice a n c1] 22)) (.slice b m c2) 22
    have e : (w.alloc (.cells #[.slice a n c1] 22)).heap.size = w.heap.size + 1 := by simp
    have hb := (Below.refl (w.heap.size + 1) (w.alloc (.cells #[.slice a n c1] 22))).alloc (by simp) (.cells #[.slice b m c2] 22)
    rw [e] at h2
    exact ⟨(hq.cell (p := ⟨w.heap.size, 0, none⟩) (by simp; omega)).trans ((hb.cell (p := ⟨w.heap.size, 0, none⟩) (by simp)).trans h1), (hq.cell (p := ⟨w.heap.size + 1, 0, none⟩) (by simp)).trans h2⟩
  obtain ⟨W0, HW0⟩ : ∃ q, Hid (q = ((w.alloc (.cells #[.slice a n c1] 22)).alloc (.cells #[.slice b m c2] 22))) := ⟨_, rfl⟩
  rw [← HW0.out] at hal KB
  by_cases hok : m = n ∧ n ≠ 0 ∧ n ≤ 40
  · obtain ⟨rfl, hn0, hn40⟩ := hok
    have hE : fdE m m = 0 := if_pos ⟨rfl, hn0, hn40⟩
    have HX : Hid (fdX X Y m m = (findP X Y m).1) := if_pos ⟨rfl, hn0, hn40⟩
    have HY : Hid (fdY X Y m m = (findP X Y m).2) := if_pos ⟨rfl, hn0, hn40⟩
    rw [hE] at HFD
    generalize fdX X Y m m = FX at *
    generalize fdY X Y m m = FY at *
    have q1 : ((m : Int) != (m : Int)) = false := by simp
    have q2 : ((m : Int) == 0) = false := by rw [beq_eq_false_iff_ne]; omega
    have q3 : ¬ (m : Int) > 40 := by omega
    obtain ⟨P, HP⟩ : ∃ P : Nat, Hid (P + 1 = m) := ⟨m - 1, by show m - 1 + 1 = m; omega⟩
    have eP : (m : Int) - 1 = (P : Int) := by have := HP.out; omega
    have HA : Hid (∀ (i : Nat) (q : World), i < m → Below W0.heap.size W0 q → Calls Try.prog 6 #[.int .i64 i, .pointer (some ⟨w.heap.size, 0, none⟩), .pointer (some ⟨w.heap.size + 1, 0, none⟩)] q fun e w' => e = .returned (.bool (sameAt X Y i)) ∧ ∃ k, w' = q.drewN k) := fun i q hi hq => by
      obtain ⟨k1, k2⟩ := KB.out q hq
      have hq' := hal.trans (hq.mono hal.size)
      exact af1_calls i w.heap.size (w.heap.size + 1) a m c1 b c2 X Y DX DY q k1 k2 (hx.below hq' (Nat.le_refl _)) (hy.below hq' (Nat.le_refl _)) hi hn40
    clear hx hy
    go_enter Try.func3, Try.ntmps3
    go_wp2_with fail
    rw [← HW0.out]
    clear HW0
    refine (HFD.out _ hal).mono ?_
    rintro e w1 ⟨rfl, T⟩
    obtain ⟨k1, k2⟩ := KB.out _ T
    clear HFD
    go_wp2_with fail
    refine (HA.out P _ (by have := HP.out; omega) T).mono ?_
    rintro e w2 ⟨rfl, kk, hw2⟩
    subst hw2
    cases hs : sameAt X Y (P : Int) with
    | true =>
      have hF : findP X Y m = ((m : Int), 1) := by unfold findP; rw [eP, if_pos hs]
      have e1 : (FX == (m : Int)) = true := by rw [HX.out, hF]; simp
      have e2 : (FY == 1) = true := by rw [HY.out, hF]; rfl
      go_wp2_with fail
      go_ret
      exact ⟨ret_boolF (by simp), below_drewN (hal.trans (T.mono hal.size)) _⟩
    | false =>
      have hF : findP X Y m = findG (sameAt X Y) m (-1) ((m : Int) - 1) 1 := by unfold findP; rw [eP, if_neg (by rw [hs]; decide)]
      rw [hF] at HX HY
      have f0 := FindAt.start X Y (n := m) (by omega) hn40
      rw [eP] at f0
      clear hF
      go_wp2_with fail
      go_loopw [10, 11, 12] (fun pv av lv wr => ∃ (low place asks : Int) (k : Nat), pv = .int .i64 place ∧ av = .int .i64 asks ∧ lv = .int .i64 low ∧ Hid (FindAt X Y m low place asks) ∧ wr = w1.drewN k) (fun pv _ lv _ => (intOf pv - intOf lv).toNat)
      case atStart => exact ⟨-1, P, 1, kk, rfl, rfl, rfl, f0, rfl⟩
      case round =>
        clear f0
        obtain ⟨low, place, asks, k, rfl, rfl, rfl, hf, hw⟩ := hrel
        subst hw
        have a1 := hf.out.lo
        have a2 := hf.out.lt
        have a3 := hf.out.hi
        have a4 := hf.out.few
        have a5 := hf.out.pos
        obtain ⟨D, HD⟩ : ∃ D : Nat, Hid (place - low = (D : Int)) := ⟨(place - low).toNat, by show place - low = _; omega⟩
        have eD : place - low = (D : Int) := HD.out
        by_cases hgo : 1 < D
        · obtain ⟨H, HH⟩ : ∃ H : Nat, Hid (D / 2 = H) := ⟨_, rfl⟩
          have eH : (D : Int).tdiv 2 = (H : Int) := by rw [← HH.out]; rfl
          have eH2 : (D : Int) / 2 = (H : Int) := by have := HH.out; omega
          have hH : 1 ≤ H ∧ H < D := by have := HH.out; omega
          obtain ⟨M, HM⟩ : ∃ M : Nat, Hid (low + (H : Int) = (M : Int)) := ⟨(low + (H : Int)).toNat, by show low + (H : Int) = _; omega⟩
          have eM : low + (H : Int) = (M : Int) := HM.out
          have hMm : M < m := by have := HM.out; omega
          have HMD : Hid (low + (place - low) / 2 = (M : Int)) := by show low + (place - low) / 2 = (M : Int); rw [HD.out, eH2, HM.out]
          have hd : 1 < place - low := by rw [HD.out]; omega
          have HY1 := hf.out.yes hd
          have HN1 := hf.out.no hd
          rw [HMD.out] at HY1 HN1
          have HYY : Hid (sameAt X Y (M : Int) = true → FindAt X Y m (M : Int) place (asks + 1)) := HY1
          have HNN : Hid (sameAt X Y (M : Int) = false → FindAt X Y m low (M : Int) (asks + 1)) := HN1
          have CA := HA.out M (w1.drewN k) hMm (below_drewN T k)
          clear HY1 HN1 hf hd
          go_wp2_with fail
          refine CA.mono ?_
          rintro e w3 ⟨rfl, k3, hw3⟩
          subst hw3
          cases hsm : sameAt X Y (M : Int) with
          | true =>
            have fy : Hid (FindAt X Y m (M : Int) place (asks + 1)) := HYY.out hsm
            go_wp2_with fail
            go_roundw
            case rel => exact ⟨M, place, asks + 1, _, rfl, by first | rfl | go_num, rfl, fy, by first | rfl | (rw [World.drewN_drewN])⟩
            case measure => simp [intOf]; have := HM.out; have := HD.out; omega
          | false =>
            have fn : Hid (FindAt X Y m low (M : Int) (asks + 1)) := HNN.out hsm
            go_wp2_with fail
            go_roundw
            case rel => exact ⟨low, M, asks + 1, _, rfl, by first | rfl | go_num, rfl, fn, by first | rfl | (rw [World.drewN_drewN])⟩
            case measure => simp [intOf]; have := HM.out; have := HD.out; omega
        · have hst := hf.out.stop (by rw [HD.out]; omega)
          have e1 : (FX == place) = true := by rw [HX.out, hst]; simp
          have e2 : (FY == asks) = true := by rw [HY.out, hst]; simp
          have hD1 : ¬ (1 : Int) < (D : Int) := by omega
          clear hst hf
          go_wp2_with fail
          go_ret
          exact ⟨ret_boolF (by simp), below_drewN (hal.trans (T.mono hal.size)) _⟩
  · have hE : fdE n m = 5 := if_neg hok
    have hX : fdX X Y n m = 0 := if_neg hok
    have hY : fdY X Y n m = 0 := if_neg hok
    rw [hE, hX, hY] at HFD
    clear hE hX hY hx hy
    by_cases g1 : m = n
    · subst g1
      have q1 : ((m : Int) != (m : Int)) = false := by simp
      by_cases g2 : m = 0
      · have q2 : ((m : Int) == 0) = true := by rw [beq_iff_eq]; omega
        have HG : Hid (m = 0) := g2
        clear g2 hok
        go_enter Try.func3, Try.ntmps3
        go_wp2_with fail
        rw [← HW0.out]
        clear HW0
        refine (HFD.out _ hal).mono ?_
        rintro e w1 ⟨rfl, T⟩
        obtain ⟨k1, k2⟩ := KB.out _ T
        go_wp2_with fail
        go_ret
        exact ⟨ret_boolF (by simp), hal.trans (T.mono hal.size)⟩
      · have q2 : ((m : Int) == 0) = false := by rw [beq_eq_false_iff_ne]; omega
        have q3 : (m : Int) > 40 := by omega
        clear hok
        go_enter Try.func3, Try.ntmps3
        go_wp2_with fail
        rw [← HW0.out]
        clear HW0
        refine (HFD.out _ hal).mono ?_
        rintro e w1 ⟨rfl, T⟩
        obtain ⟨k1, k2⟩ := KB.out _ T
        go_wp2_with fail
        go_ret
        exact ⟨ret_boolF (by simp), hal.trans (T.mono hal.size)⟩
    · have q1 : ((m : Int) != (n : Int)) = true := by rw [bne_iff_ne]; omega
      clear hok
      go_enter Try.func3, Try.ntmps3
      go_wp2_with fail
      rw [← HW0.out]
      clear HW0
      refine (HFD.out _ hal).mono ?_
      rintro e w1 ⟨rfl, T⟩
      obtain ⟨k1, k2⟩ := KB.out _ T
      go_wp2_with fail
      go_ret
      exact ⟨ret_boolF (by simp), hal.trans (T.mono hal.size)⟩
end Go.Proofs.Ytdclclekomjlpaa.Fx
