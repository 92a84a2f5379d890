/- What audit.Find returns, whatever two lists of records are handed in. -/
import Derived.Test.YtdclclekomjlpaaFindP
import Derived.Test.YtdclclekomjlpaaProg
import Derived.Deep.QuietTactic
import Derived.Deep.DeepCutAuto
import Derived.Deep.CutBlock
namespace Go.Proofs.Ytdclclekomjlpaa.Fx
open Go.RowKit

/-- What audit.Find is to answer, whatever two lists lie there. -/
def FindSays : Prop := ∀ (a : Option Addr) (n c1 : Nat) (b : Option Addr) (m c2 : Nat) (X Y : Nat → Rcm) (DX DY : Nat → List Int) (q : World), Recs q a n c1 X DX → Recs q b m c2 Y DY → n ≤ maxLen → m ≤ maxLen →
  Calls Try.prog 5 #[.slice a n c1, .slice b m c2] q fun e w' => e = .returned (.tuple #[.int .i64 (fdX X Y n m), .int .i64 (fdY X Y n m), .int .i64 (fdE n m)]) ∧ Below q.heap.size q w'

/-- What lies there while it is asked: how often it was, and the two lists. -/
structure AskW (w0 w : World) (g p q : Nat) (a : Option Addr) (n c : Nat) (b : Option Addr) (d : Nat) (A : Int) : Prop where
  cnt : w.rowIs g 3 1 (fun _ => .int .i64 A)
  pa : w.rowIs p 22 1 (fun _ => .slice a n c)
  pb : w.rowIs q 22 1 (fun _ => .slice b n d)
  bel : Below w0.heap.size w0 w
  low : w0.heap.size ≤ g
  ap : p ≠ g
  aq : q ≠ g

theorem AskW.asked {w0 w : World} {g p q : Nat} {a : Option Addr} {n c : Nat} {b : Option Addr} {d : Nat} {A : Int} (h : AskW w0 w g p q a n c b d A) (B : Int) : AskW w0 (w.setCell ⟨g, 0, none⟩ (.int .i64 B)) g p q a n c b d B :=
  ⟨(h.cnt.set 0 (.int .i64 B)).congr (fun i hi => by rw [if_pos (by omega)]), h.pa.of_block (Go.Deep.blk_setCell_other w ⟨g, 0, none⟩ _ p h.ap), h.pb.of_block (Go.Deep.blk_setCell_other w ⟨g, 0, none⟩ _ q h.aq), h.bel.setCell h.low _, h.low, h.ap, h.aq⟩
theorem AskW.drewN {w0 w : World} {g p q : Nat} {a : Option Addr} {n c : Nat} {b : Option Addr} {d : Nat} {A : Int} (h : AskW w0 w g p q a n c b d A) (k : Nat) : AskW w0 (w.drewN k) g p q a n c b d A :=
  ⟨h.cnt, h.pa, h.pb, below_drewN h.bel k, h.low, h.ap, h.aq⟩
theorem sameAt_nat (X Y : Nat → Rcm) (i : Nat) : sameAt X Y (i : Int) = ((X i).chain == (Y i).chain) := by
  show decide ((X (i : Int).toNat).chain = (Y (i : Int).toNat).chain) = _
  rw [show (i : Int).toNat = i from rfl]
  by_cases e : (X i).chain = (Y i).chain
  · rw [decide_eq_true e, e]; simp
  · rw [decide_eq_false e]; symm; rw [beq_eq_false_iff_ne]; exact e

theorem find1_calls (i : Nat) (g p q : Nat) (a : Option Addr) (n c : Nat) (b : Option Addr) (d : Nat) (X Y : Nat → Rcm) (DX DY : Nat → List Int) (A : Int) (w0 w : World) (h : AskW w0 w g p q a n c b d A) (hx : Recs w0 a n c X DX) (hy : Recs w0 b n d Y DY) (hi : i < n) (hn : n ≤ 40) (hA0 : 0 ≤ A) (hA1 : A ≤ 2000) :
    Calls Try.prog 7 #[.int .i64 i, .pointer (some ⟨g, 0, none⟩), .pointer (some ⟨p, 0, none⟩), .pointer (some ⟨q, 0, none⟩)] w fun e w' => e = .returned (.bool (sameAt X Y i)) ∧ AskW w0 w' g p q a n c b d (A + 1) := by
  have h2 := h.asked (A + 1)
  have hx2 := hx.below h2.bel (Nat.le_refl _)
  have hy2 := hy.below h2.bel (Nat.le_refl _)
  obtain ⟨xb, xo, rfl, hc⟩ := hx2.at (by omega)
  obtain ⟨yb, yo, rfl, hd⟩ := hy2.at (by omega)
  obtain ⟨_, _, _, _, c4, _⟩ := hc i hi
  obtain ⟨_, _, _, _, d4, _⟩ := hd i hi
  have p1 := h2.pa.cell (i := 0) (by omega)
  have p2 := h2.pb.cell (i := 0) (by omega)
  have g1 := h.cnt.cell (i := 0) (by omega)
  have g2 := h.cnt.frozen 0
  have H2 : Hid (AskW w0 (w.setCell ⟨g, 0, none⟩ (.int .i64 (A + 1))) g p q (some ⟨xb, xo, none⟩) n c (some ⟨yb, yo, none⟩) d (A + 1)) := h2
  rw [sameAt_nat]
  generalize (X i).chain = CA at *
  generalize (Y i).chain = CB at *
  clear hc hd hx hy hx2 hy2 h h2
  have i0 : (0 : Int) ≤ (i : Int) := by omega
  have i1 : (i : Int) < (n : Int) := by omega
  go_enter Try.func7, Try.ntmps7
  go_wp2_with fail
  go_quiet (fail)
  go_wp2_with fail
  go_ret
  exact ⟨rfl, H2.out.drewN _⟩

set_option maxHeartbeats 3200000 in
theorem parting_calls (g p q : Nat) (a : Option Addr) (n c : Nat) (b : Option Addr) (d : Nat) (X Y : Nat → Rcm) (DX DY : Nat → List Int) (w0 w : World) (h : AskW w0 w g p q a n c b d 0) (hx : Recs w0 a n c X DX) (hy : Recs w0 b n d Y DY) (h1 : 1 ≤ n) (hn : n ≤ 40) :
    Calls Try.prog 8 #[.int .i64 n, .func (.func 7) #[] #[.pointer (some ⟨g, 0, none⟩), .pointer (some ⟨p, 0, none⟩), .pointer (some ⟨q, 0, none⟩)]] w fun e w' => e = .returned (.int .i64 (findP X Y n).1) ∧ AskW w0 w' g p q a n c b d (findP X Y n).2 := by
  have HA : Hid (∀ (i : Nat) (A : Int) (w : World), i < n → 0 ≤ A → A ≤ 2000 → AskW w0 w g p q a n c b d A → Calls Try.prog 7 #[.int .i64 i, .pointer (some ⟨g, 0, none⟩), .pointer (some ⟨p, 0, none⟩), .pointer (some ⟨q, 0, none⟩)] w fun e w' => e = .returned (.bool (sameAt X Y i)) ∧ AskW w0 w' g p q a n c b d (A + 1)) := fun i A w hi e1 e2 h => find1_calls i g p q a n c b d X Y DX DY A w0 w h hx hy hi hn e1 e2
  clear hx hy
  obtain ⟨P, HP⟩ : ∃ P : Nat, Hid (P + 1 = n) := ⟨n - 1, by show n - 1 + 1 = n; omega⟩
  have eP : (n : Int) - 1 = (P : Int) := by have := HP.out; omega
  have CA := HA.out P 0 w (by have := HP.out; omega) (by omega) (by omega) h
  obtain ⟨FX, HX⟩ : ∃ t, Hid ((findP X Y n).1 = t) := ⟨_, rfl⟩
  obtain ⟨FY, HY⟩ : ∃ t, Hid ((findP X Y n).2 = t) := ⟨_, rfl⟩
  rw [HX.out, HY.out]
  clear h
  go_enter Try.func8, Try.ntmps8
  go_wp2_with fail
  refine CA.mono ?_
  rintro e w1 ⟨rfl, k1⟩
  have K1 : Hid (AskW w0 w1 g p q a n c b d (0 + 1)) := k1
  clear k1 CA
  cases hs : sameAt X Y (P : Int) with
  | true =>
    have hF : findP X Y n = ((n : Int), 1) := by unfold findP; rw [eP, if_pos hs]
    rw [hF] at HX HY
    go_wp2_with fail
    go_ret
    exact ⟨congrArg (fun t => Ending.returned (.int .i64 t)) HX.out, HY.out ▸ K1.out⟩
  | false =>
    have hF : findP X Y n = findG (sameAt X Y) n (-1) ((n : Int) - 1) 1 := by unfold findP; rw [eP, if_neg (by rw [hs]; decide)]
    rw [hF] at HX HY
    have f0 := FindAt.start X Y (n := n) (by omega) hn
    rw [eP] at f0
    clear hF
    go_wp2_with fail
    go_loopw [5, 6] (fun lv pv wr => ∃ (low place asks : Int), pv = .int .i64 place ∧ lv = .int .i64 low ∧ Hid (FindAt X Y n low place asks) ∧ Hid (AskW w0 wr g p q a n c b d asks)) (fun lv pv _ => (intOf pv - intOf lv).toNat)
    case atStart => exact ⟨-1, P, 1, rfl, rfl, f0, K1⟩
    case round =>
      clear f0 K1
      obtain ⟨low, place, asks, rfl, rfl, hf, hk⟩ := hrel
      have a1 := hf.out.lo
      have a2 := hf.out.lt
      have a3 := hf.out.hi
      have a4 := hf.out.few
      have a5 := hf.out.pos
      by_cases hgo : low + 1 < place
      · obtain ⟨S, HS⟩ : ∃ S : Nat, Hid (low + place = (S : Int)) := ⟨(low + place).toNat, by show low + place = _; omega⟩
        have eS : low + place = (S : Int) := HS.out
        obtain ⟨M, HM⟩ : ∃ M : Nat, Hid (S / 2 = M) := ⟨_, rfl⟩
        have eM : (S : Int).tdiv 2 = (M : Int) := by rw [← HM.out]; rfl
        have hd : 1 < place - low := by omega
        have HMD : Hid (low + (place - low) / 2 = (M : Int)) := by show low + (place - low) / 2 = (M : Int); have := HS.out; have := HM.out; omega
        have hMn : M < n := by have := HS.out; have := HM.out; omega
        have hM1 : low < (M : Int) := by have := HMD.out; omega
        have hM2 : (M : Int) < place := by have := HMD.out; omega
        have HY1 := hf.out.yes hd
        have HN1 := hf.out.no hd
        rw [HMD.out] at HY1 HN1
        have HYY : Hid (sameAt X Y (M : Int) = true → FindAt X Y n (M : Int) place (asks + 1)) := HY1
        have HNN : Hid (sameAt X Y (M : Int) = false → FindAt X Y n low (M : Int) (asks + 1)) := HN1
        have CA := HA.out M asks _ hMn (by omega) (by omega) hk.out
        clear HY1 HN1 hf hd hk
        go_wp2_with fail
        refine CA.mono ?_
        rintro e w3 ⟨rfl, k3⟩
        have K3 : Hid (AskW w0 w3 g p q a n c b d (asks + 1)) := k3
        clear k3 CA
        cases hsm : sameAt X Y (M : Int) with
        | true =>
          have fy : Hid (FindAt X Y n (M : Int) place (asks + 1)) := HYY.out hsm
          go_wp2_with fail
          go_roundw
          case rel => exact ⟨M, place, asks + 1, rfl, rfl, fy, K3⟩
          case measure => simp [intOf]; omega
        | false =>
          have fn : Hid (FindAt X Y n low (M : Int) (asks + 1)) := HNN.out hsm
          go_wp2_with fail
          go_roundw
          case rel => exact ⟨low, M, asks + 1, rfl, rfl, fn, K3⟩
          case measure => simp [intOf]; omega
      · have hst := hf.out.stop (by omega)
        rw [hst] at HX HY
        clear hst hf
        go_wp2_with fail
        go_ret
        exact ⟨congrArg (fun t => Ending.returned (.int .i64 t)) HX.out, HY.out ▸ hk.out⟩

theorem row_new (w : World) (v : Value) (t : TypeId) : (w.alloc (.cells #[v] t)).rowIs w.heap.size t 1 (fun _ => v) :=
  World.rowIs_alloc w #[v] t (fun _ => v) (by
    intro i hi
    obtain rfl : i = 0 := by simpa using hi
    rfl)

set_option maxHeartbeats 3200000 in
theorem find_says : FindSays := by
  intro a n c1 b m c2 X Y DX DY w hx hy hn hm
  obtain ⟨W0, HW0⟩ : ∃ q, Hid (q = ((w.alloc (.cells #[.slice a n c1] 22)).alloc (.cells #[.slice b m c2] 22))) := ⟨_, rfl⟩
  have hal : Below w.heap.size w W0 := by rw [HW0.out]; exact ((Below.refl w.heap.size w).alloc (Nat.le_refl _) (.cells #[.slice a n c1] 22)).alloc (by simp) (.cells #[.slice b m c2] 22)
  have hsz : W0.heap.size = w.heap.size + 1 + 1 := by rw [HW0.out]; simp
  have r1 : W0.rowIs w.heap.size 22 1 (fun _ => .slice a n c1) := by
    rw [HW0.out]
    exact (row_new w (.slice a n c1) 22).alloc _
  have r2 : W0.rowIs (w.heap.size + 1) 22 1 (fun _ => .slice b m c2) := by
    rw [HW0.out]
    have h := row_new (w.alloc (.cells #[.slice a n c1] 22)) (.slice b m c2) 22
    have e : (w.alloc (.cells #[.slice a n c1] 22)).heap.size = w.heap.size + 1 := by simp
    rw [e] at h
    exact h
  have k1 := r1.cell (i := 0) (by omega)
  have k2 := r2.cell (i := 0) (by omega)
  by_cases hok : m = n ∧ n ≠ 0 ∧ n ≤ 40
  · obtain ⟨rfl, hn0, hn40⟩ := hok
    have hE : fdE m m = 0 := if_pos ⟨rfl, hn0, hn40⟩
    have hX : fdX X Y m m = (findP X Y m).1 := if_pos ⟨rfl, hn0, hn40⟩
    have hY : fdY X Y m m = (findP X Y m).2 := if_pos ⟨rfl, hn0, hn40⟩
    rw [hE, hX, hY]
    clear hE hX hY
    have q1 : ((m : Int) != (m : Int)) = false := by simp
    have q2 : ((m : Int) == 0) = false := by rw [beq_eq_false_iff_ne]; omega
    have q3 : ¬ (m : Int) > 40 := by omega
    have HPC : Hid (∀ w1, AskW w w1 (w.heap.size + 1 + 1) w.heap.size (w.heap.size + 1) a m c1 b c2 0 → Calls Try.prog 8 #[.int .i64 m, .func (.func 7) #[] #[.pointer (some ⟨w.heap.size + 1 + 1, 0, none⟩), .pointer (some ⟨w.heap.size, 0, none⟩), .pointer (some ⟨w.heap.size + 1, 0, none⟩)]] w1 fun e w' => e = .returned (.int .i64 (findP X Y m).1) ∧ AskW w w' (w.heap.size + 1 + 1) w.heap.size (w.heap.size + 1) a m c1 b c2 (findP X Y m).2) := fun w1 h => parting_calls _ _ _ a m c1 b c2 X Y DX DY w w1 h hx hy (by omega) hn40
    have AW : Hid (AskW w (W0.alloc (.cells #[.int .i64 0] 3)) (w.heap.size + 1 + 1) w.heap.size (w.heap.size + 1) a m c1 b c2 0) := by
      have r3 := row_new W0 (.int .i64 0) 3
      rw [hsz] at r3
      exact AskW.mk r3 (r1.alloc _) (r2.alloc _) (hal.alloc (by omega) _) (by omega) (by omega) (by omega)
    have k4 := AW.out.pa.cell (i := 0) (by omega)
    generalize (findP X Y m).1 = FX at *
    generalize (findP X Y m).2 = FY at *
    clear hx hy r1 r2
    go_enter Try.func5, Try.ntmps5
    go_upto_region 1 with fail
    rw [← HW0.out]
    clear HW0
    go_wp2_with fail
    refine (HPC.out _ AW.out).mono ?_
    rintro e w2 ⟨rfl, h2⟩
    have k5 := h2.cnt.cell (i := 0) (by omega)
    have B2 : Hid (Below w.heap.size w w2) := h2.bel
    clear h2 HPC AW k1 k2 k4
    go_wp2_with fail
    go_quiet (fail)
    go_wp2_with fail
    go_ret3
    exact ⟨rfl, below_drewN B2.out _⟩
  · have hE : fdE n m = 5 := if_neg hok
    have hX : fdX X Y n m = 0 := if_neg hok
    have hY : fdY X Y n m = 0 := if_neg hok
    rw [hE, hX, hY]
    have g0 : (m = n ∧ n = 0) ∨ (m = n ∧ n ≠ 0 ∧ 40 < n) ∨ m ≠ n := by omega
    clear hE hX hY hx hy r1 r2 hok
    rcases g0 with ⟨rfl, rfl⟩ | ⟨rfl, g2, g3⟩ | g1
    · go_enter Try.func5, Try.ntmps5
      go_upto_region 1 with fail
      rw [← HW0.out]
      go_wp2_with fail
      go_ret3
      exact ⟨rfl, hal⟩
    · have q1 : ((m : Int) != (m : Int)) = false := by simp
      have q2 : ((m : Int) == 0) = false := by rw [beq_eq_false_iff_ne]; omega
      have q3 : (m : Int) > 40 := by omega
      go_enter Try.func5, Try.ntmps5
      go_upto_region 1 with fail
      rw [← HW0.out]
      go_wp2_with fail
      go_ret3
      exact ⟨rfl, hal⟩
    · have q1 : ((n : Int) != (m : Int)) = true := by rw [bne_iff_ne]; omega
      go_enter Try.func5, Try.ntmps5
      go_upto_region 1 with fail
      rw [← HW0.out]
      go_wp2_with fail
      go_ret3
      exact ⟨rfl, hal⟩
end Go.Proofs.Ytdclclekomjlpaa.Fx
