/- What audit.Find returns, whatever two lists of records are handed in. -/
import Derived.Test.YtimciamfgpdjlaaGreatJ24
import Derived.Test.YtimciamfgpdjlaaGreatProg
import Derived.Deep.QuietTactic
import Derived.Deep.DeepCutAuto
import Derived.Deep.CutBlock
import Derived.Test.YtimciamfgpdjlaaGreatJ18
import Derived.Test.YtimciamfgpdjlaaGreatJ21
import Derived.Test.YtimciamfgpdjlaaGreatJ23
import Derived.Test.YtimciamfgpdjlaaGreatJ20
import Derived.Test.YtimciamfgpdjlaaGreatJ19
import Derived.Test.YtimciamfgpdjlaaGreatJ11
import Derived.Test.YtimciamfgpdjlaaGreatJ05
import Derived.BigQuiet
import Derived.Deep.RegionHeld3
import Derived.Test.YtimciamfgpdjlaaGreatJ00
import Derived.Test.YtimciamfgpdjlaaGreatJ01
import Derived.Test.YtimciamfgpdjlaaGreatJ17
import Derived.Test.YtimciamfgpdjlaaGreatJ09
namespace Go.Proofs.YtimciamfgpdjlaaGreat.Fx
open Go.RowKit

/-- What audit.Find is to answer, whatever two lists lie there. -/
def FindSays : Prop := ∀ (a : Option Addr) (n c1 : Nat) (b : Option Addr) (m c2 : Nat) (X Y : Nat → Rcm) (DX DY : Nat → List Int) (q : World), Recs q a n c1 X DX → Recs q b m c2 Y DY → n ≤ maxLen → m ≤ maxLen →
  Calls Tryz.prog 43 #[.slice a n c1, .slice b m c2] q fun e w' => e = .returned (.tuple #[.int .i64 (fdX X Y n m), .int .i64 (fdY X Y n m), .int .i64 (fdE n m)]) ∧ Below q.heap.size q w'

/-- What lies there while it is asked: how often it was, and the two lists. -/
structure AskW (w0 w : World) (g p q : Nat) (a : Option Addr) (n c : Nat) (b : Option Addr) (d : Nat) (A : Int) : Prop where
  cnt : w.rowIs g 3 1 (fun _ => .int .i64 A)
  pa : w.rowIs p 49 1 (fun _ => .slice a n c)
  pb : w.rowIs q 49 1 (fun _ => .slice b n d)
  bel : Below w0.heap.size w0 w
  low : w0.heap.size ≤ g
  ap : p ≠ g
  aq : q ≠ g

theorem AskW.asked {w0 w : World} {g p q : Nat} {a : Option Addr} {n c : Nat} {b : Option Addr} {d : Nat} {A : Int} (h : AskW w0 w g p q a n c b d A) (B : Int) : AskW w0 (w.setCell ⟨g, 0, none⟩ (.int .i64 B)) g p q a n c b d B :=
  ⟨(h.cnt.set 0 (.int .i64 B)).congr (fun i hi => by rw [if_pos (by omega)]), h.pa.of_block (Go.Deep.blk_setCell_other w ⟨g, 0, none⟩ _ p h.ap), h.pb.of_block (Go.Deep.blk_setCell_other w ⟨g, 0, none⟩ _ q h.aq), h.bel.setCell h.low _, h.low, h.ap, h.aq⟩
theorem AskW.drewN {w0 w : World} {g p q : Nat} {a : Option Addr} {n c : Nat} {b : Option Addr} {d : Nat} {A : Int} (h : AskW w0 w g p q a n c b d A) (k : Nat) : AskW w0 (w.drewN k) g p q a n c b d A :=
  ⟨h.cnt, h.pa, h.pb, below_drewN h.bel k, h.low, h.ap, h.aq⟩
theorem sameAt_nat (X Y : Nat → Rcm) (i : Nat) : sameAt X Y (i : Int) = ((X i).chain == (Y i).chain) := by
  show decide ((X (i : Int).toNat).chain = (Y (i : Int).toNat).chain) = _
  rw [show (i : Int).toNat = i from rfl]
  by_cases e : (X i).chain = (Y i).chain
  · rw [decide_eq_true e, e]; simp
  · rw [decide_eq_false e]; symm; rw [beq_eq_false_iff_ne]; exact e

theorem find1_calls (i : Nat) (g p q : Nat) (a : Option Addr) (n c : Nat) (b : Option Addr) (d : Nat) (X Y : Nat → Rcm) (DX DY : Nat → List Int) (A : Int) (w0 w : World) (h : AskW w0 w g p q a n c b d A) (hx : Recs w0 a n c X DX) (hy : Recs w0 b n d Y DY) (hi : i < n) (hn : n ≤ 40) (hA0 : 0 ≤ A) (hA1 : A ≤ 2000) :
    Calls Tryz.prog 97 #[.int .i64 i, .pointer (some ⟨g, 0, none⟩), .pointer (some ⟨p, 0, none⟩), .pointer (some ⟨q, 0, none⟩)] w fun e w' => e = .returned (.bool (sameAt X Y i)) ∧ AskW w0 w' g p q a n c b d (A + 1) := by
  have h2 := h.asked (A + 1)
  have hx2 := hx.below h2.bel (Nat.le_refl _)
  have hy2 := hy.below h2.bel (Nat.le_refl _)
  obtain ⟨xb, xo, rfl, hc⟩ := hx2.at (by omega)
  obtain ⟨yb, yo, rfl, hd⟩ := hy2.at (by omega)
  obtain ⟨_, _, _, _, c4, _⟩ := hc i hi
  obtain ⟨_, _, _, _, d4, _⟩ := hd i hi
  have p1 := h2.pa.cell (i := 0) (by omega)
  have p2 := h2.pb.cell (i := 0) (by omega)
  have g1 := h.cnt.cell (i := 0) (by omega)
  have g2 := h.cnt.frozen 0
  have H2 : Hid (AskW w0 (w.setCell ⟨g, 0, none⟩ (.int .i64 (A + 1))) g p q (some ⟨xb, xo, none⟩) n c (some ⟨yb, yo, none⟩) d (A + 1)) := h2
  rw [sameAt_nat]
  generalize (X i).chain = CA at *
  generalize (Y i).chain = CB at *
  clear hc hd hx hy hx2 hy2 h h2
  have i0 : (0 : Int) ≤ (i : Int) := by omega
  have i1 : (i : Int) < (n : Int) := by omega
  go_enter Tryz.func97, Tryz.ntmps97
  go_wp2_with fail
  go_quiet (fail)
  go_wp2_with fail
  go_ret
  exact ⟨rfl, H2.out.drewN _⟩

set_option maxHeartbeats 3200000 in
theorem parting_calls (g p q : Nat) (a : Option Addr) (n c : Nat) (b : Option Addr) (d : Nat) (X Y : Nat → Rcm) (DX DY : Nat → List Int) (w0 w : World) (h : AskW w0 w g p q a n c b d 0) (hx : Recs w0 a n c X DX) (hy : Recs w0 b n d Y DY) (h1 : 1 ≤ n) (hn : n ≤ 40) :
    Calls Tryz.prog 98 #[.int .i64 n, .func (.func 97) #[] #[.pointer (some ⟨g, 0, none⟩), .pointer (some ⟨p, 0, none⟩), .pointer (some ⟨q, 0, none⟩)]] w fun e w' => e = .returned (.int .i64 (findP X Y n).1) ∧ AskW w0 w' g p q a n c b d (findP X Y n).2 := by
  have HA : Hid (∀ (i : Nat) (A : Int) (w : World), i < n → 0 ≤ A → A ≤ 2000 → AskW w0 w g p q a n c b d A → Calls Tryz.prog 97 #[.int .i64 i, .pointer (some ⟨g, 0, none⟩), .pointer (some ⟨p, 0, none⟩), .pointer (some ⟨q, 0, none⟩)] w fun e w' => e = .returned (.bool (sameAt X Y i)) ∧ AskW w0 w' g p q a n c b d (A + 1)) := fun i A w hi e1 e2 h => find1_calls i g p q a n c b d X Y DX DY A w0 w h hx hy hi hn e1 e2
  clear hx hy
  obtain ⟨P, HP⟩ : ∃ P : Nat, Hid (P + 1 = n) := ⟨n - 1, by show n - 1 + 1 = n; omega⟩
  have eP : (n : Int) - 1 = (P : Int) := by have := HP.out; omega
  have CA := HA.out P 0 w (by have := HP.out; omega) (by omega) (by omega) h
  obtain ⟨FX, HX⟩ : ∃ t, Hid ((findP X Y n).1 = t) := ⟨_, rfl⟩
  obtain ⟨FY, HY⟩ : ∃ t, Hid ((findP X Y n).2 = t) := ⟨_, rfl⟩
  rw [HX.out, HY.out]
  clear h
  go_enter Tryz.func98, Tryz.ntmps98
  go_wp2_with fail
  refine CA.mono ?_
  rintro e w1 ⟨rfl, k1⟩
  have K1 : Hid (AskW w0 w1 g p q a n c b d (0 + 1)) := k1
  clear k1 CA
  cases hs : sameAt X Y (P : Int) with
  | true =>
    have hF : findP X Y n = ((n : Int), 1) := by unfold findP; rw [eP, if_pos hs]
    rw [hF] at HX HY
    go_wp2_with fail
    go_ret
    exact ⟨congrArg (fun t => Ending.returned (.int .i64 t)) HX.out, HY.out ▸ K1.out⟩
  | false =>
    have hF : findP X Y n = findG (sameAt X Y) n (-1) ((n : Int) - 1) 1 := by unfold findP; rw [eP, if_neg (by rw [hs]; decide)]
    rw [hF] at HX HY
    have f0 := FindAt.start X Y (n := n) (by omega) hn
    rw [eP] at f0
    clear hF
    go_wp2_with fail
    go_loopw [5, 6] (fun lv pv wr => ∃ (low place asks : Int), pv = .int .i64 place ∧ lv = .int .i64 low ∧ Hid (FindAt X Y n low place asks) ∧ Hid (AskW w0 wr g p q a n c b d asks)) (fun lv pv _ => (intOf pv - intOf lv).toNat)
    case atStart => exact ⟨-1, P, 1, rfl, rfl, f0, K1⟩
    case round =>
      clear f0 K1
      obtain ⟨low, place, asks, rfl, rfl, hf, hk⟩ := hrel
      have a1 := hf.out.lo
      have a2 := hf.out.lt
      have a3 := hf.out.hi
      have a4 := hf.out.few
      have a5 := hf.out.pos
      by_cases hgo : low + 1 < place
      · obtain ⟨S, HS⟩ : ∃ S : Nat, Hid (low + place = (S : Int)) := ⟨(low + place).toNat, by show low + place = _; omega⟩
        have eS : low + place = (S : Int) := HS.out
        obtain ⟨M, HM⟩ : ∃ M : Nat, Hid (S / 2 = M) := ⟨_, rfl⟩
        have eM : (S : Int).tdiv 2 = (M : Int) := by rw [← HM.out]; rfl
        have hd : 1 < place - low := by omega
        have HMD : Hid (low + (place - low) / 2 = (M : Int)) := by show low + (place - low) / 2 = (M : Int); have := HS.out; have := HM.out; omega
        have hMn : M < n := by have := HS.out; have := HM.out; omega
        have hM1 : low < (M : Int) := by have := HMD.out; omega
        have hM2 : (M : Int) < place := by have := HMD.out; omega
        have HY1 := hf.out.yes hd
        have HN1 := hf.out.no hd
        rw [HMD.out] at HY1 HN1
        have HYY : Hid (sameAt X Y (M : Int) = true → FindAt X Y n (M : Int) place (asks + 1)) := HY1
        have HNN : Hid (sameAt X Y (M : Int) = false → FindAt X Y n low (M : Int) (asks + 1)) := HN1
        have CA := HA.out M asks _ hMn (by omega) (by omega) hk.out
        clear HY1 HN1 hf hd hk
        go_wp2_with fail
        refine CA.mono ?_
        rintro e w3 ⟨rfl, k3⟩
        have K3 : Hid (AskW w0 w3 g p q a n c b d (asks + 1)) := k3
        clear k3 CA
        cases hsm : sameAt X Y (M : Int) with
        | true =>
          have fy : Hid (FindAt X Y n (M : Int) place (asks + 1)) := HYY.out hsm
          go_wp2_with fail
          go_roundw
          case rel => exact ⟨M, place, asks + 1, rfl, rfl, fy, K3⟩
          case measure => simp [intOf]; omega
        | false =>
          have fn : Hid (FindAt X Y n low (M : Int) (asks + 1)) := HNN.out hsm
          go_wp2_with fail
          go_roundw
          case rel => exact ⟨low, M, asks + 1, rfl, rfl, fn, K3⟩
          case measure => simp [intOf]; omega
      · have hst := hf.out.stop (by omega)
        rw [hst] at HX HY
        clear hst hf
        go_wp2_with fail
        go_ret
        exact ⟨congrArg (fun t => Ending.returned (.int .i64 t)) HX.out, HY.out ▸ hk.out⟩

theorem row_new (w : World) (v : Value) (t : TypeId) : (w.alloc (.cells #[v] t)).rowIs w.heap.size t 1 (fun _ => v) :=
  World.rowIs_alloc w #[v] t (fun _ => v) (by
    intro i hi
    obtain rfl : i = 0 := by simpa using hi
    rfl)

set_option maxHeartbeats 3200000 in
theorem find_says : FindSays := by
  intro a n c1 b m c2 X Y DX DY w hx hy hn hm
  obtain ⟨W0, HW0⟩ : ∃ q, Hid (q = ((w.alloc (.cells #[.slice a n c1] 49)).alloc (.cells #[.slice b m c2] 49))) := ⟨_, rfl⟩
  have hal : Below w.heap.size w W0 := by rw [HW0.out]; exact ((Below.refl w.heap.size w).alloc (Nat.le_refl _) (.cells #[.slice a n c1] 49)).alloc (by simp) (.cells #[.slice b m c2] 49)
  have hsz : W0.heap.size = w.heap.size + 1 + 1 := by rw [HW0.out]; simp
  have r1 : W0.rowIs w.heap.size 49 1 (fun _ => .slice a n c1) := by
    rw [HW0.out]
    exact (row_new w (.slice a n c1) 49).alloc _
  have r2 : W0.rowIs (w.heap.size + 1) 49 1 (fun _ => .slice b m c2) := by
    rw [HW0.out]
    have h := row_new (w.alloc (.cells #[.slice a n c1] 49)) (.slice b m c2) 49
    have e : (w.alloc (.cells #[.slice a n c1] 49)).heap.size = w.heap.size + 1 := by simp
    rw [e] at h
    exact h
  have k1 := r1.cell (i := 0) (by omega)
  have k2 := r2.cell (i := 0) (by omega)
  by_cases hok : m = n ∧ n ≠ 0 ∧ n ≤ 40
  · obtain ⟨rfl, hn0, hn40⟩ := hok
    have hE : fdE m m = 0 := if_pos ⟨rfl, hn0, hn40⟩
    have hX : fdX X Y m m = (findP X Y m).1 := if_pos ⟨rfl, hn0, hn40⟩
    have hY : fdY X Y m m = (findP X Y m).2 := if_pos ⟨rfl, hn0, hn40⟩
    rw [hE, hX, hY]
    clear hE hX hY
    have q1 : ((m : Int) != (m : Int)) = false := by simp
    have q2 : ((m : Int) == 0) = false := by rw [beq_eq_false_iff_ne]; omega
    have q3 : ¬ (m : Int) > 40 := by omega
    have HPC : Hid (∀ w1, AskW w w1 (w.heap.size + 1 + 1) w.heap.size (w.heap.size + 1) a m c1 b c2 0 → Calls Tryz.prog 98 #[.int .i64 m, .func (.func 97) #[] #[.pointer (some ⟨w.heap.size + 1 + 1, 0, none⟩), .pointer (some ⟨w.heap.size, 0, none⟩), .pointer (some ⟨w.heap.size + 1, 0, none⟩)]] w1 fun e w' => e = .returned (.int .i64 (findP X Y m).1) ∧ AskW w w' (w.heap.size + 1 + 1) w.heap.size (w.heap.size + 1) a m c1 b c2 (findP X Y m).2) := fun w1 h => parting_calls _ _ _ a m c1 b c2 X Y DX DY w w1 h hx hy (by omega) hn40
    have AW : Hid (AskW w (W0.alloc (.cells #[.int .i64 0] 3)) (w.heap.size + 1 + 1) w.heap.size (w.heap.size + 1) a m c1 b c2 0) := by
      have r3 := row_new W0 (.int .i64 0) 3
      rw [hsz] at r3
      exact AskW.mk r3 (r1.alloc _) (r2.alloc _) (hal.alloc (by omega) _) (by omega) (by omega) (by omega)
    have k4 := AW.out.pa.cell (i := 0) (by omega)
    generalize (findP X Y m).1 = FX at *
    generalize (findP X Y m).2 = FY at *
    clear hx hy r1 r2
    go_enter Tryz.func43, Tryz.ntmps43
    go_upto_region 1 with fail
    rw [← HW0.out]
    clear HW0
    go_wp2_with fail
    refine (HPC.out _ AW.out).mono ?_
    rintro e w2 ⟨rfl, h2⟩
    have k5 := h2.cnt.cell (i := 0) (by omega)
    have B2 : Hid (Below w.heap.size w w2) := h2.bel
    clear h2 HPC AW k1 k2 k4
    go_wp2_with fail
    go_quiet (fail)
    go_wp2_with fail
    go_ret3
    exact ⟨rfl, below_drewN B2.out _⟩
  · have hE : fdE n m = 5 := if_neg hok
    have hX : fdX X Y n m = 0 := if_neg hok
    have hY : fdY X Y n m = 0 := if_neg hok
    rw [hE, hX, hY]
    have g0 : (m = n ∧ n = 0) ∨ (m = n ∧ n ≠ 0 ∧ 40 < n) ∨ m ≠ n := by omega
    clear hE hX hY hx hy r1 r2 hok
    rcases g0 with ⟨rfl, rfl⟩ | ⟨rfl, g2, g3⟩ | g1
    · go_enter Tryz.func43, Tryz.ntmps43
      go_upto_region 1 with fail
      rw [← HW0.out]
      go_wp2_with fail
      go_ret3
      exact ⟨rfl, hal⟩
    · have q1 : ((m : Int) != (m : Int)) = false := by simp
      have q2 : ((m : Int) == 0) = false := by rw [beq_eq_false_iff_ne]; omega
      have q3 : (m : Int) > 40 := by omega
      go_enter Tryz.func43, Tryz.ntmps43
      go_upto_region 1 with fail
      rw [← HW0.out]
      go_wp2_with fail
      go_ret3
      exact ⟨rfl, hal⟩
    · have q1 : ((n : Int) != (m : Int)) = true := by rw [bne_iff_ne]; omega
      go_enter Tryz.func43, Tryz.ntmps43
      go_upto_region 1 with fail
      rw [← HW0.out]
      go_wp2_with fail
      go_ret3
      exact ⟨rfl, hal⟩
end Go.Proofs.YtimciamfgpdjlaaGreat.Fx

/- The walk of TopConvicts: it returns true, whatever is handed in, and nothing that was there is written; spot.Prove's contract is handed in. -/
namespace Go.Proofs.YtimciamfgpdjlaaGreat.Fx
open Go.RowKit

theorem likeB_swap (x y : Rcm) (xs ys : List Int) (h : likeB x y xs ys = false) : likeB y x ys xs = false := by
  cases e : likeB y x ys xs with
  | false => rfl
  | true =>
    unfold likeB at e h
    simp only [Bool.and_eq_true, decide_eq_true_eq] at e
    obtain ⟨⟨⟨h1, h2⟩, h3⟩, h4⟩ := e
    rw [h1, h2, h3, h4] at h
    simp at h

set_option maxRecDepth 100000 in
set_option maxHeartbeats 6400000 in
theorem topConvicts_core (c : Cfg) (hs : okW c.seed) (a : Option Addr) (n cap : Nat) (X : Nat → Exm) (DI DO : Nat → List Int) (n0 : Int) (la : Option Addr) (ln lc : Nat) (L : Nat → Rcm) (DL : Nat → List Int) (w : World) (hx : Exs w a n cap X DI DO) (hl : Recs w la ln lc L DL) (hL : ∀ j, j < ln → RecIn w (L j) (DL j)) (HPS : ProveSays) :
    Calls Tryz.prog 6 #[c.val, .slice a n cap, .int .i64 n0, .slice la ln lc] w fun e w' => e = .returned (.bool true) ∧ Below w.heap.size w w' := by
  have hal := low_alloc w (.cells c.cells 24)
  have KB : Hid (∀ q, Below (w.alloc (.cells c.cells 24)).heap.size (w.alloc (.cells c.cells 24)) q → BoxC q w.heap.size c) := fun q hq => boxC hq (by simp)
  have HRK : Hid (∀ q, Below w.heap.size w q → Calls Tryz.prog 9 #[c.val, .slice a n cap] q fun e w' => e = .returned (.int .i64 (courseI c n X DI DO)) ∧ Below q.heap.size q w') := fun q hq => rcourse_calls c a n cap X DI DO q (hx.below hq (Nat.le_refl _))
  obtain ⟨BB, HBB⟩ : ∃ t : Nat, Hid (c.batch.toNat = t) := ⟨_, rfl⟩
  have HMK : Hid (courseI c n X DI DO = 0 → ∀ (k : Nat) q, (k : Int) ≤ c.steps → Below w.heap.size w q → Calls Tryz.prog 21 #[c.val, .slice a n cap, .int .i64 k] q fun e w' => ∃ g R, e = .returned (.tuple #[.slice (some ⟨g, 0, none⟩) k k, .int .i64 0]) ∧ q.heap.size ≤ g ∧ w'.rowIs g 30 (k * 5) (rcsR R k) ∧ JrIn w' g q.heap.size BB k R (jrG c n) ∧ JrN k R (mkRV c) (mkRO c n DI DO) (mkCH c n DI DO) ∧ Below q.heap.size q w') := fun hF k q hk hq => by
    have h := jMake_good c a n cap X DI DO k q hs (hx.below hq (Nat.le_refl _)) hF hk
    rw [HBB.out] at h
    exact h
  have HRC : Hid (∀ (q : World) (g base k : Nat) (R : Nat → Rcm), q.rowIs g 30 (k * 5) (rcsR R k) → JrIn q g base BB k R (jrG c n) → Recs q (some ⟨g, 0, none⟩) k k R (jrBatch c n)) := fun q g base k R h1 h2 => by
    rw [← HBB.out] at h2
    exact recs_of h1 h2
  have HST : Hid (courseI c n X DI DO = 0 → (1 ≤ c.steps ∧ c.steps ≤ 40) ∧ BB ≤ 8) := fun hF => by
    obtain ⟨_, _, _, ⟨b1, b2⟩, p, _⟩ := cfgB_is (course_ok hF).1
    have := HBB.out
    exact ⟨p, by omega⟩
  -- what the course's journal, with some records of the other's, comes to
  obtain ⟨OR, HOR⟩ : ∃ f : (Nat → Rcm) → Nat → Nat → Rcm, Hid (f = fun R k => overR R L k) := ⟨_, rfl⟩
  obtain ⟨OD, HOD⟩ : ∃ f : Nat → Nat → List Int, Hid (f = fun k => overD (jrBatch c n) DL L k) := ⟨_, rfl⟩
  have HBD : Hid (∀ (k N : Nat) (R : Nat → Rcm), k ≤ ln → (∀ j, j < N → WdOk (R j) (jrBatch c n j)) → ∀ j, j < N → (OR R k j).s ≤ 9223372036854775807 ∧ (OR R k j).r ≤ 9223372036854775807 ∧ okW (OR R k j).root ∧ (OR R k j).n ≤ 9223372036854775807 ∧ ∀ i, i < (OR R k j).n → (OD k j).getD i 0 ≤ 9223372036854775807) := fun k N R hk h1 => by
    rw [HOR.out, HOD.out]
    exact over_bd hk h1 hL
  have HWD : Hid (courseI c n X DI DO = 0 → ∀ (N : Nat) (R : Nat → Rcm), (N : Int) ≤ c.steps → JrN N R (mkRV c) (mkRO c n DI DO) (mkCH c n DI DO) → (∀ j, j < N → (R j).n ≤ 8) → (∀ j, j < N → (R j).n = BB) → ∀ j, j < N → WdOk (R j) (jrBatch c n j)) := fun h0 N R hN hJ h8 hb => own_wd h0 hN hJ h8 (fun j hj => by rw [hb j hj, ← HBB.out])
  have HWL : Hid (∀ (N : Nat) (R : Nat → Rcm), JrN N R (mkRV c) (mkRO c n DI DO) (mkCH c n DI DO) → WellC (mkCH c n DI DO 0) R (jrBatch c n) N) := fun N R hJ => course_well hJ
  have HHO : Hid (okP (mkCH c n DI DO 0)) := ofP_ok _ _
  have HRB : Hid (∀ (q : World) (k N gb cb : Nat) (R : Nat → Rcm), k ≤ ln → Below w.heap.size w q → (∀ j, j < N → Lst q (R j).a (R j).n (R j).k (jrBatch c n j)) → RowR q gb cb N (OR R k) → Recs q (some ⟨gb, 0, none⟩) N cb (OR R k) (OD k)) := fun q k N gb cb R hk hq h1 hr => by
    rw [HOR.out] at hr
    rw [HOR.out, HOD.out]
    have h2 : ∀ j, j < k → Lst q (L j).a (L j).n (L j).k (DL j) := fun j hj => by
      obtain ⟨b, off, e, hc⟩ := (hl.below hq (Nat.le_refl _)).at (by omega)
      exact (hc j (by omega)).2.2.2.2.2
    exact hr.recs (over_lst h1 h2)
  have HPR : Hid (courseI c n X DI DO = 0 → ∀ (K : Nat) (q : World), (K : Int) < c.steps → Below w.heap.size w q → Calls Tryz.prog 12 #[c.val, .slice a n cap, .int .i64 K] q fun e w' => ∃ b1 d1 b2 d2, e = .returned (.tuple #[.agg #[.slice b1 (sizeN c).toNat d1, .slice b2 (sizeN c).toNat d2], .int .i64 0]) ∧ Lst w' b1 (sizeN c).toNat d1 (stW c n DI DO K) ∧ Lst w' b2 (sizeN c).toNat d2 (stM c n DI DO K) ∧ Below q.heap.size q w') := fun h0 K q hK hq => by
    refine (HPS c hs a n cap X DI DO K q (hx.below hq (Nat.le_refl _))).mono ?_
    rintro e w' ⟨b1, m1, d1, b2, m2, d2, he, _, _, l1, l2, hb⟩
    obtain ⟨e0, e1, e2⟩ := prE_in h0 (step := K) (in_yes ⟨by omega, by omega⟩)
    rw [e0] at he
    rw [e1] at l1
    rw [e2] at l2
    have hl := stateP_len c n DI DO (sizeN c).toNat K
    have q1 : m1 = (sizeN c).toNat := by rw [← l1.len]; exact hl.1
    have q2 : m2 = (sizeN c).toNat := by rw [← l2.len]; exact hl.2
    subst q1 q2
    exact ⟨b1, d1, b2, d2, he, l1, l2, hb⟩
  have HJD : Hid (courseI c n X DI DO = 0 → ∀ (q : World) (N K : Nat) (R : Nat → Rcm) (y : Rcm) (ys : List Int) (b1 : Option Addr) (d1 : Nat) (b2 : Option Addr) (d2 : Nat), K < N → (N : Int) ≤ c.steps → Below w.heap.size w q → JrN N R (mkRV c) (mkRO c n DI DO) (mkCH c n DI DO) → Lst q b1 (sizeN c).toNat d1 (stW c n DI DO K) → Lst q b2 (sizeN c).toNat d2 (stM c n DI DO K) → Lst q y.a y.n y.k ys → Lst q (R K).a (R K).n (R K).k (jrBatch c n K) → y.n ≤ 8 → (R K).n ≤ 8 → likeB (R K) y (jrBatch c n K) ys = false → Calls Tryz.prog 46 #[c.val, .slice a n cap, .agg #[.slice b1 (sizeN c).toNat d1, .slice b2 (sizeN c).toNat d2], .int .i64 K, (R K).val, y.val] q fun e w' => e = .returned (.tuple #[.int .i64 1, .int .i64 0]) ∧ Below q.heap.size q w') := fun h0 q N K R y ys b1 d1 b2 d2 hK hN hq hJ l1 l2 lx ly hxn hy hlk => by
    have h := judge_calls c hs a n cap X DI DO b1 _ d1 _ b2 _ d2 _ K (R K) y (jrBatch c n K) ys q (hx.below hq (Nat.le_refl _)) l1 l2 ly lx (by omega) (by omega)
    rw [own_next h0 (by omega), own_like h0 hJ hK (by omega), own_like h0 hJ hK (by omega), likeB_refl, likeB_swap _ _ _ _ hlk] at h
    exact h
  have HHD : Hid (courseI c n X DI DO = 0 → ∀ q, Below w.heap.size w q → Calls Tryz.prog 40 #[c.val, .slice a n cap] q fun e w' => e = .returned (.tuple #[.int .u64 (mkCH c n DI DO 0), .int .i64 0]) ∧ Below q.heap.size q w') := fun h0 q hq => by
    have h := jHead_calls c hs a n cap X DI DO q (hx.below hq (Nat.le_refl _))
    have e : headV c n X DI DO = mkCH c n DI DO 0 := by unfold headV; rw [if_pos h0]; rfl
    rw [e, h0] at h
    exact h
  clear hx hs HPS HBB
  generalize (sizeN c).toNat = NN at *
  generalize stW c n DI DO = SW at *
  generalize stM c n DI DO = SM at *
  generalize courseI c n X DI DO = F at *
  generalize jrBatch c n = DB at *
  generalize jrG c n = DG at *
  generalize mkRV c = RV at *
  generalize mkRO c n DI DO = RO at *
  generalize mkCH c n DI DO = CH at *
  have HO0 : Hid (∀ R, OR R 0 = R) := fun R => by rw [HOR.out]; exact overR_zero R L
  have HOP : Hid (∀ R k, (L k).s ≠ -1 → bentR (OR R k) k (L k) = OR R (k + 1)) := fun R k h => by rw [HOR.out]; exact overR_put h
  have HOS : Hid (∀ R k, (L k).s = -1 → OR R k = OR R (k + 1)) := fun R k h => by rw [HOR.out]; exact overR_skip h
  clear HOR HOD
  have hl1 := hl
  obtain ⟨W0, HW0⟩ : ∃ q, Hid (q = w.alloc (.cells c.cells 24)) := ⟨_, rfl⟩
  rw [← HW0.out] at hal KB
  obtain ⟨i, h, o, seed, batch, steps, crate, decay, how, keep, clip⟩ := c
  simp only [Cfg.val, Cfg.cells] at *
  go_enter Tryz.func6, Tryz.ntmps6
  go_wp2_with fail
  rw [← HW0.out]
  clear HW0
  refine (said_calls _).mono ?_
  rintro e w1 ⟨rfl, T⟩
  obtain ⟨c0, c1, c2, c3, c4, c5, c6, c7, c8, c9, c10⟩ := KB.out _ T
  dsimp only at c0 c1 c2 c3 c4 c5 c6 c7 c8 c9 c10
  go_wp2_with fail
  refine (HRK.out _ (hal.trans (T.mono hal.size))).mono ?_
  rintro e w2 ⟨rfl, hw2⟩
  replace T := T.trans (hw2.mono T.size)
  clear hw2 HRK c0 c1 c2 c3 c4 c5 c6 c7 c8 c9 c10
  obtain ⟨c0, c1, c2, c3, c4, c5, c6, c7, c8, c9, c10⟩ := KB.out _ T
  dsimp only at c0 c1 c2 c3 c4 c5 c6 c7 c8 c9 c10
  by_cases hF : F = 0
  rotate_left
  · have hFn : (F != 0) = true := by rw [bne_iff_ne]; exact hF
    clear HMK HPR HJD HRB HBD HWD HWL HST hF HRC HHD
    go_wp2_with fail
    go_ret
    exact ⟨rfl, hal.trans (T.mono hal.size)⟩
  subst hF
  obtain ⟨⟨s1, s2⟩, hB8⟩ := HST.out (by trivial)
  clear HST
  go_upto_region 5 with fail
  go_cut [2] (fun v q => ∃ N1 : Nat, (1 ≤ N1 ∧ N1 ≤ 5) ∧ (N1 : Int) ≤ steps ∧ v = .int .i64 N1 ∧ q = w2)
  case first =>
    clear HMK HPR HJD HRB HBD HWD HWL HRC KB hl hl1 hL
    by_cases h6 : steps ≤ 5
    · obtain ⟨S, hS⟩ : ∃ S : Nat, steps = (S : Int) := ⟨steps.toNat, by omega⟩
      subst hS
      have RS := rest_any n0 S (by omega) (by omega) w2
      go_wp2_with ((go_at_call 20; refine RS.mono ?_; rintro e w' ⟨⟨N1, hN1, rfl⟩, hw'⟩; replace hw' := hw'.symm; subst hw'))
      go_meet
      case rel => exact ⟨N1 + 1, by omega, by omega, by congr 1; omega, rfl⟩
    · have h7 : 5 < steps := by omega
      have RS : Calls Tryz.prog 20 #[.int .i64 n0, .int .i64 5] w2 fun e w' => (∃ k : Nat, k < 5 ∧ e = .returned (.int .i64 k)) ∧ w' = w2 := rest_any n0 5 (by omega) (by omega) w2
      go_wp2_with ((go_at_call 20; refine RS.mono ?_; rintro e w' ⟨⟨N1, hN1, rfl⟩, hw'⟩; replace hw' := hw'.symm; subst hw'))
      go_meet
      case rel => exact ⟨N1 + 1, by omega, by omega, by congr 1; omega, rfl⟩
  case rest =>
  obtain ⟨N1, ⟨hNp, hN6⟩, hN1, rfl, hwq⟩ := hcut
  replace hwq := hwq.symm
  subst hwq
  have MK := HMK.out (by trivial) N1 _ hN1 (hal.trans (T.mono hal.size))
  go_wp2_with fail
  refine MK.mono ?_
  rintro e w3 ⟨g, R, rfl, hg, rrow, hji, hjn, hw3⟩
  replace T := T.trans (hw3.mono T.size)
  have hT3 := hal.trans (T.mono hal.size)
  clear hw3 HMK MK c0 c1 c2 c3 c4 c5 c6 c7 c8 c9 c10
  have HJN : Hid (JrN N1 R RV RO CH) := hjn
  have H8 : Hid (∀ j, j < N1 → (R j).n ≤ 8) := fun j hj => by have := (hji j hj).1; omega
  have HWA := HWL.out N1 R HJN.out
  have HWDR : Hid (∀ j, j < N1 → WdOk (R j) (DB j)) := HWD.out (by trivial) N1 R hN1 HJN.out H8.out (fun j hj => (hji j hj).1)
  have HWLA : Hid (WellC (CH 0) R DB N1) := HWA
  clear HWA HWD HWL
  have HRA : Hid (∀ q, Below w3.heap.size w3 q → Recs q (some ⟨g, 0, none⟩) N1 N1 R DB) := fun q hq => (HRC.out _ _ _ _ _ rrow hji).below hq (Nat.le_refl _)
  have HLA : Hid (∀ q, Below w3.heap.size w3 q → ∀ j, j < N1 → Lst q (R j).a (R j).n (R j).k (DB j)) := fun q hq j hj => by
    obtain ⟨b, off, e, hc⟩ := (HRA.out q hq).at (by omega)
    exact (hc j hj).2.2.2.2.2
  clear hjn hji HRC
  have HDC := HHD.out (by trivial) _ hT3
  obtain ⟨c0, c1, c2, c3, c4, c5, c6, c7, c8, c9, c10⟩ := KB.out _ T
  dsimp only at c0 c1 c2 c3 c4 c5 c6 c7 c8 c9 c10
  go_wp2_with fail
  refine HDC.mono ?_
  rintro e w30 ⟨rfl, hw30⟩
  have rrow30 := rrow.of_block (hw30.block _ rrow.lt)
  clear HDC HHD c0 c1 c2 c3 c4 c5 c6 c7 c8 c9 c10
  have CL := cloneR_calls g N1 N1 R w30 rrow30 (by omega)
  go_wp2_with fail
  refine CL.mono ?_
  rintro e w4 ⟨gb, cb, rfl, hgb0, hrow, hcb, hw40⟩
  have hw4 := hw30.trans (hw40.mono hw30.size)
  have hgb : w3.heap.size ≤ gb := Nat.le_trans hw30.size hgb0
  have HRW : Hid (RowR w4 gb cb N1 (OR R 0)) := by rw [HO0.out]; exact hrow
  have hNc := hrow.1
  clear CL hrow HO0
  -- the loop: other records in the places of some
  obtain ⟨LL, HLL⟩ : ∃ t : Nat, Hid (min ln N1 = t) := ⟨_, rfl⟩
  have hLL1 : LL ≤ ln := by have := HLL.out; omega
  have hLL2 : LL ≤ N1 := by have := HLL.out; omega
  have hLc : LL ≤ lc := by have := hl.1; omega
  have hLi0 : (0 : Int) ≤ (LL : Int) := by omega
  have hLi1 : (LL : Int) ≤ (lc : Int) := by omega
  go_upto_region 11 with fail
  go_cut [61, 62, 63] (fun u v t q => u = .slice la LL lc ∧ v = .int .i64 LL ∧ t = .int .i64 0 ∧ q = w4)
  case first =>
    clear HPR HJD HRB HBD KB hl hl1 hL HOP HOS HRW HRA HLA HJN H8
    by_cases h9 : ln ≤ N1
    · obtain rfl : LL = ln := by have := HLL.out; omega
      have h10 : (LL : Int) ≤ (N1 : Int) := by omega
      go_wp2_with fail
      all_goals
        go_meet
        case rel => exact ⟨rfl, rfl, rfl, rfl⟩
    · obtain rfl : LL = N1 := by have := HLL.out; omega
      have h10 : ¬ (ln : Int) ≤ (LL : Int) := by omega
      go_wp2_with fail
      all_goals
        go_meet
        case rel => exact ⟨rfl, rfl, rfl, rfl⟩
  case rest =>
  obtain ⟨rfl, rfl, rfl, hwq⟩ := hcut
  replace hwq := hwq.symm
  subst hwq
  have HL3 : Hid (Recs w4 la ln lc L DL) := hl.below (hT3.trans (hw4.mono hT3.size)) (Nat.le_refl _)
  go_wp2_with fail
  go_loopw [63] (fun v wr => ∃ k : Nat, k ≤ LL ∧ v = .int .i64 k ∧ Hid (RowR wr gb cb N1 (OR R k)) ∧ Below w3.heap.size w3 wr) (fun v _ => LL - (intOf v).toNat)
  case atStart => exact ⟨0, Nat.zero_le _, rfl, HRW, hw4⟩
  case round =>
    obtain ⟨k, hk, rfl, hrw, hbel⟩ := hrel
    by_cases hlt : k < LL
    · have hbw := hT3.trans (hbel.mono hT3.size)
      obtain ⟨xb, xo, rfl, hc⟩ := (hl.below hbw (Nat.le_refl _)).at (by omega)
      obtain ⟨e0, e1, e2, e3, e4, _⟩ := hc k (by omega)
      have hput := hrw.out.put (L k) (K := k) (by omega)
      have hop := HOP.out R k
      have hos := HOS.out R k
      obtain ⟨x, hxk⟩ : ∃ x, L k = x := ⟨_, rfl⟩
      rw [hxk] at e0 e1 e2 e3 e4 hop hos
      have kk0 : (0 : Int) ≤ (k : Int) := by omega
      have kk1 : (k : Int) < (LL : Int) := by omega
      have kk2 : (k : Int) < (N1 : Int) := by omega
      obtain ⟨xs0, xa, xn, xk, xr, xroot, xchain⟩ := x
      dsimp only at e0 e1 e2 e3 e4 hop hos
      have ha := low_alloc wr (.cells #[.int .i64 xs0, .slice xa xn xk, .int .i64 xr, .int .u64 xroot, .int .u64 xchain] 30)
      obtain ⟨p0, p1, p2, p3, p4⟩ := fn5_box (fn5_alloc wr (.int .i64 xs0) (.slice xa xn xk) (.int .i64 xr) (.int .u64 xroot) (.int .u64 xchain) 30)
      have hrw2 := hrw.out.below ha
      have hb2 := hbel.trans (ha.mono hbel.size)
      by_cases hs1 : xs0 = -1
      · have hn1 : (xs0 != -1) = false := by rw [hs1]; rfl
        have hrw3 : Hid (RowR (wr.alloc (.cells #[.int .i64 xs0, .slice xa xn xk, .int .i64 xr, .int .u64 xroot, .int .u64 xchain] 30)) gb cb N1 (OR R (k + 1))) := by rw [← hos hs1]; exact hrw2
        clear hput hop hos hrw2 hrw hc hxk hs1
        go_wp2_with fail
        go_roundw
        case rel => exact ⟨k + 1, by omega, by go_num, hrw3, hb2⟩
        case measure => simp [intOf]; omega
      · have hn1 : (xs0 != -1) = true := by rw [bne_iff_ne]; exact hs1
        have hput2 := hrw2.put ⟨xs0, xa, xn, xk, xr, xroot, xchain⟩ (K := k) (by omega)
        rw [hop hs1] at hput2
        have HPT : Hid (RowR _ gb cb N1 (OR R (k + 1))) := hput2
        have r0 := hrw2.cell (j := k) (t := 0) (by omega) (by omega)
        have r1 := hrw2.cell (j := k) (t := 1) (by omega) (by omega)
        have r2 := hrw2.cell (j := k) (t := 2) (by omega) (by omega)
        have r3 := hrw2.cell (j := k) (t := 3) (by omega) (by omega)
        have r4 := hrw2.cell (j := k) (t := 4) (by omega) (by omega)
        have f0 := hrw2.frozen (k * 5)
        have f1 := hrw2.frozen (k * 5 + 1)
        have f2 := hrw2.frozen (k * 5 + 2)
        have f3 := hrw2.frozen (k * 5 + 3)
        have f4 := hrw2.frozen (k * 5 + 4)
        rw [Nat.add_zero] at r0
        generalize recC (OR R k k) 0 = z0 at r0
        generalize recC (OR R k k) 1 = z1 at r1
        generalize recC (OR R k k) 2 = z2 at r2
        generalize recC (OR R k k) 3 = z3 at r3
        generalize recC (OR R k k) 4 = z4 at r4
        dsimp only at HPT
        clear hput hop hos hrw2 hrw hc hxk hs1 hput2
        go_wp2_with fail
        go_roundw
        case rel => exact ⟨k + 1, by omega, by go_num, HPT, ((((hb2.setCell hgb _).setCell hgb _).setCell hgb _).setCell hgb _).setCell hgb _⟩
        case measure => simp [intOf]; omega
    · obtain rfl : k = LL := by omega
      clear HOP HOS HL3 HRW
      have hbw := hT3.trans (hbel.mono hT3.size)
      have REC := HRB.out wr k N1 gb cb R hLL1 hbw (HLA.out wr hbel) hrw.out
      have hbd := HBD.out k N1 R hLL1 HWDR.out
      have CHN := chained_calls (CH 0) (okP_W HHO.out) gb cb N1 (OR R k) (OD k) wr REC (by omega) hbd
      have HLB : Hid (∀ j, j < N1 → Lst wr (OR R k j).a (OR R k j).n (OR R k j).k (OD k j)) := fun j hj => (REC.at0 hj).2.2.2.2.2
      have HBD2 : Hid (∀ j, j < N1 → (OR R k j).s ≤ 9223372036854775807 ∧ (OR R k j).r ≤ 9223372036854775807 ∧ okW (OR R k j).root ∧ (OR R k j).n ≤ 9223372036854775807 ∧ ∀ i, i < (OR R k j).n → (OD k j).getD i 0 ≤ 9223372036854775807) := hbd
      have TT := T.trans (hbel.mono T.size)
      clear HRB HBD hrw REC hbd hl hl1 hL
      generalize OR R k = OB at *
      generalize OD k = OE at *
      go_wp2_with fail
      refine CHN.mono ?_
      rintro e w6 ⟨hres, hw6⟩
      have T6 := TT.trans (hw6.mono TT.size)
      have hT6 := hal.trans (T6.mono hal.size)
      have hb6 := hbel.trans (hw6.mono hbel.size)
      rcases hres with ⟨gd, cd, rfl, hgd, hrowd, hcd, hcb⟩ | rfl
      rotate_left
      · clear CHN HLB HBD2 HPR HJD HRA HLA HJN H8 HWDR HWLA KB
        go_wp2_with fail
        go_ret
        exact ⟨rfl, hT6⟩
      have hWB := done_well (head := CH 0) hcb
      have HWDB : Hid (∀ j, j < N1 → WdOk (doneR (CH 0) OB OE N1 j) (OE j)) := done_wd (fun j hj => (HLB.out j hj).len) HBD2.out hcb
      have HRECB : Hid (∀ q, Below w6.heap.size w6 q → Recs q (some ⟨gd, 0, none⟩) N1 cd (doneR (CH 0) OB OE N1) OE) := fun q hq => (hrowd.recs (done_lst (fun j hj => (HLB.out j hj).below hw6 (Nat.le_refl _)))).below hq (Nat.le_refl _)
      have HRECA : Hid (∀ q, Below w6.heap.size w6 q → Recs q (some ⟨g, 0, none⟩) N1 N1 R DB) := fun q hq => (HRA.out _ hb6).below hq (Nat.le_refl _)
      obtain ⟨OC, HOC⟩ : ∃ t, Hid (t = doneR (CH 0) OB OE N1) := ⟨_, rfl⟩
      rw [← HOC.out] at hWB HWDB HRECB
      obtain ⟨fE, fY, fX⟩ := conv_find hNp hN6 HWLA.out hWB
      have HFX : Hid ((fdX R OC N1 N1 = (N1 : Int) ∧ (R (N1 - 1)).chain = (OC (N1 - 1)).chain) ∨ ∃ K : Nat, K < N1 ∧ fdX R OC N1 N1 = (K : Int) ∧ likeB (R K) (OC K) (DB K) (OE K) = false) := fX
      have HWB : Hid (WellC (CH 0) OC OE N1) := hWB
      have HFD : Hid (∀ q, Below w6.heap.size w6 q → Calls Tryz.prog 43 #[.slice (some ⟨g, 0, none⟩) N1 N1, .slice (some ⟨gd, 0, none⟩) N1 cd] q fun e w' => e = .returned (.tuple #[.int .i64 (fdX R OC N1 N1), .int .i64 (fdY R OC N1 N1), .int .i64 0]) ∧ Below q.heap.size q w') := fun q hq => by
        have h := find_says _ N1 N1 _ N1 cd R OC DB OE q (HRECA.out q hq) (HRECB.out q hq) (by unfold maxLen; omega) (by unfold maxLen; omega)
        rw [fE] at h
        exact h
      obtain ⟨SB, HSB⟩ : ∃ f : Nat → Bool, Hid (f = fun k => (List.range k).all fun j => likeB (R j) (OC j) (DB j) (OE j)) := ⟨_, rfl⟩
      have HS0 : Hid (SB 0 = true) := by show SB 0 = true; rw [HSB.out]; rfl
      have HSS : Hid (∀ k, SB (k + 1) = (SB k && likeB (R k) (OC k) (DB k) (OE k))) := fun k => by rw [HSB.out]; simp [List.range_succ]
      have HSA : Hid (SB N1 = true → ∀ j, j < N1 → likeB (R j) (OC j) (DB j) (OE j) = true) := fun h j hj => by
        rw [HSB.out] at h
        exact (List.all_eq_true.1 h) j (List.mem_range.2 hj)
      clear CHN HLB HBD2 hrowd hcb HOC HSB fX hWB fE HRA HLA
      have hcdN : N1 ≤ cd := (HRECB.out _ (Below.refl _ _)).1
      go_wp2_with fail
      go_loopw [17, 86] (fun sv iv wr => ∃ k2 : Nat, k2 ≤ N1 ∧ iv = .int .i64 k2 ∧ sv = .bool (SB k2) ∧ Below w6.heap.size w6 wr) (fun _ iv _ => N1 - (intOf iv).toNat)
      case atStart => exact ⟨0, Nat.zero_le _, rfl, by rw [HS0.out], Below.refl _ _⟩
      case round =>
        obtain ⟨k2, hk2, rfl, rfl, hbel7⟩ := hrel
        by_cases hlt : k2 < N1
        · generalize hq7 : wr = q7 at *
          clear hq7
          obtain ⟨e0, e1, e2, e3, e4, lx⟩ := (HRECA.out _ hbel7).at0 hlt
          obtain ⟨f0, f1, f2, f3, f4, ly⟩ := (HRECB.out _ hbel7).at0 hlt
          have hss := HSS.out k2
          have h8 := (HWDR.out k2 hlt).n
          have LK := rlike_big (R k2) (OC k2) (DB k2) (OE k2) _ (lx.below (Below.drew (Below.refl _ _)) (Nat.le_refl _)) (ly.below (Below.drew (Below.refl _ _)) (Nat.le_refl _)) (by omega)
          obtain ⟨LB, HLB⟩ : ∃ t, Hid (likeB (R k2) (OC k2) (DB k2) (OE k2) = t) := ⟨_, rfl⟩
          rw [HLB.out] at hss LK
          obtain ⟨x, hx⟩ : ∃ x, R k2 = x := ⟨_, rfl⟩
          obtain ⟨y, hy⟩ : ∃ y, OC k2 = y := ⟨_, rfl⟩
          rw [hx] at e0 e1 e2 e3 e4 LK
          rw [hy] at f0 f1 f2 f3 f4 LK
          obtain ⟨xs0, xa, xn, xk, xr, xroot, xchain⟩ := x
          obtain ⟨ys0, ya, yn, yk, yr, yroot, ychain⟩ := y
          simp only [Rcm.val, Rcm.cells] at LK
          dsimp only at e0 e1 e2 e3 e4 f0 f1 f2 f3 f4
          have KS : Hid (∀ q, Below q7.heap.size q7 q → q.cell? ⟨g, k2 * 5, none⟩ = some (.int .i64 xs0) ∧ q.cell? ⟨g, k2 * 5 + 1, none⟩ = some (.slice xa xn xk) ∧ q.cell? ⟨g, k2 * 5 + 2, none⟩ = some (.int .i64 xr) ∧ q.cell? ⟨g, k2 * 5 + 3, none⟩ = some (.int .u64 xroot) ∧ q.cell? ⟨g, k2 * 5 + 4, none⟩ = some (.int .u64 xchain) ∧ q.cell? ⟨gd, k2 * 5, none⟩ = some (.int .i64 ys0) ∧ q.cell? ⟨gd, k2 * 5 + 1, none⟩ = some (.slice ya yn yk) ∧ q.cell? ⟨gd, k2 * 5 + 2, none⟩ = some (.int .i64 yr) ∧ q.cell? ⟨gd, k2 * 5 + 3, none⟩ = some (.int .u64 yroot) ∧ q.cell? ⟨gd, k2 * 5 + 4, none⟩ = some (.int .u64 ychain)) := fun q hq => ⟨(hq.cell (p := ⟨g, k2 * 5, none⟩) (cell_lt e0)).trans e0, (hq.cell (p := ⟨g, k2 * 5 + 1, none⟩) (cell_lt e1)).trans e1, (hq.cell (p := ⟨g, k2 * 5 + 2, none⟩) (cell_lt e2)).trans e2, (hq.cell (p := ⟨g, k2 * 5 + 3, none⟩) (cell_lt e3)).trans e3, (hq.cell (p := ⟨g, k2 * 5 + 4, none⟩) (cell_lt e4)).trans e4, (hq.cell (p := ⟨gd, k2 * 5, none⟩) (cell_lt f0)).trans f0, (hq.cell (p := ⟨gd, k2 * 5 + 1, none⟩) (cell_lt f1)).trans f1, (hq.cell (p := ⟨gd, k2 * 5 + 2, none⟩) (cell_lt f2)).trans f2, (hq.cell (p := ⟨gd, k2 * 5 + 3, none⟩) (cell_lt f3)).trans f3, (hq.cell (p := ⟨gd, k2 * 5 + 4, none⟩) (cell_lt f4)).trans f4⟩
          have S0 := KS.out _ (Below.drew (Below.refl _ _))
          have y1 : (k2 : Int) < (N1 : Int) := by omega
          have y2 : (0 : Int) ≤ (k2 : Int) := by omega
          obtain ⟨SK, HSK⟩ : ∃ t, Hid (SB k2 = t) := ⟨_, rfl⟩
          rw [HSK.out] at hss
          rw [HSK.out]
          clear lx ly hx hy HLB h8 HSK
          cases SK with
          | false =>
            rw [Bool.false_and] at hss
            have HSN : Hid (SB (k2 + 1) = false) := hss
            clear hss LK
            go_wp2_with fail
            refine wp_region_held_drew (S := fun q => q.cell? ⟨g, k2 * 5, none⟩ = some (.int .i64 xs0) ∧ q.cell? ⟨g, k2 * 5 + 1, none⟩ = some (.slice xa xn xk) ∧ q.cell? ⟨g, k2 * 5 + 2, none⟩ = some (.int .i64 xr) ∧ q.cell? ⟨g, k2 * 5 + 3, none⟩ = some (.int .u64 xroot) ∧ q.cell? ⟨g, k2 * 5 + 4, none⟩ = some (.int .u64 xchain) ∧ q.cell? ⟨gd, k2 * 5, none⟩ = some (.int .i64 ys0) ∧ q.cell? ⟨gd, k2 * 5 + 1, none⟩ = some (.slice ya yn yk) ∧ q.cell? ⟨gd, k2 * 5 + 2, none⟩ = some (.int .i64 yr) ∧ q.cell? ⟨gd, k2 * 5 + 3, none⟩ = some (.int .u64 yroot) ∧ q.cell? ⟨gd, k2 * 5 + 4, none⟩ = some (.int .u64 ychain)) (by kernel_rfl) (by with_reducible exact S0) (fun hHeld => ?_)
            refine wpAnyH_take (i := 0) (oi := _) (v := ?_) rfl (by kernel_rfl) (by kernel_rfl) (by kernel_rfl) (fun _ _ _ h => h) (Or.inl ⟨by rfl, ?_⟩) (by assumption) ?_
            rotate_left
            · intro w hSw
              try dsimp only at hSw
              go_simp
              try with_reducible rfl
            simp only [Act.put, List.getElem_toArray, List.getElem_cons_zero, List.setIfInBounds_toArray, List.set_cons_zero, List.set_cons_succ]
            refine wpAnyH_take (i := 1) (oi := _) (v := ?_) rfl (by kernel_rfl) (by kernel_rfl) (by kernel_rfl) (fun _ _ _ h => h) (Or.inl ⟨by rfl, ?_⟩) (by assumption) ?_
            rotate_left
            · intro w hSw
              try dsimp only at hSw
              go_simp
              try with_reducible rfl
            simp only [Act.put, List.getElem_toArray, List.getElem_cons_zero, List.getElem_cons_succ, List.setIfInBounds_toArray, List.set_cons_zero, List.set_cons_succ]
            refine wpAnyH_take (i := 2) (oi := _) (v := undef) rfl (by kernel_rfl) (by kernel_rfl) (by kernel_rfl) (fun _ _ _ h => h) (Or.inr ⟨by rfl, rfl⟩) (by assumption) ?_
            simp only [Act.put, List.getElem_toArray, List.getElem_cons_zero, List.getElem_cons_succ, List.setIfInBounds_toArray, List.set_cons_zero, List.set_cons_succ]
            refine wpAnyH_take (i := 3) (oi := _) (v := undef) rfl (by kernel_rfl) (by kernel_rfl) (by kernel_rfl) (fun _ _ _ h => h) (Or.inr ⟨by rfl, rfl⟩) (by assumption) ?_
            simp only [Act.put, List.getElem_toArray, List.getElem_cons_zero, List.getElem_cons_succ, List.setIfInBounds_toArray, List.set_cons_zero, List.set_cons_succ]
            refine wpAnyH_take (i := 4) (oi := _) (v := undef) rfl (by kernel_rfl) (by kernel_rfl) (by kernel_rfl) (fun _ _ _ h => h) (Or.inr ⟨by rfl, rfl⟩) (by assumption) ?_
            simp only [Act.put, List.getElem_toArray, List.getElem_cons_zero, List.getElem_cons_succ, List.setIfInBounds_toArray, List.set_cons_zero, List.set_cons_succ]
            refine wpAnyH_take (i := 5) (oi := _) (v := undef) rfl (by kernel_rfl) (by kernel_rfl) (by kernel_rfl) (fun _ _ _ h => h) (Or.inr ⟨by rfl, rfl⟩) (by assumption) ?_
            simp only [Act.put, List.getElem_toArray, List.getElem_cons_zero, List.getElem_cons_succ, List.setIfInBounds_toArray, List.set_cons_zero, List.set_cons_succ]
            refine wpAnyH_take (i := 6) (oi := _) (v := undef) rfl (by kernel_rfl) (by kernel_rfl) (by kernel_rfl) (fun _ _ _ h => h) (Or.inr ⟨by rfl, rfl⟩) (by assumption) ?_
            simp only [Act.put, List.getElem_toArray, List.getElem_cons_zero, List.getElem_cons_succ, List.setIfInBounds_toArray, List.set_cons_zero, List.set_cons_succ]
            refine wpAnyH_take (i := 7) (oi := _) (v := undef) rfl (by kernel_rfl) (by kernel_rfl) (by kernel_rfl) (fun _ _ _ h => h) (Or.inr ⟨by rfl, rfl⟩) (by assumption) ?_
            simp only [Act.put, List.getElem_toArray, List.getElem_cons_zero, List.getElem_cons_succ, List.setIfInBounds_toArray, List.set_cons_zero, List.set_cons_succ]
            refine wpAnyH_take (i := 8) (oi := _) (v := undef) rfl (by kernel_rfl) (by kernel_rfl) (by kernel_rfl) (fun _ _ _ h => h) (Or.inr ⟨by rfl, rfl⟩) (by assumption) ?_
            simp only [Act.put, List.getElem_toArray, List.getElem_cons_zero, List.getElem_cons_succ, List.setIfInBounds_toArray, List.set_cons_zero, List.set_cons_succ]
            refine wpAnyH_take (i := 9) (oi := _) (v := undef) rfl (by kernel_rfl) (by kernel_rfl) (by kernel_rfl) (fun _ _ _ h => h) (Or.inr ⟨by rfl, rfl⟩) (by assumption) ?_
            simp only [Act.put, List.getElem_toArray, List.getElem_cons_zero, List.getElem_cons_succ, List.setIfInBounds_toArray, List.set_cons_zero, List.set_cons_succ]
            refine wpAnyH_take (i := 10) (oi := _) (v := undef) rfl (by kernel_rfl) (by kernel_rfl) (by kernel_rfl) (fun _ _ _ h => h) (Or.inr ⟨by rfl, rfl⟩) (by assumption) ?_
            simp only [Act.put, List.getElem_toArray, List.getElem_cons_zero, List.getElem_cons_succ, List.setIfInBounds_toArray, List.set_cons_zero, List.set_cons_succ]
            refine wpAnyH_take (i := 11) (oi := _) (v := ?_) rfl (by kernel_rfl) (by kernel_rfl) (by kernel_rfl) (fun _ _ _ h => h) (Or.inl ⟨by rfl, ?_⟩) (by assumption) ?_
            rotate_left
            · intro w hSw
              try dsimp only at hSw
              go_simp
              try with_reducible rfl
            simp only [Act.put, List.getElem_toArray, List.getElem_cons_zero, List.getElem_cons_succ, List.setIfInBounds_toArray, List.set_cons_zero, List.set_cons_succ]
            refine wpAnyH_take (i := 12) (oi := _) (v := ?_) rfl (by kernel_rfl) (by kernel_rfl) (by kernel_rfl) (fun _ _ _ h => h) (Or.inl ⟨by rfl, ?_⟩) (by assumption) ?_
            rotate_left
            · intro w hSw
              try dsimp only at hSw
              go_simp
              try with_reducible rfl
            simp only [Act.put, List.getElem_toArray, List.getElem_cons_zero, List.getElem_cons_succ, List.setIfInBounds_toArray, List.set_cons_zero, List.set_cons_succ]
            refine wpAnyH_done (by kernel_rfl) ?_ _
            clear hHeld
            go_wp2_with fail
            go_roundw
            case rel => exact ⟨k2 + 1, by omega, by go_num, by rw [HSN.out], Below.drew hbel7⟩
            case measure => simp [intOf]; omega
          | true =>
            rw [Bool.true_and] at hss
            have HSN : Hid (SB (k2 + 1) = LB) := hss
            clear hss
            go_wp2_with fail
            refine wp_region_held_drew (S := fun q => q.cell? ⟨g, k2 * 5, none⟩ = some (.int .i64 xs0) ∧ q.cell? ⟨g, k2 * 5 + 1, none⟩ = some (.slice xa xn xk) ∧ q.cell? ⟨g, k2 * 5 + 2, none⟩ = some (.int .i64 xr) ∧ q.cell? ⟨g, k2 * 5 + 3, none⟩ = some (.int .u64 xroot) ∧ q.cell? ⟨g, k2 * 5 + 4, none⟩ = some (.int .u64 xchain) ∧ q.cell? ⟨gd, k2 * 5, none⟩ = some (.int .i64 ys0) ∧ q.cell? ⟨gd, k2 * 5 + 1, none⟩ = some (.slice ya yn yk) ∧ q.cell? ⟨gd, k2 * 5 + 2, none⟩ = some (.int .i64 yr) ∧ q.cell? ⟨gd, k2 * 5 + 3, none⟩ = some (.int .u64 yroot) ∧ q.cell? ⟨gd, k2 * 5 + 4, none⟩ = some (.int .u64 ychain)) (by kernel_rfl) (by with_reducible exact S0) (fun hHeld => ?_)
            refine wpAnyH_take (i := 0) (oi := _) (v := ?_) rfl (by kernel_rfl) (by kernel_rfl) (by kernel_rfl) (fun _ _ _ h => h) (Or.inl ⟨by rfl, ?_⟩) (by assumption) ?_
            rotate_left
            · intro w hSw
              try dsimp only at hSw
              go_simp
              try with_reducible rfl
            simp only [Act.put, List.getElem_toArray, List.getElem_cons_zero, List.setIfInBounds_toArray, List.set_cons_zero, List.set_cons_succ]
            refine wpAnyH_take (i := 1) (oi := _) (v := ?_) rfl (by kernel_rfl) (by kernel_rfl) (by kernel_rfl) (fun _ _ _ h => h) (Or.inl ⟨by rfl, ?_⟩) (by assumption) ?_
            rotate_left
            · intro w hSw
              try dsimp only at hSw
              go_simp
              try with_reducible rfl
            simp only [Act.put, List.getElem_toArray, List.getElem_cons_zero, List.getElem_cons_succ, List.setIfInBounds_toArray, List.set_cons_zero, List.set_cons_succ]
            refine wpAnyH_take (i := 2) (oi := _) (v := ?_) rfl (by kernel_rfl) (by kernel_rfl) (by kernel_rfl) (fun _ _ _ h => h) (Or.inl ⟨by rfl, ?_⟩) (by assumption) ?_
            rotate_left
            · intro w hSw
              try dsimp only at hSw
              go_simp
              try with_reducible rfl
            simp only [Act.put, List.getElem_toArray, List.getElem_cons_zero, List.getElem_cons_succ, List.setIfInBounds_toArray, List.set_cons_zero, List.set_cons_succ]
            refine wpAnyH_take (i := 3) (oi := _) (v := ?_) rfl (by kernel_rfl) (by kernel_rfl) (by kernel_rfl) (fun _ _ _ h => h) (Or.inl ⟨by rfl, ?_⟩) (by assumption) ?_
            rotate_left
            · intro w hSw
              try dsimp only at hSw
              go_simp
              try with_reducible rfl
            simp only [Act.put, List.getElem_toArray, List.getElem_cons_zero, List.getElem_cons_succ, List.setIfInBounds_toArray, List.set_cons_zero, List.set_cons_succ]
            refine wpAnyH_take (i := 4) (oi := _) (v := ?_) rfl (by kernel_rfl) (by kernel_rfl) (by kernel_rfl) (fun _ _ _ h => h) (Or.inl ⟨by rfl, ?_⟩) (by assumption) ?_
            rotate_left
            · intro w hSw
              try dsimp only at hSw
              go_simp
              try with_reducible rfl
            simp only [Act.put, List.getElem_toArray, List.getElem_cons_zero, List.getElem_cons_succ, List.setIfInBounds_toArray, List.set_cons_zero, List.set_cons_succ]
            refine wpAnyH_take (i := 5) (oi := _) (v := ?_) rfl (by kernel_rfl) (by kernel_rfl) (by kernel_rfl) (fun _ _ _ h => h) (Or.inl ⟨by rfl, ?_⟩) (by assumption) ?_
            rotate_left
            · intro w hSw
              try dsimp only at hSw
              go_simp
              try with_reducible rfl
            simp only [Act.put, List.getElem_toArray, List.getElem_cons_zero, List.getElem_cons_succ, List.setIfInBounds_toArray, List.set_cons_zero, List.set_cons_succ]
            refine wpAnyH_take (i := 6) (oi := _) (v := ?_) rfl (by kernel_rfl) (by kernel_rfl) (by kernel_rfl) (fun _ _ _ h => h) (Or.inl ⟨by rfl, ?_⟩) (by assumption) ?_
            rotate_left
            · intro w hSw
              try dsimp only at hSw
              go_simp
              try with_reducible rfl
            simp only [Act.put, List.getElem_toArray, List.getElem_cons_zero, List.getElem_cons_succ, List.setIfInBounds_toArray, List.set_cons_zero, List.set_cons_succ]
            refine wpAnyH_take (i := 7) (oi := _) (v := ?_) rfl (by kernel_rfl) (by kernel_rfl) (by kernel_rfl) (fun _ _ _ h => h) (Or.inl ⟨by rfl, ?_⟩) (by assumption) ?_
            rotate_left
            · intro w hSw
              try dsimp only at hSw
              go_simp
              try with_reducible rfl
            simp only [Act.put, List.getElem_toArray, List.getElem_cons_zero, List.getElem_cons_succ, List.setIfInBounds_toArray, List.set_cons_zero, List.set_cons_succ]
            refine wpAnyH_take (i := 8) (oi := _) (v := ?_) rfl (by kernel_rfl) (by kernel_rfl) (by kernel_rfl) (fun _ _ _ h => h) (Or.inl ⟨by rfl, ?_⟩) (by assumption) ?_
            rotate_left
            · intro w hSw
              try dsimp only at hSw
              go_simp
              try with_reducible rfl
            simp only [Act.put, List.getElem_toArray, List.getElem_cons_zero, List.getElem_cons_succ, List.setIfInBounds_toArray, List.set_cons_zero, List.set_cons_succ]
            refine wpAnyH_take (i := 9) (oi := _) (v := ?_) rfl (by kernel_rfl) (by kernel_rfl) (by kernel_rfl) (fun _ _ _ h => h) (Or.inl ⟨by rfl, ?_⟩) (by assumption) ?_
            rotate_left
            · intro w hSw
              try dsimp only at hSw
              go_simp
              try with_reducible rfl
            simp only [Act.put, List.getElem_toArray, List.getElem_cons_zero, List.getElem_cons_succ, List.setIfInBounds_toArray, List.set_cons_zero, List.set_cons_succ]
            refine wpAnyH_ready (rs := [10]) (by kernel_rfl) (by simp) ?_
            refine AllReadyH.cons (o := _) rfl (fun K hK => ?_) AllReadyH.nil
            clear hHeld
            go_simp
            (go_at_call 17; refine LK.mono ?_; rintro e w8 ⟨rfl, hw8⟩; have V8 := undrew hw8; have S1 := KS.out _ V8)
            go_wp2_with fail
            refine hK.out _ _ ?_ (fun hHeld => ?_)
            · with_reducible exact S1
            clear hK K
            try simp only [Act.put, List.setIfInBounds_toArray, List.set_cons_zero, List.set_cons_succ]
            refine wpAnyH_take (i := 11) (oi := _) (v := ?_) rfl (by kernel_rfl) (by kernel_rfl) (by kernel_rfl) (fun _ _ _ h => h) (Or.inl ⟨by rfl, ?_⟩) (by assumption) ?_
            rotate_left
            · intro w hSw
              try dsimp only at hSw
              go_simp
              try with_reducible rfl
            simp only [Act.put, List.getElem_toArray, List.getElem_cons_zero, List.getElem_cons_succ, List.setIfInBounds_toArray, List.set_cons_zero, List.set_cons_succ]
            refine wpAnyH_take (i := 12) (oi := _) (v := ?_) rfl (by kernel_rfl) (by kernel_rfl) (by kernel_rfl) (fun _ _ _ h => h) (Or.inl ⟨by rfl, ?_⟩) (by assumption) ?_
            rotate_left
            · intro w hSw
              try dsimp only at hSw
              go_simp
              try with_reducible rfl
            simp only [Act.put, List.getElem_toArray, List.getElem_cons_zero, List.getElem_cons_succ, List.setIfInBounds_toArray, List.set_cons_zero, List.set_cons_succ]
            refine wpAnyH_done (by kernel_rfl) ?_ _
            clear hHeld
            go_wp2_with fail
            go_roundw
            case rel => exact ⟨k2 + 1, by omega, by go_num, by rw [HSN.out], hbel7.trans (V8.mono hbel7.size)⟩
            case measure => simp [intOf]; omega
        · have eN : N1 = k2 := by omega
          subst eN
          generalize hq9 : wr = q9 at *
          clear hq9
          have FD := HFD.out _ hbel7
          generalize fdX R OC N1 N1 = FX at *
          generalize fdY R OC N1 N1 = FY at *
          have fy2 : ¬ FY > 4 := by omega
          clear HFD HSS HS0 fY
          go_wp2_with fail
          refine FD.mono ?_
          rintro e w10 ⟨rfl, hw10⟩
          have B10 := hbel7.trans (hw10.mono hbel7.size)
          have T10 := T6.trans (B10.mono T6.size)
          have hT10 := hal.trans (T10.mono hal.size)
          clear FD hw10 hbel7
          cases hSN : SB N1 with
          | true =>
            have hfx : FX = (N1 : Int) := by
              rcases HFX.out with ⟨e, _⟩ | ⟨K, hK, _, hl⟩
              · exact e
              · have h9 := HSA.out hSN K hK
                rw [hl] at h9
                cases h9
            have hq : (FX == (N1 : Int)) = true := by rw [hfx]; simp
            clear HFX HSA hSN hfx HPR HJD HRECA HRECB HJN H8 HWDR HWDB HWLA HWB KB
            go_wp2_with fail
            go_ret
            exact ⟨rfl, hT10⟩
          | false =>
            clear HSA hSN
            rcases HFX.out with ⟨hfx, hlast⟩ | ⟨K, hK, hfx, hlk⟩
            · have hq : (FX == (N1 : Int)) = true := by rw [hfx]; simp
              have CL := collide_calls (CH 0) (okP_W HHO.out) g N1 gd cd N1 R OC DB OE w10 (HRECA.out _ B10) (HRECB.out _ B10) (by omega) HWDR.out HWDB.out
              have HLT : Hid ((R (N1 - 1)).chain = (OC (N1 - 1)).chain) := hlast
              clear HFX hfx hlast HPR HJD HJN H8 KB
              go_wp2_with fail
              refine CL.mono ?_
              rintro e w11 ⟨hres, hw11⟩
              have B11 := B10.trans (hw11.mono B10.size)
              have hT11 := hT10.trans (hw11.mono hT10.size)
              rcases hres with rfl | ⟨rfl, hno⟩
              · clear CL HRECA HRECB HWDR HWDB HWLA HWB HLT
                go_wp2_with fail
                go_ret
                exact ⟨rfl, hT11⟩
              · have hall := conv_words HHO.out hNp HWLA.out HWB.out HLT.out hno
                have AL := alike_calls g N1 gd cd N1 R OC DB OE w11 (HRECA.out _ B11) (HRECB.out _ B11) (by omega) HWDR.out HWDB.out hall
                clear CL HRECA HRECB HWDR HWDB HWLA HWB HLT hno hall
                go_wp2_with fail
                refine AL.mono ?_
                rintro e w12 ⟨rfl, hw12⟩
                go_wp2_with fail
                go_ret
                exact ⟨rfl, hT11.trans (hw12.mono hT11.size)⟩
            · subst hfx
              have hq : ((K : Int) == (N1 : Int)) = false := by rw [beq_eq_false_iff_ne]; omega
              have HLKF : Hid (likeB (R K) (OC K) (DB K) (OE K) = false) := hlk
              have h8b := (HWDB.out K hK).n
              have PR := HPR.out (by trivial) K _ (by omega) hT10
              clear HFX hlk HPR HWDR HWDB HWLA HWB
              obtain ⟨c0, c1, c2, c3, c4, c5, c6, c7, c8, c9, c10⟩ := KB.out _ T10
              dsimp only at c0 c1 c2 c3 c4 c5 c6 c7 c8 c9 c10
              go_wp2_with fail
              refine PR.mono ?_
              rintro e u1 ⟨b1, d1, b2, d2, rfl, ls1, ls2, hu1⟩
              have hal1 := low_alloc u1 (.cells #[.slice b1 NN d1, .slice b2 NN d2] 28)
              have srow := fn2_alloc u1 (.slice b1 NN d1) (.slice b2 NN d2) 28
              obtain ⟨U, HU⟩ : ∃ q, Hid (q = u1.alloc (.cells #[.slice b1 NN d1, .slice b2 NN d2] 28)) := ⟨_, rfl⟩
              have hU1 := hu1.trans (hal1.mono hu1.size)
              have lt1 := ls1.below hal1 (Nat.le_refl _)
              have lt2 := ls2.below hal1 (Nat.le_refl _)
              rw [← HU.out] at hU1 srow lt1 lt2
              have V3 := B10.trans (hU1.mono B10.size)
              have T8 := T10.trans (hU1.mono T10.size)
              clear PR c0 c1 c2 c3 c4 c5 c6 c7 c8 c9 c10 hal1 hu1 ls1 ls2 hU1
              obtain ⟨e0, e1, e2, e3, e4, lx⟩ := (HRECA.out U V3).at0 hK
              obtain ⟨f0, f1, f2, f3, f4, ly⟩ := (HRECB.out U V3).at0 hK
              have hT8 := hal.trans (T8.mono hal.size)
              have JD0 : ∀ q, Below U.heap.size U q → Calls Tryz.prog 46 #[.agg #[.int .i64 i, .int .i64 h, .int .i64 o, .int .u64 seed, .int .i64 batch, .int .i64 steps, .int .i64 crate, .int .i64 decay, .int .i64 how, .int .i64 keep, .int .i64 clip], .slice a n cap, .agg #[.slice b1 NN d1, .slice b2 NN d2], .int .i64 K, (R K).val, (OC K).val] q fun e w' => e = .returned (.tuple #[.int .i64 1, .int .i64 0]) ∧ Below q.heap.size q w' := fun q hq => HJD.out (by trivial) q N1 K R (OC K) (OE K) b1 d1 b2 d2 hK hN1 (hT8.trans (hq.mono hT8.size)) HJN.out (lt1.below hq (Nat.le_refl _)) (lt2.below hq (Nat.le_refl _)) (ly.below hq (Nat.le_refl _)) (lx.below hq (Nat.le_refl _)) h8b (H8.out K hK) HLKF.out
              have kk1 : (K : Int) < (N1 : Int) := by omega
              have kk0 : (0 : Int) ≤ (K : Int) := by omega
              clear HJD HJN H8 HRECA HRECB lx ly lt1 lt2 HLKF h8b
              generalize R K = x at *
              generalize OC K = y at *
              obtain ⟨xs0, xa, xn, xk, xr, xroot, xchain⟩ := x
              obtain ⟨ys0, ya, yn, yk, yr, yroot, ychain⟩ := y
              simp only [Rcm.val, Rcm.cells] at *
              obtain ⟨z0, z1⟩ := fn2_cells srow
              have hsl := srow.lt
              have KS : Hid (∀ q, Below U.heap.size U q → q.cell? ⟨w.heap.size, 0, none⟩ = some (.int .i64 i) ∧ q.cell? ⟨w.heap.size, 1, none⟩ = some (.int .i64 h) ∧ q.cell? ⟨w.heap.size, 2, none⟩ = some (.int .i64 o) ∧ q.cell? ⟨w.heap.size, 3, none⟩ = some (.int .u64 seed) ∧ q.cell? ⟨w.heap.size, 4, none⟩ = some (.int .i64 batch) ∧ q.cell? ⟨w.heap.size, 5, none⟩ = some (.int .i64 steps) ∧ q.cell? ⟨w.heap.size, 6, none⟩ = some (.int .i64 crate) ∧ q.cell? ⟨w.heap.size, 7, none⟩ = some (.int .i64 decay) ∧ q.cell? ⟨w.heap.size, 8, none⟩ = some (.int .i64 how) ∧ q.cell? ⟨w.heap.size, 9, none⟩ = some (.int .i64 keep) ∧ q.cell? ⟨w.heap.size, 10, none⟩ = some (.int .i64 clip) ∧ q.cell? ⟨u1.heap.size, 0, none⟩ = some (.slice b1 NN d1) ∧ q.cell? ⟨u1.heap.size, 1, none⟩ = some (.slice b2 NN d2) ∧ q.cell? ⟨g, K * 5, none⟩ = some (.int .i64 xs0) ∧ q.cell? ⟨g, K * 5 + 1, none⟩ = some (.slice xa xn xk) ∧ q.cell? ⟨g, K * 5 + 2, none⟩ = some (.int .i64 xr) ∧ q.cell? ⟨g, K * 5 + 3, none⟩ = some (.int .u64 xroot) ∧ q.cell? ⟨g, K * 5 + 4, none⟩ = some (.int .u64 xchain) ∧ q.cell? ⟨gd, K * 5, none⟩ = some (.int .i64 ys0) ∧ q.cell? ⟨gd, K * 5 + 1, none⟩ = some (.slice ya yn yk) ∧ q.cell? ⟨gd, K * 5 + 2, none⟩ = some (.int .i64 yr) ∧ q.cell? ⟨gd, K * 5 + 3, none⟩ = some (.int .u64 yroot) ∧ q.cell? ⟨gd, K * 5 + 4, none⟩ = some (.int .u64 ychain)) := fun q hq => by
                obtain ⟨c0, c1, c2, c3, c4, c5, c6, c7, c8, c9, c10⟩ := KB.out _ (T8.trans (hq.mono T8.size))
                exact ⟨c0, c1, c2, c3, c4, c5, c6, c7, c8, c9, c10, (hq.cell (p := ⟨u1.heap.size, 0, none⟩) hsl).trans z0, (hq.cell (p := ⟨u1.heap.size, 1, none⟩) hsl).trans z1, (hq.cell (p := ⟨g, K * 5, none⟩) (cell_lt e0)).trans e0, (hq.cell (p := ⟨g, K * 5 + 1, none⟩) (cell_lt e1)).trans e1, (hq.cell (p := ⟨g, K * 5 + 2, none⟩) (cell_lt e2)).trans e2, (hq.cell (p := ⟨g, K * 5 + 3, none⟩) (cell_lt e3)).trans e3, (hq.cell (p := ⟨g, K * 5 + 4, none⟩) (cell_lt e4)).trans e4, (hq.cell (p := ⟨gd, K * 5, none⟩) (cell_lt f0)).trans f0, (hq.cell (p := ⟨gd, K * 5 + 1, none⟩) (cell_lt f1)).trans f1, (hq.cell (p := ⟨gd, K * 5 + 2, none⟩) (cell_lt f2)).trans f2, (hq.cell (p := ⟨gd, K * 5 + 3, none⟩) (cell_lt f3)).trans f3, (hq.cell (p := ⟨gd, K * 5 + 4, none⟩) (cell_lt f4)).trans f4⟩
              have S0 := KS.out _ (Below.drew (Below.refl _ _))
              have JD := JD0 _ (Below.drew (Below.refl _ _))
              clear JD0 e0 e1 e2 e3 e4 f0 f1 f2 f3 f4 z0 z1 srow KB
              go_wp2_with fail
              rw [← HU.out]
              clear HU
              go_region_held3 (fun q => q.cell? ⟨w.heap.size, 0, none⟩ = some (.int .i64 i) ∧ q.cell? ⟨w.heap.size, 1, none⟩ = some (.int .i64 h) ∧ q.cell? ⟨w.heap.size, 2, none⟩ = some (.int .i64 o) ∧ q.cell? ⟨w.heap.size, 3, none⟩ = some (.int .u64 seed) ∧ q.cell? ⟨w.heap.size, 4, none⟩ = some (.int .i64 batch) ∧ q.cell? ⟨w.heap.size, 5, none⟩ = some (.int .i64 steps) ∧ q.cell? ⟨w.heap.size, 6, none⟩ = some (.int .i64 crate) ∧ q.cell? ⟨w.heap.size, 7, none⟩ = some (.int .i64 decay) ∧ q.cell? ⟨w.heap.size, 8, none⟩ = some (.int .i64 how) ∧ q.cell? ⟨w.heap.size, 9, none⟩ = some (.int .i64 keep) ∧ q.cell? ⟨w.heap.size, 10, none⟩ = some (.int .i64 clip) ∧ q.cell? ⟨u1.heap.size, 0, none⟩ = some (.slice b1 NN d1) ∧ q.cell? ⟨u1.heap.size, 1, none⟩ = some (.slice b2 NN d2) ∧ q.cell? ⟨g, K * 5, none⟩ = some (.int .i64 xs0) ∧ q.cell? ⟨g, K * 5 + 1, none⟩ = some (.slice xa xn xk) ∧ q.cell? ⟨g, K * 5 + 2, none⟩ = some (.int .i64 xr) ∧ q.cell? ⟨g, K * 5 + 3, none⟩ = some (.int .u64 xroot) ∧ q.cell? ⟨g, K * 5 + 4, none⟩ = some (.int .u64 xchain) ∧ q.cell? ⟨gd, K * 5, none⟩ = some (.int .i64 ys0) ∧ q.cell? ⟨gd, K * 5 + 1, none⟩ = some (.slice ya yn yk) ∧ q.cell? ⟨gd, K * 5 + 2, none⟩ = some (.int .i64 yr) ∧ q.cell? ⟨gd, K * 5 + 3, none⟩ = some (.int .u64 yroot) ∧ q.cell? ⟨gd, K * 5 + 4, none⟩ = some (.int .u64 ychain)) (first | with_reducible exact S1' | with_reducible exact S0) ((go_at_call 46; refine JD.mono ?_; rintro e w9 ⟨rfl, hw9⟩; have V9 := undrew hw9; have S1' := KS.out _ V9))
              all_goals
                go_wp2_with fail
                go_ret
                exact ⟨rfl, hT8.trans (V9.mono hT8.size)⟩
end Go.Proofs.YtimciamfgpdjlaaGreat.Fx

/- What spot.sameByP and spot.size return. -/
namespace Go.Proofs.YtimciamfgpdjlaaGreat.Fx
open Go.RowKit

theorem two_cells (w : World) (v0 v1 : Value) (t : TypeId) : (w.alloc (.cells #[v0, v1] t)).cell? ⟨w.heap.size, 0, none⟩ = some v0 ∧ (w.alloc (.cells #[v0, v1] t)).cell? ⟨w.heap.size, 1, none⟩ = some v1 := by
  have h := World.rowIs_alloc w #[v0, v1] t (fun i => if i = 0 then v0 else v1) (by
    intro i hi
    rcases (show i = 0 ∨ i = 1 from by have : i < 2 := hi
                                       omega) with rfl | rfl <;> rfl)
  exact ⟨h.cell (i := 0) (by simp), h.cell (i := 1) (by simp)⟩

theorem sameByP_calls (x y : Int) (hx : okW x) (hy : okW y) (w : World) :
    Calls Tryz.prog 65 #[.int .u64 x, .int .u64 y] w fun e w' => e = .returned (.bool (decide (x % 2305843009213693951 = y % 2305843009213693951))) ∧ w' = w := by
  obtain ⟨x0, x1⟩ := hx
  obtain ⟨y0, y1⟩ := hy
  obtain ⟨MX, HMX⟩ : ∃ t, Hid (x % 2305843009213693951 = t) := ⟨_, rfl⟩
  obtain ⟨MY, HMY⟩ : ∃ t, Hid (y % 2305843009213693951 = t) := ⟨_, rfl⟩
  have tx : x.tmod 2305843009213693951 = MX := by rw [← HMX.out, Int.tmod_eq_emod_of_nonneg x0]
  have ty : y.tmod 2305843009213693951 = MY := by rw [← HMY.out, Int.tmod_eq_emod_of_nonneg y0]
  have ex : x % 2305843009213693951 = MX := HMX.out
  have ey : y % 2305843009213693951 = MY := HMY.out
  rw [ex, ey]
  clear HMX HMY
  go_enter Tryz.func65, Tryz.ntmps65
  go_wp2
  go_ret
  exact ⟨by rfl, rfl⟩

theorem size_calls (n i : Int) (hi : 0 ≤ i ∧ i ≤ 50) (hn : 0 ≤ n ∧ n ≤ 200) (w : World) :
    Calls Tryz.prog 71 #[.int .i64 n, .int .i64 i] w fun e w' => e = .returned (.int .i64 (min 4 (n - 4 * i))) ∧ w' = w := by
  obtain ⟨i0, i1⟩ := hi
  obtain ⟨n0, n1⟩ := hn
  by_cases h : n - i * 4 < 4
  · have e : min 4 (n - 4 * i) = n - i * 4 := by omega
    rw [e]
    go_enter Tryz.func71, Tryz.ntmps71
    go_wp2
    go_ret
    exact ⟨rfl, rfl⟩
  · have e : min 4 (n - 4 * i) = 4 := by omega
    rw [e]
    go_enter Tryz.func71, Tryz.ntmps71
    go_wp2
    go_ret
    exact ⟨rfl, rfl⟩
end Go.Proofs.YtimciamfgpdjlaaGreat.Fx

/- What spot.Prove and spot.Holds return, whatever is handed in. -/
namespace Go.Proofs.YtimciamfgpdjlaaGreat.Fx
open Go.RowKit

set_option maxHeartbeats 800000 in
theorem prove_c (c : Cfg) (a : Option Addr) (n cap : Nat) (m E : Int) (w : World) (hE : E ≠ 0) (HC : Hid (∀ q, Below w.heap.size w q → Calls Tryz.prog 54 #[c.val, .slice a n cap] q fun e w' => e = .returned (.int .i64 E) ∧ Below q.heap.size q w')) :
    Calls Tryz.prog 12 #[c.val, .slice a n cap, .int .i64 m] w fun e w' => e = .returned (.tuple #[.agg #[.slice none 0 0, .slice none 0 0], .int .i64 E]) ∧ Below w.heap.size w w' := by
  have lb0 := LawBox.start w c (.slice none 0 0) (.slice none 0 0)
  have hne : (E != 0) = true := by rw [bne_iff_ne]; exact hE
  have CK := HC.out _ lb0.bel
  clear hE HC
  obtain ⟨i, h, o, seed, batch, steps, crate, decay, how, keep, clip⟩ := c
  simp only [Cfg.val, Cfg.cells] at *
  go_enter Tryz.func12, Tryz.ntmps12
  go_wp2_with fail
  refine CK.mono ?_
  rintro e w1 ⟨rfl, hw1⟩
  have lb1 := lb0.below hw1
  clear hw1 lb0 CK
  have ⟨_, hr1, hb1⟩ := lb1
  obtain ⟨r0, r1⟩ := fn2_cells hr1
  have f0 := hr1.frozen 0
  have f1 := hr1.frozen 1
  go_wp2_with fail
  obtain ⟨q0, q1⟩ := fn2_cells (fn2_set hr1 (.slice none 0 0) (.slice none 0 0))
  exact bodyPost_ret (v := .tuple #[.agg #[.slice none 0 0, .slice none 0 0], .int .i64 E]) (by simp [results, Tryz.results12, go_sem, q0, q1]) rfl ⟨rfl, (hb1.setCell (show w.heap.size ≤ w.heap.size + 1 by omega) _).setCell (show w.heap.size ≤ w.heap.size + 1 by omega) _⟩

set_option maxHeartbeats 800000 in
theorem prove_r (c : Cfg) (a : Option Addr) (n cap : Nat) (m : Int) (w : World) (hm : inB m 0 (c.steps - 1) = false) (HC : Hid (∀ q, Below w.heap.size w q → Calls Tryz.prog 54 #[c.val, .slice a n cap] q fun e w' => e = .returned (.int .i64 0) ∧ Below q.heap.size q w')) :
    Calls Tryz.prog 12 #[c.val, .slice a n cap, .int .i64 m] w fun e w' => e = .returned (.tuple #[.agg #[.slice none 0 0, .slice none 0 0], .int .i64 1]) ∧ Below w.heap.size w w' := by
  have hlow : ¬ (0 ≤ m ∧ m ≤ c.steps - 1) := fun g => by rw [in_yes g] at hm; cases hm
  have lb0 := LawBox.start w c (.slice none 0 0) (.slice none 0 0)
  have CK := HC.out _ lb0.bel
  clear hm HC
  obtain ⟨i, h, o, seed, batch, steps, crate, decay, how, keep, clip⟩ := c
  simp only [Cfg.val, Cfg.cells] at *
  by_cases hn : m < 0
  · go_enter Tryz.func12, Tryz.ntmps12
    go_wp2_with fail
    refine CK.mono ?_
    rintro e w1 ⟨rfl, hw1⟩
    have lb1 := lb0.below hw1
    clear hw1 lb0 CK
    have ⟨_, hr1, hb1⟩ := lb1
    obtain ⟨r0, r1⟩ := fn2_cells hr1
    have f0 := hr1.frozen 0
    have f1 := hr1.frozen 1
    go_wp2_with fail
    obtain ⟨q0, q1⟩ := fn2_cells (fn2_set hr1 (.slice none 0 0) (.slice none 0 0))
    exact bodyPost_ret (v := .tuple #[.agg #[.slice none 0 0, .slice none 0 0], .int .i64 1]) (by simp [results, Tryz.results12, go_sem, q0, q1]) rfl ⟨rfl, (hb1.setCell (show w.heap.size ≤ w.heap.size + 1 by omega) _).setCell (show w.heap.size ≤ w.heap.size + 1 by omega) _⟩
  · have hge : steps ≤ m := by omega
    go_enter Tryz.func12, Tryz.ntmps12
    go_wp2_with fail
    refine CK.mono ?_
    rintro e w1 ⟨rfl, hw1⟩
    have lb1 := lb0.below hw1
    have c5 := lb1.cfg.c5
    dsimp only at c5
    clear hw1 lb0 CK
    have ⟨_, hr1, hb1⟩ := lb1
    obtain ⟨r0, r1⟩ := fn2_cells hr1
    have f0 := hr1.frozen 0
    have f1 := hr1.frozen 1
    go_wp2_with fail
    obtain ⟨q0, q1⟩ := fn2_cells (fn2_set hr1 (.slice none 0 0) (.slice none 0 0))
    exact bodyPost_ret (v := .tuple #[.agg #[.slice none 0 0, .slice none 0 0], .int .i64 1]) (by simp [results, Tryz.results12, go_sem, q0, q1]) rfl ⟨rfl, (hb1.setCell (show w.heap.size ≤ w.heap.size + 1 by omega) _).setCell (show w.heap.size ≤ w.heap.size + 1 by omega) _⟩

set_option maxRecDepth 100000 in
set_option maxHeartbeats 800000 in
theorem prove_good (c : Cfg) (a : Option Addr) (n cap : Nat) (T : Nat) (w : World) (hm : (T : Int) < c.steps) (SW SM : Nat → List Int) (HC : Hid (∀ q, Below w.heap.size w q → Calls Tryz.prog 54 #[c.val, .slice a n cap] q fun e w' => e = .returned (.int .i64 0) ∧ Below q.heap.size q w'))
    (HR : Hid (∀ q, Below w.heap.size w q → Calls Tryz.prog 48 #[c.val, .slice a n cap, .int .i64 T] q fun e w' => ∃ b k Y, e = .returned (.tuple #[.slice b (T + 1) k, .int .i64 0]) ∧ Exs w' b (T + 1) k Y SW SM ∧ Below q.heap.size q w')) :
    Calls Tryz.prog 12 #[c.val, .slice a n cap, .int .i64 T] w fun e w' => ∃ b1 m1 d1 b2 m2 d2, e = .returned (.tuple #[.agg #[.slice b1 m1 d1, .slice b2 m2 d2], .int .i64 0]) ∧ Lst w' b1 m1 d1 (SW T) ∧ Lst w' b2 m2 d2 (SM T) ∧ Below w.heap.size w w' := by
  have lb0 := LawBox.start w c (.slice none 0 0) (.slice none 0 0)
  have CK := HC.out _ lb0.bel
  have hT0 : (0 : Int) ≤ T := by omega
  clear HC
  obtain ⟨i, h, o, seed, batch, steps, crate, decay, how, keep, clip⟩ := c
  simp only [Cfg.val, Cfg.cells] at *
  go_enter Tryz.func12, Tryz.ntmps12
  go_wp2_with fail
  refine CK.mono ?_
  rintro e w1 ⟨rfl, hw1⟩
  have lb1 := lb0.below hw1
  obtain ⟨c0, c1, c2, c3, c4, c5, c6, c7, c8, c9, c10⟩ := lb1.cfg
  dsimp only at c0 c1 c2 c3 c4 c5 c6 c7 c8 c9 c10
  have RN := HR.out _ lb1.bel
  clear CK HR lb0 hw1
  go_wp2_with fail
  refine RN.mono ?_
  rintro e w3 ⟨b, k, Y, rfl, hY, hw3⟩
  have lb3 := lb1.below hw3
  obtain ⟨yb, yo, rfl, y0, y1, hin⟩ := hY.at (i := T) (by omega)
  obtain ⟨y, hy⟩ : ∃ y, Y T = y := ⟨_, rfl⟩
  rw [hy] at y0 y1 hin
  obtain ⟨ya, yn, yk, yb2, ym, yt⟩ := y
  dsimp only at y0 y1
  have kT : (T : Int) < ((T + 1 : Nat) : Int) := by omega
  have kT2 : (T : Int) < (T : Int) + 1 := by omega
  clear c0 c1 c2 c3 c4 c5 c6 c7 c8 c9 c10 RN hY hy lb1 hw3
  have ⟨_, hr1, hb1⟩ := lb3
  obtain ⟨r0, r1⟩ := fn2_cells hr1
  have f0 := hr1.frozen 0
  have f1 := hr1.frozen 1
  go_wp2_with fail
  have hrow := fn2_set hr1 (.slice ya yn yk) (.slice yb2 ym yt)
  obtain ⟨q0, q1⟩ := fn2_cells hrow
  have st1 := hr1.set 0 (.slice ya yn yk)
  have z1 : (w3.setCell ⟨w.heap.size + 1, 0, none⟩ (.slice ya yn yk)).cell? ⟨w.heap.size + 1, 1, none⟩ = some (.slice none 0 0) := st1.cell (i := 1) (by omega)
  have hin1 := (hin.i.setOff r0 (.slice ya yn yk)).setOff z1 (.slice yb2 ym yt)
  have hin2 := (hin.o.setOff r0 (.slice ya yn yk)).setOff z1 (.slice yb2 ym yt)
  exact bodyPost_ret (v := .tuple #[.agg #[.slice ya yn yk, .slice yb2 ym yt], .int .i64 0]) (by simp [results, Tryz.results12, go_sem, q0, q1]) rfl ⟨ya, yn, yk, yb2, ym, yt, rfl, hin1, hin2, (hb1.setCell (show w.heap.size ≤ w.heap.size + 1 by omega) _).setCell (show w.heap.size ≤ w.heap.size + 1 by omega) _⟩

theorem prove_says : ProveSays := by
  intro c hs a n cap X DI DO step w hx
  have HC : ∀ q, Below w.heap.size w q → Calls Tryz.prog 54 #[c.val, .slice a n cap] q fun e w' => e = .returned (.int .i64 (courseI c n X DI DO)) ∧ Below q.heap.size q w' := fun q hq => tcheck_calls c a n cap X DI DO q (hx.below hq (Nat.le_refl _))
  have bad : ∀ E : Int, E ≠ 0 → prE c n X DI DO step = E → Calls Tryz.prog 12 #[c.val, .slice a n cap, .int .i64 step] w (fun e w' => e = .returned (.tuple #[.agg #[.slice none 0 0, .slice none 0 0], .int .i64 E]) ∧ Below w.heap.size w w') →
      Calls Tryz.prog 12 #[c.val, .slice a n cap, .int .i64 step] w fun e w' => ∃ b1 m1 d1 b2 m2 d2, e = .returned (.tuple #[.agg #[.slice b1 m1 d1, .slice b2 m2 d2], .int .i64 (prE c n X DI DO step)]) ∧ m1 ≤ 200 ∧ m2 ≤ 200 ∧ Lst w' b1 m1 d1 (prW c n X DI DO step) ∧ Lst w' b2 m2 d2 (prM c n X DI DO step) ∧ Below w.heap.size w w' := by
    intro E hE he hcall
    refine hcall.mono ?_
    rintro e w' ⟨rfl, hb⟩
    unfold prW prM
    rw [he, if_neg hE, if_neg hE]
    exact ⟨none, 0, 0, none, 0, 0, rfl, by omega, by omega, Lst.nil _ _ _, Lst.nil _ _ _, hb⟩
  by_cases hE : courseI c n X DI DO = 0
  · rw [hE] at HC
    cases hm : inB step 0 (c.steps - 1) with
    | false => exact bad 1 (by decide) (by unfold prE; rw [if_pos hE, hm]; rfl) (prove_r c a n cap step w hm HC)
    | true =>
      obtain ⟨e0, e1, e2⟩ := prE_in hE hm
      rw [e0, e1, e2]
      have hlow := in_is hm
      obtain ⟨T, hT⟩ := Int.eq_ofNat_of_zero_le hlow.1
      have hTn : step.toNat = T := by rw [hT]; rfl
      rw [hTn]
      clear bad hm e0 e1 e2 hTn
      subst hT
      have hR : runE c n X DI DO T = 0 := by unfold runE; rw [if_pos hE, in_yes ⟨by omega, by omega⟩]; rfl
      have hN : runN c n X DI DO T = T + 1 := by unfold runN; rw [if_pos hR]; rfl
      have hc := (course_ok hE).1
      have hzn := sizeN_bd hc
      have hl : (stW c n DI DO T).length = (sizeN c).toNat ∧ (stM c n DI DO T).length = (sizeN c).toNat := stateP_len c n DI DO (sizeN c).toNat T
      refine (prove_good c a n cap T w (by omega) (stW c n DI DO) (stM c n DI DO) HC (fun q hq => ?_)).mono ?_
      · have h := tRun_calls c hs a n cap X DI DO T q (hx.below hq (Nat.le_refl _))
        rw [hR, hN] at h
        exact h
      · rintro e w' ⟨b1, m1, d1, b2, m2, d2, he, l1, l2, hb⟩
        have h1 := l1.len
        have h2 := l2.len
        exact ⟨b1, m1, d1, b2, m2, d2, he, by omega, by omega, l1, l2, hb⟩
  · exact bad _ hE (by unfold prE; rw [if_neg hE]) (prove_c c a n cap step _ w hE HC)

set_option maxRecDepth 100000 in
set_option maxHeartbeats 1600000 in
theorem holds_says : HoldsSays := by
  intro c hs a n cap X DI DO a1 n1 k1 ws a2 n2 k2 ms step root x xs w hrt hx l1 l2 lx hn12 hxn
  have sp0 := SpBox.start w c (.slice a1 n1 k1) (.slice a2 n2 k2) x
  have JD := judge_calls c hs a n cap X DI DO a1 n1 k1 ws a2 n2 k2 ms step x x xs xs _ (hx.below sp0.bel (Nat.le_refl _)) (l1.below sp0.bel (Nat.le_refl _)) (l2.below sp0.bel (Nat.le_refl _)) (lx.below sp0.bel (Nat.le_refl _)) (lx.below sp0.bel (Nat.le_refl _)) hxn hxn
  have HRT : Hid (∀ q, Below w.heap.size w q → Calls Tryz.prog 22 #[.agg #[.slice a1 n1 k1, .slice a2 n2 k2]] q fun e w' => e = .returned (.tuple #[.int .u64 (rootV n1 ws n2 ms), .int .i64 (rootE n1 n2)]) ∧ Below q.heap.size q w') := fun q hq => jroot_calls a1 n1 k1 ws a2 n2 k2 ms q (l1.below hq (Nat.le_refl _)) (l2.below hq (Nat.le_refl _)) hn12
  have hvo : okW (rootV n1 ws n2 ms) ∧ rootV n1 ws n2 ms % 2305843009213693951 = rootV n1 ws n2 ms := by
    rw [rootV_is]
    unfold rootL
    split
    · exact ⟨⟨by omega, by omega⟩, by omega⟩
    · have h := ofP_ok 3 [((n1 + n2 : Nat) : Int), treeP (leavesP (ws ++ ms) (n1 + n2))]
      exact ⟨⟨h.1, by have := h.2; omega⟩, Int.emod_eq_of_lt h.1 h.2⟩
  have SB := fun q => sameByP_calls (rootV n1 ws n2 ms) root hvo.1 hrt q
  rw [hvo.2] at SB
  have HSB : Hid (∀ q, Calls Tryz.prog 65 #[.int .u64 (rootV n1 ws n2 ms), .int .u64 root] q fun e w' => e = .returned (.bool (decide (rootV n1 ws n2 ms = root % 2305843009213693951))) ∧ w' = q) := SB
  by_cases hz : nextE c n X DI DO n1 ws n2 ms step = 0
  · have HH : Hid (hoB c n X DI DO n1 ws n2 ms step root x xs = (decide (rootV n1 ws n2 ms = root % 2305843009213693951) && jgB c n X DI DO n1 ws n2 ms step x xs)) := by
      show _ = _
      unfold hoB
      rw [if_pos hz]
    rw [HH.out]
    rw [hz] at JD ⊢
    clear SB hvo HH
    generalize jgB c n X DI DO n1 ws n2 ms step x xs = Q at *
    generalize rootV n1 ws n2 ms = RV at *
    generalize rootE n1 n2 = RE at *
    generalize decide (RV = root % 2305843009213693951) = SV at *
    obtain ⟨JN, HJN⟩ : ∃ t, Hid (jdN 0 Q Q = t) := ⟨_, rfl⟩
    have hJ0 : Q = false → JN = 0 := fun h => by rw [← HJN.out, h]; rfl
    have hJ3 : Q = true → JN = 3 := fun h => by rw [← HJN.out, h]; rfl
    rw [HJN.out] at JD
    clear hx l1 l2 hz hs lx hxn hn12 HJN
    obtain ⟨i, h, o, seed, batch, steps, crate, decay, how, keep, clip⟩ := c
    obtain ⟨xs0, xa, xn, xk, xr, xroot, xchain⟩ := x
    simp only [Cfg.val, Cfg.cells, Rcm.val, Rcm.cells] at *
    obtain ⟨c0, c1, c2, c3, c4, c5, c6, c7, c8, c9, c10⟩ := sp0.cfg
    obtain ⟨s0, s1⟩ := fn2_cells sp0.st
    obtain ⟨x0, x1, x2, x3, x4⟩ := fn5_box sp0.ra
    dsimp only at c0 c1 c2 c3 c4 c5 c6 c7 c8 c9 c10
    go_enter Tryz.func18, Tryz.ntmps18
    go_wp2_with fail
    refine JD.mono ?_
    rintro e u1 ⟨rfl, hu1⟩
    have sp1 := sp0.below hu1
    clear JD c0 c1 c2 c3 c4 c5 c6 c7 c8 c9 c10 s0 s1 x0 x1 x2 x3 x4 sp0
    obtain ⟨s0, s1⟩ := fn2_cells sp1.st
    have RT := HRT.out _ sp1.bel
    have hb1 := sp1.bel
    clear HRT sp1
    go_wp2_with fail
    refine RT.mono ?_
    rintro e u2 ⟨rfl, hu2⟩
    have SB1 := HSB.out u2
    have hb2 := hb1.trans (hu2.mono hb1.size)
    clear RT HSB s0 s1
    cases SV with
    | false =>
      clear hJ0 hJ3
      go_wp2_with fail
      refine SB1.mono ?_
      rintro e u3 ⟨rfl, hu3⟩
      replace hu3 := hu3.symm
      subst hu3
      go_wp2_with fail
      go_ret2
      exact ⟨rfl, hb2⟩
    | true =>
      cases Q with
      | false =>
        obtain rfl := hJ0 rfl
        clear hJ0 hJ3
        go_wp2_with fail
        refine SB1.mono ?_
        rintro e u3 ⟨rfl, hu3⟩
        replace hu3 := hu3.symm
        subst hu3
        go_wp2_with fail
        go_ret2
        exact ⟨rfl, hb2⟩
      | true =>
        obtain rfl := hJ3 rfl
        clear hJ0 hJ3
        go_wp2_with fail
        refine SB1.mono ?_
        rintro e u3 ⟨rfl, hu3⟩
        replace hu3 := hu3.symm
        subst hu3
        go_wp2_with fail
        go_ret2
        exact ⟨rfl, hb2⟩
  · have HH : hoB c n X DI DO n1 ws n2 ms step root x xs = false := by
      unfold hoB
      rw [if_neg hz]
    have hJ : jdN (nextE c n X DI DO n1 ws n2 ms step) (jgB c n X DI DO n1 ws n2 ms step x xs) (jgB c n X DI DO n1 ws n2 ms step x xs) = 0 := if_neg hz
    rw [hJ] at JD
    rw [HH]
    have hb : (nextE c n X DI DO n1 ws n2 ms step != 0) = true := by rw [bne_iff_ne]; exact hz
    generalize nextE c n X DI DO n1 ws n2 ms step = E at *
    clear hx l1 l2 hs lx hxn hn12 hJ hz HRT HSB SB hvo HH
    obtain ⟨i, h, o, seed, batch, steps, crate, decay, how, keep, clip⟩ := c
    obtain ⟨xs0, xa, xn, xk, xr, xroot, xchain⟩ := x
    simp only [Cfg.val, Cfg.cells, Rcm.val, Rcm.cells] at *
    obtain ⟨c0, c1, c2, c3, c4, c5, c6, c7, c8, c9, c10⟩ := sp0.cfg
    obtain ⟨s0, s1⟩ := fn2_cells sp0.st
    obtain ⟨x0, x1, x2, x3, x4⟩ := fn5_box sp0.ra
    dsimp only at c0 c1 c2 c3 c4 c5 c6 c7 c8 c9 c10
    go_enter Tryz.func18, Tryz.ntmps18
    go_wp2_with fail
    refine JD.mono ?_
    rintro e u1 ⟨rfl, hu1⟩
    have hb1 := (sp0.below hu1).bel
    go_wp2_with fail
    go_ret2
    exact ⟨rfl, hb1⟩
end Go.Proofs.YtimciamfgpdjlaaGreat.Fx

/- TopConvicts returns true, whatever is handed in. -/
namespace Go.Proofs.YtimciamfgpdjlaaGreat.Fx
open Go.RowKit

theorem topConvicts_any (c : Cfg) (a : Option Addr) (n cap : Nat) (X : Nat → Exm) (DI DO : Nat → List Int) (n0 : Int) (la : Option Addr) (ln lc : Nat) (L : Nat → Rcm) (DL : Nat → List Int) (w : World) (hs : (Lit.int .u64 c.seed).wf = true) (hx : Exs w a n cap X DI DO) (_ : (Lit.int .i64 n0).wf = true) (hl : RecsIn w la ln lc L DL) :
    Calls Tryz.prog 6 #[c.val, .slice a n cap, .int .i64 n0, .slice la ln lc] w fun e w' => e = .returned (.bool true) ∧ Below w.heap.size w w' :=
  topConvicts_core c (wf_word hs) a n cap X DI DO n0 la ln lc L DL w hx hl.recs hl.each prove_says
end Go.Proofs.YtimciamfgpdjlaaGreat.Fx
