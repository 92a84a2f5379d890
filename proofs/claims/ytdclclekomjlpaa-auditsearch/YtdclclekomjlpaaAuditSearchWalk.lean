/- The walk of AuditSearch: it returns true, whatever two lists of records are handed in, and nothing that was there is written; audit.Find's contract is handed in. -/
import Derived.Test.YtdclclekomjlpaaFindK
import Derived.Test.YtdclclekomjlpaaAudA
import Derived.Test.YtdclclekomjlpaaProg
import Derived.Deep.QuietTactic
import Derived.BigQuiet
import Derived.Deep.DeepCutAuto
import Derived.Deep.CutBlock
namespace Go.Proofs.Ytdclclekomjlpaa.Fx
open Go.RowKit

def twoR (c d : Int) (i : Nat) : Rcm := ⟨0, none, 0, 0, 0, 0, if i = 0 then c else d⟩
theorem two_recs (w : World) (c d : Int) (t : TypeId) : Recs (w.alloc (.cells #[.int .i64 0, .slice none 0 0, .int .i64 0, .int .u64 0, .int .u64 c, .int .i64 0, .slice none 0 0, .int .i64 0, .int .u64 0, .int .u64 d] t)) (some ⟨w.heap.size, 0, none⟩) 2 2 (twoR c d) (fun _ => []) := by
  have hr : (w.alloc (.cells #[.int .i64 0, .slice none 0 0, .int .i64 0, .int .u64 0, .int .u64 c, .int .i64 0, .slice none 0 0, .int .i64 0, .int .u64 0, .int .u64 d] t)).rowIs w.heap.size t 10 (fun i => #[Value.int .i64 0, .slice none 0 0, .int .i64 0, .int .u64 0, .int .u64 c, .int .i64 0, .slice none 0 0, .int .i64 0, .int .u64 0, .int .u64 d].getD i default) :=
    World.rowIs_alloc w #[.int .i64 0, .slice none 0 0, .int .i64 0, .int .u64 0, .int .u64 c, .int .i64 0, .slice none 0 0, .int .i64 0, .int .u64 0, .int .u64 d] t _ (fun i hi => by
      have h : i < 10 := hi
      rcases (show i = 0 ∨ i = 1 ∨ i = 2 ∨ i = 3 ∨ i = 4 ∨ i = 5 ∨ i = 6 ∨ i = 7 ∨ i = 8 ∨ i = 9 by omega) with rfl | rfl | rfl | rfl | rfl | rfl | rfl | rfl | rfl | rfl <;> rfl)
  refine ⟨Nat.le_refl _, .inr ⟨w.heap.size, 0, rfl, by simp, fun i hi => ?_⟩⟩
  rcases (show i = 0 ∨ i = 1 by omega) with rfl | rfl
  · exact ⟨hr.cell (i := 0) (by omega), hr.cell (i := 1) (by omega), hr.cell (i := 2) (by omega), hr.cell (i := 3) (by omega), hr.cell (i := 4) (by omega), Lst.nil _ _ _⟩
  · exact ⟨hr.cell (i := 5) (by omega), hr.cell (i := 6) (by omega), hr.cell (i := 7) (by omega), hr.cell (i := 8) (by omega), hr.cell (i := 9) (by omega), Lst.nil _ _ _⟩
theorem two_find : fdX (twoR 1 2) (twoR 1 3) 2 2 = 1 ∧ fdY (twoR 1 2) (twoR 1 3) 2 2 = 2 ∧ fdE 2 2 = 0 := by decide

set_option maxRecDepth 100000 in
set_option maxHeartbeats 12800000 in
theorem auditSearch_core (a : Option Addr) (n c1 : Nat) (b : Option Addr) (m c2 : Nat) (X Y : Nat → Rcm) (DX DY : Nat → List Int) (w : World) (hx : Recs w a n c1 X DX) (hy : Recs w b m c2 Y DY) (hn : n ≤ maxLen) (hm : m ≤ maxLen) (FS : FindSays) :
    Calls Try.prog 4 #[.slice a n c1, .slice b m c2] w fun e w' => e = .returned (.bool true) ∧ Below w.heap.size w w' := by
  have hal : Below w.heap.size w ((w.alloc (.cells #[.int .i64 0, .slice none 0 0, .int .i64 0, .int .u64 0, .int .u64 1, .int .i64 0, .slice none 0 0, .int .i64 0, .int .u64 0, .int .u64 2] 29)).alloc (.cells #[.int .i64 0, .slice none 0 0, .int .i64 0, .int .u64 0, .int .u64 1, .int .i64 0, .slice none 0 0, .int .i64 0, .int .u64 0, .int .u64 3] 29)) := ((Below.refl w.heap.size w).alloc (Nat.le_refl _) _).alloc (by simp) _
  have F0 : Hid (Calls Try.prog 5 #[.slice (some ⟨w.heap.size, 0, none⟩) 2 2, .slice (some ⟨w.heap.size + 1, 0, none⟩) 2 2] ((w.alloc (.cells #[.int .i64 0, .slice none 0 0, .int .i64 0, .int .u64 0, .int .u64 1, .int .i64 0, .slice none 0 0, .int .i64 0, .int .u64 0, .int .u64 2] 29)).alloc (.cells #[.int .i64 0, .slice none 0 0, .int .i64 0, .int .u64 0, .int .u64 1, .int .i64 0, .slice none 0 0, .int .i64 0, .int .u64 0, .int .u64 3] 29)) fun e w' => e = .returned (.tuple #[.int .i64 1, .int .i64 2, .int .i64 0]) ∧ Below ((w.alloc (.cells #[.int .i64 0, .slice none 0 0, .int .i64 0, .int .u64 0, .int .u64 1, .int .i64 0, .slice none 0 0, .int .i64 0, .int .u64 0, .int .u64 2] 29)).alloc (.cells #[.int .i64 0, .slice none 0 0, .int .i64 0, .int .u64 0, .int .u64 1, .int .i64 0, .slice none 0 0, .int .i64 0, .int .u64 0, .int .u64 3] 29)).heap.size ((w.alloc (.cells #[.int .i64 0, .slice none 0 0, .int .i64 0, .int .u64 0, .int .u64 1, .int .i64 0, .slice none 0 0, .int .i64 0, .int .u64 0, .int .u64 2] 29)).alloc (.cells #[.int .i64 0, .slice none 0 0, .int .i64 0, .int .u64 0, .int .u64 1, .int .i64 0, .slice none 0 0, .int .i64 0, .int .u64 0, .int .u64 3] 29)) w') := by
    have r1 := (two_recs w 1 2 29).below ((Below.refl (w.alloc (.cells #[.int .i64 0, .slice none 0 0, .int .i64 0, .int .u64 0, .int .u64 1, .int .i64 0, .slice none 0 0, .int .i64 0, .int .u64 0, .int .u64 2] 29)).heap.size (w.alloc (.cells #[.int .i64 0, .slice none 0 0, .int .i64 0, .int .u64 0, .int .u64 1, .int .i64 0, .slice none 0 0, .int .i64 0, .int .u64 0, .int .u64 2] 29))).alloc (Nat.le_refl _) (.cells #[.int .i64 0, .slice none 0 0, .int .i64 0, .int .u64 0, .int .u64 1, .int .i64 0, .slice none 0 0, .int .i64 0, .int .u64 0, .int .u64 3] 29)) (Nat.le_refl _)
    have r2 := two_recs (w.alloc (.cells #[.int .i64 0, .slice none 0 0, .int .i64 0, .int .u64 0, .int .u64 1, .int .i64 0, .slice none 0 0, .int .i64 0, .int .u64 0, .int .u64 2] 29)) 1 3 29
    have e : (w.alloc (.cells #[.int .i64 0, .slice none 0 0, .int .i64 0, .int .u64 0, .int .u64 1, .int .i64 0, .slice none 0 0, .int .i64 0, .int .u64 0, .int .u64 2] 29)).heap.size = w.heap.size + 1 := by simp
    rw [e] at r2
    have h := FS _ _ _ _ _ _ _ _ _ _ _ r1 r2 (by decide) (by decide)
    rw [two_find.1, two_find.2.1, two_find.2.2] at h
    exact h
  obtain ⟨W0, HW0⟩ : ∃ q, Hid (q = ((w.alloc (.cells #[.int .i64 0, .slice none 0 0, .int .i64 0, .int .u64 0, .int .u64 1, .int .i64 0, .slice none 0 0, .int .i64 0, .int .u64 0, .int .u64 2] 29)).alloc (.cells #[.int .i64 0, .slice none 0 0, .int .i64 0, .int .u64 0, .int .u64 1, .int .i64 0, .slice none 0 0, .int .i64 0, .int .u64 0, .int .u64 3] 29))) := ⟨_, rfl⟩
  rw [← HW0.out] at hal F0
  have FF : Hid (∀ q, Below w.heap.size w q → Calls Try.prog 5 #[.slice a n c1, .slice b m c2] q fun e w' => e = .returned (.tuple #[.int .i64 (fdX X Y n m), .int .i64 (fdY X Y n m), .int .i64 (fdE n m)]) ∧ Below q.heap.size q w') := fun q hq => FS a n c1 b m c2 X Y DX DY q (hx.below hq (Nat.le_refl _)) (hy.below hq (Nat.le_refl _)) hn hm
  clear FS
  go_enter Try.func4, Try.ntmps4
  go_wp2_with fail
  rw [← HW0.out]
  clear HW0
  refine F0.out.mono ?_
  rintro e w1 ⟨rfl, T⟩
  have FF1 := FF.out w1 (hal.trans (T.mono hal.size))
  clear F0 FF
  by_cases hok : m = n ∧ n ≠ 0 ∧ n ≤ 40
  rotate_left
  · have hE : fdE n m = 5 := if_neg hok
    have hX : fdX X Y n m = 0 := if_neg hok
    have hY : fdY X Y n m = 0 := if_neg hok
    rw [hE, hX, hY] at FF1
    clear hE hX hY hx hy hok
    go_wp2_with fail
    refine FF1.mono ?_
    rintro e w2 ⟨rfl, hw2⟩
    go_wp2_with fail
    go_ret
    exact ⟨ret_boolF (by simp), hal.trans ((T.trans (hw2.mono T.size)).mono hal.size)⟩
  obtain ⟨rfl, hn0, hn40⟩ := hok
  have hE : fdE m m = 0 := if_pos ⟨rfl, hn0, hn40⟩
  have HX : Hid (fdX X Y m m = (findP X Y m).1) := if_pos ⟨rfl, hn0, hn40⟩
  have HY : Hid (fdY X Y m m = (findP X Y m).2) := if_pos ⟨rfl, hn0, hn40⟩
  rw [hE] at FF1
  generalize fdX X Y m m = FX at *
  generalize fdY X Y m m = FY at *
  go_wp2_with fail
  refine FF1.mono ?_
  rintro e w2 ⟨rfl, hw2⟩
  replace T := T.trans (hw2.mono T.size)
  clear FF1 hw2
  have hz := hal.trans (T.mono hal.size)
  replace hx := hx.below hz (Nat.le_refl _)
  replace hy := hy.below hz (Nat.le_refl _)
  go_wp2_with fail
  go_loopw [11, 12] (fun mv kv wr => ∃ p K : Nat, mv = .int .i64 (1 + (p : Int)) ∧ kv = .int .i64 K ∧ Hid (K = 2 ^ p) ∧ 1 ≤ K ∧ K ≤ 80 ∧ p ≤ K ∧ wr = w2) (fun _ kv _ => m - (intOf kv).toNat)
  case atStart => exact ⟨0, 1, rfl, rfl, rfl, by omega, by omega, by omega, rfl⟩
  case round =>
    obtain ⟨p, K, rfl, rfl, HK, k1, k2, k3, hw⟩ := hrel
    replace hw := hw.symm
    subst hw
    by_cases hlt : K < m
    · obtain ⟨K2, HK2⟩ : ∃ K2 : Nat, Hid (K * 2 = K2) := ⟨_, rfl⟩
      have eK : (K : Int) * 2 = (K2 : Int) := by have := HK2.out; omega
      go_wp2_with fail
      go_roundw
      case rel => exact ⟨p + 1, K2, by go_num, by first | rfl | go_num, by show K2 = 2 ^ (p + 1); rw [← HK2.out, HK.out, Nat.pow_succ], by have := HK2.out; omega, by have := HK2.out; omega, by have := HK2.out; omega, by trivial⟩
      case measure => simp [intOf]; have := HK2.out; omega
    · have fg := findP_good X Y (n := m) (p := p) (by omega) (by rw [← HK.out]; omega)
      rw [← HX.out, ← HY.out] at fg
      clear HX HY HK
      obtain ⟨fp, y1, y2⟩ := fg
      have g1 : ¬ (1 + (p : Int)) < FY := by omega
      have i0 := hx.at (show 0 < m by omega)
      have j0 := hy.at (show 0 < m by omega)
      obtain ⟨xb, xo, rfl, hc⟩ := i0
      obtain ⟨yb, yo, rfl, hd⟩ := j0
      rcases fp with ⟨e1, e2⟩ | ⟨e1, e2, e3, e4⟩
      · obtain ⟨P, HP⟩ : ∃ P : Nat, Hid (P + 1 = m) := ⟨m - 1, by show m - 1 + 1 = m; omega⟩
        have eP : (m : Int) - 1 = (P : Int) := by have := HP.out; omega
        have wP : IntKind.i64.wrap ((m : Int) - 1) = (P : Int) := by rw [eP]; rw [IntKind.wrap_i64]; have := HP.out; omega
        have wP2 : IntKind.i64.wrap (P : Int) = (P : Int) := by rw [IntKind.wrap_i64]; have := HP.out; omega
        have hPm : P < m := by have := HP.out; omega
        have P0 : (0 : Int) ≤ (P : Int) := by omega
        have P1 : (P : Int) < (m : Int) := by omega
        obtain ⟨_, _, _, _, c4, _⟩ := hc P hPm
        obtain ⟨_, _, _, _, d4, _⟩ := hd P hPm
        rw [eP, sameAt_nat] at e2
        generalize (X P).chain = CA at *
        generalize (Y P).chain = CB at *
        subst e1
        have q1 : ((m : Int) == (m : Int)) = true := by simp
        clear hc hd
        go_wp2_with fail
        go_quiet (fail)
        go_wp2_with fail
        go_ret
        exact ⟨ret_boolF (by simp), below_drewN hz _⟩
      · obtain ⟨P, hP⟩ := Int.eq_ofNat_of_zero_le e1
        subst hP
        have hPm : P < m := by omega
        have P0 : (0 : Int) ≤ (P : Int) := by omega
        have q1 : ((P : Int) == (m : Int)) = false := by rw [beq_eq_false_iff_ne]; omega
        obtain ⟨_, _, _, _, c4, _⟩ := hc P hPm
        obtain ⟨_, _, _, _, d4, _⟩ := hd P hPm
        rw [sameAt_nat] at e3
        have n1 : ((X P).chain != (Y P).chain) = true := by rw [bne_iff_ne]; exact (beq_eq_false_iff_ne).1 e3
        by_cases hP0 : P = 0
        · have z1 : ((P : Int) == 0) = true := by rw [beq_iff_eq]; omega
          have z2 : decide ((P : Int) = 0) = true := decide_eq_true (by omega)
          have z3 : decide (P = 0) = true := decide_eq_true (by omega)
          have P1 : (P : Int) < (m : Int) := by omega
          generalize (X P).chain = CA at *
          generalize (Y P).chain = CB at *
          have n2 : decide (CA = CB) = false := decide_eq_false (by rw [bne_iff_ne] at n1; exact n1)
          clear hc hd e4 hP0
          go_wp2_with fail
          go_quiet (fail)
          go_wp2_with fail
          go_ret
          exact ⟨ret_boolF (by simp), below_drewN hz _⟩
        · have z1 : ((P : Int) == 0) = false := by rw [beq_eq_false_iff_ne]; omega
          obtain ⟨Q, HQ⟩ : ∃ Q : Nat, Hid (Q + 1 = P) := ⟨P - 1, by show P - 1 + 1 = P; omega⟩
          have eQ : (P : Int) - 1 = (Q : Int) := by have := HQ.out; omega
          have wQ : IntKind.i64.wrap ((P : Int) - 1) = (Q : Int) := by rw [eQ]; rw [IntKind.wrap_i64]; have := HQ.out; omega
          have wQ2 : IntKind.i64.wrap (Q : Int) = (Q : Int) := by rw [IntKind.wrap_i64]; have := HQ.out; omega
          have hQm : Q < m := by have := HQ.out; omega
          have Q0 : (0 : Int) ≤ (Q : Int) := by omega
          have Q1 : (Q : Int) < (m : Int) := by omega
          obtain ⟨_, _, _, _, c5, _⟩ := hc Q hQm
          obtain ⟨_, _, _, _, d5, _⟩ := hd Q hQm
          have e5 : ((X Q).chain == (Y Q).chain) = true := by
            rcases e4 with e | e
            · omega
            · rw [eQ, sameAt_nat] at e; exact e
          have z2 : decide ((P : Int) = 0) = false := decide_eq_false (by omega)
          have P1 : (P : Int) < (m : Int) := by omega
          generalize (X P).chain = CA at *
          generalize (Y P).chain = CB at *
          generalize (X Q).chain = CC at *
          generalize (Y Q).chain = CD at *
          have n2 : decide (CA = CB) = false := decide_eq_false (by rw [bne_iff_ne] at n1; exact n1)
          have n3 : decide (CC = CD) = true := decide_eq_true (beq_iff_eq.1 e5)
          clear hc hd e4 hP0
          go_wp2_with fail
          go_quiet (fail)
          go_wp2_with fail
          go_ret
          exact ⟨ret_boolF (by simp), below_drewN hz _⟩
end Go.Proofs.Ytdclclekomjlpaa.Fx
