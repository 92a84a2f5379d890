/- What math/bits' Len64, LeadingZeros64, Div64, Rem64 (by P) and Mul64 return, as package digest calls them. -/
import Derived.Test.YtkikhfdkibekgaaGreatRows
import Derived.Test.YtkikhfdkibekgaaGreatJ00
import Derived.WalkKit
import Derived.Deep.QuietTactic
import Derived.BigQuiet
import Derived.Shelf.Bits.Mul64
namespace Go.Proofs.YtkikhfdkibekgaaGreat.Fx
open Go.RowKit

theorem ret_word {k : IntKind} {a b : Int} (h : a = b) : Ending.returned (.int k a) = .returned (.int k b) := by rw [h]

set_option maxRecDepth 100000 in
theorem len64_P (w : World) : Calls Tryz.prog 108 #[.int .u64 2305843009213693951] w fun e w' => e = .returned (.int .i64 61) ∧ w' = w := by
  go_enter Tryz.func108, Tryz.ntmps108
  go_wp2
  go_ret
  exact ⟨by kernel_rfl, rfl⟩

theorem lead64_P (w : World) : Calls Tryz.prog 114 #[.int .u64 2305843009213693951] w fun e w' => e = .returned (.int .i64 3) ∧ w' = w := by
  go_enter Tryz.func114, Tryz.ntmps114
  go_wp2_with (go_at_call 108; refine (len64_P _).mono ?_; rintro e w' ⟨rfl, rfl⟩)
  go_ret
  exact ⟨rfl, rfl⟩

theorem or_low (hi lo : Int) (h : okP hi) (hl : okW lo) : bits .or .u64 (hi * 8) (lo / 2305843009213693952) = hi * 8 + lo / 2305843009213693952 := by
  obtain ⟨h0, h1⟩ := h
  obtain ⟨l0, l1⟩ := hl
  have e := bits_or_u64_nat (hi.toNat * 8) (lo.toNat / 2305843009213693952) (by omega) (by omega)
  have e2 := Nat.shiftLeft_add_eq_or_of_lt (i := 3) (b := lo.toNat / 2305843009213693952) (by omega) hi.toNat
  rw [Nat.shiftLeft_eq] at e2
  rw [← e2] at e
  have c1 : ((hi.toNat * 8 : Nat) : Int) = hi * 8 := by omega
  have c2 : ((lo.toNat / 2305843009213693952 : Nat) : Int) = lo / 2305843009213693952 := by omega
  rw [c1, c2] at e
  rw [e]
  omega
theorem and_low (n : Int) (h : okW n) : bits .and .u64 n 4294967295 = n % 4294967296 := by
  obtain ⟨h0, h1⟩ := h
  have e := bits_and_u64_nat n.toNat 4294967295 (by omega) (by omega)
  have e2 : n.toNat &&& 4294967295 = n.toNat % 4294967296 := Nat.and_two_pow_sub_one_eq_mod n.toNat 32
  rw [e2] at e
  have c1 : ((n.toNat : Nat) : Int) = n := by omega
  rw [c1] at e
  rw [show ((4294967295 : Nat) : Int) = 4294967295 from rfl] at e
  rw [e]
  omega
theorem wrap_word (x : Int) (h0 : 0 ≤ x) (h1 : x < 18446744073709551616) : IntKind.u64.wrap x = x := by rw [IntKind.wrap_u64]; omega
theorem un_next {u d q : Int} (h : inU u d) (hq : q = (u * 4294967296 + d) / 18446744073709551608) :
    IntKind.u64.wrap (IntKind.u64.wrap (IntKind.u64.wrap (u * 4294967296) + d) - IntKind.u64.wrap (q * 18446744073709551608)) = (u * 4294967296 + d) % 18446744073709551608 := by
  obtain ⟨h0, h1, h2, h3⟩ := h
  simp only [IntKind.wrap_u64]
  omega
theorem first_q {u d : Int} (h : inU u d) : IntKind.u64.wrap (u.tdiv 4294967295) = u / 4294967295 := by
  obtain ⟨h0, h1, h2, h3⟩ := h
  rw [Int.tdiv_eq_ediv_of_nonneg h0, wrap_word _ (by omega) (by omega)]
theorem first_r {u d : Int} (h : inU u d) : IntKind.u64.wrap (u - IntKind.u64.wrap (u / 4294967295 * 4294967295)) = u - u / 4294967295 * 4294967295 := by
  obtain ⟨h0, h1, h2, h3⟩ := h
  simp only [IntKind.wrap_u64]
  omega

set_option maxHeartbeats 1600000 in
set_option maxRecDepth 100000 in
theorem div64_P (hi lo : Int) (h : okP hi) (hl : okW lo) (w : World) : Calls Tryz.prog 113 #[.int .u64 hi, .int .u64 lo, .int .u64 2305843009213693951] w fun e w' =>
    (∃ q, e = .returned (.tuple #[.int .u64 q, .int .u64 ((hi * 18446744073709551616 + lo) % 2305843009213693951)])) ∧ ∃ k, w' = w.drewN k := by
  have hor := or_low hi lo h hl
  obtain ⟨u, hu⟩ : ∃ u, u = hi * 8 + lo / 2305843009213693952 := ⟨_, rfl⟩
  obtain ⟨d1, hd1⟩ : ∃ u, u = lo * 8 % 18446744073709551616 / 4294967296 := ⟨_, rfl⟩
  obtain ⟨d0, hd0⟩ : ∃ u, u = lo * 8 % 18446744073709551616 % 4294967296 := ⟨_, rfl⟩
  obtain ⟨v, hv⟩ : ∃ v, v = (u * 4294967296 + d1) % 18446744073709551608 := ⟨_, rfl⟩
  obtain ⟨U1, U0, hend⟩ := two_digits hi lo h hl u d1 d0 v hu hd1 hd0 hv
  obtain ⟨h0, h1⟩ := h
  obtain ⟨l0, l1⟩ := hl
  have eand := and_low (lo * 8 % 18446744073709551616) ⟨by omega, by omega⟩
  have HW : Hid (IntKind.u64.wrap (lo * 8) = lo * 8 % 18446744073709551616) := IntKind.wrap_u64 _
  have HO : Hid (bits .or .u64 (hi * 8) (lo / 2305843009213693952) = u) := hor.trans hu.symm
  have HA : Hid (bits .and .u64 (lo * 8 % 18446744073709551616) 4294967295 = d0) := eand.trans hd0.symm
  have HY : Hid (bits .and .u64 18446744073709551608 4294967295 = 4294967288) := by rw [and_low _ ⟨by omega, by omega⟩]; rfl
  have H1 : Hid (lo * 8 % 18446744073709551616 / 4294967296 = d1) := hd1.symm
  have HV : Hid (v = (u * 4294967296 + d1) % 18446744073709551608) := hv
  have HE : Hid ((v * 4294967296 + d0) % 18446744073709551608 / 8 = (hi * 18446744073709551616 + lo) % 2305843009213693951) := hend
  have HU1 : Hid (inU u d1) := U1
  have HU0 : Hid (inU v d0) := U0
  obtain ⟨u0, u1, e0, e1⟩ := U1
  obtain ⟨v0, v1, f0, f1⟩ := U0
  clear hor eand hu hd1 hd0 hv hend
  by_cases hz : hi = 0
  · subst hz
    go_enter Tryz.func113, Tryz.ntmps113
    go_wp2
    go_quiet (fail)
    go_wp2
    go_ret2
    rw [Int.zero_mul, Int.zero_add]
    exact ⟨⟨_, rfl⟩, nq, rfl⟩
  · have hz' : (hi == 0) = false := by simpa using hz
    go_enter Tryz.func113, Tryz.ntmps113
    go_wp2_with (go_at_call 114; refine (lead64_P _).mono ?_; rintro e w' ⟨rfl, rfl⟩)
    rw [HO.out, HW.out, HA.out, HY.out, H1.out, first_q HU1.out, first_r HU1.out]
    go_loop [15, 16] (fun q r => ∃ q1 r1 : Int, q = .int .u64 q1 ∧ r = .int .u64 r1 ∧ Digit u d1 q1 r1) (fun q _ => (intOf q).toNat)
    case atStart => exact ⟨_, _, rfl, rfl, digit_first HU1.out⟩
    case round =>
      obtain ⟨q1, r1, rfl, rfl, D⟩ := hrel
      have D0 := D
      obtain ⟨a0, a1, -, a3, a4, -⟩ := D0
      by_cases c1 : 4294967296 ≤ q1
      · obtain ⟨g1, g2, g3⟩ := digit_more HU1.out D (.inl c1)
        have G2 : Hid (r1 + 4294967295 < 4294967296 → Digit u d1 (q1 - 1) (r1 + 4294967295)) := g2
        have G3 : Hid (4294967296 ≤ r1 + 4294967295 → q1 - 1 = (u * 4294967296 + d1) / 18446744073709551608) := g3
        clear g2 g3
        by_cases c3 : 4294967296 ≤ r1 + 4294967295
        · go_wp2
          rw [un_next HU1.out (G3.out c3), ← HV.out, first_q HU0.out, first_r HU0.out]
          go_loop [18, 16] (fun q r => ∃ q0 r0 : Int, q = .int .u64 q0 ∧ r = .int .u64 r0 ∧ Digit v d0 q0 r0) (fun q _ => (intOf q).toNat)
          case atStart => exact ⟨_, _, rfl, rfl, digit_first HU0.out⟩
          case round =>
            obtain ⟨q0, r0, rfl, rfl, E⟩ := hrel
            have E0 := E
            obtain ⟨a0, a1, -, a3, a4, -⟩ := E0
            by_cases k1 : 4294967296 ≤ q0
            · obtain ⟨g1, g2, g3⟩ := digit_more HU0.out E (.inl k1)
              have K2 : Hid (r0 + 4294967295 < 4294967296 → Digit v d0 (q0 - 1) (r0 + 4294967295)) := g2
              have K3 : Hid (4294967296 ≤ r0 + 4294967295 → q0 - 1 = (v * 4294967296 + d0) / 18446744073709551608) := g3
              clear g2 g3
              by_cases k3 : 4294967296 ≤ r0 + 4294967295
              · go_wp2
                rw [un_next HU0.out (K3.out k3), HE.out]
                go_ret2
                exact ⟨⟨_, rfl⟩, 0, rfl⟩
              · go_wp2
                go_round
                case rel => exact ⟨_, _, rfl, rfl, K2.out (by omega)⟩
                case measure => simp [intOf]; omega
            · by_cases k2 : 4294967296 * r0 + d0 < q0 * 4294967288
              · obtain ⟨g1, g2, g3⟩ := digit_more HU0.out E (.inr k2)
                have K2 : Hid (r0 + 4294967295 < 4294967296 → Digit v d0 (q0 - 1) (r0 + 4294967295)) := g2
                have K3 : Hid (4294967296 ≤ r0 + 4294967295 → q0 - 1 = (v * 4294967296 + d0) / 18446744073709551608) := g3
                clear g2 g3
                by_cases k3 : 4294967296 ≤ r0 + 4294967295
                · go_wp2
                  rw [un_next HU0.out (K3.out k3), HE.out]
                  go_ret2
                  exact ⟨⟨_, rfl⟩, 0, rfl⟩
                · go_wp2
                  go_round
                  case rel => exact ⟨_, _, rfl, rfl, K2.out (by omega)⟩
                  case measure => simp [intOf]; omega
              · go_wp2
                rw [un_next HU0.out (digit_last E (by omega)), HE.out]
                go_ret2
                exact ⟨⟨_, rfl⟩, 0, rfl⟩
        · go_wp2
          go_round
          case rel => exact ⟨_, _, rfl, rfl, G2.out (by omega)⟩
          case measure => simp [intOf]; omega
      · by_cases c2 : 4294967296 * r1 + d1 < q1 * 4294967288
        · obtain ⟨g1, g2, g3⟩ := digit_more HU1.out D (.inr c2)
          have G2 : Hid (r1 + 4294967295 < 4294967296 → Digit u d1 (q1 - 1) (r1 + 4294967295)) := g2
          have G3 : Hid (4294967296 ≤ r1 + 4294967295 → q1 - 1 = (u * 4294967296 + d1) / 18446744073709551608) := g3
          clear g2 g3
          by_cases c3 : 4294967296 ≤ r1 + 4294967295
          · go_wp2
            rw [un_next HU1.out (G3.out c3), ← HV.out, first_q HU0.out, first_r HU0.out]
            go_loop [18, 16] (fun q r => ∃ q0 r0 : Int, q = .int .u64 q0 ∧ r = .int .u64 r0 ∧ Digit v d0 q0 r0) (fun q _ => (intOf q).toNat)
            case atStart => exact ⟨_, _, rfl, rfl, digit_first HU0.out⟩
            case round =>
              obtain ⟨q0, r0, rfl, rfl, E⟩ := hrel
              have E0 := E
              obtain ⟨a0, a1, -, a3, a4, -⟩ := E0
              by_cases k1 : 4294967296 ≤ q0
              · obtain ⟨g1, g2, g3⟩ := digit_more HU0.out E (.inl k1)
                have K2 : Hid (r0 + 4294967295 < 4294967296 → Digit v d0 (q0 - 1) (r0 + 4294967295)) := g2
                have K3 : Hid (4294967296 ≤ r0 + 4294967295 → q0 - 1 = (v * 4294967296 + d0) / 18446744073709551608) := g3
                clear g2 g3
                by_cases k3 : 4294967296 ≤ r0 + 4294967295
                · go_wp2
                  rw [un_next HU0.out (K3.out k3), HE.out]
                  go_ret2
                  exact ⟨⟨_, rfl⟩, 0, rfl⟩
                · go_wp2
                  go_round
                  case rel => exact ⟨_, _, rfl, rfl, K2.out (by omega)⟩
                  case measure => simp [intOf]; omega
              · by_cases k2 : 4294967296 * r0 + d0 < q0 * 4294967288
                · obtain ⟨g1, g2, g3⟩ := digit_more HU0.out E (.inr k2)
                  have K2 : Hid (r0 + 4294967295 < 4294967296 → Digit v d0 (q0 - 1) (r0 + 4294967295)) := g2
                  have K3 : Hid (4294967296 ≤ r0 + 4294967295 → q0 - 1 = (v * 4294967296 + d0) / 18446744073709551608) := g3
                  clear g2 g3
                  by_cases k3 : 4294967296 ≤ r0 + 4294967295
                  · go_wp2
                    rw [un_next HU0.out (K3.out k3), HE.out]
                    go_ret2
                    exact ⟨⟨_, rfl⟩, 0, rfl⟩
                  · go_wp2
                    go_round
                    case rel => exact ⟨_, _, rfl, rfl, K2.out (by omega)⟩
                    case measure => simp [intOf]; omega
                · go_wp2
                  rw [un_next HU0.out (digit_last E (by omega)), HE.out]
                  go_ret2
                  exact ⟨⟨_, rfl⟩, 0, rfl⟩
          · go_wp2
            go_round
            case rel => exact ⟨_, _, rfl, rfl, G2.out (by omega)⟩
            case measure => simp [intOf]; omega
        · go_wp2
          rw [un_next HU1.out (digit_last D (by omega)), ← HV.out, first_q HU0.out, first_r HU0.out]
          go_loop [18, 16] (fun q r => ∃ q0 r0 : Int, q = .int .u64 q0 ∧ r = .int .u64 r0 ∧ Digit v d0 q0 r0) (fun q _ => (intOf q).toNat)
          case atStart => exact ⟨_, _, rfl, rfl, digit_first HU0.out⟩
          case round =>
            obtain ⟨q0, r0, rfl, rfl, E⟩ := hrel
            have E0 := E
            obtain ⟨a0, a1, -, a3, a4, -⟩ := E0
            by_cases k1 : 4294967296 ≤ q0
            · obtain ⟨g1, g2, g3⟩ := digit_more HU0.out E (.inl k1)
              have K2 : Hid (r0 + 4294967295 < 4294967296 → Digit v d0 (q0 - 1) (r0 + 4294967295)) := g2
              have K3 : Hid (4294967296 ≤ r0 + 4294967295 → q0 - 1 = (v * 4294967296 + d0) / 18446744073709551608) := g3
              clear g2 g3
              by_cases k3 : 4294967296 ≤ r0 + 4294967295
              · go_wp2
                rw [un_next HU0.out (K3.out k3), HE.out]
                go_ret2
                exact ⟨⟨_, rfl⟩, 0, rfl⟩
              · go_wp2
                go_round
                case rel => exact ⟨_, _, rfl, rfl, K2.out (by omega)⟩
                case measure => simp [intOf]; omega
            · by_cases k2 : 4294967296 * r0 + d0 < q0 * 4294967288
              · obtain ⟨g1, g2, g3⟩ := digit_more HU0.out E (.inr k2)
                have K2 : Hid (r0 + 4294967295 < 4294967296 → Digit v d0 (q0 - 1) (r0 + 4294967295)) := g2
                have K3 : Hid (4294967296 ≤ r0 + 4294967295 → q0 - 1 = (v * 4294967296 + d0) / 18446744073709551608) := g3
                clear g2 g3
                by_cases k3 : 4294967296 ≤ r0 + 4294967295
                · go_wp2
                  rw [un_next HU0.out (K3.out k3), HE.out]
                  go_ret2
                  exact ⟨⟨_, rfl⟩, 0, rfl⟩
                · go_wp2
                  go_round
                  case rel => exact ⟨_, _, rfl, rfl, K2.out (by omega)⟩
                  case measure => simp [intOf]; omega
              · go_wp2
                rw [un_next HU0.out (digit_last E (by omega)), HE.out]
                go_ret2
                exact ⟨⟨_, rfl⟩, 0, rfl⟩

theorem rem64_P (hi lo : Int) (h : okP hi) (hl : okW lo) (w : World) : Calls Tryz.prog 112 #[.int .u64 hi, .int .u64 lo, .int .u64 2305843009213693951] w fun e w' =>
    e = .returned (.int .u64 ((hi * 18446744073709551616 + lo) % 2305843009213693951)) ∧ ∃ k, w' = w.drewN k := by
  have h0 := h.1
  have h1 := h.2
  have l0 := hl.1
  have l1 := hl.2
  have hm : hi % 2305843009213693951 = hi := by omega
  go_enter Tryz.func112, Tryz.ntmps112
  go_wp2_with (go_at_call 113; refine (div64_P _ _ ⟨by omega, by omega⟩ hl _).mono ?_; rintro e w' ⟨⟨q, rfl⟩, k, rfl⟩)
  go_ret
  exact ⟨rfl, k, rfl⟩

set_option maxHeartbeats 1000000 in
theorem mul64_nat (x y : Nat) (hx : x < 18446744073709551616) (hy : y < 18446744073709551616) (w : World) : Calls Tryz.prog 111 #[.int .u64 x, .int .u64 y] w fun e w' =>
    e = .returned (.tuple #[.int .u64 ((x * y / 18446744073709551616 : Nat) : Int), .int .u64 ((x * y % 18446744073709551616 : Nat) : Int)]) ∧ w' = w := by
  obtain ⟨bd, bt, bw, hhi⟩ := Lib.mul64_hi x y hx hy
  have ba := Lib.half_mul_le (a := x / 4294967296) (b := y / 4294967296) (by omega) (by omega)
  have bb := Lib.half_mul_le (a := x / 4294967296) (b := y % 4294967296) (by omega) (by omega)
  have bc := Lib.half_mul_le (a := x % 4294967296) (b := y / 4294967296) (by omega) (by omega)
  generalize hA : x / 4294967296 * (y / 4294967296) = A at *
  generalize hB : x / 4294967296 * (y % 4294967296) = B at *
  generalize hC : x % 4294967296 * (y / 4294967296) = C at *
  generalize hD : x % 4294967296 * (y % 4294967296) = D at *
  go_enter Tryz.func111, Tryz.ntmps111
  go_wp2
  simp only [Mul64.maskN x hx, Mul64.maskN y hy, Mul64.divN, Mul64.mulN, Mul64.addN, hA, hB, hC, hD, Mul64.wrapN D bd, Mul64.wrapN B (by omega), Mul64.wrapN _ bt, Mul64.maskN _ bt, Mul64.wrapN C (by omega), Mul64.wrapN _ bw, Mul64.wrapN A (by omega), Mul64.wrapN (A + (B + D / 4294967296) / 4294967296) (by omega), Mul64.wrapN (A + (B + D / 4294967296) / 4294967296 + ((B + D / 4294967296) % 4294967296 + C) / 4294967296) (by omega), Mul64.wrapM (x * y)]
  rw [hhi]
  go_ret2
  exact ⟨rfl, rfl⟩

theorem mul64_any (x y : Int) (hx : okW x) (hy : okW y) (w : World) : Calls Tryz.prog 111 #[.int .u64 x, .int .u64 y] w fun e w' =>
    e = .returned (.tuple #[.int .u64 (x * y / 18446744073709551616), .int .u64 (x * y % 18446744073709551616)]) ∧ w' = w := by
  obtain ⟨x0, x1⟩ := hx
  obtain ⟨y0, y1⟩ := hy
  obtain ⟨a, rfl⟩ := Int.eq_ofNat_of_zero_le x0
  obtain ⟨b, rfl⟩ := Int.eq_ofNat_of_zero_le y0
  refine (mul64_nat a b (by omega) (by omega) w).mono ?_
  rintro e w' ⟨rfl, rfl⟩
  refine ⟨?_, rfl⟩
  rw [← Int.natCast_mul]
  rfl

end Go.Proofs.YtkikhfdkibekgaaGreat.Fx

/- Lists of words (unsigned integers of 64 bits) as they lie in memory: what a slice reads as, in whatever world that holds its cells; no program is spoken of. -/
namespace Go.Proofs.YtkikhfdkibekgaaGreat.Fx
open Go.RowKit

def LstW (w : World) (a : Option Addr) (len cap : Nat) (xs : List Int) : Prop :=
  xs.length = len ∧ len ≤ cap ∧ (len = 0 ∨ ∃ b off, a = some ⟨b, off, none⟩ ∧ b < w.heap.size ∧ ∀ i, i < len → w.cell? ⟨b, off + i, none⟩ = some (.int .u64 (xs.getD i 0)))
theorem LstW.len {w : World} {a : Option Addr} {n c : Nat} {xs : List Int} (h : LstW w a n c xs) : xs.length = n := h.1
theorem LstW.cap {w : World} {a : Option Addr} {n c : Nat} {xs : List Int} (h : LstW w a n c xs) : n ≤ c := h.2.1
theorem LstW.at {w : World} {a : Option Addr} {n c : Nat} {xs : List Int} (h : LstW w a n c xs) (hn : 0 < n) :
    ∃ b off, a = some ⟨b, off, none⟩ ∧ b < w.heap.size ∧ ∀ i, i < n → w.cell? ⟨b, off + i, none⟩ = some (.int .u64 (xs.getD i 0)) := by
  rcases h.2.2 with h0 | h0
  · omega
  · exact h0
theorem LstW.at1 {w : World} {a : Option Addr} {n c : Nat} {xs : List Int} (h : LstW w a n c xs) {k : Nat} (hk : k < n) :
    ∃ b off x, a = some ⟨b, off, none⟩ ∧ b < w.heap.size ∧ w.cell? ⟨b, off + k, none⟩ = some (.int .u64 x) ∧ Hid (xs.getD k 0 = x) := by
  obtain ⟨b, off, e, hs, hc⟩ := h.at (by omega)
  exact ⟨b, off, _, e, hs, hc k hk, rfl⟩
theorem LstW.nil (w : World) (a : Option Addr) (c : Nat) : LstW w a 0 c [] := ⟨rfl, Nat.zero_le _, .inl rfl⟩
theorem LstW.below {w w' : World} {a : Option Addr} {n c : Nat} {xs : List Int} {B : Nat} (h : LstW w a n c xs) (hb : Below B w w') (hB : w.heap.size ≤ B) : LstW w' a n c xs := by
  refine ⟨h.1, h.2.1, ?_⟩
  rcases h.2.2 with h0 | ⟨b, off, e, hs, hc⟩
  · exact .inl h0
  · exact .inr ⟨b, off, e, Nat.lt_of_lt_of_le hs hb.size, fun i hi => (hb.cell (p := ⟨b, off + i, none⟩) (Nat.lt_of_lt_of_le hs hB)).trans (hc i hi)⟩
theorem LstW.drewN {w : World} {a : Option Addr} {n c : Nat} {xs : List Int} (h : LstW w a n c xs) (k : Nat) : LstW (w.drewN k) a n c xs := by
  refine ⟨h.1, h.2.1, ?_⟩
  rcases h.2.2 with h0 | ⟨b, off, e, hs, hc⟩
  · exact .inl h0
  · exact .inr ⟨b, off, e, by simpa using hs, fun i hi => by simpa using hc i hi⟩
theorem LstW.row {w : World} {b t n : Nat} {f : Nat → Value} {xs : List Int} (h : w.rowIs b t n f) (hl : xs.length = n) (hf : ∀ i, i < n → f i = .int .u64 (xs.getD i 0)) : LstW w (some ⟨b, 0, none⟩) n n xs :=
  ⟨hl, Nat.le_refl _, .inr ⟨b, 0, rfl, h.lt, fun i hi => by rw [Nat.zero_add, h.cell hi, hf i hi]⟩⟩
theorem getD_map_word (xs : List Int) (i : Nat) (hi : i < xs.length) : (xs.map (Value.int .u64))[i]? = some (.int .u64 (xs.getD i 0)) := by
  simp [hi]
theorem LstW.owned {w : World} {base e n : Nat} {v : Value} {xs : List Int} (h : w.ownsRow base e 1 v n (xs.map (Value.int .u64))) :
    ∃ a c, v = .slice a n c ∧ LstW w a n c xs := by
  obtain ⟨hl, h2⟩ := h
  rw [List.length_map, Nat.mul_one] at hl
  rcases h2 with ⟨rfl, rfl⟩ | ⟨g, cap, cur, rfl, _, hh, hle, _, hsz, hcur⟩
  · rw [List.length_eq_zero_iff] at hl
    subst hl
    exact ⟨none, 0, rfl, LstW.nil _ _ _⟩
  · refine ⟨_, cap, rfl, hl, hle, .inr ⟨g, 0, rfl, (Array.getElem?_eq_some_iff.1 hh).1, fun i hi => ?_⟩⟩
    have h3 := getD_map_word xs i (by omega)
    rw [← hcur, Nat.mul_one] at h3
    simp only [World.cell?, hh, Nat.zero_add]
    rw [List.getElem?_take_of_lt hi] at h3
    simpa using h3
theorem LstW.sub {w : World} {b off n c : Nat} {xs : List Int} (h : LstW w (some ⟨b, off, none⟩) n c xs) (hn : 0 < n) (lo hi : Nat) (h1 : lo ≤ hi) (h2 : hi ≤ n) :
    LstW w (some ⟨b, off + lo, none⟩) (hi - lo) (c - lo) ((xs.drop lo).take (hi - lo)) := by
  obtain ⟨b', off', e, hs, hc⟩ := h.at hn
  have := h.len
  have := h.cap
  simp only [Option.some.injEq, Addr.mk.injEq, and_true] at e
  obtain ⟨rfl, rfl⟩ := e
  refine ⟨by simp; omega, by omega, .inr ⟨b, off + lo, rfl, hs, fun i hi' => ?_⟩⟩
  rw [Nat.add_assoc, hc (lo + i) (by omega)]
  have e : ((xs.drop lo).take (hi - lo)).getD i 0 = xs.getD (lo + i) 0 := by
    rw [List.getD_eq_getElem?_getD, List.getElem?_take_of_lt hi', List.getElem?_drop, ← List.getD_eq_getElem?_getD]
  rw [e]
theorem LstW.at1b {w wr : World} {a : Option Addr} {n c : Nat} {xs : List Int} {B : Nat} (h : LstW w a n c xs) (hb : Below B w wr) (hB : w.heap.size ≤ B) {k : Nat} (hk : k < n) :
    ∃ b off x, a = some ⟨b, off, none⟩ ∧ b < w.heap.size ∧ wr.cell? ⟨b, off + k, none⟩ = some (.int .u64 x) ∧ Hid (xs.getD k 0 = x) := by
  obtain ⟨b, off, x, e, hs, hc, hx⟩ := h.at1 hk
  exact ⟨b, off, x, e, hs, (hb.cell (p := ⟨b, off + k, none⟩) (Nat.lt_of_lt_of_le hs hB)).trans hc, hx⟩
theorem LstW.came {w : World} {x : Addr} {len cap : Nat} {zs : List Int} (hl : len ≤ cap) (hz : zs.length = cap) (hc : ∀ i, i < zs.length → w.cell? (x.add i) = some (.int .u64 (zs.getD i 0))) : LstW w (some x) len cap (zs.take len) := by
  refine ⟨by simp; omega, hl, ?_⟩
  by_cases h0 : len = 0
  · exact .inl h0
  · obtain ⟨b, off, spot⟩ := x
    have hspot : spot = none := by simpa [Addr.add] using World.cell?_spot (hc 0 (by omega))
    subst hspot
    refine .inr ⟨b, off, rfl, ?_, fun i hi => ?_⟩
    · have := cell_lt (hc 0 (by omega)); simpa [Addr.add] using this
    · have h := hc i (by omega)
      rw [Go.WideShapes.add_plain] at h
      rw [h]
      simp [List.getD_eq_getElem?_getD, List.getElem?_take_of_lt hi]
def rowToW (g : Nat → Int) (k i : Nat) : Value := if i < k then .int .u64 (g i) else .int .u64 0
theorem rowToW_step {w : World} {b t n k : Nat} {g : Nat → Int} (h : w.rowIs b t n (rowToW g k)) : (w.setCell ⟨b, k, none⟩ (.int .u64 (g k))).rowIs b t n (rowToW g (k + 1)) := by
  refine (h.set k (.int .u64 (g k))).congr (fun i _ => ?_)
  unfold rowToW
  by_cases e : i = k
  · subst e; rw [if_pos rfl, if_pos (by omega)]
  · rw [if_neg e]
    by_cases e2 : i < k
    · rw [if_pos e2, if_pos (by omega)]
    · rw [if_neg e2, if_neg (by omega)]
theorem rowToW_made {w : World} {b t n : Nat} {g : Nat → Int} (h : w.rowIs b t n (fun _ => .int .u64 0)) : w.rowIs b t n (rowToW g 0) :=
  h.congr (fun i _ => by unfold rowToW; rw [if_neg (by omega)])
theorem rowToW_lst {w : World} {b t n : Nat} {g : Nat → Int} (h : w.rowIs b t n (rowToW g n)) : LstW w (some ⟨b, 0, none⟩) n n ((List.range n).map g) :=
  LstW.row h (by simp) (fun i hi => by unfold rowToW; rw [if_pos hi]; simp [hi])
theorem rowToW_cell {w : World} {b t n k : Nat} {g : Nat → Int} (h : w.rowIs b t n (rowToW g k)) (hk : k < n) : w.cell? ⟨b, k, none⟩ = some (.int .u64 0) := by
  rw [h.cell hk]; unfold rowToW; rw [if_neg (by omega)]

end Go.Proofs.YtkikhfdkibekgaaGreat.Fx

/- What digest.add, mul and power return, called with numbers below P. -/
namespace Go.Proofs.YtkikhfdkibekgaaGreat.Fx
open Go.RowKit

theorem dadd_calls (a b : Int) (ha : okP a) (hb : okP b) (w : World) : Calls Tryz.prog 97 #[.int .u64 a, .int .u64 b] w fun e w' => e = .returned (.int .u64 (addP a b)) ∧ w' = w := by
  obtain ⟨a0, a1⟩ := ha
  obtain ⟨b0, b1⟩ := hb
  go_enter Tryz.func97, Tryz.ntmps97
  go_wp2
  go_ret
  exact ⟨rfl, rfl⟩

theorem prodP (a b : Int) (ha : okP a) (hb : okP b) : okP (a * b / 18446744073709551616) ∧ okW (a * b % 18446744073709551616) ∧ (a * b / 18446744073709551616 * 18446744073709551616 + a * b % 18446744073709551616) % 2305843009213693951 = mulP a b := by
  obtain ⟨a0, a1⟩ := ha
  obtain ⟨b0, b1⟩ := hb
  have h0 : 0 ≤ a * b := Int.mul_nonneg a0 b0
  have h1 : a * b ≤ 2305843009213693951 * 2305843009213693951 := Int.mul_le_mul (by omega) (by omega) b0 (by omega)
  unfold okP okW mulP
  omega

theorem dmul_calls (a b : Int) (ha : okP a) (hb : okP b) (w : World) : Calls Tryz.prog 109 #[.int .u64 a, .int .u64 b] w fun e w' => e = .returned (.int .u64 (mulP a b)) ∧ ∃ k, w' = w.drewN k := by
  obtain ⟨p0, p1, p2⟩ := prodP a b ha hb
  have wa : okW a := ⟨ha.1, by have := ha.2; omega⟩
  have wb : okW b := ⟨hb.1, by have := hb.2; omega⟩
  have c1 := mul64_any a b wa wb w
  generalize a * b / 18446744073709551616 = hi at *
  generalize a * b % 18446744073709551616 = lo at *
  have P2 : Hid ((hi * 18446744073709551616 + lo) % 2305843009213693951 = mulP a b) := p2
  clear p2
  go_enter Tryz.func109, Tryz.ntmps109
  go_wp2_with (first | (go_at_call 111; refine c1.mono ?_; rintro e w' ⟨rfl, hw'⟩; replace hw' := hw'.symm; subst hw') | (go_at_call 112; refine (rem64_P _ _ p0 p1 _).mono ?_; rintro e w' ⟨rfl, k, rfl⟩; rw [P2.out]))
  go_ret
  exact ⟨rfl, k, rfl⟩

theorem dpower_calls (n : Int) (hn : okP n) (w : World) : Calls Tryz.prog 105 #[.int .u64 n] w fun e w' => e = .returned (.int .u64 (powP n)) ∧ ∃ k, w' = w.drewN k := by
  go_enter Tryz.func105, Tryz.ntmps105
  go_wp2
  go_loopw [3, 5] (fun s i wr => ∃ (k d : Nat) (x : Int), k ≤ 4 ∧ i = .int .i64 k ∧ s = .int .u64 x ∧ Hid (x = sqTo n k) ∧ wr = w.drewN d) (fun _ i _ => 4 - (intOf i).toNat)
  case atStart => exact ⟨0, 0, _, by omega, rfl, rfl, rfl, rfl⟩
  case round =>
    obtain ⟨k, d, x, hk, rfl, rfl, HX, rfl⟩ := hrel
    have hx : okP x := by rw [HX.out]; exact sqTo_ok hn k
    by_cases hlt : k < 4
    · go_wp2_with (go_at_call 109; refine (dmul_calls _ _ hx hx _).mono ?_; rintro e w' ⟨rfl, d2, rfl⟩)
      go_roundw
      case rel => exact ⟨k + 1, _, _, by omega, by go_num, rfl, by rw [HX.out]; rfl, rfl⟩
      case measure => simp [intOf]; omega
    · obtain rfl : k = 4 := by omega
      go_wp2_with (go_at_call 109; refine (dmul_calls _ _ hx hn _).mono ?_; rintro e w' ⟨rfl, d2, rfl⟩)
      go_ret
      exact ⟨ret_word (by rw [HX.out]; rfl), _, rfl⟩

end Go.Proofs.YtkikhfdkibekgaaGreat.Fx

/- Three words in one block of memory: how they are laid, read and written; no program is spoken of. -/
namespace Go.Proofs.YtkikhfdkibekgaaGreat.Fx
open Go.RowKit

def fnT (s : Tri) (i : Nat) : Value := if i = 0 then .int .u64 s.x else if i = 1 then .int .u64 s.y else .int .u64 s.z
def aggT (s : Tri) : Value := .agg #[.int .u64 s.x, .int .u64 s.y, .int .u64 s.z]
theorem lt3 {i : Nat} (h : i < 3) : i = 0 ∨ i = 1 ∨ i = 2 := by omega
theorem fnT_at {s : Tri} {i : Nat} (h : i < 3) : fnT s i = .int .u64 (s.at i) := by
  rcases lt3 h with rfl | rfl | rfl <;> rfl
theorem fnT_alloc (w : World) (x y z : Int) (t : TypeId) : (w.alloc (.cells #[.int .u64 x, .int .u64 y, .int .u64 z] t)).rowIs w.heap.size t 3 (fnT ⟨x, y, z⟩) :=
  World.rowIs_alloc w _ t (fnT ⟨x, y, z⟩) (by
    intro i hi
    rcases lt3 hi with rfl | rfl | rfl <;> rfl)
theorem fnT_cells {w : World} {b t : Nat} {s : Tri} (h : w.rowIs b t 3 (fnT s)) :
    w.cell? ⟨b, 0, none⟩ = some (.int .u64 s.x) ∧ w.cell? ⟨b, 1, none⟩ = some (.int .u64 s.y) ∧ w.cell? ⟨b, 2, none⟩ = some (.int .u64 s.z) :=
  ⟨h.cell (i := 0) (by omega), h.cell (i := 1) (by omega), h.cell (i := 2) (by omega)⟩
theorem fnT_set3 {w : World} {b t : Nat} {f : Nat → Value} (h : w.rowIs b t 3 f) (x y z : Int) : (((w.setCell ⟨b, 0, none⟩ (.int .u64 x)).setCell ⟨b, 1, none⟩ (.int .u64 y)).setCell ⟨b, 2, none⟩ (.int .u64 z)).rowIs b t 3 (fnT ⟨x, y, z⟩) := by
  refine (((h.set 0 (.int .u64 x)).set 1 (.int .u64 y)).set 2 (.int .u64 z)).congr (fun i hi => ?_)
  rcases lt3 hi with rfl | rfl | rfl <;> rfl

/-- What a mix has laid: the three numbers that it turns, and the cells of its answer. -/
structure MixRel (t : Nat) (w : World) (s : Tri) (wr : World) : Prop where
  box : wr.rowIs w.heap.size t 3 (fnT s)
  res : wr.rowIs (w.heap.size + 1) t 3 (fnT ⟨0, 0, 0⟩)
  old : Below w.heap.size w wr

theorem MixRel.start (t : Nat) (w : World) (x y z : Int) : MixRel t w ⟨x, y, z⟩ ((w.alloc (.cells #[.int .u64 x, .int .u64 y, .int .u64 z] t)).alloc (.cells #[.int .u64 0, .int .u64 0, .int .u64 0] t)) :=
  ⟨(fnT_alloc w x y z t).alloc _, by have h := fnT_alloc (w.alloc (.cells #[.int .u64 x, .int .u64 y, .int .u64 z] t)) 0 0 0 t; simpa using h, ((Below.refl _ _).alloc (Nat.le_refl _) _).alloc (by simp) _⟩
theorem MixRel.drewN {t : Nat} {w wr : World} {s : Tri} (h : MixRel t w s wr) (d : Nat) : MixRel t w s (wr.drewN d) := ⟨rowIs_drewN h.box d, rowIs_drewN h.res d, below_drewN h.old d⟩
theorem MixRel.set {t : Nat} {w wr : World} {s : Tri} (h : MixRel t w s wr) (x y z : Int) : MixRel t w ⟨x, y, z⟩ (((wr.setCell ⟨w.heap.size, 0, none⟩ (.int .u64 x)).setCell ⟨w.heap.size, 1, none⟩ (.int .u64 y)).setCell ⟨w.heap.size, 2, none⟩ (.int .u64 z)) :=
  ⟨fnT_set3 h.box x y z, ((h.res.setOther (by simp) _).setOther (by simp) _).setOther (by simp) _, ((h.old.setCell (Nat.le_refl _) _).setCell (Nat.le_refl _) _).setCell (Nat.le_refl _) _⟩

theorem fnT_set0 {w : World} {b t : Nat} {s : Tri} (h : w.rowIs b t 3 (fnT s)) (x : Int) : (w.setCell ⟨b, 0, none⟩ (.int .u64 x)).rowIs b t 3 (fnT ⟨x, s.y, s.z⟩) := by
  refine (h.set 0 (.int .u64 x)).congr (fun i hi => ?_)
  rcases lt3 hi with rfl | rfl | rfl <;> rfl

/-- What the making of a list's digest has laid: its three numbers, in block b. -/
structure OfRel (t : Nat) (w : World) (b : Nat) (s : Tri) (wr : World) : Prop where
  box : wr.rowIs b t 3 (fnT s)
  ge : w.heap.size ≤ b
  old : Below w.heap.size w wr

theorem OfRel.start {t : Nat} {w w1 : World} (h : Below w.heap.size w w1) (x y z : Int) : OfRel t w w1.heap.size ⟨x, y, z⟩ (w1.alloc (.cells #[.int .u64 x, .int .u64 y, .int .u64 z] t)) :=
  ⟨fnT_alloc w1 x y z t, h.size, h.alloc h.size _⟩
theorem OfRel.set0 {t b : Nat} {w wr : World} {s : Tri} (h : OfRel t w b s wr) (x : Int) : OfRel t w b ⟨x, s.y, s.z⟩ (wr.setCell ⟨b, 0, none⟩ (.int .u64 x)) :=
  ⟨fnT_set0 h.box x, h.ge, h.old.setCell h.ge _⟩
theorem OfRel.drewN {t b : Nat} {w wr : World} {s : Tri} (h : OfRel t w b s wr) (d : Nat) : OfRel t w b s (wr.drewN d) := ⟨rowIs_drewN h.box d, h.ge, below_drewN h.old d⟩
theorem OfRel.below {t b : Nat} {w wr w' : World} {s : Tri} (h : OfRel t w b s wr) (hb : Below wr.heap.size wr w') : OfRel t w b s w' :=
  ⟨h.box.of_block (hb.block b h.box.lt), h.ge, h.old.trans (hb.mono h.old.size)⟩
theorem OfRel.set {t b : Nat} {w wr : World} {s : Tri} (h : OfRel t w b s wr) (x y z : Int) : OfRel t w b ⟨x, y, z⟩ (((wr.setCell ⟨b, 0, none⟩ (.int .u64 x)).setCell ⟨b, 1, none⟩ (.int .u64 y)).setCell ⟨b, 2, none⟩ (.int .u64 z)) :=
  ⟨fnT_set3 h.box x y z, h.ge, ((h.old.setCell h.ge _).setCell h.ge _).setCell h.ge _⟩

/-- Two words that are laid as a list. -/
theorem LstW.two (w : World) (a b : Int) (t : TypeId) : LstW (w.alloc (.cells #[.int .u64 a, .int .u64 b] t)) (some ⟨w.heap.size, 0, none⟩) 2 2 [a, b] := by
  have h := World.rowIs_alloc w #[.int .u64 a, .int .u64 b] t (fun i => if i = 0 then .int .u64 a else .int .u64 b) (by
    intro i hi
    rcases (show i = 0 ∨ i = 1 from by have : i < 2 := hi
                                       omega) with rfl | rfl <;> rfl)
  refine LstW.row h rfl (fun i hi => ?_)
  rcases (show i = 0 ∨ i = 1 from by omega) with rfl | rfl <;> rfl

end Go.Proofs.YtkikhfdkibekgaaGreat.Fx

/- What digest.mix returns, called with three numbers below P. -/
namespace Go.Proofs.YtkikhfdkibekgaaGreat.Fx
open Go.RowKit

set_option maxHeartbeats 1600000 in
theorem dmix_calls (s : Tri) (hs : s.ok) (w : World) : Calls Tryz.prog 96 #[.agg #[.int .u64 s.x, .int .u64 s.y, .int .u64 s.z]] w fun e w' => e = .returned (aggT (mixP s)) ∧ Below w.heap.size w w' := by
  have HS : Hid s.ok := hs
  clear hs
  go_enter Tryz.func96, Tryz.ntmps96
  go_wp2
  go_loopw [3] (fun i wr => ∃ (k : Nat) (n : Int) (t : Tri), k ≤ 6 ∧ i = .int .u64 n ∧ n = (k : Int) + 1 ∧ Hid (t = mixTo s k) ∧ MixRel 134 w t wr) (fun i _ => 7 - (intOf i).toNat)
  case atStart => exact ⟨0, 1, s, by omega, rfl, rfl, rfl, MixRel.start _ _ _ _ _⟩
  case round =>
    obtain ⟨k, n, t, hk, rfl, hn, HT, R⟩ := hrel
    obtain ⟨c0, c1, c2⟩ := fnT_cells R.box
    have HN : Hid (n = (k : Int) + 1) := hn
    by_cases hlt : n ≤ 6
    · have ht : t.ok := by rw [HT.out]; exact mixTo_ok HS.out k
      obtain ⟨t0, t1, t2⟩ := ht
      have n1 : okP n := ⟨by omega, by omega⟩
      have n2 : okP (2 * n) := ⟨by omega, by omega⟩
      have n3 : okP (3 * n) := ⟨by omega, by omega⟩
      have m0 : 1 ≤ n := by omega
      have f0 := R.box.frozen 0
      have f1 := R.box.frozen 1
      have f2 := R.box.frozen 2
      have HM : Hid (sums (pows n t) = mixTo s (k + 1)) := by rw [hn, HT.out]; rfl
      clear hn
      go_wp2_with (first | (go_at_call 97; refine (dadd_calls _ _ (by with_reducible first | exact powP_ok _ | exact addP_ok _ _ | assumption) (by with_reducible first | exact powP_ok _ | exact addP_ok _ _ | assumption) _).mono ?_; rintro e w' ⟨rfl, hw'⟩; replace hw' := hw'.symm; subst hw') | (go_at_call 105; refine (dpower_calls _ (by with_reducible exact addP_ok _ _) _).mono ?_; rintro e w' ⟨rfl, d, rfl⟩))
      go_roundw
      case rel =>
        have hn := HN.out
        exact ⟨k + 1, _, _, by omega, rfl, by omega, HM.out, (R.drewN _).set _ _ _⟩
      case measure => simp [intOf]; omega
    · have e7 : n = 7 := by omega
      subst e7
      obtain rfl : k = 6 := by omega
      obtain ⟨r0, r1, r2⟩ := fnT_cells R.res
      have f0 := R.res.frozen 0
      have f1 := R.res.frozen 1
      have f2 := R.res.frozen 2
      go_wp2
      have hq := fnT_set3 R.res t.x t.y t.z
      obtain ⟨q0, q1, q2⟩ := fnT_cells hq
      refine bodyPost_ret (v := aggT t) (by simp [results, Tryz.results96, go_sem, q0, q1, q2, aggT]) rfl ⟨by rw [HT.out]; rfl, ?_⟩
      exact ((R.old.setCell (Nat.le_succ _) _).setCell (Nat.le_succ _) _).setCell (Nat.le_succ _) _

theorem dmix3 (x y z : Int) (hx : okP x) (hy : okP y) (hz : okP z) (w : World) : Calls Tryz.prog 96 #[.agg #[.int .u64 x, .int .u64 y, .int .u64 z]] w fun e w' =>
    ∃ m : Tri, Hid (m = mixP ⟨x, y, z⟩) ∧ e = .returned (.agg #[.int .u64 m.x, .int .u64 m.y, .int .u64 m.z]) ∧ Below w.heap.size w w' := by
  refine (dmix_calls ⟨x, y, z⟩ ⟨hx, hy, hz⟩ w).mono ?_
  rintro e w' ⟨rfl, h⟩
  exact ⟨_, rfl, rfl, h⟩

end Go.Proofs.YtkikhfdkibekgaaGreat.Fx
