/- What math/bits' Len64, LeadingZeros64, Div64, Rem64 (by P) and Mul64 return, as package digest calls them. -/
import Derived.Test.YtfkalnehomgccaaRows
import Derived.Test.YtfkalnehomgccaaJ00
import Derived.WalkKit
import Derived.Deep.QuietTactic
import Derived.BigQuiet
import Derived.Shelf.Bits.Mul64
namespace Go.Proofs.Ytfkalnehomgccaa.Fx
open Go.RowKit

theorem ret_word {k : IntKind} {a b : Int} (h : a = b) : Ending.returned (.int k a) = .returned (.int k b) := by rw [h]

set_option maxRecDepth 100000 in
theorem len64_P (w : World) : Calls Try.prog 50 #[.int .u64 2305843009213693951] w fun e w' => e = .returned (.int .i64 61) ∧ w' = w := by
  go_enter Try.func50, Try.ntmps50
  go_wp2
  go_ret
  exact ⟨by kernel_rfl, rfl⟩

theorem lead64_P (w : World) : Calls Try.prog 55 #[.int .u64 2305843009213693951] w fun e w' => e = .returned (.int .i64 3) ∧ w' = w := by
  go_enter Try.func55, Try.ntmps55
  go_wp2_with (go_at_call 50; refine (len64_P _).mono ?_; rintro e w' ⟨rfl, rfl⟩)
  go_ret
  exact ⟨rfl, rfl⟩

theorem or_low (hi lo : Int) (h : okP hi) (hl : okW lo) : bits .or .u64 (hi * 8) (lo / 2305843009213693952) = hi * 8 + lo / 2305843009213693952 := by
  obtain ⟨h0, h1⟩ := h
  obtain ⟨l0, l1⟩ := hl
  have e := bits_or_u64_nat (hi.toNat * 8) (lo.toNat / 2305843009213693952) (by omega) (by omega)
  have e2 := Nat.shiftLeft_add_eq_or_of_lt (i := 3) (b := lo.toNat / 2305843009213693952) (by omega) hi.toNat
  rw [Nat.shiftLeft_eq] at e2
  rw [← e2] at e
  have c1 : ((hi.toNat * 8 : Nat) : Int) = hi * 8 := by omega
  have c2 : ((lo.toNat / 2305843009213693952 : Nat) : Int) = lo / 2305843009213693952 := by omega
  rw [c1, c2] at e
  rw [e]
  omega
theorem and_low (n : Int) (h : okW n) : bits .and .u64 n 4294967295 = n % 4294967296 := by
  obtain ⟨h0, h1⟩ := h
  have e := bits_and_u64_nat n.toNat 4294967295 (by omega) (by omega)
  have e2 : n.toNat &&& 4294967295 = n.toNat % 4294967296 := Nat.and_two_pow_sub_one_eq_mod n.toNat 32
  rw [e2] at e
  have c1 : ((n.toNat : Nat) : Int) = n := by omega
  rw [c1] at e
  rw [show ((4294967295 : Nat) : Int) = 4294967295 from rfl] at e
  rw [e]
  omega
theorem wrap_word (x : Int) (h0 : 0 ≤ x) (h1 : x < 18446744073709551616) : IntKind.u64.wrap x = x := by rw [IntKind.wrap_u64]; omega
theorem un_next {u d q : Int} (h : inU u d) (hq : q = (u * 4294967296 + d) / 18446744073709551608) :
    IntKind.u64.wrap (IntKind.u64.wrap (IntKind.u64.wrap (u * 4294967296) + d) - IntKind.u64.wrap (q * 18446744073709551608)) = (u * 4294967296 + d) % 18446744073709551608 := by
  obtain ⟨h0, h1, h2, h3⟩ := h
  simp only [IntKind.wrap_u64]
  omega
theorem first_q {u d : Int} (h : inU u d) : IntKind.u64.wrap (u.tdiv 4294967295) = u / 4294967295 := by
  obtain ⟨h0, h1, h2, h3⟩ := h
  rw [Int.tdiv_eq_ediv_of_nonneg h0, wrap_word _ (by omega) (by omega)]
theorem first_r {u d : Int} (h : inU u d) : IntKind.u64.wrap (u - IntKind.u64.wrap (u / 4294967295 * 4294967295)) = u - u / 4294967295 * 4294967295 := by
  obtain ⟨h0, h1, h2, h3⟩ := h
  simp only [IntKind.wrap_u64]
  omega

set_option maxHeartbeats 1600000 in
set_option maxRecDepth 100000 in
theorem div64_P (hi lo : Int) (h : okP hi) (hl : okW lo) (w : World) : Calls Try.prog 54 #[.int .u64 hi, .int .u64 lo, .int .u64 2305843009213693951] w fun e w' =>
    (∃ q, e = .returned (.tuple #[.int .u64 q, .int .u64 ((hi * 18446744073709551616 + lo) % 2305843009213693951)])) ∧ ∃ k, w' = w.drewN k := by
  have hor := or_low hi lo h hl
  obtain ⟨u, hu⟩ : ∃ u, u = hi * 8 + lo / 2305843009213693952 := ⟨_, rfl⟩
  obtain ⟨d1, hd1⟩ : ∃ u, u = lo * 8 % 18446744073709551616 / 4294967296 := ⟨_, rfl⟩
  obtain ⟨d0, hd0⟩ : ∃ u, u = lo * 8 % 18446744073709551616 % 4294967296 := ⟨_, rfl⟩
  obtain ⟨v, hv⟩ : ∃ v, v = (u * 4294967296 + d1) % 18446744073709551608 := ⟨_, rfl⟩
  obtain ⟨U1, U0, hend⟩ := two_digits hi lo h hl u d1 d0 v hu hd1 hd0 hv
  obtain ⟨h0, h1⟩ := h
  obtain ⟨l0, l1⟩ := hl
  have eand := and_low (lo * 8 % 18446744073709551616) ⟨by omega, by omega⟩
  have HW : Hid (IntKind.u64.wrap (lo * 8) = lo * 8 % 18446744073709551616) := IntKind.wrap_u64 _
  have HO : Hid (bits .or .u64 (hi * 8) (lo / 2305843009213693952) = u) := hor.trans hu.symm
  have HA : Hid (bits .and .u64 (lo * 8 % 18446744073709551616) 4294967295 = d0) := eand.trans hd0.symm
  have HY : Hid (bits .and .u64 18446744073709551608 4294967295 = 4294967288) := by rw [and_low _ ⟨by omega, by omega⟩]; rfl
  have H1 : Hid (lo * 8 % 18446744073709551616 / 4294967296 = d1) := hd1.symm
  have HV : Hid (v = (u * 4294967296 + d1) % 18446744073709551608) := hv
  have HE : Hid ((v * 4294967296 + d0) % 18446744073709551608 / 8 = (hi * 18446744073709551616 + lo) % 2305843009213693951) := hend
  have HU1 : Hid (inU u d1) := U1
  have HU0 : Hid (inU v d0) := U0
  obtain ⟨u0, u1, e0, e1⟩ := U1
  obtain ⟨v0, v1, f0, f1⟩ := U0
  clear hor eand hu hd1 hd0 hv hend
  by_cases hz : hi = 0
  · subst hz
    go_enter Try.func54, Try.ntmps54
    go_wp2
    go_quiet (fail)
    go_wp2
    go_ret2
    rw [Int.zero_mul, Int.zero_add]
    exact ⟨⟨_, rfl⟩, nq, rfl⟩
  · have hz' : (hi == 0) = false := by simpa using hz
    go_enter Try.func54, Try.ntmps54
    go_wp2_with (go_at_call 55; refine (lead64_P _).mono ?_; rintro e w' ⟨rfl, rfl⟩)
    rw [HO.out, HW.out, HA.out, HY.out, H1.out, first_q HU1.out, first_r HU1.out]
    go_loop [15, 16] (fun q r => ∃ q1 r1 : Int, q = .int .u64 q1 ∧ r = .int .u64 r1 ∧ Digit u d1 q1 r1) (fun q _ => (intOf q).toNat)
    case atStart => exact ⟨_, _, rfl, rfl, digit_first HU1.out⟩
    case round =>
      obtain ⟨q1, r1, rfl, rfl, D⟩ := hrel
      have D0 := D
      obtain ⟨a0, a1, -, a3, a4, -⟩ := D0
      by_cases c1 : 4294967296 ≤ q1
      · obtain ⟨g1, g2, g3⟩ := digit_more HU1.out D (.inl c1)
        have G2 : Hid (r1 + 4294967295 < 4294967296 → Digit u d1 (q1 - 1) (r1 + 4294967295)) := g2
        have G3 : Hid (4294967296 ≤ r1 + 4294967295 → q1 - 1 = (u * 4294967296 + d1) / 18446744073709551608) := g3
        clear g2 g3
        by_cases c3 : 4294967296 ≤ r1 + 4294967295
        · go_wp2
          rw [un_next HU1.out (G3.out c3), ← HV.out, first_q HU0.out, first_r HU0.out]
          go_loop [18, 16] (fun q r => ∃ q0 r0 : Int, q = .int .u64 q0 ∧ r = .int .u64 r0 ∧ Digit v d0 q0 r0) (fun q _ => (intOf q).toNat)
          case atStart => exact ⟨_, _, rfl, rfl, digit_first HU0.out⟩
          case round =>
            obtain ⟨q0, r0, rfl, rfl, E⟩ := hrel
            have E0 := E
            obtain ⟨a0, a1, -, a3, a4, -⟩ := E0
            by_cases k1 : 4294967296 ≤ q0
            · obtain ⟨g1, g2, g3⟩ := digit_more HU0.out E (.inl k1)
              have K2 : Hid (r0 + 4294967295 < 4294967296 → Digit v d0 (q0 - 1) (r0 + 4294967295)) := g2
              have K3 : Hid (4294967296 ≤ r0 + 4294967295 → q0 - 1 = (v * 4294967296 + d0) / 18446744073709551608) := g3
              clear g2 g3
              by_cases k3 : 4294967296 ≤ r0 + 4294967295
              · go_wp2
                rw [un_next HU0.out (K3.out k3), HE.out]
                go_ret2
                exact ⟨⟨_, rfl⟩, 0, rfl⟩
              · go_wp2
                go_round
                case rel => exact ⟨_, _, rfl, rfl, K2.out (by omega)⟩
                case measure => simp [intOf]; omega
            · by_cases k2 : 4294967296 * r0 + d0 < q0 * 4294967288
              · obtain ⟨g1, g2, g3⟩ := digit_more HU0.out E (.inr k2)
                have K2 : Hid (r0 + 4294967295 < 4294967296 → Digit v d0 (q0 - 1) (r0 + 4294967295)) := g2
                have K3 : Hid (4294967296 ≤ r0 + 4294967295 → q0 - 1 = (v * 4294967296 + d0) / 18446744073709551608) := g3
                clear g2 g3
                by_cases k3 : 4294967296 ≤ r0 + 4294967295
                · go_wp2
                  rw [un_next HU0.out (K3.out k3), HE.out]
                  go_ret2
                  exact ⟨⟨_, rfl⟩, 0, rfl⟩
                · go_wp2
                  go_round
                  case rel => exact ⟨_, _, rfl, rfl, K2.out (by omega)⟩
                  case measure => simp [intOf]; omega
              · go_wp2
                rw [un_next HU0.out (digit_last E (by omega)), HE.out]
                go_ret2
                exact ⟨⟨_, rfl⟩, 0, rfl⟩
        · go_wp2
          go_round
          case rel => exact ⟨_, _, rfl, rfl, G2.out (by omega)⟩
          case measure => simp [intOf]; omega
      · by_cases c2 : 4294967296 * r1 + d1 < q1 * 4294967288
        · obtain ⟨g1, g2, g3⟩ := digit_more HU1.out D (.inr c2)
          have G2 : Hid (r1 + 4294967295 < 4294967296 → Digit u d1 (q1 - 1) (r1 + 4294967295)) := g2
          have G3 : Hid (4294967296 ≤ r1 + 4294967295 → q1 - 1 = (u * 4294967296 + d1) / 18446744073709551608) := g3
          clear g2 g3
          by_cases c3 : 4294967296 ≤ r1 + 4294967295
          · go_wp2
            rw [un_next HU1.out (G3.out c3), ← HV.out, first_q HU0.out, first_r HU0.out]
            go_loop [18, 16] (fun q r => ∃ q0 r0 : Int, q = .int .u64 q0 ∧ r = .int .u64 r0 ∧ Digit v d0 q0 r0) (fun q _ => (intOf q).toNat)
            case atStart => exact ⟨_, _, rfl, rfl, digit_first HU0.out⟩
            case round =>
              obtain ⟨q0, r0, rfl, rfl, E⟩ := hrel
              have E0 := E
              obtain ⟨a0, a1, -, a3, a4, -⟩ := E0
              by_cases k1 : 4294967296 ≤ q0
              · obtain ⟨g1, g2, g3⟩ := digit_more HU0.out E (.inl k1)
                have K2 : Hid (r0 + 4294967295 < 4294967296 → Digit v d0 (q0 - 1) (r0 + 4294967295)) := g2
                have K3 : Hid (4294967296 ≤ r0 + 4294967295 → q0 - 1 = (v * 4294967296 + d0) / 18446744073709551608) := g3
                clear g2 g3
                by_cases k3 : 4294967296 ≤ r0 + 4294967295
                · go_wp2
                  rw [un_next HU0.out (K3.out k3), HE.out]
                  go_ret2
                  exact ⟨⟨_, rfl⟩, 0, rfl⟩
                · go_wp2
                  go_round
                  case rel => exact ⟨_, _, rfl, rfl, K2.out (by omega)⟩
                  case measure => simp [intOf]; omega
              · by_cases k2 : 4294967296 * r0 + d0 < q0 * 4294967288
                · obtain ⟨g1, g2, g3⟩ := digit_more HU0.out E (.inr k2)
                  have K2 : Hid (r0 + 4294967295 < 4294967296 → Digit v d0 (q0 - 1) (r0 + 4294967295)) := g2
                  have K3 : Hid (4294967296 ≤ r0 + 4294967295 → q0 - 1 = (v * 4294967296 + d0) / 18446744073709551608) := g3
                  clear g2 g3
                  by_cases k3 : 4294967296 ≤ r0 + 4294967295
                  · go_wp2
                    rw [un_next HU0.out (K3.out k3), HE.out]
                    go_ret2
                    exact ⟨⟨_, rfl⟩, 0, rfl⟩
                  · go_wp2
                    go_round
                    case rel => exact ⟨_, _, rfl, rfl, K2.out (by omega)⟩
                    case measure => simp [intOf]; omega
                · go_wp2
                  rw [un_next HU0.out (digit_last E (by omega)), HE.out]
                  go_ret2
                  exact ⟨⟨_, rfl⟩, 0, rfl⟩
          · go_wp2
            go_round
            case rel => exact ⟨_, _, rfl, rfl, G2.out (by omega)⟩
            case measure => simp [intOf]; omega
        · go_wp2
          rw [un_next HU1.out (digit_last D (by omega)), ← HV.out, first_q HU0.out, first_r HU0.out]
          go_loop [18, 16] (fun q r => ∃ q0 r0 : Int, q = .int .u64 q0 ∧ r = .int .u64 r0 ∧ Digit v d0 q0 r0) (fun q _ => (intOf q).toNat)
          case atStart => exact ⟨_, _, rfl, rfl, digit_first HU0.out⟩
          case round =>
            obtain ⟨q0, r0, rfl, rfl, E⟩ := hrel
            have E0 := E
            obtain ⟨a0, a1, -, a3, a4, -⟩ := E0
            by_cases k1 : 4294967296 ≤ q0
            · obtain ⟨g1, g2, g3⟩ := digit_more HU0.out E (.inl k1)
              have K2 : Hid (r0 + 4294967295 < 4294967296 → Digit v d0 (q0 - 1) (r0 + 4294967295)) := g2
              have K3 : Hid (4294967296 ≤ r0 + 4294967295 → q0 - 1 = (v * 4294967296 + d0) / 18446744073709551608) := g3
              clear g2 g3
              by_cases k3 : 4294967296 ≤ r0 + 4294967295
              · go_wp2
                rw [un_next HU0.out (K3.out k3), HE.out]
                go_ret2
                exact ⟨⟨_, rfl⟩, 0, rfl⟩
              · go_wp2
                go_round
                case rel => exact ⟨_, _, rfl, rfl, K2.out (by omega)⟩
                case measure => simp [intOf]; omega
            · by_cases k2 : 4294967296 * r0 + d0 < q0 * 4294967288
              · obtain ⟨g1, g2, g3⟩ := digit_more HU0.out E (.inr k2)
                have K2 : Hid (r0 + 4294967295 < 4294967296 → Digit v d0 (q0 - 1) (r0 + 4294967295)) := g2
                have K3 : Hid (4294967296 ≤ r0 + 4294967295 → q0 - 1 = (v * 4294967296 + d0) / 18446744073709551608) := g3
                clear g2 g3
                by_cases k3 : 4294967296 ≤ r0 + 4294967295
                · go_wp2
                  rw [un_next HU0.out (K3.out k3), HE.out]
                  go_ret2
                  exact ⟨⟨_, rfl⟩, 0, rfl⟩
                · go_wp2
                  go_round
                  case rel => exact ⟨_, _, rfl, rfl, K2.out (by omega)⟩
                  case measure => simp [intOf]; omega
              · go_wp2
                rw [un_next HU0.out (digit_last E (by omega)), HE.out]
                go_ret2
                exact ⟨⟨_, rfl⟩, 0, rfl⟩

theorem rem64_P (hi lo : Int) (h : okP hi) (hl : okW lo) (w : World) : Calls Try.prog 53 #[.int .u64 hi, .int .u64 lo, .int .u64 2305843009213693951] w fun e w' =>
    e = .returned (.int .u64 ((hi * 18446744073709551616 + lo) % 2305843009213693951)) ∧ ∃ k, w' = w.drewN k := by
  have h0 := h.1
  have h1 := h.2
  have l0 := hl.1
  have l1 := hl.2
  have hm : hi % 2305843009213693951 = hi := by omega
  go_enter Try.func53, Try.ntmps53
  go_wp2_with (go_at_call 54; refine (div64_P _ _ ⟨by omega, by omega⟩ hl _).mono ?_; rintro e w' ⟨⟨q, rfl⟩, k, rfl⟩)
  go_ret
  exact ⟨rfl, k, rfl⟩

set_option maxHeartbeats 1000000 in
theorem mul64_nat (x y : Nat) (hx : x < 18446744073709551616) (hy : y < 18446744073709551616) (w : World) : Calls Try.prog 52 #[.int .u64 x, .int .u64 y] w fun e w' =>
    e = .returned (.tuple #[.int .u64 ((x * y / 18446744073709551616 : Nat) : Int), .int .u64 ((x * y % 18446744073709551616 : Nat) : Int)]) ∧ w' = w := by
  obtain ⟨bd, bt, bw, hhi⟩ := Lib.mul64_hi x y hx hy
  have ba := Lib.half_mul_le (a := x / 4294967296) (b := y / 4294967296) (by omega) (by omega)
  have bb := Lib.half_mul_le (a := x / 4294967296) (b := y % 4294967296) (by omega) (by omega)
  have bc := Lib.half_mul_le (a := x % 4294967296) (b := y / 4294967296) (by omega) (by omega)
  generalize hA : x / 4294967296 * (y / 4294967296) = A at *
  generalize hB : x / 4294967296 * (y % 4294967296) = B at *
  generalize hC : x % 4294967296 * (y / 4294967296) = C at *
  generalize hD : x % 4294967296 * (y % 4294967296) = D at *
  go_enter Try.func52, Try.ntmps52
  go_wp2
  simp only [Mul64.maskN x hx, Mul64.maskN y hy, Mul64.divN, Mul64.mulN, Mul64.addN, hA, hB, hC, hD, Mul64.wrapN D bd, Mul64.wrapN B (by omega), Mul64.wrapN _ bt, Mul64.maskN _ bt, Mul64.wrapN C (by omega), Mul64.wrapN _ bw, Mul64.wrapN A (by omega), Mul64.wrapN (A + (B + D / 4294967296) / 4294967296) (by omega), Mul64.wrapN (A + (B + D / 4294967296) / 4294967296 + ((B + D / 4294967296) % 4294967296 + C) / 4294967296) (by omega), Mul64.wrapM (x * y)]
  rw [hhi]
  go_ret2
  exact ⟨rfl, rfl⟩

theorem mul64_any (x y : Int) (hx : okW x) (hy : okW y) (w : World) : Calls Try.prog 52 #[.int .u64 x, .int .u64 y] w fun e w' =>
    e = .returned (.tuple #[.int .u64 (x * y / 18446744073709551616), .int .u64 (x * y % 18446744073709551616)]) ∧ w' = w := by
  obtain ⟨x0, x1⟩ := hx
  obtain ⟨y0, y1⟩ := hy
  obtain ⟨a, rfl⟩ := Int.eq_ofNat_of_zero_le x0
  obtain ⟨b, rfl⟩ := Int.eq_ofNat_of_zero_le y0
  refine (mul64_nat a b (by omega) (by omega) w).mono ?_
  rintro e w' ⟨rfl, rfl⟩
  refine ⟨?_, rfl⟩
  rw [← Int.natCast_mul]
  rfl

end Go.Proofs.Ytfkalnehomgccaa.Fx

/- What digest.add, mul and power return, called with numbers below P. -/
namespace Go.Proofs.Ytfkalnehomgccaa.Fx
open Go.RowKit

theorem dadd_calls (a b : Int) (ha : okP a) (hb : okP b) (w : World) : Calls Try.prog 46 #[.int .u64 a, .int .u64 b] w fun e w' => e = .returned (.int .u64 (addP a b)) ∧ w' = w := by
  obtain ⟨a0, a1⟩ := ha
  obtain ⟨b0, b1⟩ := hb
  go_enter Try.func46, Try.ntmps46
  go_wp2
  go_ret
  exact ⟨rfl, rfl⟩

theorem prodP (a b : Int) (ha : okP a) (hb : okP b) : okP (a * b / 18446744073709551616) ∧ okW (a * b % 18446744073709551616) ∧ (a * b / 18446744073709551616 * 18446744073709551616 + a * b % 18446744073709551616) % 2305843009213693951 = mulP a b := by
  obtain ⟨a0, a1⟩ := ha
  obtain ⟨b0, b1⟩ := hb
  have h0 : 0 ≤ a * b := Int.mul_nonneg a0 b0
  have h1 : a * b ≤ 2305843009213693951 * 2305843009213693951 := Int.mul_le_mul (by omega) (by omega) b0 (by omega)
  unfold okP okW mulP
  omega

theorem dmul_calls (a b : Int) (ha : okP a) (hb : okP b) (w : World) : Calls Try.prog 51 #[.int .u64 a, .int .u64 b] w fun e w' => e = .returned (.int .u64 (mulP a b)) ∧ ∃ k, w' = w.drewN k := by
  obtain ⟨p0, p1, p2⟩ := prodP a b ha hb
  have wa : okW a := ⟨ha.1, by have := ha.2; omega⟩
  have wb : okW b := ⟨hb.1, by have := hb.2; omega⟩
  have c1 := mul64_any a b wa wb w
  generalize a * b / 18446744073709551616 = hi at *
  generalize a * b % 18446744073709551616 = lo at *
  have P2 : Hid ((hi * 18446744073709551616 + lo) % 2305843009213693951 = mulP a b) := p2
  clear p2
  go_enter Try.func51, Try.ntmps51
  go_wp2_with (first | (go_at_call 52; refine c1.mono ?_; rintro e w' ⟨rfl, hw'⟩; replace hw' := hw'.symm; subst hw') | (go_at_call 53; refine (rem64_P _ _ p0 p1 _).mono ?_; rintro e w' ⟨rfl, k, rfl⟩; rw [P2.out]))
  go_ret
  exact ⟨rfl, k, rfl⟩

theorem dpower_calls (n : Int) (hn : okP n) (w : World) : Calls Try.prog 48 #[.int .u64 n] w fun e w' => e = .returned (.int .u64 (powP n)) ∧ ∃ k, w' = w.drewN k := by
  go_enter Try.func48, Try.ntmps48
  go_wp2
  go_loopw [3, 5] (fun s i wr => ∃ (k d : Nat) (x : Int), k ≤ 4 ∧ i = .int .i64 k ∧ s = .int .u64 x ∧ Hid (x = sqTo n k) ∧ wr = w.drewN d) (fun _ i _ => 4 - (intOf i).toNat)
  case atStart => exact ⟨0, 0, _, by omega, rfl, rfl, rfl, rfl⟩
  case round =>
    obtain ⟨k, d, x, hk, rfl, rfl, HX, rfl⟩ := hrel
    have hx : okP x := by rw [HX.out]; exact sqTo_ok hn k
    by_cases hlt : k < 4
    · go_wp2_with (go_at_call 51; refine (dmul_calls _ _ hx hx _).mono ?_; rintro e w' ⟨rfl, d2, rfl⟩)
      go_roundw
      case rel => exact ⟨k + 1, _, _, by omega, by go_num, rfl, by rw [HX.out]; rfl, rfl⟩
      case measure => simp [intOf]; omega
    · obtain rfl : k = 4 := by omega
      go_wp2_with (go_at_call 51; refine (dmul_calls _ _ hx hn _).mono ?_; rintro e w' ⟨rfl, d2, rfl⟩)
      go_ret
      exact ⟨ret_word (by rw [HX.out]; rfl), _, rfl⟩

end Go.Proofs.Ytfkalnehomgccaa.Fx

/- Three words in one block of memory: how they are laid, read and written; no program is spoken of. -/
namespace Go.Proofs.Ytfkalnehomgccaa.Fx
open Go.RowKit

def fnT (s : Tri) (i : Nat) : Value := if i = 0 then .int .u64 s.x else if i = 1 then .int .u64 s.y else .int .u64 s.z
def aggT (s : Tri) : Value := .agg #[.int .u64 s.x, .int .u64 s.y, .int .u64 s.z]
theorem lt3 {i : Nat} (h : i < 3) : i = 0 ∨ i = 1 ∨ i = 2 := by omega
theorem fnT_at {s : Tri} {i : Nat} (h : i < 3) : fnT s i = .int .u64 (s.at i) := by
  rcases lt3 h with rfl | rfl | rfl <;> rfl
theorem fnT_alloc (w : World) (x y z : Int) (t : TypeId) : (w.alloc (.cells #[.int .u64 x, .int .u64 y, .int .u64 z] t)).rowIs w.heap.size t 3 (fnT ⟨x, y, z⟩) :=
  World.rowIs_alloc w _ t (fnT ⟨x, y, z⟩) (by
    intro i hi
    rcases lt3 hi with rfl | rfl | rfl <;> rfl)
theorem fnT_cells {w : World} {b t : Nat} {s : Tri} (h : w.rowIs b t 3 (fnT s)) :
    w.cell? ⟨b, 0, none⟩ = some (.int .u64 s.x) ∧ w.cell? ⟨b, 1, none⟩ = some (.int .u64 s.y) ∧ w.cell? ⟨b, 2, none⟩ = some (.int .u64 s.z) :=
  ⟨h.cell (i := 0) (by omega), h.cell (i := 1) (by omega), h.cell (i := 2) (by omega)⟩
theorem fnT_set3 {w : World} {b t : Nat} {f : Nat → Value} (h : w.rowIs b t 3 f) (x y z : Int) : (((w.setCell ⟨b, 0, none⟩ (.int .u64 x)).setCell ⟨b, 1, none⟩ (.int .u64 y)).setCell ⟨b, 2, none⟩ (.int .u64 z)).rowIs b t 3 (fnT ⟨x, y, z⟩) := by
  refine (((h.set 0 (.int .u64 x)).set 1 (.int .u64 y)).set 2 (.int .u64 z)).congr (fun i hi => ?_)
  rcases lt3 hi with rfl | rfl | rfl <;> rfl

/-- What a mix has laid: the three numbers that it turns, and the cells of its answer. -/
structure MixRel (t : Nat) (w : World) (s : Tri) (wr : World) : Prop where
  box : wr.rowIs w.heap.size t 3 (fnT s)
  res : wr.rowIs (w.heap.size + 1) t 3 (fnT ⟨0, 0, 0⟩)
  old : Below w.heap.size w wr

theorem MixRel.start (t : Nat) (w : World) (x y z : Int) : MixRel t w ⟨x, y, z⟩ ((w.alloc (.cells #[.int .u64 x, .int .u64 y, .int .u64 z] t)).alloc (.cells #[.int .u64 0, .int .u64 0, .int .u64 0] t)) :=
  ⟨(fnT_alloc w x y z t).alloc _, by have h := fnT_alloc (w.alloc (.cells #[.int .u64 x, .int .u64 y, .int .u64 z] t)) 0 0 0 t; simpa using h, ((Below.refl _ _).alloc (Nat.le_refl _) _).alloc (by simp) _⟩
theorem MixRel.drewN {t : Nat} {w wr : World} {s : Tri} (h : MixRel t w s wr) (d : Nat) : MixRel t w s (wr.drewN d) := ⟨rowIs_drewN h.box d, rowIs_drewN h.res d, below_drewN h.old d⟩
theorem MixRel.set {t : Nat} {w wr : World} {s : Tri} (h : MixRel t w s wr) (x y z : Int) : MixRel t w ⟨x, y, z⟩ (((wr.setCell ⟨w.heap.size, 0, none⟩ (.int .u64 x)).setCell ⟨w.heap.size, 1, none⟩ (.int .u64 y)).setCell ⟨w.heap.size, 2, none⟩ (.int .u64 z)) :=
  ⟨fnT_set3 h.box x y z, ((h.res.setOther (by simp) _).setOther (by simp) _).setOther (by simp) _, ((h.old.setCell (Nat.le_refl _) _).setCell (Nat.le_refl _) _).setCell (Nat.le_refl _) _⟩

theorem fnT_set0 {w : World} {b t : Nat} {s : Tri} (h : w.rowIs b t 3 (fnT s)) (x : Int) : (w.setCell ⟨b, 0, none⟩ (.int .u64 x)).rowIs b t 3 (fnT ⟨x, s.y, s.z⟩) := by
  refine (h.set 0 (.int .u64 x)).congr (fun i hi => ?_)
  rcases lt3 hi with rfl | rfl | rfl <;> rfl

/-- What the making of a list's digest has laid: its three numbers, in block b. -/
structure OfRel (t : Nat) (w : World) (b : Nat) (s : Tri) (wr : World) : Prop where
  box : wr.rowIs b t 3 (fnT s)
  ge : w.heap.size ≤ b
  old : Below w.heap.size w wr

theorem OfRel.start {t : Nat} {w w1 : World} (h : Below w.heap.size w w1) (x y z : Int) : OfRel t w w1.heap.size ⟨x, y, z⟩ (w1.alloc (.cells #[.int .u64 x, .int .u64 y, .int .u64 z] t)) :=
  ⟨fnT_alloc w1 x y z t, h.size, h.alloc h.size _⟩
theorem OfRel.set0 {t b : Nat} {w wr : World} {s : Tri} (h : OfRel t w b s wr) (x : Int) : OfRel t w b ⟨x, s.y, s.z⟩ (wr.setCell ⟨b, 0, none⟩ (.int .u64 x)) :=
  ⟨fnT_set0 h.box x, h.ge, h.old.setCell h.ge _⟩
theorem OfRel.drewN {t b : Nat} {w wr : World} {s : Tri} (h : OfRel t w b s wr) (d : Nat) : OfRel t w b s (wr.drewN d) := ⟨rowIs_drewN h.box d, h.ge, below_drewN h.old d⟩
theorem OfRel.below {t b : Nat} {w wr w' : World} {s : Tri} (h : OfRel t w b s wr) (hb : Below wr.heap.size wr w') : OfRel t w b s w' :=
  ⟨h.box.of_block (hb.block b h.box.lt), h.ge, h.old.trans (hb.mono h.old.size)⟩
theorem OfRel.set {t b : Nat} {w wr : World} {s : Tri} (h : OfRel t w b s wr) (x y z : Int) : OfRel t w b ⟨x, y, z⟩ (((wr.setCell ⟨b, 0, none⟩ (.int .u64 x)).setCell ⟨b, 1, none⟩ (.int .u64 y)).setCell ⟨b, 2, none⟩ (.int .u64 z)) :=
  ⟨fnT_set3 h.box x y z, h.ge, ((h.old.setCell h.ge _).setCell h.ge _).setCell h.ge _⟩

/-- Two words that are laid as a list. -/
theorem LstW.two (w : World) (a b : Int) (t : TypeId) : LstW (w.alloc (.cells #[.int .u64 a, .int .u64 b] t)) (some ⟨w.heap.size, 0, none⟩) 2 2 [a, b] := by
  have h := World.rowIs_alloc w #[.int .u64 a, .int .u64 b] t (fun i => if i = 0 then .int .u64 a else .int .u64 b) (by
    intro i hi
    rcases (show i = 0 ∨ i = 1 from by have : i < 2 := hi
                                       omega) with rfl | rfl <;> rfl)
  refine LstW.row h rfl (fun i hi => ?_)
  rcases (show i = 0 ∨ i = 1 from by omega) with rfl | rfl <;> rfl

end Go.Proofs.Ytfkalnehomgccaa.Fx

/- What digest.mix returns, called with three numbers below P. -/
namespace Go.Proofs.Ytfkalnehomgccaa.Fx
open Go.RowKit

set_option maxHeartbeats 1600000 in
theorem dmix_calls (s : Tri) (hs : s.ok) (w : World) : Calls Try.prog 45 #[.agg #[.int .u64 s.x, .int .u64 s.y, .int .u64 s.z]] w fun e w' => e = .returned (aggT (mixP s)) ∧ Below w.heap.size w w' := by
  have HS : Hid s.ok := hs
  clear hs
  go_enter Try.func45, Try.ntmps45
  go_wp2
  go_loopw [3] (fun i wr => ∃ (k : Nat) (n : Int) (t : Tri), k ≤ 6 ∧ i = .int .u64 n ∧ n = (k : Int) + 1 ∧ Hid (t = mixTo s k) ∧ MixRel 65 w t wr) (fun i _ => 7 - (intOf i).toNat)
  case atStart => exact ⟨0, 1, s, by omega, rfl, rfl, rfl, MixRel.start _ _ _ _ _⟩
  case round =>
    obtain ⟨k, n, t, hk, rfl, hn, HT, R⟩ := hrel
    obtain ⟨c0, c1, c2⟩ := fnT_cells R.box
    have HN : Hid (n = (k : Int) + 1) := hn
    by_cases hlt : n ≤ 6
    · have ht : t.ok := by rw [HT.out]; exact mixTo_ok HS.out k
      obtain ⟨t0, t1, t2⟩ := ht
      have n1 : okP n := ⟨by omega, by omega⟩
      have n2 : okP (2 * n) := ⟨by omega, by omega⟩
      have n3 : okP (3 * n) := ⟨by omega, by omega⟩
      have m0 : 1 ≤ n := by omega
      have f0 := R.box.frozen 0
      have f1 := R.box.frozen 1
      have f2 := R.box.frozen 2
      have HM : Hid (sums (pows n t) = mixTo s (k + 1)) := by rw [hn, HT.out]; rfl
      clear hn
      go_wp2_with (first | (go_at_call 46; refine (dadd_calls _ _ (by with_reducible first | exact powP_ok _ | exact addP_ok _ _ | assumption) (by with_reducible first | exact powP_ok _ | exact addP_ok _ _ | assumption) _).mono ?_; rintro e w' ⟨rfl, hw'⟩; replace hw' := hw'.symm; subst hw') | (go_at_call 48; refine (dpower_calls _ (by with_reducible exact addP_ok _ _) _).mono ?_; rintro e w' ⟨rfl, d, rfl⟩))
      go_roundw
      case rel =>
        have hn := HN.out
        exact ⟨k + 1, _, _, by omega, rfl, by omega, HM.out, (R.drewN _).set _ _ _⟩
      case measure => simp [intOf]; omega
    · have e7 : n = 7 := by omega
      subst e7
      obtain rfl : k = 6 := by omega
      obtain ⟨r0, r1, r2⟩ := fnT_cells R.res
      have f0 := R.res.frozen 0
      have f1 := R.res.frozen 1
      have f2 := R.res.frozen 2
      go_wp2
      have hq := fnT_set3 R.res t.x t.y t.z
      obtain ⟨q0, q1, q2⟩ := fnT_cells hq
      refine bodyPost_ret (v := aggT t) (by simp [results, Try.results45, go_sem, q0, q1, q2, aggT]) rfl ⟨by rw [HT.out]; rfl, ?_⟩
      exact ((R.old.setCell (Nat.le_succ _) _).setCell (Nat.le_succ _) _).setCell (Nat.le_succ _) _

theorem dmix3 (x y z : Int) (hx : okP x) (hy : okP y) (hz : okP z) (w : World) : Calls Try.prog 45 #[.agg #[.int .u64 x, .int .u64 y, .int .u64 z]] w fun e w' =>
    ∃ m : Tri, Hid (m = mixP ⟨x, y, z⟩) ∧ e = .returned (.agg #[.int .u64 m.x, .int .u64 m.y, .int .u64 m.z]) ∧ Below w.heap.size w w' := by
  refine (dmix_calls ⟨x, y, z⟩ ⟨hx, hy, hz⟩ w).mono ?_
  rintro e w' ⟨rfl, h⟩
  exact ⟨_, rfl, rfl, h⟩

end Go.Proofs.Ytfkalnehomgccaa.Fx

/- What digest.of, Of, Pair and Word return, whatever words lie there. -/
namespace Go.Proofs.Ytfkalnehomgccaa.Fx
open Go.RowKit

set_option maxHeartbeats 1600000 in
theorem dof_calls (kind : Int) (hk : okW kind) (a : Option Addr) (len cap : Nat) (xs : List Int) (w : World) (ha : LstW w a len cap xs) (hx : okL xs) (hlen : len ≤ 200) :
    Calls Try.prog 42 #[.int .u64 kind, .slice a len cap] w fun e w' => e = .returned (.int .u64 (ofP kind xs)) ∧ Below w.heap.size w w' := by
  obtain ⟨k0, k1⟩ := hk
  have p0 : okP (kind % 2305843009213693951) := ⟨by omega, by omega⟩
  have p1 : okP (len : Int) := ⟨by omega, by omega⟩
  have p2 : okP 1 := ⟨by omega, by omega⟩
  have HX : Hid (okL xs) := hx
  have HL : Hid (xs.length = len) := ha.len
  clear hx
  go_enter Try.func42, Try.ntmps42
  go_wp2_with (go_at_call 45; refine (dmix3 _ _ _ p0 p1 p2 _).mono ?_; rintro e w1 ⟨m, HM, rfl, hw1⟩)
  go_loopw [17] (fun i wr => ∃ (k : Nat) (t : Tri), k ≤ len ∧ i = .int .i64 k ∧ Hid (t = ofTo kind xs k) ∧ OfRel 65 w w1.heap.size t wr) (fun i _ => len - (intOf i).toNat)
  case atStart => exact ⟨0, m, Nat.zero_le _, rfl, by rw [HM.out, ← HL.out]; rfl, OfRel.start hw1 _ _ _⟩
  case round =>
    obtain ⟨k, t, hk, rfl, HT, R⟩ := hrel
    obtain ⟨c0, c1, c2⟩ := fnT_cells R.box
    by_cases hlt : k < len
    · obtain ⟨b1, o1, y, rfl, s1, g1, HY⟩ := ha.at1b R.old (Nat.le_refl _) hlt
      have ht : t.ok := by rw [HT.out]; exact ofTo_ok _ _ _
      obtain ⟨t0, t1, t2⟩ := ht
      have hy : okW y := by rw [← HY.out]; exact HX.out k (by rw [HL.out]; exact hlt)
      obtain ⟨y0, y1⟩ := hy
      have py : okP (y % 2305843009213693951) := ⟨by omega, by omega⟩
      have f0 := R.box.frozen 0
      clear ha
      go_wp2_with (first | (go_at_call 46; refine (dadd_calls _ _ t0 py _).mono ?_; rintro e w' ⟨rfl, hw'⟩; replace hw' := hw'.symm; subst hw'; rw [addP_mod]) | (go_at_call 45; refine (dmix3 _ _ _ (addP_ok _ _) t1 t2 _).mono ?_; rintro e w2 ⟨m2, HM2, rfl, hw2⟩; have R2 := (R.set0 _).below hw2; obtain ⟨e0, e1, e2⟩ := fnT_cells R2.box; have z0 := R2.box.frozen 0; have z1 := R2.box.frozen 1; have z2 := R2.box.frozen 2))
      go_roundw
      case rel => exact ⟨k + 1, _, by omega, by go_num, by rw [HM2.out, HT.out, ← HY.out]; rfl, R2.set _ _ _⟩
      case measure => simp [intOf]; omega
    · obtain rfl : k = len := by omega
      go_wp2
      go_ret
      exact ⟨ret_word (by rw [HT.out]; unfold ofP; rw [HL.out]), R.old⟩

def bigI (n : Nat) : Int := if 200 < n then 2 else 0
def ofA (kind : Int) (xs : List Int) (n : Nat) : Int := if 200 < n then 0 else ofP kind xs

theorem dOf_calls (kind : Int) (hk : okW kind) (a : Option Addr) (len cap : Nat) (xs : List Int) (w : World) (ha : LstW w a len cap xs) (hx : okL xs) :
    Calls Try.prog 31 #[.int .u64 kind, .slice a len cap] w fun e w' => e = .returned (.tuple #[.int .u64 (ofA kind xs len), .int .i64 (bigI len)]) ∧ Below w.heap.size w w' := by
  unfold ofA bigI
  by_cases h : 200 < len
  · rw [if_pos h, if_pos h]
    go_enter Try.func31, Try.ntmps31
    go_wp2
    go_ret2
    exact ⟨rfl, Below.refl _ _⟩
  · rw [if_neg h, if_neg h]
    go_enter Try.func31, Try.ntmps31
    go_wp2_with (go_at_call 42; refine (dof_calls _ hk _ _ _ xs _ ha hx (by omega)).mono ?_; rintro e w' ⟨rfl, hw⟩)
    go_ret2
    exact ⟨rfl, hw⟩

theorem okL_two {a b : Int} (ha : okW a) (hb : okW b) : okL [a, b] := by
  intro i hi
  rcases (show i = 0 ∨ i = 1 from by simp at hi; omega) with rfl | rfl
  · exact ha
  · exact hb

theorem dPair_calls (a b : Int) (ha : okW a) (hb : okW b) (w : World) : Calls Try.prog 32 #[.int .u64 a, .int .u64 b] w fun e w' => e = .returned (.int .u64 (ofP 3 [a, b])) ∧ Below w.heap.size w w' := by
  go_enter Try.func32, Try.ntmps32
  go_wp2_with (go_at_call 42; refine (dof_calls _ ⟨by omega, by omega⟩ _ _ _ [a, b] _ (LstW.two _ _ _ _) (okL_two ha hb) (by omega)).mono ?_; rintro e w' ⟨rfl, hw⟩)
  go_ret
  exact ⟨rfl, ((Below.refl _ _).alloc (Nat.le_refl _) _).trans (hw.mono (by simp))⟩

def numG (xs : List Int) (i : Nat) : Int := boundP (xs.getD i 0)
def numL (xs : List Int) (n : Nat) : List Int := if 200 < n then [] else (List.range n).map (numG xs)
theorem bound_min (x : Int) : (if 4294967296 < if x < -4294967296 then -4294967296 else x then 4294967296 else if x < -4294967296 then -4294967296 else x) + 4294967296 = boundP x := by
  unfold boundP
  by_cases h : x < -4294967296
  · rw [if_pos h, if_pos h, if_neg (by omega)]
  · rw [if_neg h, if_neg h]
theorem infoW : (Try.prog.info? 25).map (fun i => (i.zero, i.size, i.bytes)) = some (some (.int .u64 0), 1, 8) := by kernel_rfl

set_option maxHeartbeats 1600000 in
theorem dNumbers_calls (a : Option Addr) (la ca : Nat) (xs : List Int) (w : World) (ha : Lst w a la ca xs) :
    Calls Try.prog 30 #[.slice a la ca] w fun e w' => ∃ a' n, e = .returned (.tuple #[.slice a' n n, .int .i64 (bigI la)]) ∧ n ≤ 200 ∧ LstW w' a' n n (numL xs la) ∧ Below w.heap.size w w' := by
  unfold numL bigI
  by_cases hl : 200 < la
  · rw [if_pos hl, if_pos hl]
    clear ha
    go_enter Try.func30, Try.ntmps30
    go_wp2
    go_ret2
    exact ⟨_, _, rfl, Nat.zero_le _, LstW.nil _ _ _, Below.refl _ _⟩
  · rw [if_neg hl, if_neg hl]
    have hmk := run_make_row' (P := Try.prog) 26 25 (.int .u64 0) 8 Try.underlying26 infoW rfl .i64 .i64 la (by omega) (by omega)
    go_enter Try.func30, Try.ntmps30
    go_wp2
    go_loopw [15] (fun i wr => ∃ k : Nat, k ≤ la ∧ i = .int .i64 k ∧ wr.rowIs w.heap.size 25 la (rowToW (numG xs) k) ∧ Below w.heap.size w wr) (fun i _ => la - (intOf i).toNat)
    case atStart => exact ⟨0, Nat.zero_le _, rfl, rowToW_made (World.rowIs_made _ _ _ _), (Below.refl _ _).alloc (Nat.le_refl _) _⟩
    case round =>
      obtain ⟨k, hk, rfl, hrow, hbel⟩ := hrel
      have ha' := ha.below hbel (Nat.le_refl _)
      clear ha hmk
      by_cases hlt : k < la
      · obtain ⟨b1, o1, x, rfl, _, c1, HX⟩ := ha'.at1 hlt
        have c3 := rowToW_cell hrow hlt
        have f3 := hrow.frozen k
        go_wp2
        rw [bound_min]
        go_roundw
        case rel =>
          have st := rowToW_step (g := numG xs) hrow
          simp only [numG, HX.out] at st
          exact ⟨k + 1, by omega, by go_num, st, hbel.setCell (Nat.le_refl _) _⟩
        case measure => simp [intOf]; omega
      · go_wp2
        go_ret2
        obtain rfl : k = la := by omega
        exact ⟨_, _, rfl, by omega, rowToW_lst hrow, hbel⟩

end Go.Proofs.Ytfkalnehomgccaa.Fx

/- The plain trees of package tree: where leaves are cut, the tree of a list, the way of one leaf, how deep it lies, and the way up; from each leaf by its way one comes to the tree. Nothing here speaks of the program. -/
namespace Go.Proofs.Ytfkalnehomgccaa.Fx

theorem okL_take {xs : List Int} (h : okL xs) (k : Nat) : okL (xs.take k) := by
  intro i hi
  rw [List.length_take] at hi
  have e : (xs.take k).getD i 0 = xs.getD i 0 := by
    rw [List.getD_eq_getElem?_getD, List.getElem?_take_of_lt (by omega), ← List.getD_eq_getElem?_getD]
  rw [e]; exact h i (by omega)
theorem okL_drop {xs : List Int} (h : okL xs) (k : Nat) : okL (xs.drop k) := by
  intro i hi
  rw [List.length_drop] at hi
  have e : (xs.drop k).getD i 0 = xs.getD (k + i) 0 := by
    rw [List.getD_eq_getElem?_getD, List.getElem?_drop, ← List.getD_eq_getElem?_getD]
  rw [e]; exact h _ (by omega)
theorem okL_snoc {xs : List Int} {x : Int} (h : okL xs) (hx : okW x) : okL (xs ++ [x]) := by
  intro i hi
  rw [List.length_append] at hi
  simp at hi
  rw [List.getD_eq_getElem?_getD]
  by_cases c : i < xs.length
  · rw [List.getElem?_append_left c, ← List.getD_eq_getElem?_getD]; exact h i c
  · obtain rfl : i = xs.length := by omega
    simpa using hx
theorem okW_of_P {n : Int} (h : okP n) : okW n := ⟨h.1, by have := h.2; omega⟩

def cutN (n : Nat) : Nat := 2 ^ Nat.log2 (n - 1)
theorem cutN_lt {n : Nat} (h : 2 ≤ n) : 1 ≤ cutN n ∧ cutN n < n ∧ n ≤ cutN n + cutN n := by
  have h1 : 2 ^ Nat.log2 (n - 1) ≤ n - 1 := Nat.log2_self_le (by omega)
  have h2 : n - 1 < 2 ^ (Nat.log2 (n - 1) + 1) := Nat.lt_log2_self
  have h3 : 0 < 2 ^ Nat.log2 (n - 1) := Nat.pow_pos (by omega)
  rw [Nat.pow_succ] at h2
  unfold cutN
  omega
/-- A power of two that is less than n, and no less than half of it, is the cut. -/
theorem cutN_is {n j : Nat} (h : 2 ^ j < n) (h2 : n ≤ 2 ^ j + 2 ^ j) : cutN n = 2 ^ j := by
  unfold cutN
  have e : Nat.log2 (n - 1) = j := by
    rw [Nat.log2_eq_iff (by have : 0 < 2 ^ j := Nat.pow_pos (by omega)
                            omega)]
    rw [Nat.pow_succ]
    omega
  rw [e]

def treeF : Nat → List Int → Int
  | 0, l => l.getD 0 0
  | f + 1, l => if l.length ≤ 1 then l.getD 0 0 else ofP 3 [treeF f (l.take (cutN l.length)), treeF f (l.drop (cutN l.length))]
theorem treeF_same : ∀ (f g : Nat) (l : List Int), l.length ≤ f → l.length ≤ g → treeF f l = treeF g l
  | 0, 0, _, _, _ => rfl
  | 0, g + 1, l, h, _ => by unfold treeF; rw [if_pos (by omega)]
  | f + 1, 0, l, _, h => by unfold treeF; rw [if_pos (by omega)]
  | f + 1, g + 1, l, h1, h2 => by
    unfold treeF
    by_cases c : l.length ≤ 1
    · rw [if_pos c, if_pos c]
    · rw [if_neg c, if_neg c]
      have := cutN_lt (n := l.length) (by omega)
      rw [treeF_same f g (l.take _) (by rw [List.length_take]; omega) (by rw [List.length_take]; omega), treeF_same f g (l.drop _) (by rw [List.length_drop]; omega) (by rw [List.length_drop]; omega)]
/-- The tree of a list of leaves. -/
def treeP (l : List Int) : Int := treeF l.length l
theorem treeP_one {l : List Int} (h : l.length ≤ 1) : treeP l = l.getD 0 0 := by
  unfold treeP
  rw [treeF_same l.length (l.length + 1) l (Nat.le_refl _) (by omega)]
  unfold treeF
  rw [if_pos h]
theorem treeP_two {l : List Int} (h : 2 ≤ l.length) : treeP l = ofP 3 [treeP (l.take (cutN l.length)), treeP (l.drop (cutN l.length))] := by
  have := cutN_lt h
  have e : treeP l = treeF (l.length + 1) l := treeF_same _ _ l (Nat.le_refl _) (by omega)
  rw [e]
  rw [treeF, if_neg (by omega)]
  unfold treeP
  rw [treeF_same l.length (l.take _).length (l.take _) (by rw [List.length_take]; omega) (Nat.le_refl _), treeF_same l.length (l.drop _).length (l.drop _) (by rw [List.length_drop]; omega) (Nat.le_refl _)]
theorem treeP_ok {l : List Int} (h : okL l) (h1 : 1 ≤ l.length) : okW (treeP l) := by
  by_cases c : l.length ≤ 1
  · rw [treeP_one c]; exact h 0 (by omega)
  · rw [treeP_two (by omega)]; exact okW_of_P (ofP_ok _ _)

def wayF : Nat → List Int → Nat → List Int
  | 0, _, _ => []
  | f + 1, l, i => if l.length ≤ 1 then [] else if i < cutN l.length then wayF f (l.take (cutN l.length)) i ++ [treeP (l.drop (cutN l.length))] else wayF f (l.drop (cutN l.length)) (i - cutN l.length) ++ [treeP (l.take (cutN l.length))]
theorem wayF_same : ∀ (f g : Nat) (l : List Int) (i : Nat), l.length ≤ f → l.length ≤ g → wayF f l i = wayF g l i
  | 0, 0, _, _, _, _ => rfl
  | 0, g + 1, l, i, h, _ => by unfold wayF; rw [if_pos (by omega)]
  | f + 1, 0, l, i, _, h => by unfold wayF; rw [if_pos (by omega)]
  | f + 1, g + 1, l, i, h1, h2 => by
    unfold wayF
    by_cases c : l.length ≤ 1
    · rw [if_pos c, if_pos c]
    · rw [if_neg c, if_neg c]
      have := cutN_lt (n := l.length) (by omega)
      rw [wayF_same f g (l.take _) _ (by rw [List.length_take]; omega) (by rw [List.length_take]; omega), wayF_same f g (l.drop _) _ (by rw [List.length_drop]; omega) (by rw [List.length_drop]; omega)]
/-- The way of leaf i. -/
def wayP (l : List Int) (i : Nat) : List Int := wayF l.length l i
theorem wayP_one {l : List Int} (h : l.length ≤ 1) (i : Nat) : wayP l i = [] := by
  unfold wayP
  rw [wayF_same l.length (l.length + 1) l i (Nat.le_refl _) (by omega)]
  unfold wayF
  rw [if_pos h]
theorem wayP_left {l : List Int} (h : 2 ≤ l.length) {i : Nat} (hi : i < cutN l.length) : wayP l i = wayP (l.take (cutN l.length)) i ++ [treeP (l.drop (cutN l.length))] := by
  have := cutN_lt h
  have e : wayP l i = wayF (l.length + 1) l i := wayF_same _ _ l i (Nat.le_refl _) (by omega)
  rw [e]
  rw [wayF, if_neg (by omega), if_pos hi]
  unfold wayP
  rw [wayF_same l.length (l.take _).length (l.take _) _ (by rw [List.length_take]; omega) (Nat.le_refl _)]
theorem wayP_right {l : List Int} (h : 2 ≤ l.length) {i : Nat} (hi : ¬ i < cutN l.length) : wayP l i = wayP (l.drop (cutN l.length)) (i - cutN l.length) ++ [treeP (l.take (cutN l.length))] := by
  have := cutN_lt h
  have e : wayP l i = wayF (l.length + 1) l i := wayF_same _ _ l i (Nat.le_refl _) (by omega)
  rw [e]
  rw [wayF, if_neg (by omega), if_neg hi]
  unfold wayP
  rw [wayF_same l.length (l.drop _).length (l.drop _) _ (by rw [List.length_drop]; omega) (Nat.le_refl _)]

def deepF : Nat → Nat → Nat → Nat
  | 0, _, _ => 0
  | f + 1, i, n => if n ≤ 1 then 0 else if i < cutN n then 1 + deepF f i (cutN n) else 1 + deepF f (i - cutN n) (n - cutN n)
theorem deepF_same : ∀ (f g i n : Nat), n ≤ f → n ≤ g → deepF f i n = deepF g i n
  | 0, 0, _, _, _, _ => rfl
  | 0, g + 1, i, n, h, _ => by unfold deepF; rw [if_pos (by omega)]
  | f + 1, 0, i, n, _, h => by unfold deepF; rw [if_pos (by omega)]
  | f + 1, g + 1, i, n, h1, h2 => by
    unfold deepF
    by_cases c : n ≤ 1
    · rw [if_pos c, if_pos c]
    · rw [if_neg c, if_neg c]
      have := cutN_lt (n := n) (by omega)
      rw [deepF_same f g i (cutN n) (by omega) (by omega), deepF_same f g (i - cutN n) (n - cutN n) (by omega) (by omega)]
/-- How long the way of leaf i of n is. -/
def deepP (i n : Nat) : Nat := deepF n i n
theorem deepP_one {n : Nat} (h : n ≤ 1) (i : Nat) : deepP i n = 0 := by
  unfold deepP
  rw [deepF_same n (n + 1) i n (Nat.le_refl _) (by omega)]
  unfold deepF
  rw [if_pos h]
theorem deepP_left {i n : Nat} (h : 2 ≤ n) (hi : i < cutN n) : deepP i n = 1 + deepP i (cutN n) := by
  have := cutN_lt h
  have e : deepP i n = deepF (n + 1) i n := deepF_same _ _ i n (Nat.le_refl _) (by omega)
  rw [e]
  rw [deepF, if_neg (by omega), if_pos hi]
  unfold deepP
  rw [deepF_same n (cutN n) i (cutN n) (by omega) (Nat.le_refl _)]
theorem deepP_right {i n : Nat} (h : 2 ≤ n) (hi : ¬ i < cutN n) : deepP i n = 1 + deepP (i - cutN n) (n - cutN n) := by
  have := cutN_lt h
  have e : deepP i n = deepF (n + 1) i n := deepF_same _ _ i n (Nat.le_refl _) (by omega)
  rw [e]
  rw [deepF, if_neg (by omega), if_neg hi]
  unfold deepP
  rw [deepF_same n (n - cutN n) _ (n - cutN n) (by omega) (Nat.le_refl _)]
theorem deepF_le : ∀ (f i n : Nat), deepF f i n ≤ f
  | 0, _, _ => Nat.le_refl _
  | f + 1, i, n => by
    unfold deepF
    have h1 := deepF_le f i (cutN n)
    have h2 := deepF_le f (i - cutN n) (n - cutN n)
    by_cases c : n ≤ 1
    · rw [if_pos c]; omega
    · rw [if_neg c]
      by_cases d : i < cutN n
      · rw [if_pos d]; omega
      · rw [if_neg d]; omega
theorem deepP_le (i n : Nat) : deepP i n ≤ n := deepF_le n i n

def upF : Nat → Nat → Nat → Int → List Int → Int
  | 0, _, _, x, _ => x
  | f + 1, i, n, x, p => if n ≤ 1 then x else if i < cutN n then ofP 3 [upF f i (cutN n) x (p.take (p.length - 1)), p.getD (p.length - 1) 0] else ofP 3 [p.getD (p.length - 1) 0, upF f (i - cutN n) (n - cutN n) x (p.take (p.length - 1))]
theorem upF_same : ∀ (f g i n : Nat) (x : Int) (p : List Int), n ≤ f → n ≤ g → upF f i n x p = upF g i n x p
  | 0, 0, _, _, _, _, _, _ => rfl
  | 0, g + 1, i, n, x, p, h, _ => by unfold upF; rw [if_pos (by omega)]
  | f + 1, 0, i, n, x, p, _, h => by unfold upF; rw [if_pos (by omega)]
  | f + 1, g + 1, i, n, x, p, h1, h2 => by
    unfold upF
    by_cases c : n ≤ 1
    · rw [if_pos c, if_pos c]
    · rw [if_neg c, if_neg c]
      have := cutN_lt (n := n) (by omega)
      rw [upF_same f g i (cutN n) x _ (by omega) (by omega), upF_same f g (i - cutN n) (n - cutN n) x _ (by omega) (by omega)]
/-- The tree of n leaves, by leaf i and its way. -/
def upP (i n : Nat) (x : Int) (p : List Int) : Int := upF n i n x p
theorem upP_one {n : Nat} (h : n ≤ 1) (i : Nat) (x : Int) (p : List Int) : upP i n x p = x := by
  unfold upP
  rw [upF_same n (n + 1) i n x p (Nat.le_refl _) (by omega)]
  unfold upF
  rw [if_pos h]
theorem upP_left {i n : Nat} (h : 2 ≤ n) (hi : i < cutN n) (x : Int) (p : List Int) : upP i n x p = ofP 3 [upP i (cutN n) x (p.take (p.length - 1)), p.getD (p.length - 1) 0] := by
  have := cutN_lt h
  have e : upP i n x p = upF (n + 1) i n x p := upF_same _ _ i n x p (Nat.le_refl _) (by omega)
  rw [e]
  rw [upF, if_neg (by omega), if_pos hi]
  unfold upP
  rw [upF_same n (cutN n) i (cutN n) x _ (by omega) (Nat.le_refl _)]
theorem upP_right {i n : Nat} (h : 2 ≤ n) (hi : ¬ i < cutN n) (x : Int) (p : List Int) : upP i n x p = ofP 3 [p.getD (p.length - 1) 0, upP (i - cutN n) (n - cutN n) x (p.take (p.length - 1))] := by
  have := cutN_lt h
  have e : upP i n x p = upF (n + 1) i n x p := upF_same _ _ i n x p (Nat.le_refl _) (by omega)
  rw [e]
  rw [upF, if_neg (by omega), if_neg hi]
  unfold upP
  rw [upF_same n (n - cutN n) _ (n - cutN n) x _ (by omega) (Nat.le_refl _)]
theorem upP_ok {i n : Nat} {x : Int} {p : List Int} (hx : okW x) : okW (upP i n x p) := by
  by_cases c : n ≤ 1
  · rw [upP_one c]; exact hx
  · by_cases d : i < cutN n
    · rw [upP_left (by omega) d]; exact okW_of_P (ofP_ok _ _)
    · rw [upP_right (by omega) d]; exact okW_of_P (ofP_ok _ _)

theorem take_len {l : List Int} (h : 2 ≤ l.length) : (l.take (cutN l.length)).length = cutN l.length := by
  have := cutN_lt h
  rw [List.length_take]; omega
theorem snoc_last (p : List Int) (x : Int) : (p ++ [x]).getD ((p ++ [x]).length - 1) 0 = x ∧ (p ++ [x]).take ((p ++ [x]).length - 1) = p := by
  constructor <;> simp

/-- The way is as long as it is said to be, and of words. -/
theorem way_deep : ∀ (m : Nat) (l : List Int) (i : Nat), l.length ≤ m → okL l → (wayP l i).length = deepP i l.length ∧ okL (wayP l i)
  | 0, l, i, h, _ => by rw [wayP_one (by omega), deepP_one (by omega)]; exact ⟨rfl, fun i hi => by simp at hi⟩
  | m + 1, l, i, h, hl => by
    by_cases c : l.length ≤ 1
    · rw [wayP_one c, deepP_one c]; exact ⟨rfl, fun i hi => by simp at hi⟩
    · have h2 : 2 ≤ l.length := by omega
      have hc := cutN_lt h2
      by_cases d : i < cutN l.length
      · obtain ⟨e1, e2⟩ := way_deep m (l.take (cutN l.length)) i (by rw [take_len h2]; omega) (okL_take hl _)
        rw [wayP_left h2 d, deepP_left h2 d]
        rw [take_len h2] at e1
        exact ⟨by rw [List.length_append, e1, Nat.add_comm]; rfl, okL_snoc e2 (treeP_ok (okL_drop hl _) (by rw [List.length_drop]; omega))⟩
      · obtain ⟨e1, e2⟩ := way_deep m (l.drop (cutN l.length)) (i - cutN l.length) (by rw [List.length_drop]; omega) (okL_drop hl _)
        rw [wayP_right h2 d, deepP_right h2 d]
        rw [List.length_drop] at e1
        exact ⟨by rw [List.length_append, e1, Nat.add_comm]; rfl, okL_snoc e2 (treeP_ok (okL_take hl _) (by rw [take_len h2]; omega))⟩
/-- Merkle: from each leaf by its way one comes to the tree. -/
theorem way_up : ∀ (m : Nat) (l : List Int) (i : Nat), l.length ≤ m → i < l.length → upP i l.length (l.getD i 0) (wayP l i) = treeP l
  | 0, l, i, h, h1 => by omega
  | m + 1, l, i, h, h1 => by
    by_cases c : l.length ≤ 1
    · obtain rfl : i = 0 := by omega
      rw [upP_one c, treeP_one c]
    · have h2 : 2 ≤ l.length := by omega
      have hc := cutN_lt h2
      by_cases d : i < cutN l.length
      · have e := way_up m (l.take (cutN l.length)) i (by rw [take_len h2]; omega) (by rw [take_len h2]; omega)
        rw [take_len h2] at e
        have e3 : (l.take (cutN l.length)).getD i 0 = l.getD i 0 := by
          rw [List.getD_eq_getElem?_getD, List.getElem?_take_of_lt d, ← List.getD_eq_getElem?_getD]
        rw [e3] at e
        rw [upP_left h2 d, wayP_left h2 d, (snoc_last _ _).1, (snoc_last _ _).2, e, ← treeP_two h2]
      · have e := way_up m (l.drop (cutN l.length)) (i - cutN l.length) (by rw [List.length_drop]; omega) (by rw [List.length_drop]; omega)
        rw [List.length_drop] at e
        have e3 : (l.drop (cutN l.length)).getD (i - cutN l.length) 0 = l.getD i 0 := by
          rw [List.getD_eq_getElem?_getD, List.getElem?_drop, ← List.getD_eq_getElem?_getD]
          congr 1; omega
        rw [e3] at e
        rw [upP_right h2 d, wayP_right h2 d, (snoc_last _ _).1, (snoc_last _ _).2, e, ← treeP_two h2]

end Go.Proofs.Ytfkalnehomgccaa.Fx
