/- What math/bits' Len64, LeadingZeros64, Div64, Rem64 (by P) and Mul64 return, as package digest calls them. -/
import Derived.Test.YtfcnnolpcnacoaaGreatDoorRows
import Derived.Test.YtfcnnolpcnacoaaGreatDoorJ00
import Derived.WalkKit
import Derived.Deep.QuietTactic
import Derived.BigQuiet
import Derived.Shelf.Bits.Mul64
namespace Go.Proofs.YtfcnnolpcnacoaaGreatDoor.Fx
open Go.RowKit

theorem ret_word {k : IntKind} {a b : Int} (h : a = b) : Ending.returned (.int k a) = .returned (.int k b) := by rw [h]

set_option maxRecDepth 100000 in
theorem len64_P (w : World) : Calls Tryz.prog 109 #[.int .u64 2305843009213693951] w fun e w' => e = .returned (.int .i64 61) ∧ w' = w := by
  go_enter Tryz.func109, Tryz.ntmps109
  go_wp2
  go_ret
  exact ⟨by kernel_rfl, rfl⟩

theorem lead64_P (w : World) : Calls Tryz.prog 170 #[.int .u64 2305843009213693951] w fun e w' => e = .returned (.int .i64 3) ∧ w' = w := by
  go_enter Tryz.func170, Tryz.ntmps170
  go_wp2_with (go_at_call 109; refine (len64_P _).mono ?_; rintro e w' ⟨rfl, rfl⟩)
  go_ret
  exact ⟨rfl, rfl⟩

theorem or_low (hi lo : Int) (h : okP hi) (hl : okW lo) : bits .or .u64 (hi * 8) (lo / 2305843009213693952) = hi * 8 + lo / 2305843009213693952 := by
  obtain ⟨h0, h1⟩ := h
  obtain ⟨l0, l1⟩ := hl
  have e := bits_or_u64_nat (hi.toNat * 8) (lo.toNat / 2305843009213693952) (by omega) (by omega)
  have e2 := Nat.shiftLeft_add_eq_or_of_lt (i := 3) (b := lo.toNat / 2305843009213693952) (by omega) hi.toNat
  rw [Nat.shiftLeft_eq] at e2
  rw [← e2] at e
  have c1 : ((hi.toNat * 8 : Nat) : Int) = hi * 8 := by omega
  have c2 : ((lo.toNat / 2305843009213693952 : Nat) : Int) = lo / 2305843009213693952 := by omega
  rw [c1, c2] at e
  rw [e]
  omega
theorem and_low (n : Int) (h : okW n) : bits .and .u64 n 4294967295 = n % 4294967296 := by
  obtain ⟨h0, h1⟩ := h
  have e := bits_and_u64_nat n.toNat 4294967295 (by omega) (by omega)
  have e2 : n.toNat &&& 4294967295 = n.toNat % 4294967296 := Nat.and_two_pow_sub_one_eq_mod n.toNat 32
  rw [e2] at e
  have c1 : ((n.toNat : Nat) : Int) = n := by omega
  rw [c1] at e
  rw [show ((4294967295 : Nat) : Int) = 4294967295 from rfl] at e
  rw [e]
  omega
theorem wrap_word (x : Int) (h0 : 0 ≤ x) (h1 : x < 18446744073709551616) : IntKind.u64.wrap x = x := by rw [IntKind.wrap_u64]; omega
theorem un_next {u d q : Int} (h : inU u d) (hq : q = (u * 4294967296 + d) / 18446744073709551608) :
    IntKind.u64.wrap (IntKind.u64.wrap (IntKind.u64.wrap (u * 4294967296) + d) - IntKind.u64.wrap (q * 18446744073709551608)) = (u * 4294967296 + d) % 18446744073709551608 := by
  obtain ⟨h0, h1, h2, h3⟩ := h
  simp only [IntKind.wrap_u64]
  omega
theorem first_q {u d : Int} (h : inU u d) : IntKind.u64.wrap (u.tdiv 4294967295) = u / 4294967295 := by
  obtain ⟨h0, h1, h2, h3⟩ := h
  rw [Int.tdiv_eq_ediv_of_nonneg h0, wrap_word _ (by omega) (by omega)]
theorem first_r {u d : Int} (h : inU u d) : IntKind.u64.wrap (u - IntKind.u64.wrap (u / 4294967295 * 4294967295)) = u - u / 4294967295 * 4294967295 := by
  obtain ⟨h0, h1, h2, h3⟩ := h
  simp only [IntKind.wrap_u64]
  omega

set_option maxHeartbeats 1600000 in
set_option maxRecDepth 100000 in
theorem div64_P (hi lo : Int) (h : okP hi) (hl : okW lo) (w : World) : Calls Tryz.prog 168 #[.int .u64 hi, .int .u64 lo, .int .u64 2305843009213693951] w fun e w' =>
    (∃ q, e = .returned (.tuple #[.int .u64 q, .int .u64 ((hi * 18446744073709551616 + lo) % 2305843009213693951)])) ∧ ∃ k, w' = w.drewN k := by
  have hor := or_low hi lo h hl
  obtain ⟨u, hu⟩ : ∃ u, u = hi * 8 + lo / 2305843009213693952 := ⟨_, rfl⟩
  obtain ⟨d1, hd1⟩ : ∃ u, u = lo * 8 % 18446744073709551616 / 4294967296 := ⟨_, rfl⟩
  obtain ⟨d0, hd0⟩ : ∃ u, u = lo * 8 % 18446744073709551616 % 4294967296 := ⟨_, rfl⟩
  obtain ⟨v, hv⟩ : ∃ v, v = (u * 4294967296 + d1) % 18446744073709551608 := ⟨_, rfl⟩
  obtain ⟨U1, U0, hend⟩ := two_digits hi lo h hl u d1 d0 v hu hd1 hd0 hv
  obtain ⟨h0, h1⟩ := h
  obtain ⟨l0, l1⟩ := hl
  have eand := and_low (lo * 8 % 18446744073709551616) ⟨by omega, by omega⟩
  have HW : Hid (IntKind.u64.wrap (lo * 8) = lo * 8 % 18446744073709551616) := IntKind.wrap_u64 _
  have HO : Hid (bits .or .u64 (hi * 8) (lo / 2305843009213693952) = u) := hor.trans hu.symm
  have HA : Hid (bits .and .u64 (lo * 8 % 18446744073709551616) 4294967295 = d0) := eand.trans hd0.symm
  have HY : Hid (bits .and .u64 18446744073709551608 4294967295 = 4294967288) := by rw [and_low _ ⟨by omega, by omega⟩]; rfl
  have H1 : Hid (lo * 8 % 18446744073709551616 / 4294967296 = d1) := hd1.symm
  have HV : Hid (v = (u * 4294967296 + d1) % 18446744073709551608) := hv
  have HE : Hid ((v * 4294967296 + d0) % 18446744073709551608 / 8 = (hi * 18446744073709551616 + lo) % 2305843009213693951) := hend
  have HU1 : Hid (inU u d1) := U1
  have HU0 : Hid (inU v d0) := U0
  obtain ⟨u0, u1, e0, e1⟩ := U1
  obtain ⟨v0, v1, f0, f1⟩ := U0
  clear hor eand hu hd1 hd0 hv hend
  by_cases hz : hi = 0
  · subst hz
    go_enter Tryz.func168, Tryz.ntmps168
    go_wp2
    go_quiet (fail)
    go_wp2
    go_ret2
    rw [Int.zero_mul, Int.zero_add]
    exact ⟨⟨_, rfl⟩, nq, rfl⟩
  · have hz' : (hi == 0) = false := by simpa using hz
    go_enter Tryz.func168, Tryz.ntmps168
    go_wp2_with (go_at_call 170; refine (lead64_P _).mono ?_; rintro e w' ⟨rfl, rfl⟩)
    rw [HO.out, HW.out, HA.out, HY.out, H1.out, first_q HU1.out, first_r HU1.out]
    go_loop [15, 16] (fun q r => ∃ q1 r1 : Int, q = .int .u64 q1 ∧ r = .int .u64 r1 ∧ Digit u d1 q1 r1) (fun q _ => (intOf q).toNat)
    case atStart => exact ⟨_, _, rfl, rfl, digit_first HU1.out⟩
    case round =>
      obtain ⟨q1, r1, rfl, rfl, D⟩ := hrel
      have D0 := D
      obtain ⟨a0, a1, -, a3, a4, -⟩ := D0
      by_cases c1 : 4294967296 ≤ q1
      · obtain ⟨g1, g2, g3⟩ := digit_more HU1.out D (.inl c1)
        have G2 : Hid (r1 + 4294967295 < 4294967296 → Digit u d1 (q1 - 1) (r1 + 4294967295)) := g2
        have G3 : Hid (4294967296 ≤ r1 + 4294967295 → q1 - 1 = (u * 4294967296 + d1) / 18446744073709551608) := g3
        clear g2 g3
        by_cases c3 : 4294967296 ≤ r1 + 4294967295
        · go_wp2
          rw [un_next HU1.out (G3.out c3), ← HV.out, first_q HU0.out, first_r HU0.out]
          go_loop [18, 16] (fun q r => ∃ q0 r0 : Int, q = .int .u64 q0 ∧ r = .int .u64 r0 ∧ Digit v d0 q0 r0) (fun q _ => (intOf q).toNat)
          case atStart => exact ⟨_, _, rfl, rfl, digit_first HU0.out⟩
          case round =>
            obtain ⟨q0, r0, rfl, rfl, E⟩ := hrel
            have E0 := E
            obtain ⟨a0, a1, -, a3, a4, -⟩ := E0
            by_cases k1 : 4294967296 ≤ q0
            · obtain ⟨g1, g2, g3⟩ := digit_more HU0.out E (.inl k1)
              have K2 : Hid (r0 + 4294967295 < 4294967296 → Digit v d0 (q0 - 1) (r0 + 4294967295)) := g2
              have K3 : Hid (4294967296 ≤ r0 + 4294967295 → q0 - 1 = (v * 4294967296 + d0) / 18446744073709551608) := g3
              clear g2 g3
              by_cases k3 : 4294967296 ≤ r0 + 4294967295
              · go_wp2
                rw [un_next HU0.out (K3.out k3), HE.out]
                go_ret2
                exact ⟨⟨_, rfl⟩, 0, rfl⟩
              · go_wp2
                go_round
                case rel => exact ⟨_, _, rfl, rfl, K2.out (by omega)⟩
                case measure => simp [intOf]; omega
            · by_cases k2 : 4294967296 * r0 + d0 < q0 * 4294967288
              · obtain ⟨g1, g2, g3⟩ := digit_more HU0.out E (.inr k2)
                have K2 : Hid (r0 + 4294967295 < 4294967296 → Digit v d0 (q0 - 1) (r0 + 4294967295)) := g2
                have K3 : Hid (4294967296 ≤ r0 + 4294967295 → q0 - 1 = (v * 4294967296 + d0) / 18446744073709551608) := g3
                clear g2 g3
                by_cases k3 : 4294967296 ≤ r0 + 4294967295
                · go_wp2
                  rw [un_next HU0.out (K3.out k3), HE.out]
                  go_ret2
                  exact ⟨⟨_, rfl⟩, 0, rfl⟩
                · go_wp2
                  go_round
                  case rel => exact ⟨_, _, rfl, rfl, K2.out (by omega)⟩
                  case measure => simp [intOf]; omega
              · go_wp2
                rw [un_next HU0.out (digit_last E (by omega)), HE.out]
                go_ret2
                exact ⟨⟨_, rfl⟩, 0, rfl⟩
        · go_wp2
          go_round
          case rel => exact ⟨_, _, rfl, rfl, G2.out (by omega)⟩
          case measure => simp [intOf]; omega
      · by_cases c2 : 4294967296 * r1 + d1 < q1 * 4294967288
        · obtain ⟨g1, g2, g3⟩ := digit_more HU1.out D (.inr c2)
          have G2 : Hid (r1 + 4294967295 < 4294967296 → Digit u d1 (q1 - 1) (r1 + 4294967295)) := g2
          have G3 : Hid (4294967296 ≤ r1 + 4294967295 → q1 - 1 = (u * 4294967296 + d1) / 18446744073709551608) := g3
          clear g2 g3
          by_cases c3 : 4294967296 ≤ r1 + 4294967295
          · go_wp2
            rw [un_next HU1.out (G3.out c3), ← HV.out, first_q HU0.out, first_r HU0.out]
            go_loop [18, 16] (fun q r => ∃ q0 r0 : Int, q = .int .u64 q0 ∧ r = .int .u64 r0 ∧ Digit v d0 q0 r0) (fun q _ => (intOf q).toNat)
            case atStart => exact ⟨_, _, rfl, rfl, digit_first HU0.out⟩
            case round =>
              obtain ⟨q0, r0, rfl, rfl, E⟩ := hrel
              have E0 := E
              obtain ⟨a0, a1, -, a3, a4, -⟩ := E0
              by_cases k1 : 4294967296 ≤ q0
              · obtain ⟨g1, g2, g3⟩ := digit_more HU0.out E (.inl k1)
                have K2 : Hid (r0 + 4294967295 < 4294967296 → Digit v d0 (q0 - 1) (r0 + 4294967295)) := g2
                have K3 : Hid (4294967296 ≤ r0 + 4294967295 → q0 - 1 = (v * 4294967296 + d0) / 18446744073709551608) := g3
                clear g2 g3
                by_cases k3 : 4294967296 ≤ r0 + 4294967295
                · go_wp2
                  rw [un_next HU0.out (K3.out k3), HE.out]
                  go_ret2
                  exact ⟨⟨_, rfl⟩, 0, rfl⟩
                · go_wp2
                  go_round
                  case rel => exact ⟨_, _, rfl, rfl, K2.out (by omega)⟩
                  case measure => simp [intOf]; omega
              · by_cases k2 : 4294967296 * r0 + d0 < q0 * 4294967288
                · obtain ⟨g1, g2, g3⟩ := digit_more HU0.out E (.inr k2)
                  have K2 : Hid (r0 + 4294967295 < 4294967296 → Digit v d0 (q0 - 1) (r0 + 4294967295)) := g2
                  have K3 : Hid (4294967296 ≤ r0 + 4294967295 → q0 - 1 = (v * 4294967296 + d0) / 18446744073709551608) := g3
                  clear g2 g3
                  by_cases k3 : 4294967296 ≤ r0 + 4294967295
                  · go_wp2
                    rw [un_next HU0.out (K3.out k3), HE.out]
                    go_ret2
                    exact ⟨⟨_, rfl⟩, 0, rfl⟩
                  · go_wp2
                    go_round
                    case rel => exact ⟨_, _, rfl, rfl, K2.out (by omega)⟩
                    case measure => simp [intOf]; omega
                · go_wp2
                  rw [un_next HU0.out (digit_last E (by omega)), HE.out]
                  go_ret2
                  exact ⟨⟨_, rfl⟩, 0, rfl⟩
          · go_wp2
            go_round
            case rel => exact ⟨_, _, rfl, rfl, G2.out (by omega)⟩
            case measure => simp [intOf]; omega
        · go_wp2
          rw [un_next HU1.out (digit_last D (by omega)), ← HV.out, first_q HU0.out, first_r HU0.out]
          go_loop [18, 16] (fun q r => ∃ q0 r0 : Int, q = .int .u64 q0 ∧ r = .int .u64 r0 ∧ Digit v d0 q0 r0) (fun q _ => (intOf q).toNat)
          case atStart => exact ⟨_, _, rfl, rfl, digit_first HU0.out⟩
          case round =>
            obtain ⟨q0, r0, rfl, rfl, E⟩ := hrel
            have E0 := E
            obtain ⟨a0, a1, -, a3, a4, -⟩ := E0
            by_cases k1 : 4294967296 ≤ q0
            · obtain ⟨g1, g2, g3⟩ := digit_more HU0.out E (.inl k1)
              have K2 : Hid (r0 + 4294967295 < 4294967296 → Digit v d0 (q0 - 1) (r0 + 4294967295)) := g2
              have K3 : Hid (4294967296 ≤ r0 + 4294967295 → q0 - 1 = (v * 4294967296 + d0) / 18446744073709551608) := g3
              clear g2 g3
              by_cases k3 : 4294967296 ≤ r0 + 4294967295
              · go_wp2
                rw [un_next HU0.out (K3.out k3), HE.out]
                go_ret2
                exact ⟨⟨_, rfl⟩, 0, rfl⟩
              · go_wp2
                go_round
                case rel => exact ⟨_, _, rfl, rfl, K2.out (by omega)⟩
                case measure => simp [intOf]; omega
            · by_cases k2 : 4294967296 * r0 + d0 < q0 * 4294967288
              · obtain ⟨g1, g2, g3⟩ := digit_more HU0.out E (.inr k2)
                have K2 : Hid (r0 + 4294967295 < 4294967296 → Digit v d0 (q0 - 1) (r0 + 4294967295)) := g2
                have K3 : Hid (4294967296 ≤ r0 + 4294967295 → q0 - 1 = (v * 4294967296 + d0) / 18446744073709551608) := g3
                clear g2 g3
                by_cases k3 : 4294967296 ≤ r0 + 4294967295
                · go_wp2
                  rw [un_next HU0.out (K3.out k3), HE.out]
                  go_ret2
                  exact ⟨⟨_, rfl⟩, 0, rfl⟩
                · go_wp2
                  go_round
                  case rel => exact ⟨_, _, rfl, rfl, K2.out (by omega)⟩
                  case measure => simp [intOf]; omega
              · go_wp2
                rw [un_next HU0.out (digit_last E (by omega)), HE.out]
                go_ret2
                exact ⟨⟨_, rfl⟩, 0, rfl⟩

theorem rem64_P (hi lo : Int) (h : okP hi) (hl : okW lo) (w : World) : Calls Tryz.prog 166 #[.int .u64 hi, .int .u64 lo, .int .u64 2305843009213693951] w fun e w' =>
    e = .returned (.int .u64 ((hi * 18446744073709551616 + lo) % 2305843009213693951)) ∧ ∃ k, w' = w.drewN k := by
  have h0 := h.1
  have h1 := h.2
  have l0 := hl.1
  have l1 := hl.2
  have hm : hi % 2305843009213693951 = hi := by omega
  go_enter Tryz.func166, Tryz.ntmps166
  go_wp2_with (go_at_call 168; refine (div64_P _ _ ⟨by omega, by omega⟩ hl _).mono ?_; rintro e w' ⟨⟨q, rfl⟩, k, rfl⟩)
  go_ret
  exact ⟨rfl, k, rfl⟩

set_option maxHeartbeats 1000000 in
theorem mul64_nat (x y : Nat) (hx : x < 18446744073709551616) (hy : y < 18446744073709551616) (w : World) : Calls Tryz.prog 165 #[.int .u64 x, .int .u64 y] w fun e w' =>
    e = .returned (.tuple #[.int .u64 ((x * y / 18446744073709551616 : Nat) : Int), .int .u64 ((x * y % 18446744073709551616 : Nat) : Int)]) ∧ w' = w := by
  obtain ⟨bd, bt, bw, hhi⟩ := Lib.mul64_hi x y hx hy
  have ba := Lib.half_mul_le (a := x / 4294967296) (b := y / 4294967296) (by omega) (by omega)
  have bb := Lib.half_mul_le (a := x / 4294967296) (b := y % 4294967296) (by omega) (by omega)
  have bc := Lib.half_mul_le (a := x % 4294967296) (b := y / 4294967296) (by omega) (by omega)
  generalize hA : x / 4294967296 * (y / 4294967296) = A at *
  generalize hB : x / 4294967296 * (y % 4294967296) = B at *
  generalize hC : x % 4294967296 * (y / 4294967296) = C at *
  generalize hD : x % 4294967296 * (y % 4294967296) = D at *
  go_enter Tryz.func165, Tryz.ntmps165
  go_wp2
  simp only [Mul64.maskN x hx, Mul64.maskN y hy, Mul64.divN, Mul64.mulN, Mul64.addN, hA, hB, hC, hD, Mul64.wrapN D bd, Mul64.wrapN B (by omega), Mul64.wrapN _ bt, Mul64.maskN _ bt, Mul64.wrapN C (by omega), Mul64.wrapN _ bw, Mul64.wrapN A (by omega), Mul64.wrapN (A + (B + D / 4294967296) / 4294967296) (by omega), Mul64.wrapN (A + (B + D / 4294967296) / 4294967296 + ((B + D / 4294967296) % 4294967296 + C) / 4294967296) (by omega), Mul64.wrapM (x * y)]
  rw [hhi]
  go_ret2
  exact ⟨rfl, rfl⟩

theorem mul64_any (x y : Int) (hx : okW x) (hy : okW y) (w : World) : Calls Tryz.prog 165 #[.int .u64 x, .int .u64 y] w fun e w' =>
    e = .returned (.tuple #[.int .u64 (x * y / 18446744073709551616), .int .u64 (x * y % 18446744073709551616)]) ∧ w' = w := by
  obtain ⟨x0, x1⟩ := hx
  obtain ⟨y0, y1⟩ := hy
  obtain ⟨a, rfl⟩ := Int.eq_ofNat_of_zero_le x0
  obtain ⟨b, rfl⟩ := Int.eq_ofNat_of_zero_le y0
  refine (mul64_nat a b (by omega) (by omega) w).mono ?_
  rintro e w' ⟨rfl, rfl⟩
  refine ⟨?_, rfl⟩
  rw [← Int.natCast_mul]
  rfl

end Go.Proofs.YtfcnnolpcnacoaaGreatDoor.Fx
