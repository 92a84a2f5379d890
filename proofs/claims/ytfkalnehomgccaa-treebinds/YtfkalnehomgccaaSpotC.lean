/- What spot.Opens returns, whatever is handed in. -/
import Derived.Test.YtfkalnehomgccaaSpotQ
import Derived.Test.YtfkalnehomgccaaSpotS
namespace Go.Proofs.Ytfkalnehomgccaa.Fx
open Go.RowKit

set_option maxRecDepth 100000 in
set_option maxHeartbeats 800000 in
theorem opens_says : OpensSays := by
  intro root n i a m c xs b p d ps w hrt hn hi lx lp hok hm hp
  have HCL : Hid (∀ x q, okW x → Below w.heap.size w q → Calls Try.prog 26 #[.int .i64 i, .int .i64 n, .int .u64 x, .slice b p d] q fun e w' => e = .returned (.tuple #[.int .u64 (upL i n x ps p), .int .i64 (errC i n p)]) ∧ Below q.heap.size q w') := fun x q hx hq => Climb_calls i n x b p d ps q hx (lp.below hq (Nat.le_refl _)) hok
  have C0 := HCL.out 0 w ⟨by omega, by omega⟩ (Below.refl _ _)
  by_cases hE : errC i n p = 0
  rotate_left
  · have hO : opE n i m p = errC i n p := by unfold opE; rw [if_neg hE]
    have hB : opB root n i m xs p ps = false := by unfold opB; rw [hO, if_neg hE]
    rw [hO, hB]
    have hne : (errC i n p != 0) = true := by rw [bne_iff_ne]; exact hE
    generalize errC i n p = E at *
    clear hE hO hB lx lp HCL
    go_enter Try.func15, Try.ntmps15
    go_wp2_with fail
    refine C0.mono ?_
    rintro e w1 ⟨rfl, hw1⟩
    go_wp2_with fail
    go_ret2
    exact ⟨rfl, hw1⟩
  · obtain ⟨⟨g1, g2, g3, g4⟩, g5⟩ : okC i n ∧ p = dpC i n := by
      unfold errC at hE
      split at hE
      · rename_i h1
        split at hE
        · rename_i h2; exact ⟨h1, h2⟩
        · cases hE
      · cases hE
    have SZ := fun q => size_calls n i ⟨by omega, by omega⟩ ⟨by omega, by omega⟩ q
    obtain ⟨K, HK⟩ : ∃ t, Hid (min 4 (n - 4 * i) = t) := ⟨_, rfl⟩
    have hK : 1 ≤ K ∧ K ≤ 4 := by rw [← HK.out]; omega
    rw [HK.out] at SZ
    have HSZ : Hid (∀ q, Calls Try.prog 25 #[.int .i64 n, .int .i64 i] q fun e w' => e = .returned (.int .i64 K) ∧ w' = q) := SZ
    by_cases hm4 : (m : Int) = K
    rotate_left
    · have hO : opE n i m p = 5 := by unfold opE; rw [if_pos hE, HK.out, if_neg hm4]
      have hB : opB root n i m xs p ps = false := by unfold opB; rw [hO, if_neg (by decide)]
      rw [hO, hB]
      rw [hE] at C0
      have hne : ((m : Int) != K) = true := by rw [bne_iff_ne]; exact hm4
      generalize upL i n 0 ps p = U0 at *
      clear lx lp HCL SZ hE hm4 hO hB HK hrt hok hm hp g5
      go_enter Try.func15, Try.ntmps15
      go_wp2_with fail
      refine C0.mono ?_
      rintro e w1 ⟨rfl, hw1⟩
      have SZ1 := HSZ.out w1
      go_wp2_with fail
      refine SZ1.mono ?_
      rintro e w2 ⟨rfl, hw2⟩
      subst hw2
      go_wp2_with fail
      go_ret2
      exact ⟨rfl, hw1⟩
    · have hO : opE n i m p = 0 := by unfold opE; rw [if_pos hE, HK.out, if_pos hm4]
      have hlf : leavesL xs m = [ofP 4 (numL xs m)] := by
        have hlx := lx.len
        unfold leavesL leavesP
        rw [if_neg (by omega), show (m + 3) / 4 = 1 by omega, show List.range 1 = [0] from rfl, List.map_cons, List.map_nil]
        unfold leafG hiN
        rw [Nat.zero_mul, List.drop_zero, show min (0 + 4) m - 0 = m by omega, List.take_of_length_le (by omega)]
      have hxo := ofP_ok 4 (numL xs m)
      have hB : opB root n i m xs p ps = decide (upL i n (ofP 4 (numL xs m)) ps p = root % 2305843009213693951) := by unfold opB; rw [if_pos hO]
      have huo : okW (upL i n (ofP 4 (numL xs m)) ps p) ∧ upL i n (ofP 4 (numL xs m)) ps p % 2305843009213693951 = upL i n (ofP 4 (numL xs m)) ps p := by
        unfold upL
        split
        · have h := ofP_ok 3 [n, upP i.toNat ((n.toNat + 3) / 4) (ofP 4 (numL xs m)) ps]
          exact ⟨⟨h.1, by have := h.2; omega⟩, Int.emod_eq_of_lt h.1 h.2⟩
        · exact ⟨⟨by omega, by omega⟩, by omega⟩
      have SB := fun q => sameByP_calls (upL i n (ofP 4 (numL xs m)) ps p) root huo.1 hrt q
      rw [huo.2] at SB
      have HSB : Hid (∀ q, Calls Try.prog 28 #[.int .u64 (upL i n (ofP 4 (numL xs m)) ps p), .int .u64 root] q fun e w' => e = .returned (.bool (decide (upL i n (ofP 4 (numL xs m)) ps p = root % 2305843009213693951))) ∧ w' = q) := SB
      have HLV : Hid (∀ q, Below w.heap.size w q → Calls Try.prog 27 #[.slice a m c] q fun e w' => ∃ g, e = .returned (.tuple #[.slice (some g) 1 1, .int .i64 0]) ∧ w'.cell? g = some (.int .u64 (ofP 4 (numL xs m))) ∧ Below q.heap.size q w') := fun q hq => by
        refine (Leaves_calls a m c xs q (lx.below hq (Nat.le_refl _))).mono ?_
        rintro e w' ⟨a', N, rfl, _, lw, hb⟩
        rw [hlf] at lw
        have hN := lw.len
        simp only [List.length_cons, List.length_nil] at hN
        subst hN
        obtain ⟨b1, o1, e1, _, hc⟩ := lw.at (by omega)
        have hc0 := hc 0 (by omega)
        subst e1
        refine ⟨⟨b1, o1, none⟩, ?_, by simpa using hc0, hb⟩
        unfold errL
        rw [if_neg (by omega), if_neg (by omega)]
      have HC2 : Hid (∀ q, Below w.heap.size w q → Calls Try.prog 26 #[.int .i64 i, .int .i64 n, .int .u64 (ofP 4 (numL xs m)), .slice b p d] q fun e w' => e = .returned (.tuple #[.int .u64 (upL i n (ofP 4 (numL xs m)) ps p), .int .i64 (errC i n p)]) ∧ Below q.heap.size q w') := fun q hq => HCL.out _ q ⟨hxo.1, by have := hxo.2; omega⟩ hq
      rw [hO, hB]
      rw [hE] at C0 HC2
      clear lx lp HCL SZ hE hO hB SB huo hlf hxo hrt hok hp
      generalize upL i n (ofP 4 (numL xs m)) ps p = U at *
      generalize upL i n 0 ps p = U0 at *
      generalize ofP 4 (numL xs m) = LF at *
      generalize decide (U = root % 2305843009213693951) = Q at *
      have hne : ((m : Int) != K) = false := by rw [hm4]; simp
      clear HK hm4 hm g5
      go_enter Try.func15, Try.ntmps15
      go_wp2_with fail
      refine C0.mono ?_
      rintro e w1 ⟨rfl, hw1⟩
      have SZ1 := HSZ.out w1
      go_wp2_with fail
      refine SZ1.mono ?_
      rintro e w2 ⟨rfl, hw2⟩
      subst hw2
      have LV := HLV.out _ hw1
      go_wp2_with fail
      refine LV.mono ?_
      rintro e w3 ⟨g, rfl, hc, hw3⟩
      have hb3 := hw1.trans (hw3.mono hw1.size)
      have C2 := HC2.out _ hb3
      go_wp2_with fail
      refine C2.mono ?_
      rintro e w4 ⟨rfl, hw4⟩
      have SB1 := HSB.out w4
      go_wp2_with fail
      refine SB1.mono ?_
      rintro e w5 ⟨rfl, hw5⟩
      subst hw5
      go_wp2_with fail
      go_ret2
      exact ⟨rfl, hb3.trans (hw4.mono hb3.size)⟩
end Go.Proofs.Ytfkalnehomgccaa.Fx
