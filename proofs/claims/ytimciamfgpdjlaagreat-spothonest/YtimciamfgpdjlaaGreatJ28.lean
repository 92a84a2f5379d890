/- SpotHonest holds: whatever config, examples and numbers are handed in, it returns true, and what was handed in stays as it was; no condition. -/
import Derived.Test.YtimciamfgpdjlaaGreatJ27
import Derived.Test.YtimciamfgpdjlaaGreatJ21
import Derived.Test.YtimciamfgpdjlaaGreatJ22
import Derived.Test.YtimciamfgpdjlaaGreatJ06
import Derived.Test.YtimciamfgpdjlaaGreatJ00
import Derived.WalkKit
namespace Go.Proofs.YtimciamfgpdjlaaGreat.Fx
open Go.RowKit

set_option maxRecDepth 100000 in
set_option maxHeartbeats 800000 in
theorem opens_says : OpensSays := by
  intro root n i a m c xs b p d ps w hrt hn hi lx lp hok hm hp
  have HCL : Hid (∀ x q, okW x → Below w.heap.size w q → Calls Tryz.prog 72 #[.int .i64 i, .int .i64 n, .int .u64 x, .slice b p d] q fun e w' => e = .returned (.tuple #[.int .u64 (upL i n x ps p), .int .i64 (errC i n p)]) ∧ Below q.heap.size q w') := fun x q hx hq => Climb_calls i n x b p d ps q hx (lp.below hq (Nat.le_refl _)) hok
  have C0 := HCL.out 0 w ⟨by omega, by omega⟩ (Below.refl _ _)
  by_cases hE : errC i n p = 0
  rotate_left
  · have hO : opE n i m p = errC i n p := by unfold opE; rw [if_neg hE]
    have hB : opB root n i m xs p ps = false := by unfold opB; rw [hO, if_neg hE]
    rw [hO, hB]
    have hne : (errC i n p != 0) = true := by rw [bne_iff_ne]; exact hE
    generalize errC i n p = E at *
    clear hE hO hB lx lp HCL
    go_enter Tryz.func24, Tryz.ntmps24
    go_wp2_with fail
    refine C0.mono ?_
    rintro e w1 ⟨rfl, hw1⟩
    go_wp2_with fail
    go_ret2
    exact ⟨rfl, hw1⟩
  · obtain ⟨⟨g1, g2, g3, g4⟩, g5⟩ : okC i n ∧ p = dpC i n := by
      unfold errC at hE
      split at hE
      · rename_i h1
        split at hE
        · rename_i h2; exact ⟨h1, h2⟩
        · cases hE
      · cases hE
    have SZ := fun q => size_calls n i ⟨by omega, by omega⟩ ⟨by omega, by omega⟩ q
    obtain ⟨K, HK⟩ : ∃ t, Hid (min 4 (n - 4 * i) = t) := ⟨_, rfl⟩
    have hK : 1 ≤ K ∧ K ≤ 4 := by rw [← HK.out]; omega
    rw [HK.out] at SZ
    have HSZ : Hid (∀ q, Calls Tryz.prog 71 #[.int .i64 n, .int .i64 i] q fun e w' => e = .returned (.int .i64 K) ∧ w' = q) := SZ
    by_cases hm4 : (m : Int) = K
    rotate_left
    · have hO : opE n i m p = 5 := by unfold opE; rw [if_pos hE, HK.out, if_neg hm4]
      have hB : opB root n i m xs p ps = false := by unfold opB; rw [hO, if_neg (by decide)]
      rw [hO, hB]
      rw [hE] at C0
      have hne : ((m : Int) != K) = true := by rw [bne_iff_ne]; exact hm4
      generalize upL i n 0 ps p = U0 at *
      clear lx lp HCL SZ hE hm4 hO hB HK hrt hok hm hp g5
      go_enter Tryz.func24, Tryz.ntmps24
      go_wp2_with fail
      refine C0.mono ?_
      rintro e w1 ⟨rfl, hw1⟩
      have SZ1 := HSZ.out w1
      go_wp2_with fail
      refine SZ1.mono ?_
      rintro e w2 ⟨rfl, hw2⟩
      subst hw2
      go_wp2_with fail
      go_ret2
      exact ⟨rfl, hw1⟩
    · have hO : opE n i m p = 0 := by unfold opE; rw [if_pos hE, HK.out, if_pos hm4]
      have hlf : leavesL xs m = [ofP 4 (numL xs m)] := by
        have hlx := lx.len
        unfold leavesL leavesP
        rw [if_neg (by omega), show (m + 3) / 4 = 1 by omega, show List.range 1 = [0] from rfl, List.map_cons, List.map_nil]
        unfold leafG hiN
        rw [Nat.zero_mul, List.drop_zero, show min (0 + 4) m - 0 = m by omega, List.take_of_length_le (by omega)]
      have hxo := ofP_ok 4 (numL xs m)
      have hB : opB root n i m xs p ps = decide (upL i n (ofP 4 (numL xs m)) ps p = root % 2305843009213693951) := by unfold opB; rw [if_pos hO]
      have huo : okW (upL i n (ofP 4 (numL xs m)) ps p) ∧ upL i n (ofP 4 (numL xs m)) ps p % 2305843009213693951 = upL i n (ofP 4 (numL xs m)) ps p := by
        unfold upL
        split
        · have h := ofP_ok 3 [n, upP i.toNat ((n.toNat + 3) / 4) (ofP 4 (numL xs m)) ps]
          exact ⟨⟨h.1, by have := h.2; omega⟩, Int.emod_eq_of_lt h.1 h.2⟩
        · exact ⟨⟨by omega, by omega⟩, by omega⟩
      have SB := fun q => sameByP_calls (upL i n (ofP 4 (numL xs m)) ps p) root huo.1 hrt q
      rw [huo.2] at SB
      have HSB : Hid (∀ q, Calls Tryz.prog 65 #[.int .u64 (upL i n (ofP 4 (numL xs m)) ps p), .int .u64 root] q fun e w' => e = .returned (.bool (decide (upL i n (ofP 4 (numL xs m)) ps p = root % 2305843009213693951))) ∧ w' = q) := SB
      have HLV : Hid (∀ q, Below w.heap.size w q → Calls Tryz.prog 73 #[.slice a m c] q fun e w' => ∃ g, e = .returned (.tuple #[.slice (some g) 1 1, .int .i64 0]) ∧ w'.cell? g = some (.int .u64 (ofP 4 (numL xs m))) ∧ Below q.heap.size q w') := fun q hq => by
        refine (Leaves_calls a m c xs q (lx.below hq (Nat.le_refl _))).mono ?_
        rintro e w' ⟨a', N, rfl, _, lw, hb⟩
        rw [hlf] at lw
        have hN := lw.len
        simp only [List.length_cons, List.length_nil] at hN
        subst hN
        obtain ⟨b1, o1, e1, _, hc⟩ := lw.at (by omega)
        have hc0 := hc 0 (by omega)
        subst e1
        refine ⟨⟨b1, o1, none⟩, ?_, by simpa using hc0, hb⟩
        unfold errL
        rw [if_neg (by omega), if_neg (by omega)]
      have HC2 : Hid (∀ q, Below w.heap.size w q → Calls Tryz.prog 72 #[.int .i64 i, .int .i64 n, .int .u64 (ofP 4 (numL xs m)), .slice b p d] q fun e w' => e = .returned (.tuple #[.int .u64 (upL i n (ofP 4 (numL xs m)) ps p), .int .i64 (errC i n p)]) ∧ Below q.heap.size q w') := fun q hq => HCL.out _ q ⟨hxo.1, by have := hxo.2; omega⟩ hq
      rw [hO, hB]
      rw [hE] at C0 HC2
      clear lx lp HCL SZ hE hO hB SB huo hlf hxo hrt hok hp
      generalize upL i n (ofP 4 (numL xs m)) ps p = U at *
      generalize upL i n 0 ps p = U0 at *
      generalize ofP 4 (numL xs m) = LF at *
      generalize decide (U = root % 2305843009213693951) = Q at *
      have hne : ((m : Int) != K) = false := by rw [hm4]; simp
      clear HK hm4 hm g5
      go_enter Tryz.func24, Tryz.ntmps24
      go_wp2_with fail
      refine C0.mono ?_
      rintro e w1 ⟨rfl, hw1⟩
      have SZ1 := HSZ.out w1
      go_wp2_with fail
      refine SZ1.mono ?_
      rintro e w2 ⟨rfl, hw2⟩
      subst hw2
      have LV := HLV.out _ hw1
      go_wp2_with fail
      refine LV.mono ?_
      rintro e w3 ⟨g, rfl, hc, hw3⟩
      have hb3 := hw1.trans (hw3.mono hw1.size)
      have C2 := HC2.out _ hb3
      go_wp2_with fail
      refine C2.mono ?_
      rintro e w4 ⟨rfl, hw4⟩
      have SB1 := HSB.out w4
      go_wp2_with fail
      refine SB1.mono ?_
      rintro e w5 ⟨rfl, hw5⟩
      subst hw5
      go_wp2_with fail
      go_ret2
      exact ⟨rfl, hb3.trans (hw4.mono hb3.size)⟩
end Go.Proofs.YtimciamfgpdjlaaGreat.Fx

/- SpotHonest returns true, whatever is handed in. -/
namespace Go.Proofs.YtimciamfgpdjlaaGreat.Fx
open Go.RowKit

theorem spotHonest_any (c : Cfg) (a : Option Addr) (n cap : Nat) (X : Nat → Exm) (DI DO : Nat → List Int) (t0 i0 : Int) (w : World) (hs : (Lit.int .u64 c.seed).wf = true) (hx : Exs w a n cap X DI DO) (_ : (Lit.int .i64 t0).wf = true) (_ : (Lit.int .i64 i0).wf = true) :
    Calls Tryz.prog 4 #[c.val, .slice a n cap, .int .i64 t0, .int .i64 i0] w fun e w' => e = .returned (.bool true) ∧ Below w.heap.size w w' :=
  spotHonest_core c (wf_word hs) a n cap X DI DO t0 i0 w hx prove_says holds_says chunk_says opens_says
end Go.Proofs.YtimciamfgpdjlaaGreat.Fx

/- SpotHonest holds: whatever config, examples and numbers are handed in, it returns true, and what was handed in stays as it was; no condition. -/
namespace Go.Proofs.YtimciamfgpdjlaaGreat.spotHonest
open Go.ChangeShapes Go.WideShapes Go.ChangeAt Go.RowKit
set_option linter.unusedVariables false

set_option maxRecDepth 100000 in
theorem lifted (os : Os) (started : os.Started) (H : Type) (enc : TypeId × Value → H) :
    ReturnsInHanded {} Tryz.checked os 4 .any (Rows.spotHonestSpec.pre6 enc Tryz.prog Tryz.f4 Rows.spotHonestRow.domain false) (Rows.spotHonestSpec.post enc Tryz.prog Tryz.f4 false true false false) := by
  refine returnsInHanded_of_change (C := Tryz.checked) Fx.own started (by kernel_rfl) Tryz.func4
    (ChangeSpec.witness6 (enc := enc) (C := Tryz.checked) false ⟨#[], #[.agg #[.int .i64 0, .int .i64 0, .int .i64 0, .int .u64 0, .int .i64 0, .int .i64 0, .int .i64 0, .int .i64 0, .int .i64 0, .int .i64 0, .int .i64 0], .slice none 0 0, .int .i64 0, .int .i64 0], []⟩ 8 (by kernel_rfl) (by kernel_rfl) (by kernel_rfl) (by kernel_rfl)) ?_
  intro W base args ds gs before hval0 hW hcnd _
  have hval : ∀ (j : Nat) t v, Tryz.f4.params[j]? = some t → args[j]? = some v → Value.okWide Tryz.prog W .any base t v := hval0
  have hW' := hW
  obtain ⟨p, q, hA0, hV, rfl, hfz, hnd⟩ := hW
  have hA : DataW.TrodAll enc Tryz.prog W 0 (fun _ => true) true Tryz.f4.params.toList args.toList ds p := hA0
  skip
  rw [Tryz.params4] at hA hval
  obtain ⟨v0, vs0, d0, ds0, p0, q0, hargs, rfl, rfl, h0, r0⟩ := trodAll_cons hA
  obtain ⟨v1, vs1, d1, ds1, p1, q1, rfl, rfl, rfl, h1, r1⟩ := trodAll_cons r0
  obtain ⟨v2, vs2, d2, ds2, p2, q2, rfl, rfl, rfl, h2, r2⟩ := trodAll_cons r1
  obtain ⟨v3, vs3, d3, ds3, p3, q3, rfl, rfl, rfl, h3, r3⟩ := trodAll_cons r2
  obtain ⟨rfl, rfl, rfl⟩ := trodAll_nil r3
  obtain rfl : args = #[v0, v1, v2, v3] := by cases args; simp_all
  obtain ⟨rfl, rfl⟩ := trodVars_none hV
  have k0 := h0
  have lt0 : ∀ x ∈ p0, x.block < W.heap.size := by obtain ⟨m, hm⟩ := k0; exact DataW.trod_lt m _ _ _ hm
  obtain ⟨C0, rfl, w0⟩ := Fx.openCfg (hval 0 24 v0 rfl rfl) h0
  have k1 := h1
  have lt1 : ∀ x ∈ p1, x.block < W.heap.size := by obtain ⟨m, hm⟩ := k1; exact DataW.trod_lt m _ _ _ hm
  obtain ⟨a1, len1, cap1, X1, DI1, DO1, rfl, w1⟩ := Fx.openExs (hval 1 25 v1 rfl rfl) h1
  obtain ⟨a2, rfl, rfl, rfl, w2⟩ := open_int Tryz.underlying3 (hval 2 3 v2 rfl rfl) h2
  obtain ⟨a3, rfl, rfl, rfl, w3⟩ := open_int Tryz.underlying3 (hval 3 3 v3 rfl rfl) h3
  clear hA0 hval0
  refine (Fx.spotHonest_any C0 a1 len1 cap1 X1 DI1 DO1 a2 a3 W w0 w1 w2 w3).mono fun e W' ⟨he, bel⟩ => ?_
  subst he
  exact ⟨_, rfl, _, _, _, [], _, [], hW', trodAll_mk1 (shut_bool Tryz.underlying4 _), (trodAll_cons_mk (Below.trod Fx.laidOut (by kernel_rfl) (of_decide_eq_true (by kernel_rfl)) k0 bel lt0) (trodAll_cons_mk (Below.trod Fx.laidOut (by kernel_rfl) (of_decide_eq_true (by kernel_rfl)) k1 bel lt1) (trodAll_cons_mk (shut_int Tryz.underlying3 w2) (trodAll_cons_mk (shut_int Tryz.underlying3 w3) trodAll_mk0)))), rfl, bel.frame _, fun h => by cases h⟩

theorem over : Rows.spotHonestRow.holds Tryz.pinned (OpenSpec.ofChange Rows.spotHonestSpec) :=
  OpenClaim.holds_of_wide 4 Tryz.f4 rfl rfl rfl rfl rfl rfl rfl ⟨rfl, rfl, rfl, rfl, rfl⟩ rfl rfl rfl rfl rfl (by kernel_rfl) Tryz.func4 (by kernel_rfl)
    (of_decide_eq_true (by kernel_rfl)) (by unfold Func.isWrapper; first | (rw [if_pos (by decide +kernel)]; kernel_rfl) | (rw [if_neg (by decide +kernel)]; exact ⟨rfl, rfl⟩))
    (fun os started H enc _ => lifted os started H enc)
end Go.Proofs.YtimciamfgpdjlaaGreat.spotHonest

namespace Go.Proofs.YtimciamfgpdjlaaGreat
theorem spotHonest_holds : Rows.SpotHonestSaid := spotHonest.over
end Go.Proofs.YtimciamfgpdjlaaGreat
