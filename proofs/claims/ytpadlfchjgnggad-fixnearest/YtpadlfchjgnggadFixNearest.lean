/- FixNearest holds: called with whatever two integers, the law returns true, and its arguments read afterwards as before; no condition. -/
import Derived.Test.YtpadlfchjgnggadRows
import Derived.Test.YtpadlfchjgnggadFixWalks
import Derived.WalkKit
import Derived.ProofKit
import Derived.OpenShut
namespace Go.Proofs.Ytpadlfchjgnggad.fixNearest
open Go.Proofs.Ytpadlfchjgnggad.Fx
open Go.ChangeShapes Go.WideShapes Go.ChangeAt Go.RowKit
set_option linter.unusedVariables false

theorem own : ownKnob Try.prog.godebug = none := by kernel_rfl

theorem walk (a0 : Int) (a1 : Int) (w0 : (Lit.int .i64 a0).wf = true) (w1 : (Lit.int .i64 a1).wf = true) (w : World) :
    Calls Try.prog 4 #[.int .i64 a0, .int .i64 a1] w fun e w' => e = .returned (.bool true) ∧ Grown w w' := by
  clear w0 w1
  have c1 : mulI 5 32768 = 2 := by decide
  have c2 : mulI 7 32768 = 4 := by decide
  have c3 : mulI (-5) 32768 = -2 := by decide
  have ha := clampI_bd a0
  have hb := clampI_bd a1
  have hp := prod_bd _ _ ha hb
  have hm := mulI_bd (clampI a0) (clampI a1)
  by_cases h0 : mulI (clampI a0) (clampI a1) = 2147483647
  · go_enter Try.func4, Try.ntmps4
    go_wp2_with (first | (go_at_call 5; refine (mul_calls _ _ _).mono ?_; rintro e w' ⟨rfl, k, rfl⟩) | (go_at_call 7; refine (clamp_calls _ _).mono ?_; rintro e w' ⟨rfl, rfl⟩))
    go_ret
    exact ⟨rfl, by repeat (first | exact Grown.refl _ | apply grown_drewN | apply Grown.drew | apply Grown.alloc)⟩
  · by_cases h1 : mulI (clampI a0) (clampI a1) = -2147483647
    · go_enter Try.func4, Try.ntmps4
      go_wp2_with (first | (go_at_call 5; refine (mul_calls _ _ _).mono ?_; rintro e w' ⟨rfl, k, rfl⟩) | (go_at_call 7; refine (clamp_calls _ _).mono ?_; rintro e w' ⟨rfl, rfl⟩))
      go_ret
      exact ⟨rfl, by repeat (first | exact Grown.refl _ | apply grown_drewN | apply Grown.drew | apply Grown.alloc)⟩
    · obtain ⟨n0, n1, n2⟩ := mulI_near _ _ ha hb h0 h1
      have N2 : Hid (2 * (clampI a0 * clampI a1 - mulI (clampI a0) (clampI a1) * 65536) = 65536 ∨ 2 * (clampI a0 * clampI a1 - mulI (clampI a0) (clampI a1) * 65536) = -65536 → mulI (clampI a0) (clampI a1) % 2 = 0) := n2
      clear n2
      go_enter Try.func4, Try.ntmps4
      go_wp2_with (first | (go_at_call 5; refine (mul_calls _ _ _).mono ?_; rintro e w' ⟨rfl, k, rfl⟩) | (go_at_call 7; refine (clamp_calls _ _).mono ?_; rintro e w' ⟨rfl, rfl⟩))
      all_goals
        go_ret
        refine ⟨?_, by repeat (first | exact Grown.refl _ | apply grown_drewN | apply Grown.drew | apply Grown.alloc)⟩
        first
          | rfl
          | exact ret_bool (beq_iff_eq.2 ((odd_tmod _).2 (N2.out (by omega))))

set_option maxRecDepth 100000 in
theorem lifted (os : Os) (started : os.Started) (H : Type) (enc : TypeId × Value → H) :
    ReturnsInHanded {} Try.checked os 4 .any (Rows.fixNearestSpec.pre6 enc Try.prog Try.f4 Rows.fixNearestRow.domain false) (Rows.fixNearestSpec.post enc Try.prog Try.f4 false true false false) := by
  refine returnsInHanded_of_change (C := Try.checked) own started (by kernel_rfl) Try.func4
    (ChangeSpec.witness6 (enc := enc) (C := Try.checked) false ⟨#[], #[.int .i64 0, .int .i64 0], []⟩ 8 (by kernel_rfl) (by kernel_rfl) (by kernel_rfl) (by kernel_rfl)) ?_
  intro W base args ds gs before hval0 hW hcnd _
  have hval : ∀ (j : Nat) t v, Try.f4.params[j]? = some t → args[j]? = some v → Value.okWide Try.prog W .any base t v := hval0
  have hW' := hW
  obtain ⟨p, q, hA0, hV, rfl, hfz, hnd⟩ := hW
  have hA : DataW.TrodAll enc Try.prog W 0 (fun _ => true) true Try.f4.params.toList args.toList ds p := hA0
  rw [Try.params4] at hA hval
  obtain ⟨v0, vs0, d0, ds0, p0, q0, hargs, rfl, rfl, h0, r0⟩ := trodAll_cons hA
  obtain ⟨v1, vs1, d1, ds1, p1, q1, rfl, rfl, rfl, h1, r1⟩ := trodAll_cons r0
  obtain ⟨rfl, rfl, rfl⟩ := trodAll_nil r1
  obtain rfl : args = #[v0, v1] := by cases args; simp_all
  obtain ⟨rfl, rfl⟩ := trodVars_none hV
  obtain ⟨a0, rfl, rfl, rfl, w0⟩ := open_int Try.underlying3 (hval 0 3 v0 rfl rfl) h0
  obtain ⟨a1, rfl, rfl, rfl, w1⟩ := open_int Try.underlying3 (hval 1 3 v1 rfl rfl) h1
  clear hA0 hval0
  simp only [List.append_nil] at hW'
  refine (walk a0 a1 w0 w1 W).mono fun e W' ⟨he, hg⟩ => ?_
  subst he
  exact ⟨_, rfl, post_of_same (pa := []) (pv := []) hW' (fun _ _ _ => (trodAll_cons_mk (shut_bool Try.underlying4 _) trodAll_mk0)) (fun sp _ => (trodAll_cons_mk (shut_int Try.underlying3 w0) (trodAll_cons_mk (shut_int Try.underlying3 w1) trodAll_mk0))) (fun _ _ => rfl) rfl
    (hg.frame _) hg.2.1 (ok_one (by kernel_rfl) rfl (okWide_bool_mk Try.underlying4 _))⟩

theorem over : Rows.fixNearestRow.holds Try.pinned (OpenSpec.ofChange Rows.fixNearestSpec) :=
  OpenClaim.holds_of_wide 4 Try.f4 rfl rfl rfl rfl rfl rfl rfl ⟨rfl, rfl, rfl, rfl, rfl⟩ rfl rfl rfl rfl rfl (by kernel_rfl) Try.func4 (by kernel_rfl)
    (of_decide_eq_true (by kernel_rfl)) (by unfold Func.isWrapper; first | (rw [if_pos (by decide +kernel)]; kernel_rfl) | (rw [if_neg (by decide +kernel)]; exact ⟨rfl, rfl⟩))
    (fun os started H enc _ => lifted os started H enc)

theorem proved : Rows.FixNearestSaid :=
  over
end Go.Proofs.Ytpadlfchjgnggad.fixNearest
namespace Go.Proofs.Ytpadlfchjgnggad
theorem fixNearest_holds : Rows.FixNearestSaid := fixNearest.proved
end Go.Proofs.Ytpadlfchjgnggad
