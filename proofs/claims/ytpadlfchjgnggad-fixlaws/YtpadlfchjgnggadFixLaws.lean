/- FixLaws holds: called with whatever three integers, the law returns true, and its arguments read afterwards as before; no condition. -/
import Derived.Test.YtpadlfchjgnggadRows
import Derived.Test.YtpadlfchjgnggadFixWalks
import Derived.WalkKit
import Derived.ProofKit
import Derived.OpenShut
namespace Go.Proofs.Ytpadlfchjgnggad.fixLaws
open Go.Proofs.Ytpadlfchjgnggad.Fx
open Go.ChangeShapes Go.WideShapes Go.ChangeAt Go.RowKit
set_option linter.unusedVariables false

theorem own : ownKnob Try.prog.godebug = none := by kernel_rfl

set_option maxHeartbeats 1600000 in
theorem walk (a0 : Int) (a1 : Int) (a2 : Int) (w0 : (Lit.int .i64 a0).wf = true) (w1 : (Lit.int .i64 a1).wf = true) (w2 : (Lit.int .i64 a2).wf = true) (w : World) :
    Calls Try.prog 3 #[.int .i64 a0, .int .i64 a1, .int .i64 a2] w fun e w' => e = .returned (.bool true) ∧ Grown w w' := by
  clear w0 w1 w2
  have c1 : mulI 196608 32768 = 98304 := by decide
  have c2 : mulI 1 32768 = 0 := by decide
  have c3 : mulI 3 32768 = 2 := by decide
  have c4 : addI 2147483647 1 = 2147483647 := by decide
  have ha := clampI_bd a0
  have hb := clampI_bd a1
  have s1 := subI_bd (clampI a1) (clampI a0)
  have s2 := mulI_bd (clampI a0) (clampI a1)
  have s3 := divI_bd (clampI a0) (clampI a1)
  have t1 : (addI (clampI a0) (clampI a1) != addI (clampI a1) (clampI a0)) = false := by rw [addI_comm]; simp
  have t2 : (mulI (clampI a0) (clampI a1) != mulI (clampI a1) (clampI a0)) = false := by rw [mulI_comm]; simp
  have t3 : mulI (clampI a0) 65536 = clampI a0 := mulI_one _ ha.1 ha.2
  have t4 : (subI (clampI a0) (clampI a1) != -subI (clampI a1) (clampI a0)) = false := by rw [subI_neg]; simp
  have t5 : (mulI (-clampI a0) (clampI a1) != -mulI (clampI a0) (clampI a1)) = false := by rw [mulI_neg]; simp
  have m1 : clampI a0 ≤ clampI a1 → addI (clampI a0) (clampI a2) ≤ addI (clampI a1) (clampI a2) := fun h => addI_mono _ h
  have m2 : clampI a0 ≤ clampI a1 → 0 ≤ clampI a2 → mulI (clampI a0) (clampI a2) ≤ mulI (clampI a1) (clampI a2) := fun h h' => mulI_mono h' h
  by_cases hz : clampI a1 = 0
  · have HZ : Hid (clampI a1 = 0) := hz
    have hz' : (clampI a1 == 0) = true := beq_iff_eq.2 hz
    clear hz
    by_cases h1 : clampI a0 ≤ clampI a1
    · have m1 := m1 h1
      by_cases h2 : 0 ≤ clampI a2
      · have m2 := m2 h1 h2
        go_enter Try.func3, Try.ntmps3
        go_wp2_with (first | (go_at_call 5; refine (mul_calls _ _ _).mono ?_; rintro e w' ⟨rfl, k, rfl⟩) | (go_at_call 7; refine (clamp_calls _ _).mono ?_; rintro e w' ⟨rfl, rfl⟩) | (go_at_call 6; refine (add_calls _ _ _).mono ?_; rintro e w' ⟨rfl, rfl⟩) | (go_at_call 8; refine (sub_calls _ _ _).mono ?_; rintro e w' ⟨rfl, rfl⟩) | (go_at_call 9; refine (div_zero _ _ HZ.out _).mono ?_; rintro e w' ⟨rfl, rfl⟩))
        go_ret
        exact ⟨rfl, by repeat (first | exact Grown.refl _ | apply grown_drewN | apply Grown.drew | apply Grown.alloc)⟩
      · clear m2
        go_enter Try.func3, Try.ntmps3
        go_wp2_with (first | (go_at_call 5; refine (mul_calls _ _ _).mono ?_; rintro e w' ⟨rfl, k, rfl⟩) | (go_at_call 7; refine (clamp_calls _ _).mono ?_; rintro e w' ⟨rfl, rfl⟩) | (go_at_call 6; refine (add_calls _ _ _).mono ?_; rintro e w' ⟨rfl, rfl⟩) | (go_at_call 8; refine (sub_calls _ _ _).mono ?_; rintro e w' ⟨rfl, rfl⟩) | (go_at_call 9; refine (div_zero _ _ HZ.out _).mono ?_; rintro e w' ⟨rfl, rfl⟩))
        go_ret
        exact ⟨rfl, by repeat (first | exact Grown.refl _ | apply grown_drewN | apply Grown.drew | apply Grown.alloc)⟩
    · clear m1 m2
      go_enter Try.func3, Try.ntmps3
      go_wp2_with (first | (go_at_call 5; refine (mul_calls _ _ _).mono ?_; rintro e w' ⟨rfl, k, rfl⟩) | (go_at_call 7; refine (clamp_calls _ _).mono ?_; rintro e w' ⟨rfl, rfl⟩) | (go_at_call 6; refine (add_calls _ _ _).mono ?_; rintro e w' ⟨rfl, rfl⟩) | (go_at_call 8; refine (sub_calls _ _ _).mono ?_; rintro e w' ⟨rfl, rfl⟩) | (go_at_call 9; refine (div_zero _ _ HZ.out _).mono ?_; rintro e w' ⟨rfl, rfl⟩))
      go_ret
      exact ⟨rfl, by repeat (first | exact Grown.refl _ | apply grown_drewN | apply Grown.drew | apply Grown.alloc)⟩
  · have HN : Hid (clampI a1 ≠ 0) := hz
    have t6 : (divI (-clampI a0) (clampI a1) == -divI (clampI a0) (clampI a1)) = true := by rw [divI_neg _ _ hz]; simp
    clear hz
    by_cases h1 : clampI a0 ≤ clampI a1
    · have m1 := m1 h1
      by_cases h2 : 0 ≤ clampI a2
      · have m2 := m2 h1 h2
        go_enter Try.func3, Try.ntmps3
        go_wp2_with (first | (go_at_call 5; refine (mul_calls _ _ _).mono ?_; rintro e w' ⟨rfl, k, rfl⟩) | (go_at_call 7; refine (clamp_calls _ _).mono ?_; rintro e w' ⟨rfl, rfl⟩) | (go_at_call 6; refine (add_calls _ _ _).mono ?_; rintro e w' ⟨rfl, rfl⟩) | (go_at_call 8; refine (sub_calls _ _ _).mono ?_; rintro e w' ⟨rfl, rfl⟩) | (go_at_call 9; refine (div_calls _ _ _ HN.out).mono ?_; rintro e w' ⟨rfl, k, rfl⟩))
        go_ret
        exact ⟨rfl, by repeat (first | exact Grown.refl _ | apply grown_drewN | apply Grown.drew | apply Grown.alloc)⟩
      · clear m2
        go_enter Try.func3, Try.ntmps3
        go_wp2_with (first | (go_at_call 5; refine (mul_calls _ _ _).mono ?_; rintro e w' ⟨rfl, k, rfl⟩) | (go_at_call 7; refine (clamp_calls _ _).mono ?_; rintro e w' ⟨rfl, rfl⟩) | (go_at_call 6; refine (add_calls _ _ _).mono ?_; rintro e w' ⟨rfl, rfl⟩) | (go_at_call 8; refine (sub_calls _ _ _).mono ?_; rintro e w' ⟨rfl, rfl⟩) | (go_at_call 9; refine (div_calls _ _ _ HN.out).mono ?_; rintro e w' ⟨rfl, k, rfl⟩))
        go_ret
        exact ⟨rfl, by repeat (first | exact Grown.refl _ | apply grown_drewN | apply Grown.drew | apply Grown.alloc)⟩
    · clear m1 m2
      go_enter Try.func3, Try.ntmps3
      go_wp2_with (first | (go_at_call 5; refine (mul_calls _ _ _).mono ?_; rintro e w' ⟨rfl, k, rfl⟩) | (go_at_call 7; refine (clamp_calls _ _).mono ?_; rintro e w' ⟨rfl, rfl⟩) | (go_at_call 6; refine (add_calls _ _ _).mono ?_; rintro e w' ⟨rfl, rfl⟩) | (go_at_call 8; refine (sub_calls _ _ _).mono ?_; rintro e w' ⟨rfl, rfl⟩) | (go_at_call 9; refine (div_calls _ _ _ HN.out).mono ?_; rintro e w' ⟨rfl, k, rfl⟩))
      go_ret
      exact ⟨rfl, by repeat (first | exact Grown.refl _ | apply grown_drewN | apply Grown.drew | apply Grown.alloc)⟩

set_option maxRecDepth 100000 in
theorem lifted (os : Os) (started : os.Started) (H : Type) (enc : TypeId × Value → H) :
    ReturnsInHanded {} Try.checked os 3 .any (Rows.fixLawsSpec.pre6 enc Try.prog Try.f3 Rows.fixLawsRow.domain false) (Rows.fixLawsSpec.post enc Try.prog Try.f3 false true false false) := by
  refine returnsInHanded_of_change (C := Try.checked) own started (by kernel_rfl) Try.func3
    (ChangeSpec.witness6 (enc := enc) (C := Try.checked) false ⟨#[], #[.int .i64 0, .int .i64 0, .int .i64 0], []⟩ 8 (by kernel_rfl) (by kernel_rfl) (by kernel_rfl) (by kernel_rfl)) ?_
  intro W base args ds gs before hval0 hW hcnd _
  have hval : ∀ (j : Nat) t v, Try.f3.params[j]? = some t → args[j]? = some v → Value.okWide Try.prog W .any base t v := hval0
  have hW' := hW
  obtain ⟨p, q, hA0, hV, rfl, hfz, hnd⟩ := hW
  have hA : DataW.TrodAll enc Try.prog W 0 (fun _ => true) true Try.f3.params.toList args.toList ds p := hA0
  rw [Try.params3] at hA hval
  obtain ⟨v0, vs0, d0, ds0, p0, q0, hargs, rfl, rfl, h0, r0⟩ := trodAll_cons hA
  obtain ⟨v1, vs1, d1, ds1, p1, q1, rfl, rfl, rfl, h1, r1⟩ := trodAll_cons r0
  obtain ⟨v2, vs2, d2, ds2, p2, q2, rfl, rfl, rfl, h2, r2⟩ := trodAll_cons r1
  obtain ⟨rfl, rfl, rfl⟩ := trodAll_nil r2
  obtain rfl : args = #[v0, v1, v2] := by cases args; simp_all
  obtain ⟨rfl, rfl⟩ := trodVars_none hV
  obtain ⟨a0, rfl, rfl, rfl, w0⟩ := open_int Try.underlying3 (hval 0 3 v0 rfl rfl) h0
  obtain ⟨a1, rfl, rfl, rfl, w1⟩ := open_int Try.underlying3 (hval 1 3 v1 rfl rfl) h1
  obtain ⟨a2, rfl, rfl, rfl, w2⟩ := open_int Try.underlying3 (hval 2 3 v2 rfl rfl) h2
  clear hA0 hval0
  simp only [List.append_nil] at hW'
  refine (walk a0 a1 a2 w0 w1 w2 W).mono fun e W' ⟨he, hg⟩ => ?_
  subst he
  exact ⟨_, rfl, post_of_same (pa := []) (pv := []) hW' (fun _ _ _ => (trodAll_cons_mk (shut_bool Try.underlying4 _) trodAll_mk0)) (fun sp _ => (trodAll_cons_mk (shut_int Try.underlying3 w0) (trodAll_cons_mk (shut_int Try.underlying3 w1) (trodAll_cons_mk (shut_int Try.underlying3 w2) trodAll_mk0)))) (fun _ _ => rfl) rfl
    (hg.frame _) hg.2.1 (ok_one (by kernel_rfl) rfl (okWide_bool_mk Try.underlying4 _))⟩

theorem over : Rows.fixLawsRow.holds Try.pinned (OpenSpec.ofChange Rows.fixLawsSpec) :=
  OpenClaim.holds_of_wide 3 Try.f3 rfl rfl rfl rfl rfl rfl rfl ⟨rfl, rfl, rfl, rfl, rfl⟩ rfl rfl rfl rfl rfl (by kernel_rfl) Try.func3 (by kernel_rfl)
    (of_decide_eq_true (by kernel_rfl)) (by unfold Func.isWrapper; first | (rw [if_pos (by decide +kernel)]; kernel_rfl) | (rw [if_neg (by decide +kernel)]; exact ⟨rfl, rfl⟩))
    (fun os started H enc _ => lifted os started H enc)

theorem proved : Rows.FixLawsSaid :=
  over
end Go.Proofs.Ytpadlfchjgnggad.fixLaws
namespace Go.Proofs.Ytpadlfchjgnggad
theorem fixLaws_holds : Rows.FixLawsSaid := fixLaws.proved
end Go.Proofs.Ytpadlfchjgnggad
