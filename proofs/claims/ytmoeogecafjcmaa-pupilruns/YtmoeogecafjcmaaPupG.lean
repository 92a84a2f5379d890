/- What pupil.checkBoth, Forward and Loss return. -/
import Derived.Test.YtmoeogecafjcmaaPupF
namespace Go.Proofs.Ytmoeogecafjcmaa.Fx
open Go.RowKit

/-- What is told of a pupil and a list, and of a pupil and an example. -/
def fwI (p : Pup) (d : PD) (n : Nat) : Int := if pchk p d = 0 then (if (n : Int) = p.c1 then 0 else 5) else pchk p d
def exI (p : Pup) (d : PD) (n m : Nat) : Int := if pchk p d = 0 then (if (n : Int) = p.c1 ∧ (m : Int) = p.r2 then 0 else 5) else pchk p d
theorem fwI_zero {p : Pup} {d : PD} {n : Nat} (h : fwI p d n = 0) : pchk p d = 0 ∧ (n : Int) = p.c1 := by
  unfold fwI at h
  by_cases h0 : pchk p d = 0
  · rw [if_pos h0] at h
    by_cases h1 : (n : Int) = p.c1
    · exact ⟨h0, h1⟩
    · rw [if_neg h1] at h; exact absurd h (by decide)
  · rw [if_neg h0] at h; exact absurd h h0
theorem exI_zero {p : Pup} {d : PD} {n m : Nat} (h : exI p d n m = 0) : pchk p d = 0 ∧ (n : Int) = p.c1 ∧ (m : Int) = p.r2 := by
  unfold exI at h
  by_cases h0 : pchk p d = 0
  · rw [if_pos h0] at h
    by_cases h1 : (n : Int) = p.c1 ∧ (m : Int) = p.r2
    · exact ⟨h0, h1⟩
    · rw [if_neg h1] at h; exact absurd h (by decide)
  · rw [if_neg h0] at h; exact absurd h h0

theorem boxA {w wr : World} {B : Nat} {v0 v1 v2 v3 v4 v5 v6 v7 : Value} {t : TypeId} {o : Obj} (hb : Below B ((w.alloc (.cells #[v0, v1, v2, v3, v4, v5, v6, v7] t)).alloc o) wr) (hB : w.heap.size < B) :
    Box8 wr w.heap.size v0 v1 v2 v3 v4 v5 v6 v7 :=
  box8 (B := w.heap.size + 1) (((Below.refl _ _).alloc (by simp) o).trans (hb.mono hB)) (Nat.lt_succ_self _)
theorem boxE {w wr : World} {B : Nat} {v0 v1 : Value} {t : TypeId} {o : Obj} (hb : Below B ((w.alloc o).alloc (.cells #[v0, v1] t)) wr) (hB : w.heap.size + 1 < B) :
    wr.cell? ⟨w.heap.size + 1, 0, none⟩ = some v0 ∧ wr.cell? ⟨w.heap.size + 1, 1, none⟩ = some v1 := by
  have h := box2 hb (by simpa using hB)
  simpa using h

set_option maxHeartbeats 1600000 in
theorem pboth_calls (p : Pup) (d : PD) (x : Exm) (w : World) (hp : InPup w p d) :
    Calls Try.prog 64 #[p.val, x.val] w fun e w' => e = .returned (.int .i64 (exI p d x.n x.m)) ∧ Below w.heap.size w w' := by
  have hal0 := (Below.refl w.heap.size w).alloc (Nat.le_refl _) (.cells p.cells 47)
  have hal := hal0.alloc hal0.size (.cells #[.slice x.a x.n x.k, .slice x.b x.m x.t] 59)
  have hcall := pcheck_calls p d _ (hp.below hal (Nat.le_refl _))
  clear hal0 hp
  unfold exI
  obtain ⟨r1, c1, a1, n1, k1, r2, c2, a2, n2, k2, d1, m1, t1, d2, m2, t2⟩ := p
  obtain ⟨xa, xn, xk, xb, xm, xt⟩ := x
  generalize pchk ⟨r1, c1, a1, n1, k1, r2, c2, a2, n2, k2, d1, m1, t1, d2, m2, t2⟩ d = E at *
  simp only [Pup.val, Pup.cells, Exm.val] at *
  obtain ⟨V, HV⟩ : ∃ V, Hid ((if E = 0 then (if (xn : Int) = c1 ∧ (xm : Int) = r2 then 0 else 5) else E) = V) := ⟨_, rfl⟩
  rw [HV.out]
  go_enter Try.func64, Try.ntmps64
  go_wp2_with fail
  refine hcall.mono ?_
  rintro e w1 ⟨rfl, hw1⟩
  have hbw := hal.trans (hw1.mono hal.size)
  obtain ⟨f0, f1, f2, f3, f4, f5, f6, f7⟩ := boxA hw1 (by simp; omega)
  obtain ⟨x0, x1⟩ := boxE hw1 (by simp)
  clear hcall hw1 hal
  by_cases hE : E = 0
  · subst hE
    by_cases h1 : (xn : Int) = c1
    · have u1 : ((xn : Int) != c1) = false := by rw [bne_eq_false_iff_eq]; exact h1
      have H1 : Hid ((xn : Int) = c1) := h1
      clear h1
      by_cases h2 : (xm : Int) = r2
      · have u2 : ((xm : Int) != r2) = false := by rw [bne_eq_false_iff_eq]; exact h2
        have H2 : Hid ((xm : Int) = r2) := h2
        clear h2
        go_wp2
        go_ret
        exact ⟨ret_int (by rw [← HV.out]; simp [H1.out, H2.out]), hbw⟩
      · have u2 : ((xm : Int) != r2) = true := by rw [bne_iff_ne]; exact h2
        go_wp2
        go_ret
        exact ⟨ret_int (by rw [← HV.out]; simp [h2]), hbw⟩
    · have u1 : ((xn : Int) != c1) = true := by rw [bne_iff_ne]; exact h1
      go_wp2
      go_ret
      exact ⟨ret_int (by rw [← HV.out]; simp [h1]), hbw⟩
  · have hE' : (E != 0) = true := by rw [bne_iff_ne]; exact hE
    go_wp2
    go_ret
    exact ⟨ret_int (by rw [← HV.out, if_neg hE]), hbw⟩

set_option maxHeartbeats 1600000 in
theorem pforward_bad (p : Pup) (d : PD) (v : Option Addr) (lv cv : Nat) (w : World) (hp : InPup w p d) (hne : fwI p d lv ≠ 0) :
    Calls Try.prog 44 #[p.val, .slice v lv cv] w fun e w' => e = .returned (.tuple #[.slice none 0 0, .slice none 0 0, .int .i64 (fwI p d lv)]) ∧ Below w.heap.size w w' := by
  have hal := (Below.refl w.heap.size w).alloc (Nat.le_refl _) (.cells p.cells 47)
  have hcall := pcheck_calls p d _ (hp.below hal (Nat.le_refl _))
  clear hp
  unfold fwI at *
  obtain ⟨r1, c1, a1, n1, k1, r2, c2, a2, n2, k2, d1, m1, t1, d2, m2, t2⟩ := p
  generalize pchk ⟨r1, c1, a1, n1, k1, r2, c2, a2, n2, k2, d1, m1, t1, d2, m2, t2⟩ d = E at *
  simp only [Pup.val, Pup.cells] at *
  obtain ⟨V, HV⟩ : ∃ V, Hid ((if E = 0 then (if (lv : Int) = c1 then 0 else 5) else E) = V) := ⟨_, rfl⟩
  have HNE : Hid ((if E = 0 then (if (lv : Int) = c1 then 0 else 5) else E) ≠ 0) := hne
  clear hne
  rw [HV.out]
  go_enter Try.func44, Try.ntmps44
  go_wp2_with fail
  refine hcall.mono ?_
  rintro e w1 ⟨rfl, hw1⟩
  have hbw := hal.trans (hw1.mono hal.size)
  obtain ⟨f0, f1, f2, f3, f4, f5, f6, f7⟩ := box8 hw1 (by simp)
  clear hcall hw1 hal
  by_cases hE : E = 0
  · subst hE
    by_cases h1 : (lv : Int) = c1
    · have hne := HNE.out
      rw [if_pos rfl] at hne
      exact absurd (if_pos h1) hne
    · have u1 : ((lv : Int) != c1) = true := by rw [bne_iff_ne]; exact h1
      go_wp2
      exact bodyPost_ret (v := .tuple #[.slice none 0 0, .slice none 0 0, .int .i64 5]) (by simp [results, Try.results44, go_sem]) rfl ⟨by rw [← HV.out]; simp [h1], hbw⟩
  · have hE' : (E != 0) = true := by rw [bne_iff_ne]; exact hE
    go_wp2
    exact bodyPost_ret (v := .tuple #[.slice none 0 0, .slice none 0 0, .int .i64 E]) (by simp [results, Try.results44, go_sem]) rfl ⟨by rw [← HV.out, if_neg hE], hbw⟩

set_option maxHeartbeats 1600000 in
theorem pforward_good (I H O : Nat) (a1 : Option Addr) (k1 : Nat) (a2 : Option Addr) (k2 : Nat) (d1 : Option Addr) (e1 : Nat) (d2 : Option Addr) (e2 : Nat) (d : PD) (v : Option Addr) (cv : Nat) (xs : List Int) (w : World) (h : InPup w (rpup I H O a1 k1 a2 k2 d1 e1 d2 e2) d) (hv : Lst w v I cv xs) (hr : RightD d) (i1 : 1 ≤ I) (i2 : I ≤ 4) (j1 : 1 ≤ H) (j2 : H ≤ 4) (o1 : 1 ≤ O) (o2 : O ≤ 4) :
    Calls Try.prog 44 #[(rpup I H O a1 k1 a2 k2 d1 e1 d2 e2).val, .slice v I cv] w fun e w' => ∃ ah ay, e = .returned (.tuple #[.slice ah H H, .slice ay O O, .int .i64 0]) ∧ Lst w' ah H H (hidL d xs I H) ∧ Lst w' ay O O (outYL d xs I H O) ∧ Below w.heap.size w w' := by
  have hal := (Below.refl w.heap.size w).alloc (Nat.le_refl _) (.cells (rpup I H O a1 k1 a2 k2 d1 e1 d2 e2).cells 47)
  have hcall := pcheck_calls _ d _ (h.below hal (Nat.le_refl _))
  rw [pchk_right i1 i2 j1 j2 o1 o2 hr] at hcall
  have hc2 : ∀ q, Below w.heap.size w q → Calls Try.prog 63 #[(rpup I H O a1 k1 a2 k2 d1 e1 d2 e2).val, .slice v I cv] q fun e w' => ∃ ah ay, e = .returned (.tuple #[.slice ah H H, .slice ay O O]) ∧ Lst w' ah H H (hidL d xs I H) ∧ Lst w' ay O O (outYL d xs I H O) ∧ Below q.heap.size q w' :=
    fun q hq => forward_calls I H O a1 k1 a2 k2 d1 e1 d2 e2 d v cv xs q (h.below hq (Nat.le_refl _)) (hv.below hq (Nat.le_refl _)) hr i1 i2 j1 j2 o1 o2
  clear h hv
  simp only [Pup.val, Pup.cells, rpup] at *
  have u1 : ((I : Int) != (I : Int)) = false := by simp
  go_enter Try.func44, Try.ntmps44
  go_wp2_with fail
  refine hcall.mono ?_
  rintro e w1 ⟨rfl, hw1⟩
  have hbw := hal.trans (hw1.mono hal.size)
  obtain ⟨f0, f1, f2, f3, f4, f5, f6, f7⟩ := box8 hw1 (by simp)
  have hcall2 := hc2 w1 hbw
  clear hcall hw1 hal hc2
  go_wp2_with fail
  refine hcall2.mono ?_
  rintro e w2 ⟨ah, ay, rfl, hh, hy, hw2⟩
  go_wp2
  exact bodyPost_ret (v := .tuple #[.slice ah H H, .slice ay O O, .int .i64 0]) (by simp [results, Try.results44, go_sem]) rfl ⟨ah, ay, rfl, hh, hy, hbw.trans (hw2.mono hbw.size)⟩

/-- The differences, and the loss. -/
def difL (d : PD) (xs ys : List Int) (I H O : Nat) : List Int := (List.range O).map (lessG (outYL d xs I H O) ys)
def lossI (d : PD) (xs ys : List Int) (I H O : Nat) : Int := dotTo (difL d xs ys I H O) (difL d xs ys I H O) O

set_option maxHeartbeats 1600000 in
theorem ploss_bad (p : Pup) (d : PD) (x : Exm) (w : World) (hp : InPup w p d) (hne : exI p d x.n x.m ≠ 0) :
    Calls Try.prog 45 #[p.val, x.val] w fun e w' => e = .returned (.tuple #[.int .i64 0, .int .i64 (exI p d x.n x.m)]) ∧ Below w.heap.size w w' := by
  have hal0 := (Below.refl w.heap.size w).alloc (Nat.le_refl _) (.cells p.cells 47)
  have hal := hal0.alloc hal0.size (.cells #[.slice x.a x.n x.k, .slice x.b x.m x.t] 59)
  have hcall := pboth_calls p d x _ (hp.below hal (Nat.le_refl _))
  clear hal0 hp
  have hE' : (exI p d x.n x.m != 0) = true := by rw [bne_iff_ne]; exact hne
  generalize exI p d x.n x.m = E at *
  obtain ⟨r1, c1, a1, n1, k1, r2, c2, a2, n2, k2, d1, m1, t1, d2, m2, t2⟩ := p
  obtain ⟨xa, xn, xk, xb, xm, xt⟩ := x
  simp only [Pup.val, Pup.cells, Exm.val] at *
  go_enter Try.func45, Try.ntmps45
  go_wp2_with fail
  refine hcall.mono ?_
  rintro e w1 ⟨rfl, hw1⟩
  go_wp2
  go_ret2
  exact ⟨rfl, hal.trans (hw1.mono hal.size)⟩

set_option maxHeartbeats 1600000 in
theorem ploss_good (I H O : Nat) (a1 : Option Addr) (k1 : Nat) (a2 : Option Addr) (k2 : Nat) (d1 : Option Addr) (e1 : Nat) (d2 : Option Addr) (e2 : Nat) (d : PD) (v : Option Addr) (cv : Nat) (xs : List Int) (u : Option Addr) (cu : Nat) (ys : List Int) (w : World) (h : InPup w (rpup I H O a1 k1 a2 k2 d1 e1 d2 e2) d) (hv : Lst w v I cv xs) (hu : Lst w u O cu ys) (hr : RightD d) (i1 : 1 ≤ I) (i2 : I ≤ 4) (j1 : 1 ≤ H) (j2 : H ≤ 4) (o1 : 1 ≤ O) (o2 : O ≤ 4) :
    Calls Try.prog 45 #[(rpup I H O a1 k1 a2 k2 d1 e1 d2 e2).val, .agg #[.slice v I cv, .slice u O cu]] w fun e w' => e = .returned (.tuple #[.int .i64 (lossI d xs ys I H O), .int .i64 0]) ∧ Below w.heap.size w w' := by
  have hal0 := (Below.refl w.heap.size w).alloc (Nat.le_refl _) (.cells (rpup I H O a1 k1 a2 k2 d1 e1 d2 e2).cells 47)
  have hal := hal0.alloc hal0.size (.cells #[.slice v I cv, .slice u O cu] 59)
  have hcall := pboth_calls _ d ⟨v, I, cv, u, O, cu⟩ _ (h.below hal (Nat.le_refl _))
  have hz : exI (rpup I H O a1 k1 a2 k2 d1 e1 d2 e2) d I O = 0 := by
    unfold exI
    rw [if_pos (pchk_right i1 i2 j1 j2 o1 o2 hr), if_pos ⟨rfl, rfl⟩]
  rw [hz] at hcall
  have hc2 : ∀ q, Below w.heap.size w q → Calls Try.prog 63 #[(rpup I H O a1 k1 a2 k2 d1 e1 d2 e2).val, .slice v I cv] q fun e w' => ∃ ah ay, e = .returned (.tuple #[.slice ah H H, .slice ay O O]) ∧ Lst w' ah H H (hidL d xs I H) ∧ Lst w' ay O O (outYL d xs I H O) ∧ Below q.heap.size q w' :=
    fun q hq => forward_calls I H O a1 k1 a2 k2 d1 e1 d2 e2 d v cv xs q (h.below hq (Nat.le_refl _)) (hv.below hq (Nat.le_refl _)) hr i1 i2 j1 j2 o1 o2
  have H2 : Hid (twoI O O = 0) := by
    show twoI O O = 0
    unfold twoI
    rw [if_neg (by omega), if_pos rfl]
  clear h hv hal0 hz
  simp only [Pup.val, Pup.cells, rpup, Exm.val] at *
  go_enter Try.func45, Try.ntmps45
  go_wp2_with fail
  refine hcall.mono ?_
  rintro e w1 ⟨rfl, hw1⟩
  have hbw := hal.trans (hw1.mono hal.size)
  obtain ⟨f0, f1, f2, f3, f4, f5, f6, f7⟩ := boxA hw1 (by simp; omega)
  obtain ⟨x0, x1⟩ := boxE hw1 (by simp)
  have hcall2 := hc2 w1 hbw
  clear hcall hc2
  go_wp2_with fail
  refine hcall2.mono ?_
  rintro e w2 ⟨ah, ay, rfl, _, hy, hw2⟩
  have hbw2 := hbw.trans (hw2.mono hbw.size)
  obtain ⟨x0', x1'⟩ := boxE (hw1.trans (hw2.mono hw1.size)) (by simp)
  have hcall3 := less_calls ay u O O cu _ ys w2 hy (hu.below hbw2 (Nat.le_refl _)) (by omega)
  clear hcall2 hw1 hal hbw hw2 f0 f1 f2 f3 f4 f5 f6 f7 x0 x1
  go_wp2_with fail
  refine hcall3.mono ?_
  rintro e w3 ⟨gd, rfl, _, hd, hw3⟩
  have hcall4 := vDot_calls (some ⟨gd, 0, none⟩) (some ⟨gd, 0, none⟩) O O O O _ _ w3 hd hd
  rw [if_pos H2.out, H2.out] at hcall4
  clear hcall3
  go_wp2_with fail
  refine hcall4.mono ?_
  rintro e w4 ⟨rfl, hw4⟩
  have hbw3 := hbw2.trans (hw3.mono hbw2.size)
  go_wp2
  go_ret2
  exact ⟨rfl, hbw3.trans (hw4.mono hbw3.size)⟩
end Go.Proofs.Ytmoeogecafjcmaa.Fx
