/- StoreReads' walk: whatever record and text are handed in, it returns true. -/
import Derived.Test.YtbahdapjpkdalaaDoorRefStA
import Derived.Test.YtbahdapjpkdalaaDoorRefStD
import Derived.Test.YtbahdapjpkdalaaDoorSameS
namespace Go.Proofs.YtbahdapjpkdalaaDoor.Fx
open Go.RowKit

set_option maxRecDepth 100000 in
set_option maxHeartbeats 3200000 in
theorem storeReads_core (x : Rcm) (D : List Int) (S : ByteArray) (w : World) (hl : Lst w x.a x.n x.k D) (hr : 0 ≤ x.root) (hc : 0 ≤ x.chain) (hxn : x.n ≤ 9223372036854775807) (hS : S.size ≤ 1048576) (hL : LD w) :
    Calls Tryd.prog 3 #[x.val, .string S] w fun e w' => e = .returned (.bool true) ∧ Below w.heap.size w w' := by
  obtain ⟨s, HSd⟩ : ∃ s, Hid (S.data.toList = s) := ⟨_, rfl⟩
  have HSe : Hid ((⟨s.toArray⟩ : ByteArray) = S) := by show _ = _; rw [← HSd.out]
  have hsl : s.length = S.size := by rw [← HSd.out]; rfl
  have hal0 := (Below.refl w.heap.size w).alloc (Nat.le_refl _) (.cells x.cells 25)
  obtain ⟨W, HW⟩ : ∃ W, Hid (w.alloc (.cells x.cells 25) = W) := ⟨_, rfl⟩
  rw [HW.out] at hal0
  have KL : Hid (∀ q, Below W.heap.size W q → LD q) := fun q hq => hL.below (hal0.trans (hq.mono hal0.size)) (Nat.le_refl _)
  have KX : Hid (∀ q, Below W.heap.size W q → Lst q x.a x.n x.k D) := fun q hq => hl.below (hal0.trans (hq.mono hal0.size)) (Nat.le_refl _)
  have KB : Hid (∀ q, Below W.heap.size W q → Box5 q w.heap.size (.int .i64 x.s) (.slice x.a x.n x.k) (.int .i64 x.r) (.int .u64 x.root) (.int .u64 x.chain)) := fun q hq => by
    have h0 : W.rowIs w.heap.size 25 5 (fn5 (.int .i64 x.s) (.slice x.a x.n x.k) (.int .i64 x.r) (.int .u64 x.root) (.int .u64 x.chain)) := by rw [← HW.out]; exact fn5_alloc _ _ _ _ _ _ _
    exact fn5_box (h0.of_block (hq.block _ h0.lt))
  have HPr : Hid (∀ q, Below W.heap.size W q → Calls Tryd.prog 7 #[x.val] q fun e w' => PrintR (x.ln D) e ∧ Below q.heap.size q w') := fun q hq => print_calls x D q (KX.out q hq) hr hc (KL.out q hq)
  have HLi : Hid (∀ q, Below W.heap.size W q → Calls Tryd.prog 5 #[x.val] q fun e w' => IsB e (x.ln D).ok ∧ Below q.heap.size q w') := fun q hq => rline_calls x D q (KX.out q hq) hr hc hxn
  have HTx : Hid (∀ q, Below W.heap.size W q → (x.ln D).ok → Calls Tryd.prog 6 #[x.val] q fun e w' => e = .returned (.string ⟨(x.ln D).text.toArray⟩) ∧ Below q.heap.size q w') := fun q hq hok => rtext_calls x D q (KX.out q hq) hok (KL.out q hq)
  have HPs : Hid (∀ q, Below W.heap.size W q → Calls Tryd.prog 8 #[.string S] q fun e w' => ParseR s q e w' ∧ Below q.heap.size q w') := fun q hq => by
    have h := parse_calls s q (by omega) (KL.out q hq)
    rw [HSe.out] at h
    exact h
  have HRs : Hid (∀ q, Below W.heap.size W q → Calls Tryd.prog 9 #[.string S] q fun e w' => ParseR s q e w' ∧ Below q.heap.size q w') := fun q hq => readLine_calls S s q HSd hS (KL.out q hq)
  generalize x.ln D = M at *
  clear hl hr hc hxn hL KX
  obtain ⟨xs, xa, xn, xk, xr, xroot, xchain⟩ := x
  simp only [Rcm.val, Rcm.cells] at *
  have T0 : Below W.heap.size W W := Below.refl _ _
  go_enter Tryd.func3, Tryd.ntmps3
  go_wp2_with fail
  rw [HW.out]
  refine (HLi.out _ T0).mono ?_
  rintro e u1 ⟨⟨b, rfl, HB⟩, hu1⟩
  cases b with
  | true =>
    have HOk := Lib.hid HB.yes
    clear HB
    obtain ⟨c0, c1, c2, c3, c4⟩ := KB.out _ hu1
    have STx := HTx.out _ hu1 HOk.out
    obtain ⟨TX, HTX⟩ : ∃ X : ByteArray, Hid ((⟨M.text.toArray⟩ : ByteArray) = X) := ⟨_, rfl⟩
    rw [HTX.out] at STx
    go_wp2_with fail
    refine STx.mono ?_
    rintro e u2 ⟨rfl, hu2⟩
    have TB := hu1.trans (hu2.mono hu1.size)
    clear c0 c1 c2 c3 c4
    have c5 := KB.out _ TB
    obtain ⟨c0, c1, c2, c3, c4⟩ := c5
    have SPr := HPr.out _ TB
    go_wp2_with fail
    refine SPr.mono ?_
    rintro e v1 ⟨hp, hv1⟩
    have TV1 := TB.trans (hv1.mono TB.size)
    clear c0 c1 c2 c3 c4
    rcases hp with ⟨_, rfl⟩ | ⟨hno, rfl⟩
    rotate_left
    · exact absurd HOk.out hno
    rw [HTX.out]
    go_wp2_with fail
    refine (HPs.out _ TV1).mono ?_
    rintro e v2 ⟨hp2, hv2⟩
    have TV2 := TV1.trans (hv2.mono TV1.size)
    rcases hp2 with ⟨m, x1, hIs, hx1, lx1, _, rfl⟩ | ⟨hno2, rfl⟩
    · have HIs := Lib.hid hIs
      have HX1 := Lib.hid hx1
      clear hIs hx1
      obtain ⟨xs1, xa1, xn1, xk1, xr1, xroot1, xchain1⟩ := x1
      simp only [Rcm.val, Rcm.cells] at *
      have A1 := TV2.alloc TV2.size (.cells #[.int .i64 xs1, .slice xa1 xn1 xk1, .int .i64 xr1, .int .u64 xroot1, .int .u64 xchain1] 25)
      have A1v : Below v2.heap.size v2 (v2.alloc (.cells #[.int .i64 xs1, .slice xa1 xn1 xk1, .int .i64 xr1, .int .u64 xroot1, .int .u64 xchain1] 25)) := (Below.refl _ _).alloc (Nat.le_refl _) _
      have B1 := fn5_alloc v2 (.int .i64 xs1) (.slice xa1 xn1 xk1) (.int .i64 xr1) (.int .u64 xroot1) (.int .u64 xchain1) 25
      go_wp2_with fail
      refine (HRs.out _ A1).mono ?_
      rintro e v3 ⟨hp3, hv3⟩
      have TV3 := A1.trans (hv3.mono A1.size)
      have B3 := B1.of_block (hv3.block _ B1.lt)
      have lx3 := lx1.below (A1v.trans (hv3.mono A1v.size)) (Nat.le_refl _)
      rcases hp3 with ⟨m2, x2, hIs2, hx2, lx2, _, rfl⟩ | ⟨hno3, _⟩
      · obtain rfl : m = m2 := HIs.out.unique hIs2
        have he : Rcm.ln ⟨xs1, xa1, xn1, xk1, xr1, xroot1, xchain1⟩ m.b = x2.ln m.b := HX1.out.trans hx2.symm
        obtain ⟨xs2, xa2, xn2, xk2, xr2, xroot2, xchain2⟩ := x2
        simp only [Rcm.ln, Ln.mk.injEq, and_true] at he
        obtain ⟨rfl, rfl, rfl, rfl⟩ := he
        simp only [Rcm.val, Rcm.cells] at *
        have hxn : xn1 ≤ 9223372036854775807 := by
          have h1 := lx1.len
          have h2 := HIs.out.1.n
          omega
        clear hIs2 hx2
        have A4 := TV3.alloc TV3.size (.cells #[.int .i64 xs1, .slice xa2 xn2 xk2, .int .i64 xr1, .int .u64 xroot1, .int .u64 xchain1] 25)
        have A4v : Below v3.heap.size v3 (v3.alloc (.cells #[.int .i64 xs1, .slice xa2 xn2 xk2, .int .i64 xr1, .int .u64 xroot1, .int .u64 xchain1] 25)) := (Below.refl _ _).alloc (Nat.le_refl _) _
        have B4 := B3.of_block (A4v.block _ B3.lt)
        have C4 := fn5_alloc v3 (.int .i64 xs1) (.slice xa2 xn2 xk2) (.int .i64 xr1) (.int .u64 xroot1) (.int .u64 xchain1) 25
        obtain ⟨a0, a1, a2, a3, a4⟩ := fn5_ret B4
        obtain ⟨b0, b1, b2, b3, b4⟩ := fn5_ret C4
        have LK := rlikeZ_calls ⟨xs1, xa1, xn1, xk1, xr1, xroot1, xchain1⟩ ⟨xs1, xa2, xn2, xk2, xr1, xroot1, xchain1⟩ m.b m.b _ (lx3.below A4v (Nat.le_refl _)) (lx2.below A4v (Nat.le_refl _)) hxn
        rw [show likeZ ⟨xs1, xa1, xn1, xk1, xr1, xroot1, xchain1⟩ ⟨xs1, xa2, xn2, xk2, xr1, xroot1, xchain1⟩ m.b m.b = true by simp [likeZ]] at LK
        simp only [Rcm.val, Rcm.cells] at LK
        have HLK := Lib.hid LK
        clear LK lx1 lx2 lx3
        go_wp2_with fail
        refine HLK.out.mono ?_
        rintro e v5 ⟨rfl, hv5⟩
        have TV5 := A4.trans (hv5.mono A4.size)
        have g4 := (fn5_ret (B4.of_block (hv5.block _ B4.lt))).2.2.2.2
        have h4 := (fn5_ret (C4.of_block (hv5.block _ C4.lt))).2.2.2.2
        clear a0 a1 a2 a3 a4 b0 b1 b2 b3 b4
        go_wp2
        go_ret
        exact ⟨rfl, hal0.trans (TV5.mono hal0.size)⟩
      · exact absurd HIs.out (hno3 m)
    · have HNo := Lib.hid hno2
      clear hno2
      unfold zeroR Rcm.val Rcm.cells
      dsimp only
      have A1 := TV2.alloc TV2.size (.cells #[.int .i64 0, .slice none 0 0, .int .i64 0, .int .u64 0, .int .u64 0] 25)
      have B1 := fn5_alloc v2 (.int .i64 0) (.slice none 0 0) (.int .i64 0) (.int .u64 0) (.int .u64 0) 25
      go_wp2_with fail
      refine (HRs.out _ A1).mono ?_
      rintro e v3 ⟨hp3, hv3⟩
      have TV3 := A1.trans (hv3.mono A1.size)
      have B3 := B1.of_block (hv3.block _ B1.lt)
      rcases hp3 with ⟨m2, x2, hIs2, _⟩ | ⟨_, rfl⟩
      · exact absurd hIs2 (HNo.out m2)
      · unfold zeroR Rcm.val Rcm.cells
        dsimp only
        have A4 := TV3.alloc TV3.size (.cells #[.int .i64 0, .slice none 0 0, .int .i64 0, .int .u64 0, .int .u64 0] 25)
        have A4v : Below v3.heap.size v3 (v3.alloc (.cells #[.int .i64 0, .slice none 0 0, .int .i64 0, .int .u64 0, .int .u64 0] 25)) := (Below.refl _ _).alloc (Nat.le_refl _) _
        have B4 := B3.of_block (A4v.block _ B3.lt)
        have C4 := fn5_alloc v3 (.int .i64 0) (.slice none 0 0) (.int .i64 0) (.int .u64 0) (.int .u64 0) 25
        obtain ⟨a0, a1, a2, a3, a4⟩ := fn5_ret B4
        obtain ⟨b0, b1, b2, b3, b4⟩ := fn5_ret C4
        have LK := rlikeZ_calls zeroR zeroR [] [] (v3.alloc (.cells #[.int .i64 0, .slice none 0 0, .int .i64 0, .int .u64 0, .int .u64 0] 25)) (Lst.nil _ _ _) (Lst.nil _ _ _) (show (0 : Nat) ≤ 9223372036854775807 by omega)
        rw [show likeZ zeroR zeroR [] [] = true by rfl] at LK
        unfold zeroR Rcm.val Rcm.cells at LK
        dsimp only at LK
        have HLK := Lib.hid LK
        clear LK
        go_wp2_with fail
        refine HLK.out.mono ?_
        rintro e v5 ⟨rfl, hv5⟩
        have TV5 := A4.trans (hv5.mono A4.size)
        have g4 := (fn5_ret (B4.of_block (hv5.block _ B4.lt))).2.2.2.2
        have h4 := (fn5_ret (C4.of_block (hv5.block _ C4.lt))).2.2.2.2
        clear a0 a1 a2 a3 a4 b0 b1 b2 b3 b4
        go_wp2
        go_ret
        exact ⟨rfl, hal0.trans (TV5.mono hal0.size)⟩
  | false =>
    have HOk := Lib.hid HB.no
    clear HB
    have TB := hu1
    have c5 := KB.out _ TB
    obtain ⟨c0, c1, c2, c3, c4⟩ := c5
    have SPr := HPr.out _ TB
    go_wp2_with fail
    refine SPr.mono ?_
    rintro e v1 ⟨hp, hv1⟩
    have TV1 := TB.trans (hv1.mono TB.size)
    clear c0 c1 c2 c3 c4
    rcases hp with ⟨hyes, rfl⟩ | ⟨_, rfl⟩
    · exact absurd hyes HOk.out
    go_wp2_with fail
    refine (HPs.out _ TV1).mono ?_
    rintro e v2 ⟨hp2, hv2⟩
    have TV2 := TV1.trans (hv2.mono TV1.size)
    rcases hp2 with ⟨m, x1, hIs, hx1, lx1, _, rfl⟩ | ⟨hno2, rfl⟩
    · have HIs := Lib.hid hIs
      have HX1 := Lib.hid hx1
      clear hIs hx1
      obtain ⟨xs1, xa1, xn1, xk1, xr1, xroot1, xchain1⟩ := x1
      simp only [Rcm.val, Rcm.cells] at *
      have A1 := TV2.alloc TV2.size (.cells #[.int .i64 xs1, .slice xa1 xn1 xk1, .int .i64 xr1, .int .u64 xroot1, .int .u64 xchain1] 25)
      have A1v : Below v2.heap.size v2 (v2.alloc (.cells #[.int .i64 xs1, .slice xa1 xn1 xk1, .int .i64 xr1, .int .u64 xroot1, .int .u64 xchain1] 25)) := (Below.refl _ _).alloc (Nat.le_refl _) _
      have B1 := fn5_alloc v2 (.int .i64 xs1) (.slice xa1 xn1 xk1) (.int .i64 xr1) (.int .u64 xroot1) (.int .u64 xchain1) 25
      go_wp2_with fail
      refine (HRs.out _ A1).mono ?_
      rintro e v3 ⟨hp3, hv3⟩
      have TV3 := A1.trans (hv3.mono A1.size)
      have B3 := B1.of_block (hv3.block _ B1.lt)
      have lx3 := lx1.below (A1v.trans (hv3.mono A1v.size)) (Nat.le_refl _)
      rcases hp3 with ⟨m2, x2, hIs2, hx2, lx2, _, rfl⟩ | ⟨hno3, _⟩
      · obtain rfl : m = m2 := HIs.out.unique hIs2
        have he : Rcm.ln ⟨xs1, xa1, xn1, xk1, xr1, xroot1, xchain1⟩ m.b = x2.ln m.b := HX1.out.trans hx2.symm
        obtain ⟨xs2, xa2, xn2, xk2, xr2, xroot2, xchain2⟩ := x2
        simp only [Rcm.ln, Ln.mk.injEq, and_true] at he
        obtain ⟨rfl, rfl, rfl, rfl⟩ := he
        simp only [Rcm.val, Rcm.cells] at *
        have hxn : xn1 ≤ 9223372036854775807 := by
          have h1 := lx1.len
          have h2 := HIs.out.1.n
          omega
        clear hIs2 hx2
        have A4 := TV3.alloc TV3.size (.cells #[.int .i64 xs1, .slice xa2 xn2 xk2, .int .i64 xr1, .int .u64 xroot1, .int .u64 xchain1] 25)
        have A4v : Below v3.heap.size v3 (v3.alloc (.cells #[.int .i64 xs1, .slice xa2 xn2 xk2, .int .i64 xr1, .int .u64 xroot1, .int .u64 xchain1] 25)) := (Below.refl _ _).alloc (Nat.le_refl _) _
        have B4 := B3.of_block (A4v.block _ B3.lt)
        have C4 := fn5_alloc v3 (.int .i64 xs1) (.slice xa2 xn2 xk2) (.int .i64 xr1) (.int .u64 xroot1) (.int .u64 xchain1) 25
        obtain ⟨a0, a1, a2, a3, a4⟩ := fn5_ret B4
        obtain ⟨b0, b1, b2, b3, b4⟩ := fn5_ret C4
        have LK := rlikeZ_calls ⟨xs1, xa1, xn1, xk1, xr1, xroot1, xchain1⟩ ⟨xs1, xa2, xn2, xk2, xr1, xroot1, xchain1⟩ m.b m.b _ (lx3.below A4v (Nat.le_refl _)) (lx2.below A4v (Nat.le_refl _)) hxn
        rw [show likeZ ⟨xs1, xa1, xn1, xk1, xr1, xroot1, xchain1⟩ ⟨xs1, xa2, xn2, xk2, xr1, xroot1, xchain1⟩ m.b m.b = true by simp [likeZ]] at LK
        simp only [Rcm.val, Rcm.cells] at LK
        have HLK := Lib.hid LK
        clear LK lx1 lx2 lx3
        go_wp2_with fail
        refine HLK.out.mono ?_
        rintro e v5 ⟨rfl, hv5⟩
        have TV5 := A4.trans (hv5.mono A4.size)
        have g4 := (fn5_ret (B4.of_block (hv5.block _ B4.lt))).2.2.2.2
        have h4 := (fn5_ret (C4.of_block (hv5.block _ C4.lt))).2.2.2.2
        clear a0 a1 a2 a3 a4 b0 b1 b2 b3 b4
        go_wp2
        go_ret
        exact ⟨rfl, hal0.trans (TV5.mono hal0.size)⟩
      · exact absurd HIs.out (hno3 m)
    · have HNo := Lib.hid hno2
      clear hno2
      unfold zeroR Rcm.val Rcm.cells
      dsimp only
      have A1 := TV2.alloc TV2.size (.cells #[.int .i64 0, .slice none 0 0, .int .i64 0, .int .u64 0, .int .u64 0] 25)
      have B1 := fn5_alloc v2 (.int .i64 0) (.slice none 0 0) (.int .i64 0) (.int .u64 0) (.int .u64 0) 25
      go_wp2_with fail
      refine (HRs.out _ A1).mono ?_
      rintro e v3 ⟨hp3, hv3⟩
      have TV3 := A1.trans (hv3.mono A1.size)
      have B3 := B1.of_block (hv3.block _ B1.lt)
      rcases hp3 with ⟨m2, x2, hIs2, _⟩ | ⟨_, rfl⟩
      · exact absurd hIs2 (HNo.out m2)
      · unfold zeroR Rcm.val Rcm.cells
        dsimp only
        have A4 := TV3.alloc TV3.size (.cells #[.int .i64 0, .slice none 0 0, .int .i64 0, .int .u64 0, .int .u64 0] 25)
        have A4v : Below v3.heap.size v3 (v3.alloc (.cells #[.int .i64 0, .slice none 0 0, .int .i64 0, .int .u64 0, .int .u64 0] 25)) := (Below.refl _ _).alloc (Nat.le_refl _) _
        have B4 := B3.of_block (A4v.block _ B3.lt)
        have C4 := fn5_alloc v3 (.int .i64 0) (.slice none 0 0) (.int .i64 0) (.int .u64 0) (.int .u64 0) 25
        obtain ⟨a0, a1, a2, a3, a4⟩ := fn5_ret B4
        obtain ⟨b0, b1, b2, b3, b4⟩ := fn5_ret C4
        have LK := rlikeZ_calls zeroR zeroR [] [] (v3.alloc (.cells #[.int .i64 0, .slice none 0 0, .int .i64 0, .int .u64 0, .int .u64 0] 25)) (Lst.nil _ _ _) (Lst.nil _ _ _) (show (0 : Nat) ≤ 9223372036854775807 by omega)
        rw [show likeZ zeroR zeroR [] [] = true by rfl] at LK
        unfold zeroR Rcm.val Rcm.cells at LK
        dsimp only at LK
        have HLK := Lib.hid LK
        clear LK
        go_wp2_with fail
        refine HLK.out.mono ?_
        rintro e v5 ⟨rfl, hv5⟩
        have TV5 := A4.trans (hv5.mono A4.size)
        have g4 := (fn5_ret (B4.of_block (hv5.block _ B4.lt))).2.2.2.2
        have h4 := (fn5_ret (C4.of_block (hv5.block _ C4.lt))).2.2.2.2
        clear a0 a1 a2 a3 a4 b0 b1 b2 b3 b4
        go_wp2
        go_ret
        exact ⟨rfl, hal0.trans (TV5.mono hal0.size)⟩
end Go.Proofs.YtbahdapjpkdalaaDoor.Fx
