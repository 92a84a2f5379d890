/- StoreBack's walk: whatever record and text are handed in, it returns true. -/
import Derived.Test.YtbahdapjpkdalaaDoorStE
import Derived.Test.YtbahdapjpkdalaaDoorSameS
namespace Go.Proofs.YtbahdapjpkdalaaDoor.Fx
open Go.RowKit

theorem text0 : Ln.text ⟨3, 7, 1, 2, [0, 5]⟩ = [51, 32, 55, 32, 49, 32, 50, 32, 48, 32, 53, 10] := by
  have d : ∀ n : Nat, n < 10 → Lib.decDigits n = [UInt8.ofNat (48 + n)] := fun n h => Lib.decDigits_one h
  simp [Ln.text, Ln.line, Ln.words, Ln.nums, dg, d, Lib.join, List.intercalate, List.intersperse]
theorem ok0 : Ln.ok ⟨3, 7, 1, 2, [0, 5]⟩ := ⟨by decide, by decide, by decide, by decide, by decide, by decide⟩
theorem oneRecs {w w' : World} {x : Rcm} {D : List Int} {B : Nat} (hb : Below B (w.alloc (.cells x.cells 25)) w') (hB : w.heap.size < B) (hl : Lst w' x.a x.n x.k D) : Recs w' (some ⟨w.heap.size, 0, none⟩) 1 1 (fun _ => x) (fun _ => D) := by
  have h := (fn5_alloc w (.int .i64 x.s) (.slice x.a x.n x.k) (.int .i64 x.r) (.int .u64 x.root) (.int .u64 x.chain) 25).of_block (hb.block _ hB)
  have b := fn5_box h
  refine ⟨Nat.le_refl _, .inr ⟨w.heap.size, 0, rfl, h.lt, fun i hi => ?_⟩⟩
  obtain rfl : i = 0 := by omega
  exact ⟨b.c0, b.c1, b.c2, b.c3, b.c4, hl⟩
theorem recZ_ln {x y : Rcm} {xs ys : List Int} (h : x.ln xs = y.ln ys) : recZ x y xs ys = true := by
  simp only [Rcm.ln, Ln.mk.injEq] at h
  obtain ⟨h1, h2, h3, h4, h5⟩ := h
  simp [recZ, likeZ, h1, h2, h3, h4, h5]
theorem recsZ_one {x y : Rcm} {xs ys : List Int} (h : x.ln xs = y.ln ys) : recsZ 1 1 (fun _ => x) (fun _ => y) (fun _ => xs) (fun _ => ys) = true := by
  simp [recsZ, recZ_ln h]
theorem arr_app (x : List UInt8) (S : ByteArray) : (⟨x.toArray⟩ : ByteArray) ++ S = ⟨(x ++ S.data.toList).toArray⟩ := by
  apply Go.WideShapes.bytes_inj
  simp

set_option maxRecDepth 100000 in
set_option maxHeartbeats 400000 in
theorem storeBack_core (x : Rcm) (D : List Int) (S : ByteArray) (w : World) (hl : Lst w x.a x.n x.k D) (hr : 0 ≤ x.root) (hc : 0 ≤ x.chain) (hxn : x.n ≤ 9223372036854775807) (hS : S.size ≤ 9223372036854775000) (hL : LD w) :
    Calls Tryd.prog 4 #[x.val, .string S] w fun e w' => e = .returned (.bool true) ∧ Below w.heap.size w w' := by
  have HPr : Hid (∀ q, Below w.heap.size w q → Calls Tryd.prog 7 #[x.val] q fun e w' => PrintR (x.ln D) e ∧ Below q.heap.size q w') := fun q hq => print_calls x D q (hl.below hq (Nat.le_refl _)) hr hc (hL.below hq (Nat.le_refl _))
  obtain ⟨s, HSd⟩ : ∃ s, Hid (S.data.toList = s) := ⟨_, rfl⟩
  have hsl : s.length = S.size := by rw [← HSd.out]; rfl
  have HSe : Hid ((⟨s.toArray⟩ : ByteArray) = S) := by show _ = _; rw [← HSd.out]
  have hal0 := (Below.refl w.heap.size w).alloc (Nat.le_refl _) (.cells x.cells 25)
  obtain ⟨W, HW⟩ : ∃ W, Hid (w.alloc (.cells x.cells 25) = W) := ⟨_, rfl⟩
  rw [HW.out] at hal0
  have KL : Hid (∀ q, Below W.heap.size W q → LD q) := fun q hq => hL.below (hal0.trans (hq.mono hal0.size)) (Nat.le_refl _)
  have KX : Hid (∀ q, Below W.heap.size W q → Lst q x.a x.n x.k D) := fun q hq => hl.below (hal0.trans (hq.mono hal0.size)) (Nat.le_refl _)
  have KB : Hid (∀ q, Below W.heap.size W q → Box5 q w.heap.size (.int .i64 x.s) (.slice x.a x.n x.k) (.int .i64 x.r) (.int .u64 x.root) (.int .u64 x.chain)) := fun q hq => by
    have h0 : W.rowIs w.heap.size 25 5 (fn5 (.int .i64 x.s) (.slice x.a x.n x.k) (.int .i64 x.r) (.int .u64 x.root) (.int .u64 x.chain)) := by rw [← HW.out]; exact fn5_alloc _ _ _ _ _ _ _
    exact fn5_box (h0.of_block (hq.block _ h0.lt))
  have HPw : Hid (∀ q, Below W.heap.size W q → Calls Tryd.prog 7 #[x.val] q fun e w' => PrintR (x.ln D) e ∧ Below q.heap.size q w') := fun q hq => HPr.out q (hal0.trans (hq.mono hal0.size))
  have HPs : Hid (∀ q, Below W.heap.size W q → Calls Tryd.prog 8 #[.string S] q fun e w' => ParseR s q e w' ∧ Below q.heap.size q w') := fun q hq => by
    have h := parse_calls s q (by omega) (KL.out q hq)
    rw [HSe.out] at h
    exact h
  have H0 : Hid (∀ q, Below W.heap.size W q → Lst q (some ⟨w.heap.size + 1, 0, none⟩) 2 2 [0, 5] → Calls Tryd.prog 7 #[.agg #[.int .i64 3, .slice (some ⟨w.heap.size + 1, 0, none⟩) 2 2, .int .i64 7, .int .u64 1, .int .u64 2]] q fun e w' => PrintR ⟨3, 7, 1, 2, [0, 5]⟩ e ∧ Below q.heap.size q w') := fun q hq h => print_calls ⟨3, some ⟨w.heap.size + 1, 0, none⟩, 2, 2, 7, 1, 2⟩ [0, 5] q h (show (0 : Int) ≤ 1 by decide) (show (0 : Int) ≤ 2 by decide) (KL.out q hq)
  have TL : Below W.heap.size W (W.alloc (.cells #[.int .i64 0, .int .i64 5] 3)) := (Below.refl _ _).alloc (Nat.le_refl _) _
  have HWs : Hid (W.heap.size = w.heap.size + 1) := by show _ = _; rw [← HW.out]; simp
  have L0 : Lst (W.alloc (.cells #[.int .i64 0, .int .i64 5] 3)) (some ⟨w.heap.size + 1, 0, none⟩) 2 2 [0, 5] := by
   rw [← HWs.out]
   exact ⟨rfl, Nat.le_refl _, .inr ⟨W.heap.size, 0, rfl, by simp, fun i hi => by
    rw [World.cell?_alloc_new]
    rcases (show i = 0 ∨ i = 1 by omega) with rfl | rfl <;> rfl⟩⟩
  have HRX : Hid (∀ (y : Rcm) (m : Ln) q a b, y.ln m.b = m → x.ln D = m → Recs q a 1 1 (fun _ => y) (fun _ => m.b) → Recs q b 1 1 (fun _ => x) (fun _ => D) → Calls Tryd.prog 11 #[.slice a 1 1, .slice b 1 1] q fun e w' => e = .returned (.bool true) ∧ Below q.heap.size q w') := fun y m q a b hy hm ha hb => by
    have hyn : y.n ≤ 9223372036854775807 := by
      have h1 : Lst q y.a y.n y.k m.b := by
        rcases ha.2 with h | ⟨_, _, _, _, h⟩
        · omega
        · exact (h 0 (by omega)).2.2.2.2.2
      have h2 : m.b.length = x.n := by rw [← hm]; exact hl.len
      rw [← h1.len, h2]; exact hxn
    have h := rsameRZ_calls a b 1 1 1 1 (fun _ => y) (fun _ => x) (fun _ => m.b) (fun _ => D) q ha hb (by omega) (fun _ _ => hyn)
    rw [recsZ_one (hy.trans hm.symm)] at h
    exact h
  have HLn : Hid ((x.ln D).b = D) := rfl
  generalize hm : x.ln D = M at *
  have HM := Lib.hid hm
  have HOne : Hid (∀ q w' : World, Below (q.alloc (.cells x.cells 25)).heap.size (q.alloc (.cells x.cells 25)) w' → Below W.heap.size W w' → Recs w' (some ⟨q.heap.size, 0, none⟩) 1 1 (fun _ => x) (fun _ => D)) := fun q w' h1 h2 => oneRecs h1 (by simp) (KX.out _ h2)
  clear hl hr hc hxn hL HPr hm
  obtain ⟨xs, xa, xn, xk, xr, xroot, xchain⟩ := x
  simp only [Rcm.val, Rcm.cells] at *
  go_enter Tryd.func4, Tryd.ntmps4
  go_wp2_with fail
  rw [HW.out]
  refine (H0.out _ TL L0).mono ?_
  rintro e u1 ⟨hp0, hu1⟩
  have T1 := TL.trans (hu1.mono TL.size)
  rcases hp0 with ⟨_, rfl⟩ | ⟨hno, _⟩
  rotate_left
  · exact absurd ok0 hno
  obtain ⟨T0, HT0⟩ : ∃ X : ByteArray, Hid ((⟨(Ln.text ⟨3, 7, 1, 2, [0, 5]⟩).toArray⟩ : ByteArray) = X) := ⟨_, rfl⟩
  have hq0 : (T0.toList == [51, 32, 55, 32, 49, 32, 50, 32, 48, 32, 53, 10]) = true := by rw [beq_iff_eq, ByteArray.toList_eq, ← HT0.out]; exact text0
  rw [HT0.out]
  obtain ⟨c0, c1, c2, c3, c4⟩ := KB.out _ T1
  go_wp2_with fail
  refine (HPw.out _ T1).mono ?_
  rintro e u2 ⟨hp1, hu2⟩
  have T2 := T1.trans (hu2.mono T1.size)
  clear c0 c1 c2 c3 c4 hq0
  rcases hp1 with ⟨hok, rfl⟩ | ⟨hno, rfl⟩
  · have hsh := hok.short
    obtain ⟨TX, HTX⟩ : ∃ X : ByteArray, Hid ((⟨M.text.toArray⟩ : ByteArray) = X) := ⟨_, rfl⟩
    have htx : TX.size = M.text.length := by rw [← HTX.out]; rfl
    have hcat : ¬ 9223372036854775807 < TX.size + S.size := by omega
    have HPt : Hid (∀ q, Below W.heap.size W q → Calls Tryd.prog 8 #[.string (TX ++ S)] q fun e w' => ParseR (M.text ++ s) q e w' ∧ Below q.heap.size q w') := fun q hq => by
      have h := parse_calls (M.text ++ s) q (by rw [List.length_append]; omega) (KL.out q hq)
      rw [← HTX.out, arr_app, HSd.out]
      exact h
    have HI : Hid (IsLine (M.text ++ s) M) := ⟨hok, List.prefix_append _ _⟩
    rw [HTX.out]
    clear hok
    go_wp2_with fail
    refine (HPt.out _ T2).mono ?_
    rintro e u3 ⟨hp2, hu3⟩
    have T3 := T2.trans (hu3.mono T2.size)
    rcases hp2 with ⟨m, y, hIs, hy, ly, _, rfl⟩ | ⟨hno, _⟩
    rotate_left
    · exact absurd HI.out (hno M)
    obtain rfl : m = M := hIs.unique HI.out
    have HY := Lib.hid hy
    clear hy hIs
    have hlen : (m.text.length : Int) = (TX.size : Int) := by omega
    have hlen2 : ((m.text.length : Int) != (TX.size : Int)) = false := by rw [bne_eq_false_iff_eq]; omega
    have HYo : Hid (∀ q w' : World, Below (q.alloc (.cells y.cells 25)).heap.size (q.alloc (.cells y.cells 25)) w' → Below u3.heap.size u3 w' → Recs w' (some ⟨q.heap.size, 0, none⟩) 1 1 (fun _ => y) (fun _ => m.b)) := fun q w' h1 h2 => oneRecs h1 (by simp) (ly.below h2 (Nat.le_refl _))
    have HRY := Lib.hid (HRX.out y m)
    clear HRX
    obtain ⟨ys, ya, yn, yk, yr, yroot, ychain⟩ := y
    simp only [Rcm.val, Rcm.cells] at *
    have A1 : Below u3.heap.size u3 (u3.alloc (.cells #[.int .i64 ys, .slice ya yn yk, .int .i64 yr, .int .u64 yroot, .int .u64 ychain] 25)) := (Below.refl _ _).alloc (Nat.le_refl _) _
    have A2 := A1.alloc A1.size (.cells #[.int .i64 ys, .slice ya yn yk, .int .i64 yr, .int .u64 yroot, .int .u64 ychain] 25)
    have A3 := A2.alloc A2.size (.cells #[.int .i64 xs, .slice xa xn xk, .int .i64 xr, .int .u64 xroot, .int .u64 xchain] 25)
    obtain ⟨c0, c1, c2, c3, c4⟩ := KB.out _ (T3.trans (A2.mono T3.size))
    obtain ⟨d0, d1, d2, d3, d4⟩ := fn5_ret (fn5_alloc u3 (.int .i64 ys) (.slice ya yn yk) (.int .i64 yr) (.int .u64 yroot) (.int .u64 ychain) 25)
    have RY := HYo.out _ _ (Joins.below_alloc1 ((u3.alloc (.cells #[.int .i64 ys, .slice ya yn yk, .int .i64 yr, .int .u64 yroot, .int .u64 ychain] 25)).alloc (.cells #[.int .i64 ys, .slice ya yn yk, .int .i64 yr, .int .u64 yroot, .int .u64 ychain] 25)) (.cells #[.int .i64 xs, .slice xa xn xk, .int .i64 xr, .int .u64 xroot, .int .u64 xchain] 25)) A3
    have RX := HOne.out _ _ (Below.refl _ (((u3.alloc (.cells #[.int .i64 ys, .slice ya yn yk, .int .i64 yr, .int .u64 yroot, .int .u64 ychain] 25)).alloc (.cells #[.int .i64 ys, .slice ya yn yk, .int .i64 yr, .int .u64 yroot, .int .u64 ychain] 25)).alloc (.cells #[.int .i64 xs, .slice xa xn xk, .int .i64 xr, .int .u64 xroot, .int .u64 xchain] 25))) (T3.trans (A3.mono T3.size))
    simp only [World.size_alloc] at RY RX
    have SM := Lib.hid (HRY.out _ _ _ HY.out (by trivial) RY RX)
    clear RY RX
    go_wp2_with fail
    refine SM.out.mono ?_
    rintro e u4 ⟨rfl, hu4⟩
    have TB := T3.trans ((A3.trans (hu4.mono A3.size)).mono T3.size)
    clear c0 c1 c2 c3 c4 d0 d1 d2 d3 d4
    go_wp2_with fail
    have SP2 := HPs.out _ TB
    go_wp2_with fail
    refine SP2.mono ?_
    rintro e v1 ⟨hp2, hv1⟩
    have TV1 := TB.trans (hv1.mono TB.size)
    rcases hp2 with ⟨m, y, hIs, hy, ly, _, rfl⟩ | ⟨_, rfl⟩
    · have HIs := Lib.hid hIs
      have HY := Lib.hid hy
      have HPy : Hid (∀ q, Below v1.heap.size v1 q → Calls Tryd.prog 7 #[y.val] q fun e w' => PrintR m e ∧ Below q.heap.size q w') := fun q hq => by
        have hroot : y.root = m.root := by rw [← hy]; rfl
        have hchain : y.chain = m.chain := by rw [← hy]; rfl
        have h := print_calls y m.b q (ly.below hq (Nat.le_refl _)) (by rw [hroot]; exact hIs.1.root.1) (by rw [hchain]; exact hIs.1.chain.1) (KL.out _ (TV1.trans (hq.mono TV1.size)))
        rw [hy] at h
        exact h
      have hlen : m.text.length ≤ S.size := by
        have h := hIs.2.length_le
        rw [← HSd.out] at h
        exact h
      obtain ⟨TN, HTN⟩ : ∃ n, Hid (m.text.length = n) := ⟨_, rfl⟩
      rw [HTN.out] at hlen
      have hex : S.extract 0 TN = ⟨m.text.toArray⟩ := by
        apply ByteArray.ext
        apply Array.toList_inj.1
        rw [Lib.extract_from_zero, HSd.out]
        obtain ⟨t, ht⟩ := hIs.2
        rw [← ht, ← HTN.out]
        simp
      have HEX := Lib.hid hex
      clear hIs hy hex
      obtain ⟨ys, ya, yn, yk, yr, yroot, ychain⟩ := y
      simp only [Rcm.val, Rcm.cells] at *
      have TA : Below v1.heap.size v1 (v1.alloc (.cells #[.int .i64 ys, .slice ya yn yk, .int .i64 yr, .int .u64 yroot, .int .u64 ychain] 25)) := (Below.refl _ _).alloc (Nat.le_refl _) _
      have hn0 : (0 : Int) ≤ (TN : Int) := by omega
      have hn1 : (TN : Int) ≤ (S.size : Int) := by omega
      rw [HTN.out]
      go_wp2_with fail
      refine (HPy.out _ TA).mono ?_
      rintro e v2 ⟨hp3, hv2⟩
      have TV2 := TV1.trans ((TA.trans (hv2.mono TA.size)).mono TV1.size)
      rcases hp3 with ⟨_, rfl⟩ | ⟨hno, _⟩
      · obtain ⟨X, HX⟩ : ∃ X : ByteArray, Hid ((⟨m.text.toArray⟩ : ByteArray) = X) := ⟨_, rfl⟩
        have hXe : X = S.extract 0 TN := by rw [← HX.out]; exact HEX.out.symm
        have hq := str_eq hXe
        rw [HX.out]
        clear hXe
        go_wp2
        go_ret
        exact ⟨rfl, hal0.trans (TV2.mono hal0.size)⟩
      · exact absurd HIs.out.1 hno
    · unfold zeroR Rcm.val Rcm.cells
      dsimp only
      go_wp2
      go_ret
      have TV3 := TV1.alloc TV1.size (.cells #[.int .i64 0, .slice none 0 0, .int .i64 0, .int .u64 0, .int .u64 0] 25)
      exact ⟨rfl, hal0.trans (TV3.mono hal0.size)⟩
  · clear hno
    have TB := T2
    go_wp2_with fail
    have SP2 := HPs.out _ TB
    go_wp2_with fail
    refine SP2.mono ?_
    rintro e v1 ⟨hp2, hv1⟩
    have TV1 := TB.trans (hv1.mono TB.size)
    rcases hp2 with ⟨m, y, hIs, hy, ly, _, rfl⟩ | ⟨_, rfl⟩
    · have HIs := Lib.hid hIs
      have HY := Lib.hid hy
      have HPy : Hid (∀ q, Below v1.heap.size v1 q → Calls Tryd.prog 7 #[y.val] q fun e w' => PrintR m e ∧ Below q.heap.size q w') := fun q hq => by
        have hroot : y.root = m.root := by rw [← hy]; rfl
        have hchain : y.chain = m.chain := by rw [← hy]; rfl
        have h := print_calls y m.b q (ly.below hq (Nat.le_refl _)) (by rw [hroot]; exact hIs.1.root.1) (by rw [hchain]; exact hIs.1.chain.1) (KL.out _ (TV1.trans (hq.mono TV1.size)))
        rw [hy] at h
        exact h
      have hlen : m.text.length ≤ S.size := by
        have h := hIs.2.length_le
        rw [← HSd.out] at h
        exact h
      obtain ⟨TN, HTN⟩ : ∃ n, Hid (m.text.length = n) := ⟨_, rfl⟩
      rw [HTN.out] at hlen
      have hex : S.extract 0 TN = ⟨m.text.toArray⟩ := by
        apply ByteArray.ext
        apply Array.toList_inj.1
        rw [Lib.extract_from_zero, HSd.out]
        obtain ⟨t, ht⟩ := hIs.2
        rw [← ht, ← HTN.out]
        simp
      have HEX := Lib.hid hex
      clear hIs hy hex
      obtain ⟨ys, ya, yn, yk, yr, yroot, ychain⟩ := y
      simp only [Rcm.val, Rcm.cells] at *
      have TA : Below v1.heap.size v1 (v1.alloc (.cells #[.int .i64 ys, .slice ya yn yk, .int .i64 yr, .int .u64 yroot, .int .u64 ychain] 25)) := (Below.refl _ _).alloc (Nat.le_refl _) _
      have hn0 : (0 : Int) ≤ (TN : Int) := by omega
      have hn1 : (TN : Int) ≤ (S.size : Int) := by omega
      rw [HTN.out]
      go_wp2_with fail
      refine (HPy.out _ TA).mono ?_
      rintro e v2 ⟨hp3, hv2⟩
      have TV2 := TV1.trans ((TA.trans (hv2.mono TA.size)).mono TV1.size)
      rcases hp3 with ⟨_, rfl⟩ | ⟨hno, _⟩
      · obtain ⟨X, HX⟩ : ∃ X : ByteArray, Hid ((⟨m.text.toArray⟩ : ByteArray) = X) := ⟨_, rfl⟩
        have hXe : X = S.extract 0 TN := by rw [← HX.out]; exact HEX.out.symm
        have hq := str_eq hXe
        rw [HX.out]
        clear hXe
        go_wp2
        go_ret
        exact ⟨rfl, hal0.trans (TV2.mono hal0.size)⟩
      · exact absurd HIs.out.1 hno
    · unfold zeroR Rcm.val Rcm.cells
      dsimp only
      go_wp2
      go_ret
      have TV3 := TV1.alloc TV1.size (.cells #[.int .i64 0, .slice none 0 0, .int .i64 0, .int .u64 0, .int .u64 0] 25)
      exact ⟨rfl, hal0.trans (TV3.mono hal0.size)⟩
end Go.Proofs.YtbahdapjpkdalaaDoor.Fx
