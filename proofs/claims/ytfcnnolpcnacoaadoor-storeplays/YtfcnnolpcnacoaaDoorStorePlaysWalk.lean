/- StorePlays' walk: whatever room and calls are handed in, it returns true. -/
import Derived.Test.YtfcnnolpcnacoaaDoorStG
import Derived.Test.YtfcnnolpcnacoaaDoorRefStA
import Derived.Test.YtfcnnolpcnacoaaDoorRefStF
import Derived.Test.YtfcnnolpcnacoaaDoorSameS
import Derived.Test.YtfcnnolpcnacoaaDoorStCl
namespace Go.Proofs.YtfcnnolpcnacoaaDoor.Fx
open Go.RowKit

theorem recZ_lnP {x y : Rcm} {xs ys : List Int} (h : x.ln xs = y.ln ys) : recZ x y xs ys = true := by
  simp only [Rcm.ln, Ln.mk.injEq] at h
  obtain ⟨h1, h2, h3, h4, h5⟩ := h
  simp [recZ, likeZ, h1, h2, h3, h4, h5]
theorem recsZ_all {n : Nat} {X Y : Nat → Rcm} {D : Nat → List Int} (h : ∀ j, j < n → (X j).ln (D j) = (Y j).ln (D j)) : recsZ n n X Y D D = true := by
  unfold recsZ
  rw [decide_eq_true rfl, Bool.true_and, List.all_eq_true]
  exact fun j hj => recZ_lnP (h j (List.mem_range.1 hj))

set_option maxRecDepth 100000 in
set_option maxHeartbeats 1600000 in
theorem storePlays_core (room : Int) (a : Option Addr) (n cap : Nat) (C : Nat → Clm) (D : Nat → List Int) (w : World) (hr : -9223372036854775808 ≤ room ∧ room ≤ 9223372036854775807) (hC : ClsIn w a n cap C D) (hL : LD w) :
    Calls Tryd.prog 3 #[.int .i64 room, .slice a n cap] w fun e w' => e = .returned (.bool true) ∧ Below w.heap.size w w' := by
  by_cases hrm : room < 0 ∨ 8192 < room
  · have hin : inZ room 0 8192 = false := by
      cases h : inZ room 0 8192 with
      | false => rfl
      | true => have := inZ_iff.1 h; omega
    have HNw := Lib.hid (new_bad room hrm w)
    clear hrm
    go_enter Tryd.func3, Tryd.ntmps3
    go_wp2_with (first | (go_at_call 5; refine HNw.out.mono ?_; rintro e w1 ⟨rfl, hw1⟩; replace hw1 := hw1.symm; subst hw1) | (go_at_call 6; refine (rinZ_calls _ _ _ _).mono ?_; rintro e w1 ⟨rfl, hw1⟩; replace hw1 := hw1.symm; subst hw1))
    go_ret
    exact ⟨rfl, Below.refl _ _⟩
  · have r0 : 0 ≤ room := by omega
    have r1 : room ≤ 8192 := by omega
    have hin : inZ room 0 8192 = true := inZ_iff.2 ⟨r0, r1⟩
    have HNw := Lib.hid (new_good room r0 r1 w)
    obtain ⟨W1, HW1⟩ : ∃ W1, Hid (w.alloc (.cells #[.string ⟨#[]⟩, .int .i64 room, .int .i64 0] 49) = W1) := ⟨_, rfl⟩
    have hal : Below w.heap.size w W1 := by rw [← HW1.out]; exact (Below.refl _ _).alloc (Nat.le_refl _) _
    have S0 : StAt W1 w.heap.size [] room ((0 : Nat) : Int) := by rw [← HW1.out]; exact StAt.made w room
    have KL : Hid (∀ q, Below w.heap.size w q → LD q) := fun q hq => hL.below hq (Nat.le_refl _)
    rw [HW1.out] at HNw
    clear hrm hL
    by_cases h60 : 60 < n
    · have h60' : (60 : Int) < (n : Int) := by omega
      go_enter Tryd.func3, Tryd.ntmps3
      go_wp2_with (first | (go_at_call 5; refine HNw.out.mono ?_; rintro e w1 ⟨rfl, hw1⟩; replace hw1 := hw1.symm; subst hw1) | (go_at_call 6; refine (rinZ_calls _ _ _ _).mono ?_; rintro e w1 ⟨rfl, hw1⟩; replace hw1 := hw1.symm; subst hw1))
      go_ret
      exact ⟨rfl, hal⟩
    · have h60' : ¬ (60 : Int) < (n : Int) := by omega
      have HCe := Lib.hid hC.each
      have KC : Hid (∀ q k, Below w.heap.size w q → k < n → ∃ cb co, a = some ⟨cb, co, none⟩ ∧ q.cell? ⟨cb, co + k * 7, none⟩ = some (.int .i64 (C k).kind) ∧ q.cell? ⟨cb, co + k * 7 + 1, none⟩ = some (.int .i64 (C k).x.s) ∧ q.cell? ⟨cb, co + k * 7 + 2, none⟩ = some (.slice (C k).x.a (C k).x.n (C k).x.k) ∧ q.cell? ⟨cb, co + k * 7 + 3, none⟩ = some (.int .i64 (C k).x.r) ∧ q.cell? ⟨cb, co + k * 7 + 4, none⟩ = some (.int .u64 (C k).x.root) ∧ q.cell? ⟨cb, co + k * 7 + 5, none⟩ = some (.int .u64 (C k).x.chain) ∧ q.cell? ⟨cb, co + k * 7 + 6, none⟩ = some (.int .i64 (C k).keep)) := fun q k hq hk => by
        rcases hC.cells with h0 | ⟨cb, co, e, hb, hc⟩
        · omega
        · obtain ⟨q0, q1, q2, q3, q4, q5, q6⟩ := hc k hk
          exact ⟨cb, co, e, (hq.cell (p := ⟨cb, co + k * 7, none⟩) hb).trans q0, (hq.cell (p := ⟨cb, co + k * 7 + 1, none⟩) hb).trans q1, (hq.cell (p := ⟨cb, co + k * 7 + 2, none⟩) hb).trans q2, (hq.cell (p := ⟨cb, co + k * 7 + 3, none⟩) hb).trans q3, (hq.cell (p := ⟨cb, co + k * 7 + 4, none⟩) hb).trans q4, (hq.cell (p := ⟨cb, co + k * 7 + 5, none⟩) hb).trans q5, (hq.cell (p := ⟨cb, co + k * 7 + 6, none⟩) hb).trans q6⟩
      have hst : w.heap.size < W1.heap.size := S0.lt
      clear hC
      go_enter Tryd.func3, Tryd.ntmps3
      go_wp2_with (first | (go_at_call 5; refine HNw.out.mono ?_; rintro e w1 ⟨rfl, hw1⟩; replace hw1 := hw1.symm; subst hw1) | (go_at_call 6; refine (rinZ_calls _ _ _ _).mono ?_; rintro e w1 ⟨rfl, hw1⟩; replace hw1 := hw1.symm; subst hw1))
      clear HNw
      go_loopw [7, 8, 45] (fun bv sv i wr => ∃ (k : Nat) (T : List UInt8) (SY : Nat) (X : ByteArray), k ≤ n ∧ bv = .string X ∧ sv = .int .i64 SY ∧ i = .int .i64 k ∧ Hid ((⟨T.toArray⟩ : ByteArray) = X) ∧ StAt wr w.heap.size T room SY ∧ SY ≤ T.length ∧ (T.length : Int) ≤ room ∧ Below w.heap.size w wr) (fun _ _ i _ => n - (intOf i).toNat)
      case atStart => exact ⟨0, [], 0, _, Nat.zero_le _, rfl, rfl, rfl, rfl, S0, Nat.le_refl _, r0, hal⟩
      case round =>
        obtain ⟨k, T, SY, X, hk, rfl, rfl, rfl, HX, ST, hSY, hTr, TB⟩ := hrel
        by_cases hlt : k < n
        · obtain ⟨cb, co, rfl, e0, e1, e2, e3, e4, e5, e6⟩ := KC.out _ k TB hlt
          have HRI := Lib.hid (HCe.out k hlt)
          generalize C k = ck at e0 e1 e2 e3 e4 e5 e6 HRI
          obtain ⟨kd, ⟨xs, xa, xn, xk, xr, xroot, xchain⟩, kp⟩ := ck
          dsimp only at e0 e1 e2 e3 e4 e5 e6 HRI
          obtain ⟨WQ, HWQ⟩ : ∃ q, Hid (wr.alloc (.cells #[.int .i64 kd, .int .i64 xs, .slice xa xn xk, .int .i64 xr, .int .u64 xroot, .int .u64 xchain, .int .i64 kp] 33) = q) := ⟨_, rfl⟩
          have AQ : Below wr.heap.size wr WQ := by rw [← HWQ.out]; exact (Below.refl _ _).alloc (Nat.le_refl _) _
          have B7 : WQ.rowIs wr.heap.size 33 7 (fn7 (.int .i64 kd) (.int .i64 xs) (.slice xa xn xk) (.int .i64 xr) (.int .u64 xroot) (.int .u64 xchain) (.int .i64 kp)) := by rw [← HWQ.out]; exact fn7_alloc _ _ _ _ _ _ _ _ _
          have STq := ST.below AQ
          have TBq := TB.trans (AQ.mono TB.size)
          have HXs : Hid (X.size = T.length) := by show _ = _; rw [← HX.out]; rfl
          have hTN : T.length ≤ 8192 := by omega
          have hbw : w.heap.size ≤ w.heap.size := Nat.le_refl _
          have KLst : Hid (∀ q, Below w.heap.size w q → Lst q xa xn xk (D k)) := fun q hq => HRI.out.l.below hq (Nat.le_refl _)
          have KBox : Hid (∀ q, Below WQ.heap.size WQ q → Box7 q wr.heap.size (.int .i64 kd) (.int .i64 xs) (.slice xa xn xk) (.int .i64 xr) (.int .u64 xroot) (.int .u64 xchain) (.int .i64 kp)) := fun q hq => fn7_box (B7.of_block (hq.block _ B7.lt))
          have hrn : xn ≤ 9223372036854775807 := Nat.le_trans HRI.out.n (by decide)
          have rt0 : 0 ≤ xroot := HRI.out.root.1
          have ch0 : 0 ≤ xchain := HRI.out.chain.1
          have kn : (k : Int) < (n : Int) := by omega
          have k0 : (0 : Int) ≤ (k : Int) := by omega
          have UP : Hid (∀ q, Below WQ.heap.size WQ q → Below w.heap.size w q) := fun q hq => TBq.trans (hq.mono TBq.size)
          by_cases hk0 : kd = 0
          · have kb0 : (kd == 0) = true := by rw [hk0]; rfl
            obtain ⟨M, HM⟩ : ∃ M, Hid (Rcm.ln ⟨xs, xa, xn, xk, xr, xroot, xchain⟩ (D k) = M) := ⟨_, rfl⟩
            have HLi : Hid (∀ q, Below WQ.heap.size WQ q → Calls Tryd.prog 7 #[.agg #[.int .i64 xs, .slice xa xn xk, .int .i64 xr, .int .u64 xroot, .int .u64 xchain]] q fun e w' => IsB e M.ok ∧ Below q.heap.size q w') := fun q hq => by rw [← HM.out]; exact rline_calls ⟨xs, xa, xn, xk, xr, xroot, xchain⟩ (D k) q (KLst.out q (UP.out q hq)) rt0 ch0 hrn
            have HTx : Hid (∀ q, Below WQ.heap.size WQ q → M.ok → Calls Tryd.prog 8 #[.agg #[.int .i64 xs, .slice xa xn xk, .int .i64 xr, .int .u64 xroot, .int .u64 xchain]] q fun e w' => e = .returned (.string ⟨M.text.toArray⟩) ∧ Below q.heap.size q w') := fun q hq hok => by rw [← HM.out] at hok ⊢; exact rtext_calls ⟨xs, xa, xn, xk, xr, xroot, xchain⟩ (D k) q (KLst.out q (UP.out q hq)) hok (KL.out q (UP.out q hq))
            have HAp : Hid (∀ q, Below WQ.heap.size WQ q → Calls Tryd.prog 9 #[.pointer (some ⟨w.heap.size, 0, none⟩), .agg #[.int .i64 xs, .slice xa xn xk, .int .i64 xr, .int .u64 xroot, .int .u64 xchain]] q fun e w' => ∃ (E : Int) (T' : List UInt8), AppR M T room E T' ∧ e = .returned (.int .i64 E) ∧ StAt w' w.heap.size T' room SY ∧ Keeps w.heap.size q w') := fun q hq => by rw [← HM.out]; exact append_calls w.heap.size T room SY hTN ⟨xs, xa, xn, xk, xr, xroot, xchain⟩ (D k) q (STq.below hq) (KLst.out q (UP.out q hq)) rt0 ch0 (KL.out q (UP.out q hq))
            obtain ⟨c0, c1, c2, c3, c4, c5, c6⟩ := KBox.out _ (Below.refl _ _)
            clear hk0
            go_wp2_with fail
            rw [HWQ.out]
            refine (HLi.out _ (Below.refl _ _)).mono ?_
            rintro e u1 ⟨⟨bb, rfl, HB⟩, hu1⟩
            clear c0 c1 c2 c3 c4 c5 c6
            obtain ⟨c0, c1, c2, c3, c4, c5, c6⟩ := KBox.out _ hu1
            cases bb with
            | false =>
              have HNo := Lib.hid HB.no
              clear HB
              go_wp2_with fail
              refine (HAp.out _ hu1).mono ?_
              rintro e wq ⟨E, T2, hA, rfl, ST2, hK⟩
              have TB2 := hK.below (UP.out _ hu1) (Nat.le_refl _) (UP.out _ hu1).size
              rcases hA with ⟨_, rfl, hT2⟩ | ⟨hok, _⟩ | ⟨hok, _⟩
              rotate_left
              · exact absurd hok HNo.out
              · exact absurd hok HNo.out
              rw [hT2] at ST2
              clear c0 c1 c2 c3 c4 c5 c6 hT2
              have LQ := KL.out _ TB2
              have HXd2 : Hid (X.data.toList = T) := by show _ = _; rw [← HX.out]
              have hXs2 : X.size ≤ 1048576 := by
                have h : X.size = T.length := by rw [← HX.out]; rfl
                omega
              have HBg := Lib.hid (rbegin_calls X T wq HXd2 hXs2 LQ)
              go_wp2_with fail
              refine HBg.out.mono ?_
              rintro e q1 ⟨⟨ls, ra, rc, R, hB, hE, hR, rfl⟩, hq1⟩
              have S1 := ST2.below hq1
              have TQ1 := TB2.trans (hq1.mono TB2.size)
              have HBy := Lib.hid (bytes_calls w.heap.size T room SY hTN q1 S1)
              rw [HX.out] at HBy
              have HBs := Lib.hid hB
              have HEs := Lib.hid hE
              go_wp2_with fail
              refine HBy.out.mono ?_
              rintro e q2 ⟨rfl, hq2⟩
              have S2 := S1.below hq2
              have TQ2 := TQ1.trans (hq2.mono TQ1.size)
              have HRc := Lib.hid (records_calls w.heap.size T room SY hTN q2 S2 (KL.out _ TQ2))
              have hR2 := hR.below hq2 (Nat.le_refl _)
              clear hB hE hR
              go_wp2_with fail
              refine HRc.out.mono ?_
              rintro e q3 ⟨⟨ls', ra', rc', R', hB', hE', hR', rfl⟩, hq3⟩
              obtain rfl : ls = ls' := HBs.out.unique hB'
              have hR3 := hR2.below hq3 (Nat.le_refl _)
              have TQ3 := TQ2.trans (hq3.mono TQ2.size)
              have S3 := S2.below hq3
              have SM := rsameRZ_calls ra' ra ls.length ls.length rc' rc R' R (fun j => (lnAt ls j).b) (fun j => (lnAt ls j).b) q3 hR' hR3 (by have := HBs.out.toBegTo.len; omega) (fun j hj => by
                have h1 : Lst q3 (R' j).a (R' j).n (R' j).k (lnAt ls j).b := by
                  rcases hR'.2 with h | ⟨_, _, _, _, h⟩
                  · omega
                  · exact (h j hj).2.2.2.2.2
                have h2 := (HBs.out.ok j hj).n
                have h3 := h1.len
                omega)
              rw [recsZ_all (fun j hj => (hE' j hj).trans (HEs.out j hj).symm)] at SM
              have HSM := Lib.hid SM
              clear SM hB' hE' hR' hR2 hR3
              go_wp2_with fail
              refine HSM.out.mono ?_
              rintro e q4 ⟨rfl, hq4⟩
              have S4 := S3.below hq4
              have TQ4 := TQ3.trans (hq4.mono TQ3.size)
              go_wp2_with fail
              go_roundw
              case rel => exact ⟨k + 1, T, SY, X, by omega, by trivial, by trivial, by go_num, HX, S4, hSY, hTr, TQ4⟩
              case measure => simp [intOf]; omega
            | true =>
              have HOk := Lib.hid HB.yes
              clear HB
              have STx := HTx.out _ hu1 HOk.out
              obtain ⟨Y, HY⟩ : ∃ Y : ByteArray, Hid ((⟨M.text.toArray⟩ : ByteArray) = Y) := ⟨_, rfl⟩
              obtain ⟨YN, HYN⟩ : ∃ n, Hid (M.text.length = n) := ⟨_, rfl⟩
              have hyn : Y.size = YN := by rw [← HY.out, ← HYN.out]; rfl
              have hsh : YN ≤ 78 := by rw [← HYN.out]; exact HOk.out.short
              rw [HY.out] at STx
              have hxs := HXs.out
              have wr1 : IntKind.i64.wrap ((T.length : Int) + (YN : Int)) = (T.length : Int) + (YN : Int) := wrap_in _ (by omega) (by omega)
              have hcat : ¬ 9223372036854775807 < X.size + Y.size := by omega
              have hcat2 : ¬ 9223372036854775807 < T.length + YN := by omega
              go_wp2_with fail
              refine STx.mono ?_
              rintro e u2 ⟨rfl, hu2⟩
              have U2 := hu1.trans (hu2.mono hu1.size)
              clear c0 c1 c2 c3 c4 c5 c6
              obtain ⟨c0, c1, c2, c3, c4, c5, c6⟩ := KBox.out _ U2
              by_cases hfit : (T.length : Int) + (YN : Int) ≤ room
              · go_wp2_with fail
                refine (HAp.out _ U2).mono ?_
                rintro e wq ⟨E, T2, hA, rfl, ST2, hK⟩
                have TB2 := hK.below (UP.out _ U2) (Nat.le_refl _) (UP.out _ U2).size
                rcases hA with ⟨hno, _⟩ | ⟨_, hfull, _⟩ | ⟨_, _, rfl, hT2⟩
                · exact absurd HOk.out hno
                · have := HYN.out; omega
                obtain ⟨X2, HXX⟩ : ∃ Z, Hid (X ++ Y = Z) := ⟨_, rfl⟩
                have HX2 : Hid ((⟨T2.toArray⟩ : ByteArray) = X2) := by show _ = _; rw [hT2, ← HXX.out, ← HX.out, ← HY.out, arr_cat2]
                have h2l : T2.length = T.length + YN := by rw [hT2, List.length_append, HYN.out]
                have h2a : SY ≤ T2.length := by omega
                have h2b : (T2.length : Int) ≤ room := by omega
                have h2c : T2.length ≤ 8192 := by omega
                clear c0 c1 c2 c3 c4 c5 c6 hT2 hcat hcat2 wr1 hyn hsh h2l hxs
                rw [HXX.out]
                have LQ := KL.out _ TB2
                have HXd2 : Hid (X2.data.toList = T2) := by show _ = _; rw [← HX2.out]
                have hXs2 : X2.size ≤ 1048576 := by
                  have h : X2.size = T2.length := by rw [← HX2.out]; rfl
                  omega
                have HBg := Lib.hid (rbegin_calls X2 T2 wq HXd2 hXs2 LQ)
                go_wp2_with fail
                refine HBg.out.mono ?_
                rintro e q1 ⟨⟨ls, ra, rc, R, hB, hE, hR, rfl⟩, hq1⟩
                have S1 := ST2.below hq1
                have TQ1 := TB2.trans (hq1.mono TB2.size)
                have HBy := Lib.hid (bytes_calls w.heap.size T2 room SY h2c q1 S1)
                rw [HX2.out] at HBy
                have HBs := Lib.hid hB
                have HEs := Lib.hid hE
                go_wp2_with fail
                refine HBy.out.mono ?_
                rintro e q2 ⟨rfl, hq2⟩
                have S2 := S1.below hq2
                have TQ2 := TQ1.trans (hq2.mono TQ1.size)
                have HRc := Lib.hid (records_calls w.heap.size T2 room SY h2c q2 S2 (KL.out _ TQ2))
                have hR2 := hR.below hq2 (Nat.le_refl _)
                clear hB hE hR
                go_wp2_with fail
                refine HRc.out.mono ?_
                rintro e q3 ⟨⟨ls', ra', rc', R', hB', hE', hR', rfl⟩, hq3⟩
                obtain rfl : ls = ls' := HBs.out.unique hB'
                have hR3 := hR2.below hq3 (Nat.le_refl _)
                have TQ3 := TQ2.trans (hq3.mono TQ2.size)
                have S3 := S2.below hq3
                have SM := rsameRZ_calls ra' ra ls.length ls.length rc' rc R' R (fun j => (lnAt ls j).b) (fun j => (lnAt ls j).b) q3 hR' hR3 (by have := HBs.out.toBegTo.len; omega) (fun j hj => by
                  have h1 : Lst q3 (R' j).a (R' j).n (R' j).k (lnAt ls j).b := by
                    rcases hR'.2 with h | ⟨_, _, _, _, h⟩
                    · omega
                    · exact (h j hj).2.2.2.2.2
                  have h2 := (HBs.out.ok j hj).n
                  have h3 := h1.len
                  omega)
                rw [recsZ_all (fun j hj => (hE' j hj).trans (HEs.out j hj).symm)] at SM
                have HSM := Lib.hid SM
                clear SM hB' hE' hR' hR2 hR3
                go_wp2_with fail
                refine HSM.out.mono ?_
                rintro e q4 ⟨rfl, hq4⟩
                have S4 := S3.below hq4
                have TQ4 := TQ3.trans (hq4.mono TQ3.size)
                go_wp2_with fail
                go_roundw
                case rel => exact ⟨k + 1, T2, SY, X2, by omega, by trivial, by trivial, by go_num, HX2, S4, h2a, h2b, TQ4⟩
                case measure => simp [intOf]; omega
              · go_wp2_with fail
                refine (HAp.out _ U2).mono ?_
                rintro e wq ⟨E, T2, hA, rfl, ST2, hK⟩
                have TB2 := hK.below (UP.out _ U2) (Nat.le_refl _) (UP.out _ U2).size
                rcases hA with ⟨hno, _⟩ | ⟨_, _, rfl, hT2⟩ | ⟨_, hfit2, _⟩
                rotate_left 2
                · have := HYN.out; omega
                · exact absurd HOk.out hno
                rw [hT2] at ST2
                clear c0 c1 c2 c3 c4 c5 c6 hcat hcat2 wr1 hyn hsh hxs hT2
                have LQ := KL.out _ TB2
                have HXd2 : Hid (X.data.toList = T) := by show _ = _; rw [← HX.out]
                have hXs2 : X.size ≤ 1048576 := by
                  have h : X.size = T.length := by rw [← HX.out]; rfl
                  omega
                have HBg := Lib.hid (rbegin_calls X T wq HXd2 hXs2 LQ)
                go_wp2_with fail
                refine HBg.out.mono ?_
                rintro e q1 ⟨⟨ls, ra, rc, R, hB, hE, hR, rfl⟩, hq1⟩
                have S1 := ST2.below hq1
                have TQ1 := TB2.trans (hq1.mono TB2.size)
                have HBy := Lib.hid (bytes_calls w.heap.size T room SY hTN q1 S1)
                rw [HX.out] at HBy
                have HBs := Lib.hid hB
                have HEs := Lib.hid hE
                go_wp2_with fail
                refine HBy.out.mono ?_
                rintro e q2 ⟨rfl, hq2⟩
                have S2 := S1.below hq2
                have TQ2 := TQ1.trans (hq2.mono TQ1.size)
                have HRc := Lib.hid (records_calls w.heap.size T room SY hTN q2 S2 (KL.out _ TQ2))
                have hR2 := hR.below hq2 (Nat.le_refl _)
                clear hB hE hR
                go_wp2_with fail
                refine HRc.out.mono ?_
                rintro e q3 ⟨⟨ls', ra', rc', R', hB', hE', hR', rfl⟩, hq3⟩
                obtain rfl : ls = ls' := HBs.out.unique hB'
                have hR3 := hR2.below hq3 (Nat.le_refl _)
                have TQ3 := TQ2.trans (hq3.mono TQ2.size)
                have S3 := S2.below hq3
                have SM := rsameRZ_calls ra' ra ls.length ls.length rc' rc R' R (fun j => (lnAt ls j).b) (fun j => (lnAt ls j).b) q3 hR' hR3 (by have := HBs.out.toBegTo.len; omega) (fun j hj => by
                  have h1 : Lst q3 (R' j).a (R' j).n (R' j).k (lnAt ls j).b := by
                    rcases hR'.2 with h | ⟨_, _, _, _, h⟩
                    · omega
                    · exact (h j hj).2.2.2.2.2
                  have h2 := (HBs.out.ok j hj).n
                  have h3 := h1.len
                  omega)
                rw [recsZ_all (fun j hj => (hE' j hj).trans (HEs.out j hj).symm)] at SM
                have HSM := Lib.hid SM
                clear SM hB' hE' hR' hR2 hR3
                go_wp2_with fail
                refine HSM.out.mono ?_
                rintro e q4 ⟨rfl, hq4⟩
                have S4 := S3.below hq4
                have TQ4 := TQ3.trans (hq4.mono TQ3.size)
                go_wp2_with fail
                go_roundw
                case rel => exact ⟨k + 1, T, SY, X, by omega, by trivial, by trivial, by go_num, HX, S4, hSY, hTr, TQ4⟩
                case measure => simp [intOf]; omega
          · have kb0 : (kd == 0) = false := by simpa using hk0
            have hxs := HXs.out
            have hbne : wr.heap.size ≠ w.heap.size := by have := ST.lt; omega
            by_cases hk1 : kd = 1
            · have kb1 : (kd == 1) = true := by rw [hk1]; rfl
              have HSy := Lib.hid (sync_calls w.heap.size T room SY WQ STq)
              obtain ⟨c0, c1, c2, c3, c4, c5, c6⟩ := KBox.out _ (Below.refl _ _)
              clear hk0 hk1
              go_wp2_with fail
              rw [HWQ.out]
              refine HSy.out.mono ?_
              rintro e wq ⟨rfl, ST2, hK⟩
              have TB2 := hK.below TBq (Nat.le_refl _) TBq.size
              clear c0 c1 c2 c3 c4 c5 c6
              have LQ := KL.out _ TB2
              have HXd2 : Hid (X.data.toList = T) := by show _ = _; rw [← HX.out]
              have hXs2 : X.size ≤ 1048576 := by
                have h : X.size = T.length := by rw [← HX.out]; rfl
                omega
              have HBg := Lib.hid (rbegin_calls X T wq HXd2 hXs2 LQ)
              go_wp2_with fail
              refine HBg.out.mono ?_
              rintro e q1 ⟨⟨ls, ra, rc, R, hB, hE, hR, rfl⟩, hq1⟩
              have S1 := ST2.below hq1
              have TQ1 := TB2.trans (hq1.mono TB2.size)
              have HBy := Lib.hid (bytes_calls w.heap.size T room T.length hTN q1 S1)
              rw [HX.out] at HBy
              have HBs := Lib.hid hB
              have HEs := Lib.hid hE
              go_wp2_with fail
              refine HBy.out.mono ?_
              rintro e q2 ⟨rfl, hq2⟩
              have S2 := S1.below hq2
              have TQ2 := TQ1.trans (hq2.mono TQ1.size)
              have HRc := Lib.hid (records_calls w.heap.size T room T.length hTN q2 S2 (KL.out _ TQ2))
              have hR2 := hR.below hq2 (Nat.le_refl _)
              clear hB hE hR
              go_wp2_with fail
              refine HRc.out.mono ?_
              rintro e q3 ⟨⟨ls', ra', rc', R', hB', hE', hR', rfl⟩, hq3⟩
              obtain rfl : ls = ls' := HBs.out.unique hB'
              have hR3 := hR2.below hq3 (Nat.le_refl _)
              have TQ3 := TQ2.trans (hq3.mono TQ2.size)
              have S3 := S2.below hq3
              have SM := rsameRZ_calls ra' ra ls.length ls.length rc' rc R' R (fun j => (lnAt ls j).b) (fun j => (lnAt ls j).b) q3 hR' hR3 (by have := HBs.out.toBegTo.len; omega) (fun j hj => by
                have h1 : Lst q3 (R' j).a (R' j).n (R' j).k (lnAt ls j).b := by
                  rcases hR'.2 with h | ⟨_, _, _, _, h⟩
                  · omega
                  · exact (h j hj).2.2.2.2.2
                have h2 := (HBs.out.ok j hj).n
                have h3 := h1.len
                omega)
              rw [recsZ_all (fun j hj => (hE' j hj).trans (HEs.out j hj).symm)] at SM
              have HSM := Lib.hid SM
              clear SM hB' hE' hR' hR2 hR3
              go_wp2_with fail
              refine HSM.out.mono ?_
              rintro e q4 ⟨rfl, hq4⟩
              have S4 := S3.below hq4
              have TQ4 := TQ3.trans (hq4.mono TQ3.size)
              go_wp2_with fail
              go_roundw
              case rel => exact ⟨k + 1, T, T.length, X, by omega, by trivial, by trivial, by go_num, HX, S4, (Nat.le_refl _), hTr, TQ4⟩
              case measure => simp [intOf]; omega
            · have kb1 : (kd == 1) = false := by simpa using hk1
              by_cases hk2 : kd = 2
              · have kb2 : (kd == 2) = true := by rw [hk2]; rfl
                have HCr := Lib.hid (crash_calls w.heap.size T room SY hSY hTN kp WQ STq)
                have hcl := crN_le kp hSY
                obtain ⟨N, HN⟩ : ∃ N, Hid (crN T.length SY kp = N) := ⟨_, rfl⟩
                rw [HN.out] at HCr hcl
                obtain ⟨Mx, HMx⟩ : ∃ M : Int, Hid (max 0 (min kp ((T.length : Int) - (SY : Int))) = M) := ⟨_, rfl⟩
                have hmx : max 0 (min kp ((T.length : Int) - (SY : Int))) = Mx := HMx.out
                have hsum : (SY : Int) + Mx = (N : Int) := by
                  have h1 := HN.out
                  have h2 := HMx.out
                  unfold crN at h1
                  omega
                have wrA : IntKind.i64.wrap ((T.length : Int) - (SY : Int)) = (T.length : Int) - (SY : Int) := wrap_in _ (by omega) (by omega)
                have wrB : IntKind.i64.wrap ((SY : Int) + Mx) = (N : Int) := by rw [hsum]; exact wrap_in _ (by omega) (by omega)
                obtain ⟨T2, HT2⟩ : ∃ t, Hid (T.take N = t) := ⟨_, rfl⟩
                have h2l : T2.length = N := by rw [← HT2.out, List.length_take]; omega
                rw [HT2.out] at HCr
                obtain ⟨X2, HXX⟩ : ∃ Z, Hid (X.extract 0 N = Z) := ⟨_, rfl⟩
                have HX2 : Hid ((⟨T2.toArray⟩ : ByteArray) = X2) := by show _ = _; rw [← HXX.out, ← HX.out, take_arr, HT2.out]
                have hx2 : X2.size = N := by rw [← HX2.out]; exact h2l
                have hex : X.extract 0 N = X2 := HXX.out
                have n0 : (0 : Int) ≤ (N : Int) := by omega
                have n1 : (N : Int) ≤ (T.length : Int) := by omega
                have h2a : N ≤ T2.length := by omega
                have h2b : (T2.length : Int) ≤ room := by omega
                have h2c : T2.length ≤ 8192 := by omega
                obtain ⟨c0, c1, c2, c3, c4, c5, c6⟩ := KBox.out _ (Below.refl _ _)
                clear hk0 hk1 hk2 hsum hcl
                go_wp2_with fail
                rw [HWQ.out]
                refine HCr.out.mono ?_
                rintro e wq ⟨rfl, ST2, hK⟩
                have TB2 := hK.below TBq (Nat.le_refl _) TBq.size
                clear c0 c1 c2 c3 c4 c5 c6
                obtain ⟨c0, c1, c2, c3, c4, c5, c6⟩ := fn7_box (B7.of_block (hK.block _ B7.lt hbne))
                have LQ := KL.out _ TB2
                have HXd2 : Hid (X2.data.toList = T2) := by show _ = _; rw [← HX2.out]
                have hXs2 : X2.size ≤ 1048576 := by
                  have h : X2.size = T2.length := by rw [← HX2.out]; rfl
                  omega
                have HBg := Lib.hid (rbegin_calls X2 T2 wq HXd2 hXs2 LQ)
                go_wp2_with fail
                refine HBg.out.mono ?_
                rintro e q1 ⟨⟨ls, ra, rc, R, hB, hE, hR, rfl⟩, hq1⟩
                have S1 := ST2.below hq1
                have TQ1 := TB2.trans (hq1.mono TB2.size)
                have HBy := Lib.hid (bytes_calls w.heap.size T2 room N h2c q1 S1)
                rw [HX2.out] at HBy
                have HBs := Lib.hid hB
                have HEs := Lib.hid hE
                go_wp2_with fail
                refine HBy.out.mono ?_
                rintro e q2 ⟨rfl, hq2⟩
                have S2 := S1.below hq2
                have TQ2 := TQ1.trans (hq2.mono TQ1.size)
                have HRc := Lib.hid (records_calls w.heap.size T2 room N h2c q2 S2 (KL.out _ TQ2))
                have hR2 := hR.below hq2 (Nat.le_refl _)
                clear hB hE hR
                go_wp2_with fail
                refine HRc.out.mono ?_
                rintro e q3 ⟨⟨ls', ra', rc', R', hB', hE', hR', rfl⟩, hq3⟩
                obtain rfl : ls = ls' := HBs.out.unique hB'
                have hR3 := hR2.below hq3 (Nat.le_refl _)
                have TQ3 := TQ2.trans (hq3.mono TQ2.size)
                have S3 := S2.below hq3
                have SM := rsameRZ_calls ra' ra ls.length ls.length rc' rc R' R (fun j => (lnAt ls j).b) (fun j => (lnAt ls j).b) q3 hR' hR3 (by have := HBs.out.toBegTo.len; omega) (fun j hj => by
                  have h1 : Lst q3 (R' j).a (R' j).n (R' j).k (lnAt ls j).b := by
                    rcases hR'.2 with h | ⟨_, _, _, _, h⟩
                    · omega
                    · exact (h j hj).2.2.2.2.2
                  have h2 := (HBs.out.ok j hj).n
                  have h3 := h1.len
                  omega)
                rw [recsZ_all (fun j hj => (hE' j hj).trans (HEs.out j hj).symm)] at SM
                have HSM := Lib.hid SM
                clear SM hB' hE' hR' hR2 hR3
                go_wp2_with fail
                refine HSM.out.mono ?_
                rintro e q4 ⟨rfl, hq4⟩
                have S4 := S3.below hq4
                have TQ4 := TQ3.trans (hq4.mono TQ3.size)
                go_wp2_with fail
                go_roundw
                case rel => exact ⟨k + 1, T2, N, X2, by omega, by trivial, by trivial, by go_num, HX2, S4, h2a, h2b, TQ4⟩
                case measure => simp [intOf]; omega
              · have kb2 : (kd == 2) = false := by simpa using hk2
                by_cases hk3 : kd = 3
                · have kb3 : (kd == 3) = true := by rw [hk3]; rfl
                  have HXdT : Hid (X.data.toList = T) := by show _ = _; rw [← HX.out]
                  have HB3 := Lib.hid (rbegin_calls X T WQ HXdT (by omega) (KL.out _ TBq))
                  obtain ⟨c0, c1, c2, c3, c4, c5, c6⟩ := KBox.out _ (Below.refl _ _)
                  clear hk0 hk1 hk2 hk3
                  go_wp2_with fail
                  rw [HWQ.out]
                  refine HB3.out.mono ?_
                  rintro e u1 ⟨⟨ls0, ra0, rc0, R0, hB0, _, _, rfl⟩, hu1⟩
                  have HB0 := Lib.hid hB0
                  have HRp := Lib.hid (repair_calls w.heap.size T room SY hTN u1 (STq.below hu1) (KL.out _ (UP.out _ hu1)))
                  obtain ⟨N, HN⟩ : ∃ N, Hid ((flatL ls0).length = N) := ⟨_, rfl⟩
                  have hNT : N ≤ T.length := by rw [← HN.out]; exact hB0.toBegTo.le
                  rw [HN.out]
                  obtain ⟨T2, HT2⟩ : ∃ t, Hid (T.take N = t) := ⟨_, rfl⟩
                  have h2l : T2.length = N := by rw [← HT2.out, List.length_take]; omega
                  obtain ⟨X2, HXX⟩ : ∃ Z, Hid (X.extract 0 N = Z) := ⟨_, rfl⟩
                  have HX2 : Hid ((⟨T2.toArray⟩ : ByteArray) = X2) := by show _ = _; rw [← HXX.out, ← HX.out, take_arr, HT2.out]
                  have hex : X.extract 0 N = X2 := HXX.out
                  have wrA : IntKind.i64.wrap ((T.length : Int) - (N : Int)) = (T.length : Int) - (N : Int) := wrap_in _ (by omega) (by omega)
                  have n0 : (0 : Int) ≤ (N : Int) := by omega
                  have n1 : (N : Int) ≤ (T.length : Int) := by omega
                  have h2a : N ≤ T2.length := by omega
                  have h2b : (T2.length : Int) ≤ room := by omega
                  have h2c : T2.length ≤ 8192 := by omega
                  clear c0 c1 c2 c3 c4 c5 c6 hB0
                  go_wp2_with fail
                  refine HRp.out.mono ?_
                  rintro e wq ⟨ls1, N1, hB1, HN1, hN1, rfl, ST2, hK⟩
                  obtain rfl : N = N1 := by
                    have e := HB0.out.unique hB1
                    subst e
                    rw [← HN.out, ← HN1.out]
                  rw [HT2.out] at ST2
                  have TB2 := hK.below (UP.out _ hu1) (Nat.le_refl _) (UP.out _ hu1).size
                  have hself : (((T.length : Int) - (N : Int)) != ((T.length : Int) - (N : Int))) = false := by simp
                  clear hB1
                  have LQ := KL.out _ TB2
                  have HXd2 : Hid (X2.data.toList = T2) := by show _ = _; rw [← HX2.out]
                  have hXs2 : X2.size ≤ 1048576 := by
                    have h : X2.size = T2.length := by rw [← HX2.out]; rfl
                    omega
                  have HBg := Lib.hid (rbegin_calls X2 T2 wq HXd2 hXs2 LQ)
                  go_wp2_with fail
                  refine HBg.out.mono ?_
                  rintro e q1 ⟨⟨ls, ra, rc, R, hB, hE, hR, rfl⟩, hq1⟩
                  have S1 := ST2.below hq1
                  have TQ1 := TB2.trans (hq1.mono TB2.size)
                  have HBy := Lib.hid (bytes_calls w.heap.size T2 room N h2c q1 S1)
                  rw [HX2.out] at HBy
                  have HBs := Lib.hid hB
                  have HEs := Lib.hid hE
                  go_wp2_with fail
                  refine HBy.out.mono ?_
                  rintro e q2 ⟨rfl, hq2⟩
                  have S2 := S1.below hq2
                  have TQ2 := TQ1.trans (hq2.mono TQ1.size)
                  have HRc := Lib.hid (records_calls w.heap.size T2 room N h2c q2 S2 (KL.out _ TQ2))
                  have hR2 := hR.below hq2 (Nat.le_refl _)
                  clear hB hE hR
                  go_wp2_with fail
                  refine HRc.out.mono ?_
                  rintro e q3 ⟨⟨ls', ra', rc', R', hB', hE', hR', rfl⟩, hq3⟩
                  obtain rfl : ls = ls' := HBs.out.unique hB'
                  have hR3 := hR2.below hq3 (Nat.le_refl _)
                  have TQ3 := TQ2.trans (hq3.mono TQ2.size)
                  have S3 := S2.below hq3
                  have SM := rsameRZ_calls ra' ra ls.length ls.length rc' rc R' R (fun j => (lnAt ls j).b) (fun j => (lnAt ls j).b) q3 hR' hR3 (by have := HBs.out.toBegTo.len; omega) (fun j hj => by
                    have h1 : Lst q3 (R' j).a (R' j).n (R' j).k (lnAt ls j).b := by
                      rcases hR'.2 with h | ⟨_, _, _, _, h⟩
                      · omega
                      · exact (h j hj).2.2.2.2.2
                    have h2 := (HBs.out.ok j hj).n
                    have h3 := h1.len
                    omega)
                  rw [recsZ_all (fun j hj => (hE' j hj).trans (HEs.out j hj).symm)] at SM
                  have HSM := Lib.hid SM
                  clear SM hB' hE' hR' hR2 hR3
                  go_wp2_with fail
                  refine HSM.out.mono ?_
                  rintro e q4 ⟨rfl, hq4⟩
                  have S4 := S3.below hq4
                  have TQ4 := TQ3.trans (hq4.mono TQ3.size)
                  go_wp2_with fail
                  go_roundw
                  case rel => exact ⟨k + 1, T2, N, X2, by omega, by trivial, by trivial, by go_num, HX2, S4, h2a, h2b, TQ4⟩
                  case measure => simp [intOf]; omega
                · have kb3 : (kd == 3) = false := by simpa using hk3
                  obtain ⟨wq, HWq⟩ : ∃ q, Hid (WQ = q) := ⟨_, rfl⟩
                  have ST2 : StAt wq w.heap.size T room SY := by rw [← HWq.out]; exact STq
                  have TB2 : Below w.heap.size w wq := by rw [← HWq.out]; exact TBq
                  obtain ⟨c0, c1, c2, c3, c4, c5, c6⟩ := KBox.out _ (Below.refl _ _)
                  clear hk0 hk1 hk2 hk3
                  have LQ := KL.out _ TB2
                  have HXd2 : Hid (X.data.toList = T) := by show _ = _; rw [← HX.out]
                  have hXs2 : X.size ≤ 1048576 := by
                    have h : X.size = T.length := by rw [← HX.out]; rfl
                    omega
                  have HBg := Lib.hid (rbegin_calls X T wq HXd2 hXs2 LQ)
                  go_wp2_with fail
                  rw [HWQ.out, HWq.out]
                  refine HBg.out.mono ?_
                  rintro e q1 ⟨⟨ls, ra, rc, R, hB, hE, hR, rfl⟩, hq1⟩
                  have S1 := ST2.below hq1
                  have TQ1 := TB2.trans (hq1.mono TB2.size)
                  have HBy := Lib.hid (bytes_calls w.heap.size T room SY hTN q1 S1)
                  rw [HX.out] at HBy
                  have HBs := Lib.hid hB
                  have HEs := Lib.hid hE
                  go_wp2_with fail
                  refine HBy.out.mono ?_
                  rintro e q2 ⟨rfl, hq2⟩
                  have S2 := S1.below hq2
                  have TQ2 := TQ1.trans (hq2.mono TQ1.size)
                  have HRc := Lib.hid (records_calls w.heap.size T room SY hTN q2 S2 (KL.out _ TQ2))
                  have hR2 := hR.below hq2 (Nat.le_refl _)
                  clear hB hE hR
                  go_wp2_with fail
                  refine HRc.out.mono ?_
                  rintro e q3 ⟨⟨ls', ra', rc', R', hB', hE', hR', rfl⟩, hq3⟩
                  obtain rfl : ls = ls' := HBs.out.unique hB'
                  have hR3 := hR2.below hq3 (Nat.le_refl _)
                  have TQ3 := TQ2.trans (hq3.mono TQ2.size)
                  have S3 := S2.below hq3
                  have SM := rsameRZ_calls ra' ra ls.length ls.length rc' rc R' R (fun j => (lnAt ls j).b) (fun j => (lnAt ls j).b) q3 hR' hR3 (by have := HBs.out.toBegTo.len; omega) (fun j hj => by
                    have h1 : Lst q3 (R' j).a (R' j).n (R' j).k (lnAt ls j).b := by
                      rcases hR'.2 with h | ⟨_, _, _, _, h⟩
                      · omega
                      · exact (h j hj).2.2.2.2.2
                    have h2 := (HBs.out.ok j hj).n
                    have h3 := h1.len
                    omega)
                  rw [recsZ_all (fun j hj => (hE' j hj).trans (HEs.out j hj).symm)] at SM
                  have HSM := Lib.hid SM
                  clear SM hB' hE' hR' hR2 hR3
                  go_wp2_with fail
                  refine HSM.out.mono ?_
                  rintro e q4 ⟨rfl, hq4⟩
                  have S4 := S3.below hq4
                  have TQ4 := TQ3.trans (hq4.mono TQ3.size)
                  go_wp2_with fail
                  go_roundw
                  case rel => exact ⟨k + 1, T, SY, X, by omega, by trivial, by trivial, by go_num, HX, S4, hSY, hTr, TQ4⟩
                  case measure => simp [intOf]; omega
        · obtain rfl : k = n := by omega
          go_wp2
          go_ret
          exact ⟨rfl, TB⟩
end Go.Proofs.YtfcnnolpcnacoaaDoor.Fx
