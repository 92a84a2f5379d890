/- StoreKeeps' walk: whatever calls and number are handed in, it returns true. -/
import Derived.Test.YtfcnnolpcnacoaaDoorStK2
import Derived.Test.YtfcnnolpcnacoaaDoorStCl
import Derived.Deep.DeepCutAuto
import Derived.Deep.CutBlock
import Derived.Deep.RegionHeld3
namespace Go.Proofs.YtfcnnolpcnacoaaDoor.Fx
open Go.RowKit

set_option maxRecDepth 100000 in
set_option maxHeartbeats 1600000 in
theorem storeKeeps_core (a : Option Addr) (n cap : Nat) (C : Nat → Clm) (D : Nat → List Int) (keep : Int) (w : World) (hC : ClsIn w a n cap C D) (hL : LD w) :
    Calls Tryd.prog 4 #[.slice a n cap, .int .i64 keep] w fun e w' => e = .returned (.bool true) ∧ Below w.heap.size w w' := by
  have HNw := Lib.hid (new_good 100 (by decide) (by decide) w)
  obtain ⟨W1, HW1⟩ : ∃ W1, Hid (w.alloc (.cells #[.string ⟨#[]⟩, .int .i64 100, .int .i64 0] 49) = W1) := ⟨_, rfl⟩
  have hal : Below w.heap.size w W1 := by rw [← HW1.out]; exact (Below.refl _ _).alloc (Nat.le_refl _) _
  have S0 : StAt W1 w.heap.size [] 100 0 := by rw [← HW1.out]; exact StAt.made w 100
  have KL : Hid (∀ q, Below w.heap.size w q → LD q) := fun q hq => hL.below hq (Nat.le_refl _)
  rw [HW1.out] at HNw
  have HA0 := Lib.hid (append_calls w.heap.size [] 100 0 (by decide) ⟨0, none, 0, 0, 0, 0, 0⟩ [] W1 S0 (Lst.nil _ _ _) (by decide) (by decide) (KL.out _ hal))
  have HCe := Lib.hid hC.each
  have KC : Hid (∀ q k, Below w.heap.size w q → k < n → ∃ cb co, a = some ⟨cb, co, none⟩ ∧ q.cell? ⟨cb, co + k * 7, none⟩ = some (.int .i64 (C k).kind) ∧ q.cell? ⟨cb, co + k * 7 + 1, none⟩ = some (.int .i64 (C k).x.s) ∧ q.cell? ⟨cb, co + k * 7 + 2, none⟩ = some (.slice (C k).x.a (C k).x.n (C k).x.k) ∧ q.cell? ⟨cb, co + k * 7 + 3, none⟩ = some (.int .i64 (C k).x.r) ∧ q.cell? ⟨cb, co + k * 7 + 4, none⟩ = some (.int .u64 (C k).x.root) ∧ q.cell? ⟨cb, co + k * 7 + 5, none⟩ = some (.int .u64 (C k).x.chain) ∧ q.cell? ⟨cb, co + k * 7 + 6, none⟩ = some (.int .i64 (C k).keep)) := fun q k hq hk => by
    rcases hC.cells with h0 | ⟨cb, co, e, hb, hc⟩
    · omega
    · obtain ⟨q0, q1, q2, q3, q4, q5, q6⟩ := hc k hk
      exact ⟨cb, co, e, (hq.cell (p := ⟨cb, co + k * 7, none⟩) hb).trans q0, (hq.cell (p := ⟨cb, co + k * 7 + 1, none⟩) hb).trans q1, (hq.cell (p := ⟨cb, co + k * 7 + 2, none⟩) hb).trans q2, (hq.cell (p := ⟨cb, co + k * 7 + 3, none⟩) hb).trans q3, (hq.cell (p := ⟨cb, co + k * 7 + 4, none⟩) hb).trans q4, (hq.cell (p := ⟨cb, co + k * 7 + 5, none⟩) hb).trans q5, (hq.cell (p := ⟨cb, co + k * 7 + 6, none⟩) hb).trans q6⟩
  clear hL hC S0
  simp only [Rcm.val] at HA0
  go_enter Tryd.func4, Tryd.ntmps4
  go_wp2_with fail
  refine HNw.out.mono ?_
  rintro e w1 ⟨rfl, hw1⟩
  replace hw1 := hw1.symm
  subst hw1
  go_wp2_with fail
  refine HA0.out.mono ?_
  rintro e u1 ⟨E, T1, hA, rfl, S1, hK1⟩
  have TB1 := hK1.below hal (Nat.le_refl _) hal.size
  rcases hA with ⟨hno, _⟩ | ⟨_, hfull, _⟩ | ⟨_, _, rfl, hT1⟩
  · exact absurd ok00 hno
  · have h8 : ((([] : List UInt8).length + (Rcm.ln ⟨0, none, 0, 0, 0, 0, 0⟩ []).text.length : Nat) : Int) = 8 := by
      show ((0 + (Ln.text ⟨0, 0, 0, 0, []⟩).length : Nat) : Int) = 8
      rw [text00]; rfl
    omega
  have hT1' : T1 = Ln.text ⟨0, 0, 0, 0, []⟩ := hT1
  have HB1 : Hid (Beg T1 [⟨0, 0, 0, 0, []⟩]) := by show Beg _ _; rw [hT1']; exact begOne
  have h1l : T1.length ≤ 8192 := by rw [hT1', text00]; decide
  have HBy1 := Lib.hid (bytes_calls w.heap.size T1 100 0 h1l u1 S1)
  obtain ⟨X1, HX1⟩ : ∃ X : ByteArray, Hid ((⟨T1.toArray⟩ : ByteArray) = X) := ⟨_, rfl⟩
  have hq1 : (X1.toList == [48, 32, 48, 32, 48, 32, 48, 10]) = true := by rw [beq_iff_eq, ByteArray.toList_eq, ← HX1.out, hT1']; exact text00
  rw [HX1.out] at HBy1
  clear hT1 hT1'
  go_wp2_with fail
  refine HBy1.out.mono ?_
  rintro e u2 ⟨rfl, hu2⟩
  have S2 := S1.below hu2
  have TB2 := TB1.trans (hu2.mono TB1.size)
  have HRc1 := Lib.hid (records_at w.heap.size T1 100 0 h1l _ HB1.out u2 S2 (KL.out _ TB2))
  go_wp2_with fail
  refine HRc1.out.mono ?_
  rintro e u3 ⟨⟨ra0, rc0, _, rfl⟩, hu3⟩
  have TB3 := TB2.trans (hu3.mono TB2.size)
  clear HRc1 HBy1 HA0 HNw hq1 HB1 S1 S2 hK1 hu2 hu3 TB1 TB2 HX1 h1l hal HW1
  by_cases h60 : 60 < n
  · have h60' : (60 : Int) < (n : Int) := by omega
    go_wp2_with fail
    go_ret
    exact ⟨rfl, TB3⟩
  have h60' : ¬ (60 : Int) < (n : Int) := by omega
  have HNw := Lib.hid (new_good 4096 (by decide) (by decide) u3)
  obtain ⟨W1', HW1⟩ : ∃ W1, Hid (u3.alloc (.cells #[.string ⟨#[]⟩, .int .i64 4096, .int .i64 0] 49) = W1) := ⟨_, rfl⟩
  have hal : Below w.heap.size w W1' := by rw [← HW1.out]; exact TB3.alloc TB3.size _
  have S0 : StAt W1' u3.heap.size [] 4096 ((0 : Nat) : Int) := by rw [← HW1.out]; exact StAt.made u3 4096
  have hbw : w.heap.size ≤ u3.heap.size := TB3.size
  rw [HW1.out] at HNw
  go_wp2_with fail
  refine HNw.out.mono ?_
  rintro e w1 ⟨rfl, hw1⟩
  replace hw1 := hw1.symm
  subst hw1
  clear HNw TB3 HW1
  generalize u3.heap.size = b at *
  go_wp2_with fail
  go_loopw [45] (fun i wr => ∃ (k : Nat) (T : List UInt8) (SY : Nat), k ≤ n ∧ i = .int .i64 k ∧ StAt wr b T 4096 SY ∧ SY ≤ T.length ∧ T.length ≤ 4096 ∧ Below w.heap.size w wr) (fun i _ => n - (intOf i).toNat)
  case atStart => exact ⟨0, [], 0, Nat.zero_le _, rfl, S0, Nat.le_refl _, by decide, hal⟩
  case round =>
    clear S0 hal
    obtain ⟨k, T, SY, hk, rfl, ST, hSY, hT4, TB⟩ := hrel
    by_cases hlt : k < n
    · obtain ⟨cb, co, rfl, e0, e1, e2, e3, e4, e5, e6⟩ := KC.out _ k TB hlt
      have HRI := Lib.hid (HCe.out k hlt)
      generalize C k = ck at e0 e1 e2 e3 e4 e5 e6 HRI
      obtain ⟨kd, ⟨xs, xa, xn, xk, xr, xroot, xchain⟩, kp⟩ := ck
      dsimp only at e0 e1 e2 e3 e4 e5 e6 HRI
      obtain ⟨WQ, HWQ⟩ : ∃ q, Hid (wr.alloc (.cells #[.int .i64 kd, .int .i64 xs, .slice xa xn xk, .int .i64 xr, .int .u64 xroot, .int .u64 xchain, .int .i64 kp] 33) = q) := ⟨_, rfl⟩
      have AQ : Below wr.heap.size wr WQ := by rw [← HWQ.out]; exact (Below.refl _ _).alloc (Nat.le_refl _) _
      have B7 : WQ.rowIs wr.heap.size 33 7 (fn7 (.int .i64 kd) (.int .i64 xs) (.slice xa xn xk) (.int .i64 xr) (.int .u64 xroot) (.int .u64 xchain) (.int .i64 kp)) := by rw [← HWQ.out]; exact fn7_alloc _ _ _ _ _ _ _ _ _
      have STq := ST.below AQ
      have TBq := TB.trans (AQ.mono TB.size)
      have hbne : wr.heap.size ≠ b := by have := ST.lt; omega
      have hTN : T.length ≤ 8192 := by omega
      have kn : (k : Int) < (n : Int) := by omega
      have k0 : (0 : Int) ≤ (k : Int) := by omega
      have KLst : Hid (∀ q, Below w.heap.size w q → Lst q xa xn xk (D k)) := fun q hq => HRI.out.l.below hq (Nat.le_refl _)
      have rt0 : 0 ≤ xroot := HRI.out.root.1
      have ch0 : 0 ≤ xchain := HRI.out.chain.1
      obtain ⟨X, HX⟩ : ∃ X : ByteArray, Hid ((⟨T.toArray⟩ : ByteArray) = X) := ⟨_, rfl⟩
      have hxs : X.size = T.length := by rw [← HX.out]; rfl
      obtain ⟨ls, HB⟩ : ∃ ls, Hid (Beg T ls) := beg_exists T
      have HBy := Lib.hid (bytes_calls b T 4096 SY hTN WQ STq)
      rw [HX.out] at HBy
      go_wp2_with fail
      rw [HWQ.out]
      refine HBy.out.mono ?_
      rintro e q1 ⟨rfl, hq1⟩
      have S1 := STq.below hq1
      have TQ1 := TBq.trans (hq1.mono TBq.size)
      have HRc := Lib.hid (records_at b T 4096 SY hTN ls HB.out q1 S1 (KL.out _ TQ1))
      obtain ⟨N1, HN1⟩ : ∃ m, Hid (ls.length = m) := ⟨_, rfl⟩
      rw [HN1.out] at HRc
      go_wp2_with fail
      refine HRc.out.mono ?_
      rintro e wq ⟨⟨ra, rc, RA, rfl⟩, hq2⟩
      have Sq := S1.below hq2
      have TQ := TQ1.trans (hq2.mono TQ1.size)
      have B7q := (B7.of_block (hq1.block _ B7.lt)).of_block (hq2.block _ (B7.of_block (hq1.block _ B7.lt)).lt)
      obtain ⟨c0, c1, c2, c3, c4, c5, c6⟩ := fn7_box B7q
      clear HRc HBy S1 STq TBq TQ1 hq1 hq2 HWQ AQ B7 ST TB e0 e1 e2 e3 e4 e5 e6
      generalize wr.heap.size = g8 at *
      go_upto_block 2 with fail
      go_cut [11, 12] from 46 to 148 (fun _ _ q => ∃ (T2 : List UInt8) (SY2 : Nat), Hid (T2 <+: T ∨ T <+: T2) ∧ StAt q b T2 4096 SY2 ∧ SY2 ≤ T2.length ∧ T2.length ≤ 4096 ∧ Below w.heap.size w q ∧ RecAt b q ls ra rc)
      case first =>
        by_cases hk0 : kd = 0
        · have kb0 : (kd == 0) = true := by rw [hk0]; rfl
          have HAp := Lib.hid (append_calls b T 4096 SY hTN ⟨xs, xa, xn, xk, xr, xroot, xchain⟩ (D k) wq Sq (KLst.out _ TQ) rt0 ch0 (KL.out _ TQ))
          simp only [Rcm.val] at HAp
          clear hk0
          go_wp2_with fail
          refine HAp.out.mono ?_
          rintro e q3 ⟨E, T2, hA, rfl, S3, hK⟩
          have TQ3 := hK.below TQ hbw TQ.size
          have RA3 := RA.keeps hK
          clear c0 c1 c2 c3 c4 c5 c6
          by_cases hE0 : E = 0
          · have HP : Hid (T <+: T2) := by
              rcases hA with ⟨_, h, _⟩ | ⟨_, _, h, _⟩ | ⟨_, _, _, h⟩
              · omega
              · omega
              · rw [h]; exact List.prefix_append _ _
            have h2r : T2.length ≤ 4096 := by
              rcases hA with ⟨_, h, _⟩ | ⟨_, _, h, _⟩ | ⟨_, hf, _, h⟩
              · omega
              · omega
              · rw [h, List.length_append]; omega
            clear hA
            subst hE0
            have hpl := HP.out.length_le
            obtain ⟨X2, HX2⟩ : ∃ X : ByteArray, Hid ((⟨T2.toArray⟩ : ByteArray) = X) := ⟨_, rfl⟩
            have HBy := Lib.hid (bytes_calls b T2 4096 SY (by omega) q3 S3)
            rw [HX2.out] at HBy
            have HPf : Hid (∀ q, Calls Tryd.prog 17 #[.string X2, .string X] q fun e w' => e = .returned (.bool true) ∧ w' = q) := fun q => hasPref_calls X2 X q (by rw [← HX2.out, ← HX.out]; exact HP.out)
            go_wp2_with fail
            refine HBy.out.mono ?_
            rintro e q4 ⟨rfl, hq4⟩
            have S4 := S3.below hq4
            have TQ4 := TQ3.trans (hq4.mono TQ3.size)
            have RA4 := RA3.below hq4
            go_wp2_with fail
            refine (HPf.out _).mono ?_
            rintro e q5 ⟨rfl, hq5⟩
            replace hq5 := hq5.symm
            subst hq5
            go_wp2_with fail
            go_meet
            case rel => exact ⟨T2, SY, .inr HP.out, S4, by omega, h2r, TQ4, RA4⟩
          · have h2 : T2 = T := by
              rcases hA with ⟨_, _, h⟩ | ⟨_, _, _, h⟩ | ⟨_, _, h, _⟩
              · exact h
              · exact h
              · exact absurd h hE0
            clear hA
            subst h2
            have hEb : (E != 0) = true := by simpa using hE0
            clear hE0
            have HBy := Lib.hid (bytes_calls b T2 4096 SY hTN q3 S3)
            rw [HX.out] at HBy
            have HPf : Hid (∀ q, Calls Tryd.prog 17 #[.string X, .string X] q fun e w' => e = .returned (.bool true) ∧ w' = q) := fun q => hasPref_calls X X q (List.prefix_refl _)
            go_wp2_with fail
            refine HBy.out.mono ?_
            rintro e q4 ⟨rfl, hq4⟩
            have S4 := S3.below hq4
            have TQ4 := TQ3.trans (hq4.mono TQ3.size)
            have RA4 := RA3.below hq4
            have HBy4 := Lib.hid (bytes_calls b T2 4096 SY hTN q4 S4)
            rw [HX.out] at HBy4
            go_wp2_with fail
            refine HBy4.out.mono ?_
            rintro e q5 ⟨rfl, hq5⟩
            have S5 := S4.below hq5
            have TQ5 := TQ4.trans (hq5.mono TQ4.size)
            have RA5 := RA4.below hq5
            go_wp2_with fail
            refine (HPf.out _).mono ?_
            rintro e q6 ⟨rfl, hq6⟩
            replace hq6 := hq6.symm
            subst hq6
            go_wp2_with fail
            go_meet
            case rel => exact ⟨T2, SY, .inl (List.prefix_refl _), S5, hSY, hT4, TQ5, RA5⟩
        · have kb0 : (kd == 0) = false := by simpa using hk0
          by_cases hk1 : kd = 1
          · have kb1 : (kd == 1) = true := by rw [hk1]; rfl
            have HSy := Lib.hid (sync_calls b T 4096 SY wq Sq)
            clear hk0 hk1
            go_wp2_with fail
            refine HSy.out.mono ?_
            rintro e q3 ⟨rfl, S3, hK⟩
            have TQ3 := hK.below TQ hbw TQ.size
            have RA3 := RA.keeps hK
            clear c0 c1 c2 c3 c4 c5 c6
            have HCr := Lib.hid (crash_calls b T 4096 T.length (Nat.le_refl _) hTN keep q3 S3)
            rw [crN_full, List.take_length] at HCr
            go_wp2_with fail
            refine HCr.out.mono ?_
            rintro e q4 ⟨rfl, S4, hK4⟩
            have TQ4 := hK4.below TQ3 hbw TQ3.size
            have RA4 := RA3.keeps hK4
            have HBy4 := Lib.hid (bytes_calls b T 4096 T.length hTN q4 S4)
            rw [HX.out] at HBy4
            go_wp2_with fail
            refine HBy4.out.mono ?_
            rintro e q5 ⟨rfl, hq5⟩
            have S5 := S4.below hq5
            have TQ5 := TQ4.trans (hq5.mono TQ4.size)
            have RA5 := RA4.below hq5
            go_wp2_with fail
            go_meet
            case rel => exact ⟨T, T.length, .inl (List.prefix_refl _), S5, Nat.le_refl _, hT4, TQ5, RA5⟩
          · have kb1 : (kd == 1) = false := by simpa using hk1
            by_cases hk2 : kd = 2
            · have kb2 : (kd == 2) = true := by rw [hk2]; rfl
              have HCr := Lib.hid (crash_calls b T 4096 SY hSY hTN kp wq Sq)
              have hcl := crN_le kp hSY
              obtain ⟨N, HN⟩ : ∃ N, Hid (crN T.length SY kp = N) := ⟨_, rfl⟩
              rw [HN.out] at HCr hcl
              obtain ⟨T2, HT2⟩ : ∃ t, Hid (T.take N = t) := ⟨_, rfl⟩
              have h2l : T2.length = N := by rw [← HT2.out, List.length_take]; omega
              rw [HT2.out] at HCr
              have HP : Hid (T2 <+: T) := by show _ <+: _; rw [← HT2.out]; exact List.take_prefix _ _
              clear hk0 hk1 hk2
              go_wp2_with fail
              refine HCr.out.mono ?_
              rintro e q3 ⟨rfl, S3, hK⟩
              have TQ3 := hK.below TQ hbw TQ.size
              have RA3 := RA.keeps hK
              clear c0 c1 c2 c3 c4 c5 c6
              obtain ⟨X2, HX2⟩ : ∃ X : ByteArray, Hid ((⟨T2.toArray⟩ : ByteArray) = X) := ⟨_, rfl⟩
              have HBy := Lib.hid (bytes_calls b T2 4096 N (by omega) q3 S3)
              rw [HX2.out] at HBy
              have HPf : Hid (∀ q, Calls Tryd.prog 17 #[.string X, .string X2] q fun e w' => e = .returned (.bool true) ∧ w' = q) := fun q => hasPref_calls X X2 q (by rw [← HX2.out, ← HX.out]; exact HP.out)
              go_wp2_with fail
              refine HBy.out.mono ?_
              rintro e q4 ⟨rfl, hq4⟩
              have S4 := S3.below hq4
              have TQ4 := TQ3.trans (hq4.mono TQ3.size)
              have RA4 := RA3.below hq4
              go_wp2_with fail
              refine (HPf.out _).mono ?_
              rintro e q5 ⟨rfl, hq5⟩
              replace hq5 := hq5.symm
              subst hq5
              go_wp2_with fail
              go_meet
              case rel => exact ⟨T2, N, .inl HP.out, S4, by omega, by omega, TQ4, RA4⟩
            · have kb2 : (kd == 2) = false := by simpa using hk2
              by_cases hk3 : kd = 3
              · have kb3 : (kd == 3) = true := by rw [hk3]; rfl
                have HRp := Lib.hid (repair_calls b T 4096 SY hTN wq Sq (KL.out _ TQ))
                clear hk0 hk1 hk2 hk3
                go_wp2_with fail
                refine HRp.out.mono ?_
                rintro e q3 ⟨ls3, N, hB3, HN, hNT, rfl, S3, hK⟩
                have e3 := HB.out.unique hB3
                subst e3
                clear hB3
                have TQ3 := hK.below TQ hbw TQ.size
                have RA3 := RA.keeps hK
                clear c0 c1 c2 c3 c4 c5 c6
                obtain ⟨T2, HT2⟩ : ∃ t, Hid (T.take N = t) := ⟨_, rfl⟩
                have h2l : T2.length = N := by rw [← HT2.out, List.length_take]; omega
                have HP : Hid (T2 <+: T) := by show _ <+: _; rw [← HT2.out]; exact List.take_prefix _ _
                have HB2 : Hid (Beg T2 ls) := by
                  have e : T2 = flatL ls := by rw [← HT2.out, ← HN.out]; exact HB.out.toBegTo.take
                  show Beg _ _
                  rw [e]
                  exact Beg.flat HB.out.toBegTo
                rw [HT2.out] at S3
                obtain ⟨X2, HX2⟩ : ∃ X : ByteArray, Hid ((⟨T2.toArray⟩ : ByteArray) = X) := ⟨_, rfl⟩
                have hx2 : X2.size = N := by rw [← HX2.out]; exact h2l
                have HBy := Lib.hid (bytes_calls b T2 4096 N (by omega) q3 S3)
                rw [HX2.out] at HBy
                have HPf : Hid (∀ q, Calls Tryd.prog 17 #[.string X, .string X2] q fun e w' => e = .returned (.bool true) ∧ w' = q) := fun q => hasPref_calls X X2 q (by rw [← HX2.out, ← HX.out]; exact HP.out)
                have wrA : IntKind.i64.wrap ((T.length : Int) - (N : Int)) = (T.length : Int) - (N : Int) := wrap_in _ (by omega) (by omega)
                have hself : (((T.length : Int) - (N : Int)) != ((T.length : Int) - (N : Int))) = false := by simp
                go_wp2_with fail
                refine HBy.out.mono ?_
                rintro e q4 ⟨rfl, hq4⟩
                have S4 := S3.below hq4
                have TQ4 := TQ3.trans (hq4.mono TQ3.size)
                have RA4 := RA3.below hq4
                have HRp4 := Lib.hid (repair_calls b T2 4096 N (by omega) q4 S4 (KL.out _ TQ4))
                go_wp2_with fail
                refine HRp4.out.mono ?_
                rintro e q5 ⟨ls4, N', hB4, HN', hNT', rfl, S5, hK5⟩
                have e4 := HB2.out.unique hB4
                subst e4
                clear hB4
                have e5 : N' = N := by rw [← HN.out, ← HN'.out]
                subst e5
                have e6 : T2.take N' = T2 := List.take_of_length_le (by omega)
                rw [e6] at S5
                have TQ5 := hK5.below TQ4 hbw TQ4.size
                have RA5 := RA4.keeps hK5
                have z0 : (T2.length : Int) - (N' : Int) = 0 := by omega
                have HRc5 := Lib.hid (records_at b T2 4096 N' (by omega) ls HB2.out q5 S5 (KL.out _ TQ5))
                rw [HN1.out] at HRc5
                clear e6
                go_wp2_with fail
                refine HRc5.out.mono ?_
                rintro e q6 ⟨⟨ra6, rc6, RB6, rfl⟩, hq6⟩
                have S6 := S5.below hq6
                have TQ6 := TQ5.trans (hq6.mono TQ5.size)
                have RA6 := RA5.below hq6
                have HSm := Lib.hid (same_at b N1 ls ls T2 T2 HB2.out.toBegTo HB2.out.toBegTo (Nat.le_of_eq HN1.out.symm) (Nat.le_of_eq HN1.out.symm) (.inl (List.prefix_refl _)) ra6 ra rc6 rc q6 RB6 RA6)
                go_wp2_with fail
                refine HSm.out.mono ?_
                rintro e q7 ⟨rfl, hq7⟩
                have S7 := S6.below hq7
                have TQ7 := TQ6.trans (hq7.mono TQ6.size)
                have RA7 := RA6.below hq7
                have HBy7 := Lib.hid (bytes_calls b T2 4096 N' (by omega) q7 S7)
                rw [HX2.out] at HBy7
                go_wp2_with fail
                refine HBy7.out.mono ?_
                rintro e q8 ⟨rfl, hq8⟩
                have S8 := S7.below hq8
                have TQ8 := TQ7.trans (hq8.mono TQ7.size)
                have RA8 := RA7.below hq8
                go_wp2_with fail
                refine (HPf.out _).mono ?_
                rintro e q9 ⟨rfl, hq9⟩
                replace hq9 := hq9.symm
                subst hq9
                go_wp2_with fail
                go_meet
                case rel => exact ⟨T2, N', .inl HP.out, S8, by omega, by omega, TQ8, RA8⟩
              · have kb3 : (kd == 3) = false := by simpa using hk3
                clear hk0 hk1 hk2 hk3
                go_wp2_with fail
                go_meet
                case rel => exact ⟨T, SY, .inl (List.prefix_refl _), Sq, hSY, hT4, TQ, RA⟩
      case rest =>
        clear RA Sq TQ c0 c1 c2 c3 c4 c5 c6 B7q hxs
        obtain ⟨T2, SY2, HTT, Sc, h2a, h2b, TC, RA⟩ := hcut
        have h2c : T2.length ≤ 8192 := by omega
        obtain ⟨l2, HB2⟩ : ∃ ls, Hid (Beg T2 ls) := beg_exists T2
        obtain ⟨N2, HN2⟩ : ∃ m, Hid (l2.length = m) := ⟨_, rfl⟩
        obtain ⟨M, HM⟩ : ∃ M : Nat, Hid (min N1 N2 = M) := ⟨_, rfl⟩
        have hmin : min (N1 : Int) (N2 : Int) = (M : Int) := by have := HM.out; omega
        have m1 : M ≤ N1 := by have := HM.out; omega
        have m2 : M ≤ N2 := by have := HM.out; omega
        have m0 : (0 : Int) ≤ (M : Int) := by omega
        have hcr : (M : Int) ≤ (rc : Int) := by have := RA.cap; have := HN1.out; omega
        have KS : Hid (∀ q, Below wc.heap.size wc q → StAt q b T2 4096 SY2) := fun q hq => Sc.below hq
        have HRec : Hid (∀ q, Below wc.heap.size wc q → Calls Tryd.prog 16 #[.pointer (some ⟨b, 0, none⟩)] q fun e q' => (∃ a c, RecAt b q' l2 a c ∧ (M : Int) ≤ (c : Int) ∧ e = .returned (.slice a N2 c)) ∧ Below q.heap.size q q' ∧ Below wc.heap.size wc q') := fun q hq => by
          refine (records_at b T2 4096 SY2 h2c l2 HB2.out q (Sc.below hq) (KL.out _ (TC.trans (hq.mono TC.size)))).mono ?_
          rintro e q' ⟨⟨a, c, h, he⟩, hb⟩
          rw [HN2.out] at he
          exact ⟨⟨a, c, h, by have := h.cap; have := HN2.out; omega, he⟩, hb, hq.trans (hb.mono hq.size)⟩
        have HSm : Hid (∀ q, Below wc.heap.size wc q → ∀ a c, RecAt b q l2 a c → Calls Tryd.prog 15 #[.slice a M c, .slice ra M rc] q fun e q' => e = .returned (.bool true) ∧ Below wc.heap.size wc q') := fun q hq a c h => by
          refine (same_at b M l2 ls T2 T HB2.out.toBegTo HB.out.toBegTo (by have := HN2.out; omega) (by have := HN1.out; omega) HTT.out a ra c rc q h (RA.below hq)).mono ?_
          rintro e q' ⟨he, hb⟩
          exact ⟨he, hq.trans (hb.mono hq.size)⟩
        have T0 : Below wc.heap.size wc wc.drew := Below.drew (Below.refl _ _)
        have HEND : Hid (∀ q, Below wc.heap.size wc q → StAt q b T2 4096 SY2 ∧ Below w.heap.size w q) := fun q hq => ⟨Sc.below hq, TC.trans (hq.mono TC.size)⟩
        clear KS Sc TC RA h2c
        go_wp2_with fail
        go_region_held3 (fun _ => True) (exact True.intro) (first
          | (go_at_call 16; have g3' := g2; refine (HRec.out _ T2').mono ?_; rintro e q3 ⟨⟨a3, d3, g3, hd3, rfl⟩, hq3, T3'⟩; clear g3'; replace g1 := g1.below hq3; replace g2 := g2.below hq3)
          | (go_at_call 16; have g2' := g1; refine (HRec.out _ T1').mono ?_; rintro e q2 ⟨⟨a2, d2, g2, hd2, rfl⟩, hq2, T2'⟩; clear g2'; replace g1 := g1.below hq2)
          | (go_at_call 16; refine (HRec.out _ T0).mono ?_; rintro e q1 ⟨⟨a1, d1, g1, hd1, rfl⟩, hq1, T1'⟩)
          | (go_at_call 15; (first | (refine (HSm.out _ T3' _ _ g1).mono ?_) | (refine (HSm.out _ T3' _ _ g2).mono ?_) | (refine (HSm.out _ T3' _ _ g3).mono ?_)); rintro e q4 ⟨rfl, T4'⟩))
        all_goals
          go_wp2_with fail
          go_roundw
          case rel =>
            obtain ⟨s4, t4⟩ := HEND.out _ T4'
            exact ⟨k + 1, T2, SY2, by omega, by go_num, s4, h2a, h2b, t4⟩
          case measure => simp [intOf]; omega
    · obtain rfl : k = n := by omega
      go_wp2
      go_ret
      exact ⟨rfl, TB⟩
end Go.Proofs.YtfcnnolpcnacoaaDoor.Fx
