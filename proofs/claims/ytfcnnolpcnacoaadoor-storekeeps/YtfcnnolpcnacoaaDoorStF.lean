/- What store.right returns, whatever text lies there: the records of its right beginning, and how many bytes that has. -/
import Derived.Test.YtfcnnolpcnacoaaDoorStR
namespace Go.Proofs.YtfcnnolpcnacoaaDoor.Fx
open Go.RowKit

set_option maxRecDepth 100000 in
set_option maxHeartbeats 3200000 in
theorem right_calls (S : ByteArray) (s : List UInt8) (w : World) (hS : Hid (S.data.toList = s)) (hs : S.size ≤ 1048576) (hL : LD w) :
    Calls Tryd.prog 23 #[.string S] w fun e w' => RightR s w e w' ∧ Below w.heap.size w w' := by
  have hsl : s.length = S.size := by rw [← hS.out]; rfl
  have KP : Hid (∀ (n : Nat) q, n ≤ S.size → Below w.heap.size w q → Calls Tryd.prog 35 #[.string (S.extract n S.size)] q fun e w' => ParseR (s.drop n) q e w' ∧ Below q.heap.size q w') := fun n q hn hq => by
    have e : S.extract n S.size = ⟨(s.drop n).toArray⟩ := by
      apply Go.WideShapes.bytes_inj
      rw [Lib.extract_to_end, hS.out]
    rw [e]
    exact parse_calls (s.drop n) q (by rw [List.length_drop]; omega) (hL.below hq (Nat.le_refl _))
  have B0 : BgSt w s [] (.slice none 0 0) (fun _ => zeroR) w := ⟨BegTo.nil s, OwnRS.nil _ _ _, fun j hj => by simp at hj, fun j hj => by simp at hj, Below.refl _ _, fun j hj => by simp at hj⟩
  clear hL
  go_enter Tryd.func23, Tryd.ntmps23
  go_wp2
  go_loopw [4, 5] (fun v i wr => ∃ (ls : List Ln) (R : Nat → Rcm) (N : Nat) (V : Value), v = V ∧ i = .int .i64 N ∧ Hid ((flatL ls).length = N) ∧ BgSt w s ls V R wr) (fun _ i _ => S.size - (intOf i).toNat)
  case atStart => exact ⟨[], _, 0, _, rfl, rfl, rfl, B0⟩
  case round =>
    obtain ⟨ls, R, N, v, hv0, rfl, HN, B⟩ := hrel
    replace hv0 := hv0.symm
    subst hv0
    have hNs : N ≤ S.size := by have := B.beg.le; have := HN.out; omega
    have n0 : (0 : Int) ≤ (N : Int) := by omega
    have n1 : (N : Int) ≤ (S.size : Int) := by omega
    have hlen := B.beg.len
    have SP := KP.out N wr hNs B.old
    obtain ⟨M, HM⟩ : ∃ M, Hid (ls.length = M) := ⟨_, rfl⟩
    have hM100 : M ≤ 100 := by rw [← HM.out]; exact hlen
    go_wp2_with fail
    refine SP.mono ?_
    rintro e w2 ⟨hp, hw2⟩
    have B2 := B.below hw2
    rcases hp with ⟨l, x, hIs, hx, lx, hfr, rfl⟩ | ⟨hno, rfl⟩
    · have HIs : Hid (IsLine (s.drop (flatL ls).length) l) := by rw [HN.out]; exact hIs
      have HX := Lib.hid hx
      have hfar : x.n = 0 ∨ ∀ bb oo, x.a = some ⟨bb, oo, none⟩ → v.ownBlock ≠ some bb := .inr fun bb oo e => by
        have h1 := hfr bb oo e
        rcases B.own.blk with h | ⟨g, h, _, hlt⟩
        · rw [h]; simp
        · rw [h]; intro e2; simp only [Option.some.injEq] at e2; omega
      have HFrx : Hid (∀ bb oo, x.a = some ⟨bb, oo, none⟩ → w.heap.size ≤ bb) := fun bb oo e => Nat.le_trans B.old.size (hfr bb oo e)
      have hxs : x.s = l.s := by rw [← hx]; rfl
      have hlt : 1 ≤ l.text.length := text_ne l
      have hle : N + l.text.length ≤ S.size := by
        have h := hIs.2.length_le
        rw [List.length_drop] at h
        omega
      obtain ⟨TL, HTL⟩ : ∃ t, Hid (l.text.length = t) := ⟨_, rfl⟩
      rw [HTL.out] at hlt hle
      by_cases hst : l.s = (M : Int)
      · obtain ⟨R', hR'⟩ : ∃ R' : Nat → Rcm, R' = fun j => if j < M then R j else x := ⟨_, rfl⟩
        have hRM : R' ls.length = x := by rw [hR', HM.out]; simp
        have hRlt : ∀ j, j < ls.length → R j = R' j := fun j hj => by rw [hR']; simp only; rw [if_pos (by rw [← HM.out]; exact hj)]
        have HOw : Hid (∀ q, Below w2.heap.size w2 q → OwnRS w.heap.size q v M R') := fun q hq => by rw [← HM.out]; exact (B2.own.below hq).congr hRlt
        have HBq : Hid (∀ q, Below w2.heap.size w2 q → BgSt w s ls v R' q) := fun q hq => by
          have h := B2.below hq
          exact ⟨h.beg, h.own.congr hRlt, fun j hj => by rw [← hRlt j hj]; exact h.eq j hj, fun j hj => by rw [← hRlt j hj]; exact h.lst j hj, h.old, fun j hj => by rw [← hRlt j hj]; exact h.fr j hj⟩
        have hxM : R' M = x := by rw [← HM.out]; exact hRM
        have HRM := Lib.hid hRM
        have Hlx := Lib.hid (fun q (hq : Below w2.heap.size w2 q) => lx.below hq (Nat.le_refl _))
        have Hst : Hid (l.s = (ls.length : Int)) := by rw [HM.out]; exact hst
        have hMc : v.ownBlock = none ∨ True := .inr trivial
        obtain ⟨av, cv, hv, _⟩ := B.own.recs (D := fun j => (lnAt ls j).b) (fun i hi => (B.lst i hi).1)
        rw [HM.out] at hv
        subst hv
        have HFar := Lib.hid hfar
        clear hR' hRlt hx hIs lx hfr hfar hMc
        obtain ⟨xs, xa, xn, xk, xr, xroot, xchain⟩ := x
        simp only [Rcm.val, Rcm.cells] at *
        have hne1 : (xs != (M : Int)) = false := by rw [bne_eq_false_iff_eq]; omega
        clear hxs hst
        have A1 : Below w2.heap.size w2 (w2.alloc (.cells #[.int .i64 xs, .slice xa xn xk, .int .i64 xr, .int .u64 xroot, .int .u64 xchain] 31)) := (Below.refl _ _).alloc (Nat.le_refl _) _
        have A2 := A1.alloc A1.size (.cells #[.int .i64 xs, .slice xa xn xk, .int .i64 xr, .int .u64 xroot, .int .u64 xchain] 31)
        have RW : ((w2.alloc (.cells #[.int .i64 xs, .slice xa xn xk, .int .i64 xr, .int .u64 xroot, .int .u64 xchain] 31)).alloc (.cells #[.int .i64 xs, .slice xa xn xk, .int .i64 xr, .int .u64 xroot, .int .u64 xchain] 31)).rowIs (w2.heap.size + 1) 31 5 (fn5 (.int .i64 (R' M).s) (.slice (R' M).a (R' M).n (R' M).k) (.int .i64 (R' M).r) (.int .u64 (R' M).root) (.int .u64 (R' M).chain)) := by
          rw [hxM]
          have h := fn5_alloc (w2.alloc (.cells #[.int .i64 xs, .slice xa xn xk, .int .i64 xr, .int .u64 xroot, .int .u64 xchain] 31)) (.int .i64 xs) (.slice xa xn xk) (.int .i64 xr) (.int .u64 xroot) (.int .u64 xchain) 31
          simpa using h
        have O2 := HOw.out _ A2
        have BQ := HBq.out _ A2
        have LX := Hlx.out _ A2
        have hbs := BQ.old.size
        have HG := Lib.hid RW
        have OO := Lib.hid O2
        clear RW O2 hxM hRM
        rw [HTL.out]
        go_wp2_with (at_builtin; refine wpList_append_rcS (by rfl) _ _ (by rfl) w.heap.size (.slice av M cv) M R' (w2.heap.size + 1) (by rfl) (by rfl) (by exact OO.out) (by exact HG.out) (by omega) (by exact hbs) ?_; intro v9 w9 O9 G9 H9)
        go_roundw
        case rel =>
          refine ⟨ls ++ [l], R', N + TL, _, by trivial, by go_num, ?_, ?_⟩
          · show _ = _
            rw [flatL_snoc, List.length_append, HN.out, HTL.out]
          · refine BQ.push HIs.out Hst.out HX.out LX HFar.out HRM.out (by rw [HM.out]; exact O9) G9 H9 ?_ HFrx.out
            exact BQ.old.grown G9 hbs (fun k hk => by
              rcases BQ.own.blk with h | ⟨g, h, hg, _⟩
              · rw [h] at hk; cases hk
              · rw [h] at hk; simp only [Option.some.injEq] at hk; omega)
        case measure => simp [intOf]; omega
      · have HBg : Hid (Beg s ls) := ⟨B2.beg, fun m hm e => by
          have := HIs.out.unique hm
          subst this
          rw [HM.out] at e
          exact hst e⟩
        clear hx hIs lx hfr hfar
        obtain ⟨xs, xa, xn, xk, xr, xroot, xchain⟩ := x
        simp only [Rcm.val, Rcm.cells] at *
        have hne1 : (xs != (M : Int)) = true := by rw [bne_iff_ne]; omega
        clear hxs hst
        obtain ⟨av, cv, hv, RC⟩ := (B2.below (Joins.below_alloc1 w2 (.cells #[.int .i64 xs, .slice xa xn xk, .int .i64 xr, .int .u64 xroot, .int .u64 xchain] 31))).own.recs (D := fun j => (lnAt ls j).b) (fun i hi => ((B2.below (Joins.below_alloc1 w2 (.cells #[.int .i64 xs, .slice xa xn xk, .int .i64 xr, .int .u64 xroot, .int .u64 xchain] 31))).lst i hi).1)
        rw [HM.out] at hv RC
        subst hv
        have HRC := Lib.hid RC
        have HO := Lib.hid (B2.below (Joins.below_alloc1 w2 (.cells #[.int .i64 xs, .slice xa xn xk, .int .i64 xr, .int .u64 xroot, .int .u64 xchain] 31)))
        clear RC
        go_wp2
        go_ret2
        exact ⟨⟨ls, av, cv, R, HBg.out, HO.out.eq, by rw [HM.out]; exact HRC.out, ⟨OwnRS.fresh (show OwnRS w.heap.size _ (.slice av ls.length cv) ls.length R by rw [HM.out]; have h := HO.out.own; rw [HM.out] at h; exact h), HO.out.fr⟩, by rw [HM.out, HN.out]; rfl⟩, HO.out.old⟩
    · have HBg : Hid (Beg s ls) := ⟨B2.beg, fun m hm _ => hno m (by rw [← HN.out]; exact hm)⟩
      clear hno
      unfold zeroR Rcm.val Rcm.cells
      dsimp only
      obtain ⟨av, cv, hv, RC⟩ := (B2.below (Joins.below_alloc1 w2 (.cells #[.int .i64 0, .slice none 0 0, .int .i64 0, .int .u64 0, .int .u64 0] 31))).own.recs (D := fun j => (lnAt ls j).b) (fun i hi => ((B2.below (Joins.below_alloc1 w2 (.cells #[.int .i64 0, .slice none 0 0, .int .i64 0, .int .u64 0, .int .u64 0] 31))).lst i hi).1)
      rw [HM.out] at hv RC
      subst hv
      have HRC := Lib.hid RC
      have HO := Lib.hid (B2.below (Joins.below_alloc1 w2 (.cells #[.int .i64 0, .slice none 0 0, .int .i64 0, .int .u64 0, .int .u64 0] 31)))
      clear RC
      go_wp2
      go_ret2
      exact ⟨⟨ls, av, cv, R, HBg.out, HO.out.eq, by rw [HM.out]; exact HRC.out, ⟨OwnRS.fresh (show OwnRS w.heap.size _ (.slice av ls.length cv) ls.length R by rw [HM.out]; have h := HO.out.own; rw [HM.out] at h; exact h), HO.out.fr⟩, by rw [HM.out, HN.out]; rfl⟩, HO.out.old⟩
end Go.Proofs.YtfcnnolpcnacoaaDoor.Fx
