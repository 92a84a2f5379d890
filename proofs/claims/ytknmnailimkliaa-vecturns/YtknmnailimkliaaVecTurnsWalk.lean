/- The walk of VecTurns: it returns true, whatever matrix and lists lie there, and nothing that was there is written. -/
import Derived.Test.YtknmnailimkliaaRefTimes
import Derived.Deep.DeepCutAuto
import Derived.Deep.CutBlock
import Derived.Deep.RegionLaw
namespace Go.Proofs.Ytknmnailimkliaa.Fx
open Go.RowKit

/-- What the law itself reckons of Mul and Back. -/
def sayI (r c : Int) (len : Nat) (xs : List Int) (lv : Nat) (side : Int) : Int := if chkI r c len xs = 0 then (if (lv : Int) = side then 0 else 5) else chkI r c len xs
def sayMul (r c : Int) (len : Nat) (xs : List Int) (lv : Nat) (ys : List Int) : List Int := if chkI r c len xs = 0 ∧ (lv : Int) = c then (List.range r.toNat).map (mulG xs ys c.toNat) else []
def sayBack (r c : Int) (len : Nat) (xs : List Int) (lv : Nat) (ys : List Int) : List Int := if chkI r c len xs = 0 ∧ (lv : Int) = r then (List.range c.toNat).map (backG xs ys r.toNat c.toNat) else []
theorem sayI_yes {r c : Int} {len : Nat} {xs : List Int} {lv : Nat} {s : Int} (h : chkI r c len xs = 0) (hs : (lv : Int) = s) : sayI r c len xs lv s = 0 := by unfold sayI; rw [if_pos h, if_pos hs]
theorem sayI_no {r c : Int} {len : Nat} {xs : List Int} {lv : Nat} {s : Int} (h : chkI r c len xs = 0) (hs : ¬ (lv : Int) = s) : sayI r c len xs lv s = 5 := by unfold sayI; rw [if_pos h, if_neg hs]
theorem sayI_bad {r c : Int} {len : Nat} {xs : List Int} {lv : Nat} {s : Int} (h : chkI r c len xs ≠ 0) : sayI r c len xs lv s = chkI r c len xs := by unfold sayI; rw [if_neg h]

/-- What the first part of the law leaves: the two errors, and the two lists. -/
structure Said1 (r c : Int) (a : Option Addr) (len cap : Nat) (xs : List Int) (lv : Nat) (ys : List Int) (w : World) (f g mul back : Value) (w2 : World) : Prop where
  hf : f = .int .i64 (sayI r c len xs lv c)
  hg : g = .int .i64 (sayI r c len xs lv r)
  hm : ∃ am nm cm, mul = .slice am nm cm ∧ nm ≤ 16 ∧ Lst w2 am nm cm (sayMul r c len xs lv ys)
  hb : ∃ ab nb cb, back = .slice ab nb cb ∧ nb ≤ 16 ∧ Lst w2 ab nb cb (sayBack r c len xs lv ys)
  bel : Below (w.heap.size + 1) (w.alloc (.cells #[.int .i64 r, .int .i64 c, .slice a len cap] 37)) w2

/-- What the second part leaves: the error, and the matrix that was built. -/
structure Said2 (lv lu : Nat) (ys zs : List Int) (wc : World) (h : Value) (w3 : World) : Prop where
  hh : h = .int .i64 (outI lv lu)
  hm : ∃ ao co, w3.rowIs wc.heap.size 37 3 (fn3 (.int .i64 (outR lv lu)) (.int .i64 (outC lv lu)) (.slice ao (outN lv lu) co)) ∧ Lst w3 ao (outN lv lu) co (outL lv lu ys zs)
  bel : Below wc.heap.size wc w3

theorem outN_le (la lb : Nat) : outN la lb ≤ 16 := by
  unfold outN
  by_cases h : outI la lb = 0
  · have b := outI_zero h
    rw [if_pos h]
    exact prod_sideN b.2.1 b.2.2.2
  · rw [if_neg h]; omega
theorem bothI_iff (r c : Int) (len : Nat) (xs : List Int) (lv : Nat) (s : Int) (hs : s = r ∨ s = c) : bothI r c len xs lv s = 0 ↔ chkI r c len xs = 0 ∧ (lv : Int) = s := by
  constructor
  · intro h
    rcases bothI_cases r c len xs lv s with ⟨_, _, h2, h3⟩ | ⟨h2, _⟩
    · exact ⟨h2, h3⟩
    · exact absurd h h2
  · rintro ⟨h1, h2⟩
    obtain ⟨R, C, rfl, rfl, _, _, _, _, _, _⟩ := chkI_zero h1
    unfold bothI
    rw [if_neg (by omega), if_pos h1, if_pos h2]
theorem mulL_say (r c : Int) (len : Nat) (xs : List Int) (lv : Nat) (ys : List Int) : Hid (mulL r c len xs lv ys = sayMul r c len xs lv ys) := by
  show mulL r c len xs lv ys = sayMul r c len xs lv ys
  unfold mulL sayMul
  by_cases h : bothI r c len xs lv c = 0
  · rw [if_pos h, if_pos ((bothI_iff r c len xs lv c (.inr rfl)).1 h)]
  · rw [if_neg h, if_neg (fun g => h ((bothI_iff r c len xs lv c (.inr rfl)).2 g))]
theorem backL_say (r c : Int) (len : Nat) (xs : List Int) (lv : Nat) (ys : List Int) : Hid (backL r c len xs lv ys = sayBack r c len xs lv ys) := by
  show backL r c len xs lv ys = sayBack r c len xs lv ys
  unfold backL sayBack
  by_cases h : bothI r c len xs lv r = 0
  · rw [if_pos h, if_pos ((bothI_iff r c len xs lv r (.inl rfl)).1 h)]
  · rw [if_neg h, if_neg (fun g => h ((bothI_iff r c len xs lv r (.inl rfl)).2 g))]

/-- What must stay while the last calls are made: the boxed matrix, the built one, and the lists. -/
structure Tail (B w : World) (b0 : Nat) (f3 : Nat → Value) (ao : Option Addr) (no co : Nat) (lo : List Int) (am : Option Addr) (nm cm : Nat) (lm : List Int) (ab : Option Addr) (nb cb : Nat) (lb : List Int) (wx : World) : Prop where
  bel : Below (w.heap.size + 1) B wx
  row : wx.rowIs b0 37 3 f3
  out : Lst wx ao no co lo
  mul : Lst wx am nm cm lm
  back : Lst wx ab nb cb lb
theorem Tail.step {B w wx wy : World} {b0 : Nat} {f3 : Nat → Value} {ao : Option Addr} {no co : Nat} {lo : List Int} {am : Option Addr} {nm cm : Nat} {lm : List Int} {ab : Option Addr} {nb cb : Nat} {lb : List Int} (h : Tail B w b0 f3 ao no co lo am nm cm lm ab nb cb lb wx) (hB : w.heap.size + 1 ≤ B.heap.size) (hb : Below wx.heap.size wx wy) :
    Tail B w b0 f3 ao no co lo am nm cm lm ab nb cb lb wy :=
  ⟨h.bel.trans (hb.mono (Nat.le_trans hB h.bel.size)), rowIs_below h.row hb h.row.lt, h.out.below hb (Nat.le_refl _), h.mul.below hb (Nat.le_refl _), h.back.below hb (Nat.le_refl _)⟩

/-- While the law builds its matrix: the struct's own cells, and the numbers so far. -/
structure LawOut (wc : World) (lv lu : Nat) (ys zs : List Int) (k : Nat) (wr : World) : Prop where
  own : ∃ av cv, wr.rowIs wc.heap.size 37 3 (fn3 (.int .i64 lv) (.int .i64 lu) (.slice av k cv)) ∧ OwnI (wc.heap.size + 1) wr (.slice av k cv) ((List.range k).map (outerG ys zs lu))
  bel : Below wc.heap.size wc wr
theorem LawOut.start (wc : World) (lv lu : Nat) (ys zs : List Int) : LawOut wc lv lu ys zs 0 (wc.alloc (.cells #[.int .i64 lv, .int .i64 lu, .slice none 0 0] 37)) :=
  ⟨⟨none, 0, fn3_alloc _ _ _ _ _, OwnI.nil _ _⟩, (Below.refl _ _).alloc (Nat.le_refl _) _⟩
theorem LawOut.step {wc wr w2 : World} {lv lu k : Nat} {ys zs : List Int} {av av1 : Option Addr} {cv cv1 : Nat} {z : Int} (hrow : wr.rowIs wc.heap.size 37 3 (fn3 (.int .i64 lv) (.int .i64 lu) (.slice av k cv)))
    (hbl : Below wc.heap.size wc wr) (hb : Below (wc.heap.size + 1) wr w2) (hown : OwnI (wc.heap.size + 1) w2 (.slice av1 (k + 1) cv1) ((List.range k).map (outerG ys zs lu) ++ [z])) (hz : outerG ys zs lu k = z) :
    LawOut wc lv lu ys zs (k + 1) (w2.setCell ⟨wc.heap.size, 2, none⟩ (.slice av1 (k + 1) cv1)) := by
  refine ⟨⟨av1, cv1, ?_, ?_⟩, ?_⟩
  · refine ((rowIs_below hrow hb (Nat.lt_succ_self _)).set 2 _).congr (fun i hi => ?_)
    rcases (show i = 0 ∨ i = 1 ∨ i = 2 from by omega) with rfl | rfl | rfl <;> rfl
  · rw [← range_snoc _ _ _ hz]
    exact ownsRow_setCell_below hown (Nat.lt_succ_self _) _
  · exact (hbl.trans (hb.mono (by omega))).setCell (Nat.le_refl _) _

set_option maxRecDepth 100000 in
set_option maxHeartbeats 3200000 in
theorem vecTurns_any (r c : Int) (a : Option Addr) (len cap : Nat) (xs : List Int) (v : Option Addr) (lv cv : Nat) (ys : List Int) (u : Option Addr) (lu cu : Nat) (zs : List Int) (w : World) (ha : Lst w a len cap xs) (hv : Lst w v lv cv ys) (hu : Lst w u lu cu zs) :
    Calls Try.prog 5 #[.agg #[.int .i64 r, .int .i64 c, .slice a len cap], .slice v lv cv, .slice u lu cu] w fun e w' => e = .returned (.bool true) ∧ Below w.heap.size w w' := by
  have hal := (Below.refl w.heap.size w).alloc (Nat.le_refl _) (.cells #[.int .i64 r, .int .i64 c, .slice a len cap] 37)
  have ha0 := ha.below hal (Nat.le_refl _)
  go_enter Try.func5, Try.ntmps5
  go_upto_if 26 with (go_at_call 21; refine (rmat_calls _ _ _ _ _ xs _ ha0).mono ?_; rintro e w1 ⟨rfl, hw1⟩; obtain ⟨f0, f1, f2⟩ := box3 _ _ _ _ hw1 (by simp))
  go_cut [8, 9, 10, 11] (fun f g mul back w2 => Said1 r c a len cap xs lv ys w f g mul back w2)
  case first =>
    have hbw1 := hal.trans (hw1.mono hal.size)
    have ha1 := ha.below hbw1 (Nat.le_refl _)
    have hv1 := hv.below hbw1 (Nat.le_refl _)
    have hw1' : Below (w.heap.size + 1) (w.alloc (.cells #[.int .i64 r, .int .i64 c, .slice a len cap] 37)) w1 := hw1.mono (by simp)
    have hs1 : w.heap.size + 1 ≤ w1.heap.size := by have := hw1.size; simpa using this
    clear hw1 ha0 ha hv hu hal hbw1
    rcases chkI_cases r c len xs with h0 | ⟨h0, h1, h2⟩
    · have hz : (chkI r c len xs == 0) = true := by simp [h0]
      have H0 : Hid (chkI r c len xs = 0) := h0
      obtain ⟨R, C, rfl, rfl, hR1, hR2, hC1, hC2, rfl, _⟩ := chkI_zero h0
      clear h0
      by_cases ec : lv = C
      · by_cases er : lv = R
        · subst ec
          subst er
          have t1 : ((lv : Int) == (lv : Int)) = true := by simp
          go_wp2_with fail
          refine (rtimes_row lv lv a cap xs v cv ys _ ha1 hv1 hR2 hC2).mono ?_
          rintro e w2 ⟨am, cm, rfl, hm, hb2⟩
          have g0 := (hb2.cell (p := ⟨w.heap.size, 0, none⟩) (by exact hs1)).trans f0
          have g1 := (hb2.cell (p := ⟨w.heap.size, 1, none⟩) (by exact hs1)).trans f1
          have g2 := (hb2.cell (p := ⟨w.heap.size, 2, none⟩) (by exact hs1)).trans f2
          have ha2 := ha1.below hb2 (Nat.le_refl _)
          have hv2 := hv1.below hb2 (Nat.le_refl _)
          go_wp2_with fail
          refine (rtimes_col lv lv a cap xs v cv ys _ ha2 hv2 hR2 hC2).mono ?_
          rintro e w3 ⟨ab, cb, rfl, hk, hb3⟩
          go_wp2_with fail
          go_meet
          case rel => exact ⟨by rw [sayI_yes H0.out rfl], by rw [sayI_yes H0.out rfl], ⟨am, lv, cm, rfl, by omega, by unfold sayMul; rw [if_pos ⟨H0.out, rfl⟩]; exact hm.below hb3 (Nat.le_refl _)⟩, ⟨ab, lv, cb, rfl, by omega, by unfold sayBack; rw [if_pos ⟨H0.out, rfl⟩]; exact hk⟩, (hw1'.trans (hb2.mono hs1)).trans (hb3.mono (Nat.le_trans hs1 hb2.size))⟩
        · subst ec
          have t1 : ((lv : Int) == (lv : Int)) = true := by simp
          have t2 : ((lv : Int) == (R : Int)) = false := by rw [beq_eq_false_iff_ne]; omega
          go_wp2_with fail
          refine (rtimes_row R lv a cap xs v cv ys _ ha1 hv1 hR2 hC2).mono ?_
          rintro e w2 ⟨am, cm, rfl, hm, hb2⟩
          have g0 := (hb2.cell (p := ⟨w.heap.size, 0, none⟩) (by exact hs1)).trans f0
          go_wp2_with fail
          go_meet
          case rel => exact ⟨by rw [sayI_yes H0.out rfl], by rw [sayI_no H0.out (by omega)], ⟨am, R, cm, rfl, by omega, by unfold sayMul; rw [if_pos ⟨H0.out, rfl⟩]; exact hm⟩, ⟨none, 0, 0, rfl, by omega, by unfold sayBack; rw [if_neg (by omega)]; exact Lst.nil _ _ _⟩, hw1'.trans (hb2.mono hs1)⟩
      · have t1 : ((lv : Int) == (C : Int)) = false := by rw [beq_eq_false_iff_ne]; omega
        by_cases er : lv = R
        · subst er
          have t2 : ((lv : Int) == (lv : Int)) = true := by simp
          go_wp2_with fail
          refine (rtimes_col lv C a cap xs v cv ys _ ha1 hv1 hR2 hC2).mono ?_
          rintro e w2 ⟨ab, cb, rfl, hk, hb2⟩
          go_wp2_with fail
          go_meet
          case rel => exact ⟨by rw [sayI_no H0.out (by omega)], by rw [sayI_yes H0.out rfl], ⟨none, 0, 0, rfl, by omega, by unfold sayMul; rw [if_neg (by omega)]; exact Lst.nil _ _ _⟩, ⟨ab, C, cb, rfl, by omega, by unfold sayBack; rw [if_pos ⟨H0.out, rfl⟩]; exact hk⟩, hw1'.trans (hb2.mono hs1)⟩
        · have t2 : ((lv : Int) == (R : Int)) = false := by rw [beq_eq_false_iff_ne]; omega
          go_wp2_with fail
          go_meet
          case rel => exact ⟨by rw [sayI_no H0.out (by omega)], by rw [sayI_no H0.out (by omega)], ⟨none, 0, 0, rfl, by omega, by unfold sayMul; rw [if_neg (by omega)]; exact Lst.nil _ _ _⟩, ⟨none, 0, 0, rfl, by omega, by unfold sayBack; rw [if_neg (by omega)]; exact Lst.nil _ _ _⟩, hw1'⟩
    · go_wp2_with fail
      go_meet
      case rel => exact ⟨by rw [sayI_bad h0], by rw [sayI_bad h0], ⟨none, 0, 0, rfl, by omega, by unfold sayMul; rw [if_neg (fun h => h0 h.1)]; exact Lst.nil _ _ _⟩, ⟨none, 0, 0, rfl, by omega, by unfold sayBack; rw [if_neg (fun h => h0 h.1)]; exact Lst.nil _ _ _⟩, hw1'⟩
  case rest =>
    obtain ⟨rfl, rfl, ⟨am, nm, cm, rfl, hnm, hmul⟩, ⟨ab, nb, cb, rfl, hnb, hback⟩, hbel⟩ := hcut
    clear hw1 ha0 f0 f1 f2 w1
    have hbw := hal.trans (hbel.mono (by omega))
    generalize hwc : wc = wo at *
    clear hwc
    go_upto_block 0 with fail
    go_cut [13] (fun h w3 => Said2 lv lu ys zs wo h w3)
    case first =>
      clear hmul hback hnm hnb
      have hst := fn3_alloc wo (.int .i64 0) (.int .i64 0) (.slice none 0 0) 37
      have hsb := (Below.refl wo.heap.size wo).alloc (Nat.le_refl _) (.cells #[.int .i64 0, .int .i64 0, .slice none 0 0] 37)
      have hbad : ∀ h : Value, h = .int .i64 (outI lv lu) → outI lv lu ≠ 0 → Said2 lv lu ys zs wo h (wo.alloc (.cells #[.int .i64 0, .int .i64 0, .slice none 0 0] 37)) := fun h e ne =>
        ⟨e, ⟨none, 0, by rw [outR, outC, outN, if_neg ne, if_neg ne, if_neg ne]; exact hst, by rw [outN, outL, if_neg ne, if_neg ne]; exact Lst.nil _ _ _⟩, hsb⟩
      have HB : Hid (∀ h : Value, h = .int .i64 (outI lv lu) → outI lv lu ≠ 0 → Said2 lv lu ys zs wo h (wo.alloc (.cells #[.int .i64 0, .int .i64 0, .slice none 0 0] 37))) := hbad
      clear hbad
      by_cases hl : 200 < lv
      · have ho : outI lv lu = 2 := if_pos (.inl hl)
        have HO : Hid (outI lv lu = 2) := ho
        clear ho
        go_wp2_with fail
        go_meet
        case rel => exact HB.out _ (by rw [HO.out]) (by rw [HO.out]; decide)
      · by_cases hl2 : 200 < lu
        · have ho : outI lv lu = 2 := if_pos (.inr hl2)
          have HO : Hid (outI lv lu = 2) := ho
          clear ho
          go_wp2_with fail
          go_meet
          case rel => exact HB.out _ (by rw [HO.out]) (by rw [HO.out]; decide)
        · cases sv : sideB lv with
          | false =>
            have sv' : inB lv 1 4 = false := sv
            have HO : Hid (outI lv lu = 5) := by unfold outI; rw [if_neg (by omega), if_neg (by simp [sv])]; rfl
            go_wp2_with (go_at_call 23; refine (rin_calls _ _ _ _).mono ?_; rintro e w' ⟨rfl, rfl⟩)
            go_meet
            case rel => exact HB.out _ (by rw [HO.out]) (by rw [HO.out]; decide)
          | true =>
            have sv' : inB lv 1 4 = true := sv
            cases su : sideB lu with
            | false =>
              have su' : inB lu 1 4 = false := su
              have HO : Hid (outI lv lu = 5) := by unfold outI; rw [if_neg (by omega), if_neg (by simp [su])]; rfl
              go_wp2_with (go_at_call 23; refine (rin_calls _ _ _ _).mono ?_; rintro e w' ⟨rfl, rfl⟩)
              go_meet
              case rel => exact HB.out _ (by rw [HO.out]) (by rw [HO.out]; decide)
            | true =>
              have su' : inB lu 1 4 = true := su
              have HO : Hid (outI lv lu = 0) := by unfold outI; rw [if_neg (by omega), if_pos ⟨sv, su⟩]; rfl
              have bv := sideB_true sv
              have bu := sideB_true su
              have b1 : lv ≤ 4 := by omega
              have b2 : lu ≤ 4 := by omega
              have b3 : 1 ≤ lu := by omega
              have h2 := prod_sideN b1 b2
              have i3 : (lv : Int) * (lu : Int) ≤ 16 := by exact_mod_cast h2
              have i4 : 0 ≤ (lv : Int) * (lu : Int) := by exact_mod_cast Nat.zero_le (lv * lu)
              go_wp2_with (go_at_call 23; refine (rin_calls _ _ _ _).mono ?_; rintro e w' ⟨rfl, rfl⟩)
              go_loopw [53] (fun i wr => ∃ k : Nat, k ≤ lv * lu ∧ i = .int .i64 k ∧ LawOut wo lv lu ys zs k wr) (fun i _ => lv * lu - (intOf i).toNat)
              case atStart => exact ⟨0, Nat.zero_le _, rfl, LawOut.start _ _ _ _ _⟩
              case round =>
                obtain ⟨k, hk, rfl, ⟨av, cv1, hrow, hown⟩, hbl⟩ := hrel
                by_cases hlt : k < lv * lu
                · have d1 : k / lu < lv := by rw [Nat.div_lt_iff_lt_mul (by omega)]; exact hlt
                  have d2 : k % lu < lu := Nat.mod_lt _ (by omega)
                  have hbw2 := hbw.trans (hbl.mono hbw.size)
                  obtain ⟨b1, o1, x, rfl, s1, c1, HX⟩ := hv.at1b hbw2 (Nat.le_refl _) d1
                  obtain ⟨b2, o2, y, rfl, s2, c2, HY⟩ := hu.at1b hbw2 (Nat.le_refl _) d2
                  obtain ⟨_, _, g2⟩ := fn3_cells hrow
                  have f2 := hrow.frozen 2
                  have hlt2 := hrow.lt
                  have hsz := hbw.size
                  have n1 : b1 ≠ wo.heap.size := by omega
                  have n2 : b2 ≠ wo.heap.size := by omega
                  have ga : ∀ o, (wr.alloc o).cell? ⟨wo.heap.size, 2, none⟩ = some (.slice av k cv1) := fun o => (((Below.refl wr.heap.size wr).alloc (Nat.le_refl _) o).cell (p := ⟨wo.heap.size, 2, none⟩) hlt2).trans g2
                  have hdm : lu * (k / lu) + k % lu = k := Nat.div_add_mod _ _
                  have HZ : Hid (outerG ys zs lu k = mulI x y) := by unfold outerG; rw [HX.out, HY.out]; rfl
                  obtain ⟨q, hq⟩ : ∃ q, k / lu = q := ⟨_, rfl⟩
                  obtain ⟨m, hm⟩ : ∃ m, k % lu = m := ⟨_, rfl⟩
                  have e1 : (k : Int) / (lu : Int) = (q : Int) := by rw [← hq]; rfl
                  have e3 : IntKind.i64.wrap (q : Int) = (q : Int) := wrap_in _ (by omega) (by have := Nat.div_le_self k lu; omega)
                  have e2 : (k : Int) % (lu : Int) = (m : Int) := by rw [← hm]; rfl
                  have e4 : (k : Int).tmod (lu : Int) = (m : Int) := by rw [← hm]; rfl
                  rw [hq] at c1 d1
                  rw [hm] at c2 d2
                  have lu0 : ¬ lu = 0 := by omega
                  have j1 : (q : Int) < (lv : Int) := by omega
                  have j2 : (m : Int) < (lu : Int) := by omega
                  clear HB HO hst hsb hv hu ha hq hm hdm HX HY
                  go_wp2
                  go_region_law (first | (refine step_append_int (by rfl) _ _ (by rfl) (wo.heap.size + 1) _ ((List.range k).map (outerG ys zs lu)) (mulI x y) wr.heap.size wr (by rfl) (by rfl) (by exact hown.drew.alloc _) (by exact cell_new _ _ _) (by simp; omega) (by simp; omega) (by exact (Below.refl _ _).drew.alloc (by simp; omega) _) ?_; intro v1 w2 hown1 hbel1; obtain ⟨av1, cv2, hv1, _⟩ := hown1.lst' (n := k + 1) (by simp); subst hv1; have q2 := (hbel1.cell (p := ⟨wo.heap.size, 2, none⟩) (Nat.lt_succ_self _)).trans g2; have q3 := (hbel1.frozen (p := ⟨wo.heap.size, 2, none⟩) (Nat.lt_succ_self _)).trans f2) | (go_simp; go_at_call 15; refine (rmul_calls _ _ _).mono ?_; rintro e w' ⟨rfl, rfl⟩))
                  all_goals
                    go_wp2
                    go_roundw
                    case rel => exact ⟨k + 1, by omega, by go_num, LawOut.step hrow hbl hbel1 hown1 HZ.out⟩
                    case measure => simp [intOf]; omega
                · obtain rfl : k = lv * lu := by omega
                  obtain ⟨_, _, hav, hl⟩ := hown.lst' (n := lv * lu) (by simp)
                  cases hav
                  go_wp2_with fail
                  go_meet
                  case rel => exact ⟨by rw [HO.out], ⟨av, cv1, by rw [outR, outC, outN, if_pos HO.out, if_pos HO.out, if_pos HO.out]; exact hrow, by rw [outN, outL, if_pos HO.out, if_pos HO.out]; exact hl⟩, hbl⟩
    case rest =>
      obtain ⟨rfl, ⟨ao, co, hrow, hout⟩, hbl⟩ := hcut
      have hs1 : w.heap.size + 1 ≤ wo.heap.size := by have := hbel.size; simpa using this
      have T : Tail (w.alloc (.cells #[.int .i64 r, .int .i64 c, .slice a len cap] 37)) w wo.heap.size (fn3 (.int .i64 (outR lv lu)) (.int .i64 (outC lv lu)) (.slice ao (outN lv lu) co)) ao (outN lv lu) co (outL lv lu ys zs) am nm cm (sayMul r c len xs lv ys) ab nb cb (sayBack r c len xs lv ys) wc :=
        ⟨hbel.trans (hbl.mono hs1), hrow, hout, hmul.below hbl (Nat.le_refl _), hback.below hbl (Nat.le_refl _)⟩
      clear hbel hbl hrow hout hmul hback hbw
      generalize hwc : wc = w3 at *
      clear hwc
      go_upto_if 99 with fail
      go_cut [8, 9] (fun f g w4 => f = .int .i64 (bothI r c len xs lv c) ∧ g = .int .i64 (bothI r c len xs lv r) ∧ w4 = w3)
      case first =>
        by_cases hl : 200 < lv
        · have B1 : Hid (bothI r c len xs lv c = 2) := if_pos hl
          have B2 : Hid (bothI r c len xs lv r = 2) := if_pos hl
          go_wp2_with fail
          go_meet
          case rel => exact ⟨by rw [B1.out], by rw [B2.out], rfl⟩
        · have B1 : Hid (bothI r c len xs lv c = sayI r c len xs lv c) := if_neg hl
          have B2 : Hid (bothI r c len xs lv r = sayI r c len xs lv r) := if_neg hl
          go_wp2_with fail
          go_meet
          case rel => exact ⟨by rw [B1.out], by rw [B2.out], rfl⟩
      case rest =>
        obtain ⟨rfl, rfl, hw4⟩ := hcut
        subst hw4
        have hB : w.heap.size + 1 ≤ (w.alloc (.cells #[.int .i64 r, .int .i64 c, .slice a len cap] 37)).heap.size := by simp
        have HM := mulL_say r c len xs lv ys
        have HK := backL_say r c len xs lv ys
        obtain ⟨g0, g1, g2⟩ := box3 _ _ _ _ T.bel (Nat.lt_succ_self _)
        have hbx := hal.trans (T.bel.mono (by omega))
        go_wp2_with fail
        refine (vMul_calls _ _ _ _ _ xs _ _ _ ys _ (ha.below hbx (Nat.le_refl _)) (hv.below hbx (Nat.le_refl _))).mono ?_
        rintro e p1 ⟨ax, nx, rfl, hnx, hX, hp1⟩
        replace T := T.step hB hp1
        clear g0 g1 g2 hbx hp1
        obtain ⟨g0, g1, g2⟩ := box3 _ _ _ _ T.bel (Nat.lt_succ_self _)
        have hbx := hal.trans (T.bel.mono (by omega))
        go_wp2_with fail
        refine (vBack_calls _ _ _ _ _ xs _ _ _ ys _ (ha.below hbx (Nat.le_refl _)) (hv.below hbx (Nat.le_refl _))).mono ?_
        rintro e p2 ⟨ay, ny, rfl, hny, hY, hp2⟩
        replace T := T.step hB hp2
        replace hX := hX.below hp2 (Nat.le_refl _)
        clear g0 g1 g2 hbx hp2
        have hbx := hal.trans (T.bel.mono (by omega))
        go_wp2_with fail
        refine (vOuter_calls _ _ _ _ _ _ ys zs _ (hv.below hbx (Nat.le_refl _)) (hu.below hbx (Nat.le_refl _))).mono ?_
        rintro e p3 ⟨az, rfl, hZ, hp3⟩
        replace T := T.step hB hp3
        replace hX := hX.below hp3 (Nat.le_refl _)
        replace hY := hY.below hp3 (Nat.le_refl _)
        clear hbx hp3
        have hp4 := (Below.refl p3.heap.size p3).alloc (Nat.le_refl _) (.cells #[.int .i64 (outR lv lu), .int .i64 (outC lv lu), .slice az (outN lv lu) (outN lv lu)] 37)
        have hz := fn3_alloc p3 (.int .i64 (outR lv lu)) (.int .i64 (outC lv lu)) (.slice az (outN lv lu) (outN lv lu)) 37
        replace T := T.step hB hp4
        replace hX := hX.below hp4 (Nat.le_refl _)
        replace hY := hY.below hp4 (Nat.le_refl _)
        replace hZ := hZ.below hp4 (Nat.le_refl _)
        clear hp4
        obtain ⟨g0, g1, g2⟩ := box3 _ _ _ _ T.bel (Nat.lt_succ_self _)
        have hbx := hal.trans (T.bel.mono (by omega))
        go_wp2_with fail
        refine (check_calls _ _ _ _ _ xs _ (ha.below hbx (Nat.le_refl _))).mono ?_
        rintro e p5 ⟨rfl, hp5⟩
        replace T := T.step hB hp5
        replace hX := hX.below hp5 (Nat.le_refl _)
        replace hY := hY.below hp5 (Nat.le_refl _)
        replace hZ := hZ.below hp5 (Nat.le_refl _)
        replace hz := rowIs_below hz hp5 hz.lt
        clear g0 g1 g2 hbx hp5
        go_wp2_with fail
        refine (eq_calls _ _ _ _ _ _ _ _ _ hX T.mul (by omega)).mono ?_
        rintro e p6 ⟨rfl, n6, h6⟩
        rw [decide_eq_true HM.out]
        have hp6 : Below p5.heap.size p5 p6 := h6 ▸ below_drewN (Below.refl _ _) _
        replace T := T.step hB hp6
        replace hY := hY.below hp6 (Nat.le_refl _)
        replace hZ := hZ.below hp6 (Nat.le_refl _)
        replace hz := rowIs_below hz hp6 hz.lt
        clear hp6 h6 hX
        go_wp2_with fail
        refine (eq_calls _ _ _ _ _ _ _ _ _ hY T.back (by omega)).mono ?_
        rintro e p7 ⟨rfl, n7, h7⟩
        rw [decide_eq_true HK.out]
        have hp7 : Below p6.heap.size p6 p7 := h7 ▸ below_drewN (Below.refl _ _) _
        replace T := T.step hB hp7
        replace hZ := hZ.below hp7 (Nat.le_refl _)
        replace hz := rowIs_below hz hp7 hz.lt
        clear hp7 h7 hY
        obtain ⟨z0, z1, z2⟩ := fn3_cells hz
        obtain ⟨o0, o1, o2⟩ := fn3_cells T.row
        have hn := outN_le lv lu
        go_wp2_with fail
        refine (rsame_calls _ _ _ _ _ _ _ (outL lv lu ys zs) _ hZ T.out (by omega)).mono ?_
        rintro e p8 ⟨rfl, hp8⟩
        replace T := T.step hB hp8
        have hbx := hal.trans (T.bel.mono (by omega))
        clear z0 z1 z2 o0 o1 o2 hz hZ hp8
        go_wp2
        go_ret
        exact ⟨rfl, hbx⟩
end Go.Proofs.Ytknmnailimkliaa.Fx
