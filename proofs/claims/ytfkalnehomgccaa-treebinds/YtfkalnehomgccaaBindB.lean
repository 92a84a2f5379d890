/- What coachkeep.pairs returns: all that is digested, from the chunk to the root. -/
import Derived.Test.YtfkalnehomgccaaBindA
namespace Go.Proofs.Ytfkalnehomgccaa.Fx
open Go.RowKit

theorem OwnW.at0 {base : Nat} {w : World} {v : Value} {xs : List Int} {n : Nat} (h : OwnW base w v xs) (hl : xs.length = n) (hn : 0 < n) : ∃ g c, v = .slice (some ⟨g, 0, none⟩) n c ∧ base ≤ g ∧ g < w.heap.size ∧ LstW w (some ⟨g, 0, none⟩) n c xs := by
  obtain ⟨a', c', e, hL⟩ := h.lst' hl
  rcases h.2 with ⟨hv, _⟩ | ⟨g, cap, cur, hv, hg, hh, _⟩
  · rw [e] at hv
    simp only [Value.slice.injEq] at hv
    omega
  · rw [e] at hv
    simp only [Value.slice.injEq] at hv
    obtain ⟨rfl, _, _⟩ := hv
    exact ⟨g, c', e, hg, (Array.getElem?_eq_some_iff.1 hh).1, hL⟩
theorem OwnW.one (w : World) (x : Int) : OwnW w.heap.size (w.alloc (.cells #[.int .u64 x] 25)) (.slice (some ⟨w.heap.size, 0, none⟩) 1 1) [x] := OwnV.lit 25 w (.int .u64 x)
theorem LstW.three (w : World) (x y z : Int) (t : TypeId) : LstW (w.alloc (.cells #[.int .u64 x, .int .u64 y, .int .u64 z] t)) (some ⟨w.heap.size, 0, none⟩) 3 3 [x, y, z] :=
  LstW.row (World.rowIs_alloc w #[.int .u64 x, .int .u64 y, .int .u64 z] t (fun i => .int .u64 ([x, y, z].getD i 0)) (by
    intro i hi
    rcases (show i = 0 ∨ i = 1 ∨ i = 2 from by have : i < 3 := hi
                                               omega) with rfl | rfl | rfl <;> rfl)) rfl (fun _ _ => rfl)
theorem OwnLL.one {base : Nat} {w : World} {g n c : Nat} {l : List Int} (hl : LstW w (some ⟨g, 0, none⟩) n c l) (hb : base ≤ g) (hg : g < w.heap.size) (hbw : base ≤ w.heap.size) : OwnLL base (w.alloc (.cells #[.slice (some ⟨g, 0, none⟩) n c] 26)) (.slice (some ⟨w.heap.size, 0, none⟩) 1 1) [l] := by
  refine ⟨_, (OwnV.lit 26 w (.slice (some ⟨g, 0, none⟩) n c)).mono hbw, rfl, fun k hk => ?_⟩
  obtain rfl : k = 0 := by simp at hk; omega
  have hln := hl.len
  refine ⟨g, c, by simp [hln], ?_, hb, by simp; omega, fun e => ?_⟩
  · have := hl.below (low_alloc w (.cells #[.slice (some ⟨g, 0, none⟩) n c] 26)) (Nat.le_refl _)
    simpa [hln] using this
  · simp [Value.ownBlock] at e
    omega
theorem ovfar {base : Nat} {w : World} {y : Value} {fs : List (List Int)} (h : OwnLL base w y fs) {g : Nat} (hg : w.heap.size ≤ g) : y.ownBlock ≠ some g := fun e => by
  rcases h.blk with e1 | ⟨g1, e1, _, b2⟩
  · rw [e1] at e; cases e
  · rw [e1] at e; simp at e; omega
theorem fs_snoc (f : Nat → List Int) (k : Nat) (l : List Int) (h : f k = l) : (List.range k).map f ++ [l] = (List.range (k + 1)).map f := by
  rw [List.range_succ, List.map_append, List.map_singleton, h]

set_option maxRecDepth 100000 in
set_option maxHeartbeats 3200000 in
theorem kpairs_calls (i n : Nat) (h1 : 1 ≤ n) (h2 : n ≤ 200) (hi : i < (n + 3) / 4) (a : Option Addr) (m c : Nat) (xs : List Int) (hm1 : 1 ≤ m) (hm4 : m ≤ 4) (b : Option Addr) (p d : Nat) (ps : List Int) (hp : p = deepP i ((n + 3) / 4)) (w : World) (lx : Lst w a m c xs) (lp : LstW w b p d ps) (hps : okL ps) :
    Calls Try.prog 17 #[.int .i64 i, .int .i64 n, .slice a m c, .slice b p d] w fun e w' => ∃ v, e = .returned v ∧ OwnLL w.heap.size w' v ((List.range (p + 2)).map (allB n (turnP i ((n + 3) / 4)) (numL xs m) (ofP 4 (numL xs m)) ps)) ∧ Below w.heap.size w w' := by
  have NU := dNumbers_calls a m c xs w lx
  have hnl : (numL xs m).length = m := by unfold numL; rw [if_neg (by omega)]; simp
  have hnok := numL_ok xs m
  have hXo := okP_W (ofP_ok 4 (numL xs m))
  have HOA : Hid (ofA 4 (numL xs m) m = ofP 4 (numL xs m)) := by show _ = _; unfold ofA; rw [if_neg (by omega)]
  have HBI : Hid (bigI m = 0) := by show _ = _; unfold bigI; rw [if_neg (by omega)]
  have hd50 := deepP_le i ((n + 3) / 4)
  have htl := turnP_len ((n + 3) / 4) i ((n + 3) / 4) (Nat.le_refl _) hi
  have hpl := lp.len
  obtain ⟨NL, hNL⟩ : ∃ t, (n + 3) / 4 = t := ⟨_, rfl⟩
  rw [hNL] at hi hp hd50 htl ⊢
  have hNL50 : NL ≤ 50 := by omega
  have q1 : ((n : Int) + 3).tdiv 4 = (NL : Int) := by rw [Int.tdiv_eq_ediv_of_nonneg (by omega)]; omega
  have q2 : ((n : Int) + 3) / 4 = (NL : Int) := by omega
  have HNW : Hid (∀ j, okW (nowB (turnP i NL) (ofP 4 (numL xs m)) ps j)) := fun j => by
    cases j with
    | zero => exact hXo
    | succ j => rw [nowB]; split <;> exact okP_W (ofP_ok _ _)
  have HN0 : Hid (nowB (turnP i NL) (ofP 4 (numL xs m)) ps 0 = ofP 4 (numL xs m)) := rfl
  have HAB0 : Hid (allB n (turnP i NL) (numL xs m) (ofP 4 (numL xs m)) ps 0 = 4 :: numL xs m) := by show _ = _; unfold allB; rw [if_pos rfl]
  have HABj : Hid (∀ j, j < p → allB n (turnP i NL) (numL xs m) (ofP 4 (numL xs m)) ps (j + 1) = pairB (turnP i NL) (ofP 4 (numL xs m)) ps j) := fun j hj => by unfold allB; rw [if_neg (by omega), if_pos (by omega)]; rfl
  have HABp : Hid (allB n (turnP i NL) (numL xs m) (ofP 4 (numL xs m)) ps (p + 1) = [3, (n : Int), nowB (turnP i NL) (ofP 4 (numL xs m)) ps p]) := by show _ = _; unfold allB; rw [if_neg (by omega), if_neg (by omega), hpl]
  have HPB : Hid (∀ j, pairB (turnP i NL) (ofP 4 (numL xs m)) ps j = if (turnP i NL).getD ((turnP i NL).length - 1 - j) false = true then [3, ps.getD j 0 % 2305843009213693951, nowB (turnP i NL) (ofP 4 (numL xs m)) ps j] else [3, nowB (turnP i NL) (ofP 4 (numL xs m)) ps j, ps.getD j 0 % 2305843009213693951]) := fun j => rfl
  have HNB : Hid (∀ j, nowB (turnP i NL) (ofP 4 (numL xs m)) ps (j + 1) = if (turnP i NL).getD ((turnP i NL).length - 1 - j) false = true then ofP 3 [ps.getD j 0 % 2305843009213693951, nowB (turnP i NL) (ofP 4 (numL xs m)) ps j] else ofP 3 [nowB (turnP i NL) (ofP 4 (numL xs m)) ps j, ps.getD j 0 % 2305843009213693951]) := fun j => rfl
  have hp50 : p ≤ 50 := by omega
  have HTL : Hid ((turnP i NL).length = p) := by show _ = _; rw [htl, hp]
  obtain ⟨TS, HTS⟩ : ∃ t, Hid (t = turnP i NL) := ⟨_, rfl⟩
  rw [← HTS.out] at HNW HN0 HAB0 HABj HABp HPB HNB HTL ⊢
  generalize allB n TS (numL xs m) (ofP 4 (numL xs m)) ps = AB at *
  generalize pairB TS (ofP 4 (numL xs m)) ps = PB at *
  generalize nowB TS (ofP 4 (numL xs m)) ps = NB at *
  rw [HBI.out] at NU
  have HOF : Hid (∀ g o q, LstW q (some ⟨g, o, none⟩) m m (numL xs m) → Calls Try.prog 31 #[.int .u64 4, .slice (some ⟨g, o, none⟩) m m] q fun e w' => e = .returned (.tuple #[.int .u64 (ofP 4 (numL xs m)), .int .i64 0]) ∧ Below q.heap.size q w') := fun g o q hl => by
    have h := dOf_calls 4 ⟨by omega, by omega⟩ (some ⟨g, o, none⟩) m m _ q hl hnok
    rw [HOA.out, HBI.out] at h
    exact h
  generalize ofP 4 (numL xs m) = X at *
  generalize numL xs m = NM at *
  have HOK : Hid (okL ps) := hps
  clear lx hps hnok hXo HOA HBI hd50 htl hp hNL
  go_enter Try.func17, Try.ntmps17
  go_wp2_with fail
  refine NU.mono ?_
  rintro e w1 ⟨a', m', rfl, _, ln, hw1⟩
  obtain rfl : m = m' := by rw [← hnl]; exact ln.len
  obtain ⟨lg, lo, rfl, _⟩ := ln.at (by omega)
  have own0 := OwnW.one w1 4
  have hl1 := low_alloc w1 (.cells #[.int .u64 4] 25)
  have ln1 := ln.below hl1 (Nat.le_refl _)
  clear NU
  go_wp2_with (at_builtin; refine wpList_append_words (by rfl) _ _ (by rfl) w1.heap.size _ [4] NM lg lo m m w1 (by rfl) (by rfl) (by exact own0) (by exact ln1) (by simp; omega) (by exact hl1.size) (by exact hl1) ?_; intro v2 w2 hown2 hbel2 hgr2 hob2; obtain ⟨g2, c2, hv2, hg2, hg2s, l2⟩ := hown2.at0 (n := m + 1) (by simp [hnl]) (by omega); subst hv2)
  have bel2 : Below w.heap.size w w2 := hw1.trans (hbel2.mono hw1.size)
  have LL0 := OwnLL.one (base := w.heap.size) l2 (Nat.le_trans hw1.size hg2) hg2s bel2.size
  have hl3 := low_alloc w2 (.cells #[.slice (some ⟨g2, 0, none⟩) (m + 1) c2] 26)
  have bel3 := bel2.trans (hl3.mono bel2.size)
  have OF := HOF.out _ _ _ ((ln.below hbel2 (Nat.le_refl _)).below hl3 (Nat.le_refl _))
  refine OF.mono ?_
  rintro e w4 ⟨rfl, hw4⟩
  replace LL0 := LL0.below hw4
  have bel4 := bel3.trans (hw4.mono bel3.size)
  have HLL0 : Hid (OwnLL w.heap.size w4 (.slice (some ⟨w2.heap.size, 0, none⟩) 1 1) ((List.range 1).map AB)) := by
    have e : (List.range 1).map AB = [[4] ++ NM] := by
      rw [show List.range 1 = [0] from rfl, List.map_cons, List.map_nil, HAB0.out]
      rfl
    rw [e]
    exact LL0
  have hw24 : w2.heap.size < w4.heap.size := by have := hw4.size; simp at this; omega
  clear OF HOF ln ln1 own0 hl1 hl3 hown2 hbel2 hgr2 hob2 l2 hg2s LL0 bel2 bel3 hw4 hw1
  go_wp2_with fail
  go_loopw [14, 15, 16] (fun rv kv mv wr => ∃ (ts : List Bool) (k mm : Nat), kv = .int .i64 k ∧ mv = .int .i64 mm ∧ k < mm ∧ mm ≤ 50 ∧ Hid (ts ++ turnP k mm = TS) ∧ OwnV 4 w4.heap.size wr rv (ts.map Value.bool) ∧ Below w4.heap.size w4 wr) (fun _ _ mv _ => (intOf mv).toNat)
  case atStart => exact ⟨[], i, NL, rfl, rfl, hi, hNL50, by show _ = _; rw [HTS.out]; rfl, OwnV.nil _ _ _, Below.refl _ _⟩
  case round =>
    obtain ⟨ts, k, mm, rfl, rfl, hk, hm50, HT, hrow, hbel⟩ := hrel
    by_cases hmm : 1 < mm
    · generalize hq : wr = q1 at *
      clear hq
      go_wp2_with fail
      go_loop [17] (fun v => ∃ j h : Nat, v = .int .i64 h ∧ Hid (h = 2 ^ j) ∧ 1 ≤ h ∧ h < mm) (fun v => mm - (intOf v).toNat)
      case atStart => exact ⟨0, 1, rfl, rfl, by omega, by omega⟩
      case round =>
        obtain ⟨j, h, rfl, HJ, y1, y2⟩ := hrel
        by_cases hlt : h + h < mm
        · go_wp2_with fail
          go_roundw
          case rel => exact ⟨j + 1, h + h, by go_num, by show h + h = 2 ^ (j + 1); rw [HJ.out, Nat.pow_succ]; omega, by omega, hlt⟩
          case measure => simp [intOf]; omega
        · have HC : Hid (cutN mm = h) := by show _ = _; rw [HJ.out] at y2 hlt ⊢; exact cutN_is y2 (by omega)
          by_cases hkh : h ≤ k
          · skip
            have y3 : (h : Int) ≤ (k : Int) := by omega
            have hsub : (k : Int) - (h : Int) = ((k - h : Nat) : Int) := by omega
            have hsub2 : (mm : Int) - (h : Int) = ((mm - h : Nat) : Int) := by omega
            have HT2 : Hid ((ts ++ [true]) ++ turnP (k - h) (mm - h) = TS) := by
              show _ = _
              rw [← HT.out, turnP_right (k := k) (m := mm) (by omega) (by rw [HC.out]; omega), HC.out, List.append_assoc]
              rfl
            have al := low_alloc q1 (.cells #[.bool true] 4)
            have row2 := hrow.below al
            have bel2 := hbel.trans (al.mono hbel.size)
            have cn := cell_new q1 (.bool true) 4
            have hln : (ts.map Value.bool).length ≤ 1000 := by
              rw [List.length_map]
              have e1 := HTL.out
              rw [← HT.out, List.length_append] at e1
              omega
            clear HJ HC hrow
            go_wp2_with (at_builtin; refine wpList_append_v (T := 4) Try.underlying58 infoBL rfl (by decide) (by rfl) _ _ (by rfl) w4.heap.size _ (ts.map Value.bool) (.bool true) q1.heap.size w4 (by rfl) (by rfl) (by exact row2) (by exact cn) rfl (by exact hln) (by exact bel2.size) (by exact bel2) ?_; intro v3 w3 hown3 hbel3 hgr3 hob3)
            go_roundw
            case rel => exact ⟨ts ++ [true], k - h, mm - h, rfl, rfl, by omega, by omega, HT2, by rw [List.map_append]; exact hown3, hbel3⟩
            case measure => simp [intOf]; omega
          · skip
            have y3 : ¬ (h : Int) ≤ (k : Int) := by omega
            have HT2 : Hid ((ts ++ [false]) ++ turnP k h = TS) := by
              show _ = _
              rw [← HT.out, turnP_left (k := k) (m := mm) (by omega) (by rw [HC.out]; omega), HC.out, List.append_assoc]
              rfl
            have al := low_alloc q1 (.cells #[.bool false] 4)
            have row2 := hrow.below al
            have bel2 := hbel.trans (al.mono hbel.size)
            have cn := cell_new q1 (.bool false) 4
            have hln : (ts.map Value.bool).length ≤ 1000 := by
              rw [List.length_map]
              have e1 := HTL.out
              rw [← HT.out, List.length_append] at e1
              omega
            clear HJ HC hrow
            go_wp2_with (at_builtin; refine wpList_append_v (T := 4) Try.underlying58 infoBL rfl (by decide) (by rfl) _ _ (by rfl) w4.heap.size _ (ts.map Value.bool) (.bool false) q1.heap.size w4 (by rfl) (by rfl) (by exact row2) (by exact cn) rfl (by exact hln) (by exact bel2.size) (by exact bel2) ?_; intro v3 w3 hown3 hbel3 hgr3 hob3)
            go_roundw
            case rel => exact ⟨ts ++ [false], k, h, rfl, rfl, by omega, by omega, HT2, by rw [List.map_append]; exact hown3, hbel3⟩
            case measure => simp [intOf]; omega
    · have hm1 : ¬ (mm : Int) > 1 := by omega
      have HTE : Hid (ts = TS) := by show ts = TS; have := HT.out; rw [turnP_one (by omega), List.append_nil] at this; exact this
      rw [HTE.out] at hrow
      have bel5 := bel4.trans (hbel.mono bel4.size)
      have LL5 := HLL0.out.below hbel
      generalize hrv : u14 = rv at *
      clear hrv
      have hap : rv.ownBlock = none ∨ rv.ownBlock ≠ (Value.slice (some ⟨w2.heap.size, 0, none⟩) 1 1).ownBlock := by
        rcases hrow.blk with e | ⟨g, e, b1, b2⟩
        · exact .inl e
        · refine .inr (fun e2 => ?_)
          rw [e] at e2
          simp [Value.ownBlock] at e2
          omega
      clear HT HTE HTS hk hm50 hmm
      generalize hq : wr = q5 at *
      clear hq
      go_wp2_with fail
      go_loopw [11, 12, 65] (fun ov nv jv wr => ∃ j : Nat, j ≤ p ∧ jv = .int .i64 j ∧ nv = .int .u64 (NB j) ∧ OwnLL w.heap.size wr ov ((List.range (j + 1)).map AB) ∧ OwnV 4 w4.heap.size wr rv (TS.map Value.bool) ∧ (rv.ownBlock = none ∨ rv.ownBlock ≠ ov.ownBlock) ∧ Below w.heap.size w wr) (fun _ _ jv _ => p - (intOf jv).toNat)
      case atStart => exact ⟨0, Nat.zero_le _, rfl, by rw [HN0.out], LL5, hrow, hap, bel5⟩
      case round =>
        clear hrow hap LL5 bel5
        obtain ⟨j, hj, rfl, rfl, hll, hrow, hap, hbel6⟩ := hrel
        by_cases hlt : j < p
        · obtain ⟨b1, o1, x, rfl, _, cx, HX⟩ := lp.at1b hbel6 (Nat.le_refl _) hlt
          obtain ⟨gb, cb, hrv, hgb, hgbs, hcb, hcells⟩ := hrow.row (by rw [List.length_map, HTL.out]; omega)
          rw [List.length_map, HTL.out] at hrv hcb
          subst hrv
          generalize hov : u11 = ov at *
          clear hov
          have hx : okW x := by rw [← HX.out]; exact HOK.out j (by omega)
          obtain ⟨x0, x1⟩ := hx
          obtain ⟨YM, HYM⟩ : ∃ t, Hid (x % 2305843009213693951 = t) := ⟨_, rfl⟩
          have ty : x.tmod 2305843009213693951 = YM := by rw [← HYM.out, Int.tmod_eq_emod_of_nonneg x0]
          have ey : x % 2305843009213693951 = YM := HYM.out
          have hYM : okW YM := by rw [← HYM.out]; exact ⟨by omega, by omega⟩
          have hNBj := HNW.out j
          have HPBj := HPB.out j
          have HNBj := HNB.out j
          rw [HX.out, HYM.out, HTL.out] at HPBj HNBj
          obtain ⟨D, hD⟩ : ∃ D : Nat, p - 1 - j = D := ⟨_, rfl⟩
          rw [hD] at HPBj HNBj
          have hDl : D < TS.length := by rw [HTL.out]; omega
          obtain ⟨t, ht⟩ : ∃ t, TS.getD D false = t := ⟨_, rfl⟩
          rw [ht] at HPBj HNBj
          have ct := hcells D (.bool t) (by
            rw [List.getElem?_map, List.getElem?_eq_getElem hDl]
            rw [List.getD_eq_getElem?_getD, List.getElem?_eq_getElem hDl] at ht
            simpa using ht)
          have k1 : (p : Int) - 1 - (j : Int) = (D : Int) := by omega
          have k2 : (p : Int) - 1 - (j : Int) < (p : Int) := by omega
          have k3 : (0 : Int) ≤ (p : Int) - 1 - (j : Int) := by omega
          have k4 : (D : Int) < (p : Int) := by omega
          have k5 : (0 : Int) ≤ (D : Int) := by omega
          have k6 : D < p := by omega
          generalize hq6 : wr = q6 at *
          clear hq6
          have al1 := low_alloc q6 (.cells #[.int .u64 (NB j), .int .u64 YM] 25)
          have two1 := LstW.two q6 (NB j) YM 25
          have ct1 := (al1.cell (p := ⟨gb, D, none⟩) hgbs).trans ct
          have HABJ : Hid (AB (j + 1) = PB j) := HABj.out j hlt
          generalize NB j = NJ at *
          obtain ⟨NJ1, HNJ1⟩ : ∃ t, Hid (NB (j + 1) = t) := ⟨_, rfl⟩
          rw [HNJ1.out] at HNBj
          generalize PB j = PJ at *
          clear HX HYM ht hcells
          go_upto_if 81 with fail
          go_cut [20] from 66 to 99 (fun pv q => ∃ gp y1 y2, pv = .slice (some ⟨gp, 0, none⟩) 2 2 ∧ q6.heap.size ≤ gp ∧ LstW q (some ⟨gp, 0, none⟩) 2 2 [y1, y2] ∧ Hid (PJ = [3, y1, y2]) ∧ Hid (NJ1 = ofP 3 [y1, y2]) ∧ okW y1 ∧ okW y2 ∧ Below q6.heap.size q6 q)
          case first =>
            clear HABj HABp hll lp HOK HNW HPB HNB
            cases t with
            | true =>
              rw [if_pos rfl] at HPBj HNBj
              have HP2 : Hid (PJ = [3, YM, NJ]) := HPBj
              have HN2 : Hid (NJ1 = ofP 3 [YM, NJ]) := HNBj
              clear HPBj HNBj
              have al2 := al1.trans ((low_alloc (q6.alloc (.cells #[.int .u64 NJ, .int .u64 YM] 25)) (.cells #[.int .u64 YM, .int .u64 NJ] 25)).mono (by simp))
              have two2 := LstW.two (q6.alloc (.cells #[.int .u64 NJ, .int .u64 YM] 25)) YM NJ 25
              go_wp2_with fail
              go_meet
              case rel => exact ⟨_, YM, NJ, rfl, by omega, by simpa using two2, HP2, HN2, hYM, hNBj, al2⟩
            | false =>
              rw [if_neg (by decide)] at HPBj HNBj
              have HP2 : Hid (PJ = [3, NJ, YM]) := HPBj
              have HN2 : Hid (NJ1 = ofP 3 [NJ, YM]) := HNBj
              clear HPBj HNBj
              go_wp2_with fail
              go_meet
              case rel => exact ⟨_, NJ, YM, rfl, by simp, two1, HP2, HN2, hNBj, hYM, al1⟩
          case rest =>
          obtain ⟨gp, y1, y2, rfl, hgp, l2, HP2, HN2, ok1, ok2, hq7⟩ := hcut
          generalize hwc : wc = q7 at *
          clear hwc HPBj HNBj two1 ct1 al1 ct k1 k2 k3 hYM hNBj
          have hll7 := hll.below hq7
          have hrow7 := hrow.below hq7
          have bel7 := hbel6.trans (hq7.mono hbel6.size)
          have own3 := OwnW.one q7 3
          have al3 := low_alloc q7 (.cells #[.int .u64 3] 25)
          have l2b := l2.below al3 (Nat.le_refl _)
          have hgp7 : gp < q7.heap.size := by
            obtain ⟨b', o', e, hs, _⟩ := l2.at (by omega)
            simp only [Option.some.injEq, Addr.mk.injEq, and_true] at e
            rw [e.1]; exact hs
          have HS : Hid (∀ q, Below q7.heap.size q7 q → q.cell? ⟨gp, 0, none⟩ = some (.int .u64 y1) ∧ q.cell? ⟨gp, 1, none⟩ = some (.int .u64 y2)) := fun q hq => by
            obtain ⟨b', o', e, hs, hc⟩ := (l2.below hq (Nat.le_refl _)).at (by omega)
            simp only [Option.some.injEq, Addr.mk.injEq, and_true] at e
            obtain ⟨rfl, rfl⟩ := e
            exact ⟨hc 0 (by omega), hc 1 (by omega)⟩
          have hHJ : (List.range (j + 1)).map AB ++ [PJ] = (List.range (j + 1 + 1)).map AB := fs_snoc AB (j + 1) PJ HABJ.out
          have HHJ : Hid ((List.range (j + 1)).map AB ++ [[3, y1, y2]] = (List.range (j + 1 + 1)).map AB) := by show _ = _; rw [← HP2.out]; exact hHJ
          have hovg := ovfar hll hgp
          have hgbb : gb < q7.heap.size := Nat.lt_of_lt_of_le hgbs hq7.size
          clear hll hrow hbel6 hHJ l2
          go_wp2_with (first | (at_builtin; refine wpList_append_words (by rfl) _ _ (by rfl) q7.heap.size _ [3] [y1, y2] gp 0 2 2 q7 (by rfl) (by rfl) (by exact own3) (by exact l2b) (by simp) (by exact al3.size) (by exact al3) ?_; intro v8 w8 hown8 hbel8 hgr8 hob8; obtain ⟨g8, c8, hv8, hg8, hg8s, l8⟩ := hown8.at0 (n := 3) (by simp) (by omega); subst hv8; have al9 := low_alloc w8 (.cells #[.slice (some ⟨g8, 0, none⟩) 3 c8] 26); have cn9 := cell_new w8 (.slice (some ⟨g8, 0, none⟩) 3 c8) 26; have bel9 := hbel8.trans (al9.mono hbel8.size); have l9 := l8.below al9 (Nat.le_refl _); have ll9 := hll7.below bel9; have T9 := bel7.trans (bel9.mono bel7.size)) | (at_builtin; refine wpList_append_ll (by rfl) _ _ (by rfl) w.heap.size _ ((List.range (j + 1)).map AB) [3, y1, y2] w8.heap.size g8 3 c8 w (by rfl) (by rfl) (by exact ll9) (by exact cn9) (by exact l9) (by have := bel7.size; omega) (by have := al9.size; omega) (by exact ovfar hll7 hg8) (by simp; omega) (by exact T9.size) (by exact T9) ?_; intro v10 w10 hll10 hbel10 hgr10 hob10))
          have hrow10 := (hrow7.below bel9).kept hgr10 hap
          obtain ⟨cy1, cy2⟩ := HS.out _ bel9
          have cz1 := hgr10.cell cy1 hovg.symm
          have cz2 := hgr10.cell cy2 hovg.symm
          have hap10 : (Value.slice (some ⟨gb, 0, none⟩) p cb).ownBlock = none ∨ (Value.slice (some ⟨gb, 0, none⟩) p cb).ownBlock ≠ v10.ownBlock := by
            rcases hob10 with e | e
            · rw [e]; exact hap
            · refine .inr (fun e2 => ?_)
              rw [e] at e2
              have := bel9.size
              simp [Value.ownBlock] at e2 this
              omega
          have hgp10 : gp < w10.heap.size := Nat.lt_of_lt_of_le hgp7 (Nat.le_trans bel9.size hgr10.size)
          have HS2 : Hid (∀ q, Below w10.heap.size w10 q → q.cell? ⟨gp, 0, none⟩ = some (.int .u64 y1) ∧ q.cell? ⟨gp, 1, none⟩ = some (.int .u64 y2)) := fun q hq => ⟨(hq.cell (p := ⟨gp, 0, none⟩) hgp10).trans cz1, (hq.cell (p := ⟨gp, 1, none⟩) hgp10).trans cz2⟩
          have hBd : Below w10.heap.size w10 w10.drew := below_drewN (Below.refl _ _) 1
          have S0 := HS2.out _ hBd
          have PR := dPair_calls y1 y2 ok1 ok2 w10.drew
          have hll11 : OwnLL w.heap.size w10 v10 ((List.range (j + 1 + 1)).map AB) := by rw [← HHJ.out]; exact hll10
          rw [← HN2.out] at PR
          clear hll10 hap hrow7 cy1 cy2 cz1 cz2 hob10 hgr10 HS HHJ HN2 HP2 hll7 ll9 l9 cn9 al9 T9 bel9 hown8 hbel8 hgr8 hob8 l8 own3 al3 l2b bel7
          go_region_held3 (fun q => q.cell? ⟨gp, 0, none⟩ = some (.int .u64 y1) ∧ q.cell? ⟨gp, 1, none⟩ = some (.int .u64 y2)) (first | with_reducible exact S1 | with_reducible exact S0) ((go_at_call 32; refine PR.mono ?_; rintro e w11 ⟨rfl, hw11⟩; have S1 := HS2.out _ (hBd.trans hw11)))
          all_goals
            go_wp2_with fail
            go_roundw
            case rel => exact ⟨j + 1, by omega, by go_num, by rw [HNJ1.out], hll11.below (hBd.trans hw11), hrow10.below (hBd.trans hw11), hap10, hbel10.trans ((hBd.trans hw11).mono hbel10.size)⟩
            case measure => simp [intOf]; omega
        · obtain rfl : j = p := by omega
          generalize hov : u11 = ov at *
          clear hov
          generalize hq6 : wr = q6 at *
          clear hq6
          have al1 := low_alloc q6 (.cells #[.int .u64 3, .int .u64 (n : Int), .int .u64 (NB j)] 25)
          have l3 := LstW.three q6 3 (n : Int) (NB j) 25
          have al2 := low_alloc (q6.alloc (.cells #[.int .u64 3, .int .u64 (n : Int), .int .u64 (NB j)] 25)) (.cells #[.slice (some ⟨q6.heap.size, 0, none⟩) 3 3] 26)
          have bel2 : Below q6.heap.size q6 _ := al1.trans (al2.mono al1.size)
          have l4 := l3.below al2 (Nat.le_refl _)
          have ll2 := hll.below bel2
          have T2 := hbel6.trans (bel2.mono hbel6.size)
          have cn := cell_new (q6.alloc (.cells #[.int .u64 3, .int .u64 (n : Int), .int .u64 (NB j)] 25)) (.slice (some ⟨q6.heap.size, 0, none⟩) 3 3) 26
          have hov2 := ovfar hll (Nat.le_refl _)
          have hq6w := hbel6.size
          have HFS : Hid ((List.range (j + 1)).map AB ++ [[3, (n : Int), NB j]] = (List.range (j + 2)).map AB) := fs_snoc AB (j + 1) _ HABp.out
          rw [show (q6.alloc (.cells #[.int .u64 3, .int .u64 (n : Int), .int .u64 (NB j)] 25)).heap.size = q6.heap.size + 1 by simp] at cn
          have hsz3 : q6.heap.size < ((q6.alloc (.cells #[.int .u64 3, .int .u64 (n : Int), .int .u64 (NB j)] 25)).alloc (.cells #[.slice (some ⟨q6.heap.size, 0, none⟩) 3 3] 26)).heap.size := by simp; omega
          clear hll hrow hap hbel6 al1 al2 l3 HABj HABp HAB0 HPB HNB HN0 HNW HOK
          go_wp2_with (at_builtin; refine wpList_append_ll (by rfl) _ _ (by rfl) w.heap.size _ ((List.range (j + 1)).map AB) [3, (n : Int), NB j] (q6.heap.size + 1) q6.heap.size 3 3 w (by rfl) (by rfl) (by exact ll2) (by exact cn) (by exact l4) (by exact hq6w) (by exact hsz3) (by exact hov2) (by simp; omega) (by exact T2.size) (by exact T2) ?_; intro v10 w10 hll10 hbel10 hgr10 hob10)
          go_ret
          exact ⟨_, rfl, by rw [← HFS.out]; exact hll10, hbel10⟩
end Go.Proofs.Ytfkalnehomgccaa.Fx
