/- The walk of SpotOpens: it returns true, whatever is handed in of lists that are together no longer than 1048576, and nothing that was there is written. -/
import Derived.Test.YtfkalnehomgccaaSpotB
import Derived.Test.YtfkalnehomgccaaSpotC
import Derived.Test.YtfkalnehomgccaaRefTreeB
import Derived.Test.YtfkalnehomgccaaRefTreeC
import Derived.Test.YtfkalnehomgccaaRefTreeD
import Derived.Test.YtfkalnehomgccaaRefDigC
import Derived.Test.YtfkalnehomgccaaWEq
import Derived.Test.YtfkalnehomgccaaVecA
import Derived.Deep.DeepCutAuto
import Derived.Deep.CutBlock
import Derived.Deep.QuietTactic
import Derived.BigQuiet
import Derived.Deep.RegionHeld3
namespace Go.Proofs.Ytfkalnehomgccaa.Fx
open Go.RowKit

/-- What the document's side of the chunk says. -/
structure OpSt (W : World) (F : Int) (PT WY : List Int) (e part way : Value) (q : World) : Prop where
  he : e = .int .i64 F
  hp : ∃ a n c, part = .slice a n c ∧ n ≤ 200 ∧ Lst q a n c PT
  hw : ∃ a n c, way = .slice a n c ∧ n ≤ 50 ∧ LstW q a n c WY
  bel : Below W.heap.size W q
theorem Lst.re {w : World} {b o o' n n' c c' : Nat} {xs : List Int} (h : Lst w (some ⟨b, o, none⟩) n c xs) (e1 : o = o') (e2 : n = n') (e3 : c = c') : Lst w (some ⟨b, o', none⟩) n' c' xs := by subst e1 e2 e3; exact h
theorem errP_zero {i : Int} {n : Nat} (h : n = 0) : errP i n = 1 := by unfold errP errL; rw [if_pos (.inl h), if_pos h]
theorem errP_long {i : Int} {n : Nat} (h : 200 < n) : errP i n = 2 := by unfold errP errL; rw [if_pos (.inr h), if_neg (by omega), if_pos h]
theorem errP_out {i : Int} {n : Nat} (h1 : 1 ≤ n) (h2 : n ≤ 200) (h : ¬ (0 ≤ i ∧ i < ((n + 3) / 4 : Nat))) : errP i n = 1 := by unfold errP; rw [if_neg (by omega), if_neg h]
theorem errP_none {i : Int} {n : Nat} (xs : List Int) (h : errP i n ≠ 0) : ckP xs n i = [] ∧ wayL xs n i = [] := by
  refine ⟨by unfold ckP; rw [if_neg h], ?_⟩
  unfold wayL
  rw [if_neg]
  intro g
  apply h
  unfold errP
  rw [if_neg g.1, if_pos g.2]

set_option maxRecDepth 100000 in
set_option maxHeartbeats 3200000 in
theorem spotOpens_core (a1 : Option Addr) (n1 k1 : Nat) (ws : List Int) (a2 : Option Addr) (n2 k2 : Nat) (ms : List Int) (i root n : Int) (a : Option Addr) (m c : Nat) (xs : List Int) (b : Option Addr) (p d : Nat) (ps : List Int) (w : World) (l1 : Lst w a1 n1 k1 ws) (l2 : Lst w a2 n2 k2 ms) (hi : -9223372036854775808 ≤ i ∧ i ≤ 9223372036854775807) (hrt : okW root) (hn : -9223372036854775808 ≤ n ∧ n ≤ 9223372036854775807) (lx : Lst w a m c xs) (lp : LstW w b p d ps) (hps : okL ps) (hz : n1 + n2 ≤ 1048576) (hm : m ≤ 9223372036854775807) (hp : p ≤ 9223372036854775807) :
    Calls Try.prog 3 #[.agg #[.slice a1 n1 k1, .slice a2 n2 k2], .int .i64 i, .int .u64 root, .int .i64 n, .slice a m c, .slice b p d] w fun e w' => e = .returned (.bool true) ∧ Below w.heap.size w w' := by
  have hal := low_alloc w (.cells #[.slice a1 n1 k1, .slice a2 n2 k2] 24)
  have hcc := two_cells w (.slice a1 n1 k1) (.slice a2 n2 k2) 24
  obtain ⟨W, HW⟩ : ∃ q, Hid (q = w.alloc (.cells #[.slice a1 n1 k1, .slice a2 n2 k2] 24)) := ⟨_, rfl⟩
  rw [← HW.out] at hal hcc
  have hWs : w.heap.size < W.heap.size := by rw [HW.out]; simp
  have m1 := l1.below hal (Nat.le_refl _)
  have m2 := l2.below hal (Nat.le_refl _)
  have KS : Hid (∀ q, Below W.heap.size W q → q.cell? ⟨w.heap.size, 0, none⟩ = some (.slice a1 n1 k1) ∧ q.cell? ⟨w.heap.size, 1, none⟩ = some (.slice a2 n2 k2)) := fun q hq => ⟨(hq.cell (p := ⟨w.heap.size, 0, none⟩) hWs).trans hcc.1, (hq.cell (p := ⟨w.heap.size, 1, none⟩) hWs).trans hcc.2⟩
  have hBd : Below W.heap.size W W.drew := below_drewN (Below.refl _ _) 1
  have S0 := KS.out _ hBd
  have s0 := S0.1
  have s1 := S0.2
  have hl1 := l1.len
  have hl2 := l2.len
  have hlen : (ws ++ ms).length = n1 + n2 := by rw [List.length_append, hl1, hl2]
  have HCK : Hid (∀ q, Below w.heap.size w q → Calls Try.prog 8 #[.agg #[.slice a1 n1 k1, .slice a2 n2 k2], .int .i64 i] q fun e w' => ∃ b1 m1 d1 b2 m2 d2, e = .returned (.tuple #[.slice b1 m1 d1, .slice b2 m2 d2, .int .i64 (errP i (n1 + n2))]) ∧ m1 ≤ 200 ∧ m2 ≤ 200 ∧ Lst w' b1 m1 d1 (ckP (ws ++ ms) (n1 + n2) i) ∧ LstW w' b2 m2 d2 (wayL (ws ++ ms) (n1 + n2) i) ∧ Below q.heap.size q w') := fun q hq => chunk_says a1 n1 k1 ws a2 n2 k2 ms i q (l1.below hq (Nat.le_refl _)) (l2.below hq (Nat.le_refl _)) hz
  have HOP : Hid (∀ q, Below w.heap.size w q → Calls Try.prog 15 #[.int .u64 root, .int .i64 n, .int .i64 i, .slice a m c, .slice b p d] q fun e w' => e = .returned (.tuple #[.bool (opB root n i m xs p ps), .int .i64 (opE n i m p)]) ∧ Below q.heap.size q w') := fun q hq => opens_says root n i a m c xs b p d ps q hrt hn hi (lx.below hq (Nat.le_refl _)) (lp.below hq (Nat.le_refl _)) hps (by omega) (by omega)
  have KX : Hid (∀ q, Below w.heap.size w q → Lst q a m c xs) := fun q hq => lx.below hq (Nat.le_refl _)
  have KP : Hid (∀ q, Below w.heap.size w q → LstW q b p d ps) := fun q hq => lp.below hq (Nat.le_refl _)
  have HPS : Hid (okL ps) := hps
  have HG : Hid (opE n i m p = if errC i n p = 0 then (if (m : Int) = min 4 (n - 4 * i) then 0 else 5) else errC i n p) := rfl
  have HB : Hid (opB root n i m xs p ps = if opE n i m p = 0 then decide (upL i n (ofP 4 (numL xs m)) ps p = root % 2305843009213693951) else false) := rfl
  have HEC : Hid (errC i n p = if okC i n then (if p = dpC i n then 0 else 5) else 1) := rfl
  have HUL : Hid (∀ x, upL i n x ps p = if okC i n ∧ p = dpC i n then ofP 3 [n, upP i.toNat ((n.toNat + 3) / 4) x ps] else 0) := fun x => rfl
  obtain ⟨rt0, rt1⟩ := hrt
  clear l1 l2 lx lp hps hcc
  obtain ⟨N, HN⟩ : ∃ t, Hid (n1 + n2 = t) := ⟨_, rfl⟩
  have hN : N ≤ 1048576 := by have := HN.out; omega
  have hN12 : n1 + n2 = N := HN.out
  obtain ⟨L, HL⟩ : ∃ t, Hid (ws ++ ms = t) := ⟨_, rfl⟩
  rw [HN.out, HL.out] at HCK hlen
  generalize opE n i m p = G at *
  generalize opB root n i m xs p ps = OB at *
  generalize errC i n p = EC at *
  go_enter Try.func3, Try.ntmps3
  go_upto_region 1 with fail
  rw [← HW.out]
  clear HW
  go_cut [13] (fun l q => ∃ va vc, l = .slice va N vc ∧ Lst q va N vc L ∧ Below W.heap.size W q)
  case first =>
    clear HCK HOP KX KP HPS HG HB HEC HUL hlen
    go_region_held3 (fun q => q.cell? ⟨w.heap.size, 0, none⟩ = some (.slice a1 n1 k1) ∧ q.cell? ⟨w.heap.size, 1, none⟩ = some (.slice a2 n2 k2)) (first | with_reducible exact S4 | with_reducible exact S3 | with_reducible exact S0)
      (first | (go_at_call 5; refine (cloneI_any a1 n1 k1 ws _ m1.drew (by omega)).mono ?_; rintro e w3 ⟨v3, rfl, hown3, hbel3⟩; have S3 := KS.out _ (hBd.trans hbel3)) | (refine step_append_any (by rfl) _ _ (by rfl) W.heap.size _ ws ms a2 n2 k2 W (by rfl) (by rfl) (by exact hown3) (by exact m2.below (hBd.trans hbel3) (Nat.le_refl _)) (by omega) (by exact (hBd.trans hbel3).size) (by exact hBd.trans hbel3) ?_; intro v4 w4 hown4 hbel4; have S4 := KS.out _ hbel4; obtain ⟨va, vc, hv4, l4⟩ := hown4.lst' (n := N) (by rw [List.length_append]; omega); subst hv4))
    all_goals
      go_wp2_with fail
      go_meet
      case rel => exact ⟨va, vc, rfl, by rw [← HL.out]; exact l4, hbel4⟩
  case rest =>
  clear S0 s0 s1 hBd m1 m2 HL hN12 HN
  obtain ⟨va, vc, rfl, lv, T1⟩ := hcut
  generalize hwc : wc = q1 at *
  clear hwc
  go_upto_block 0 with fail
  go_cut [14, 15, 16] (fun e pt wy q => OpSt W (errP i N) (ckP L N i) (wayL L N i) e pt wy q)
  case first =>
    clear HCK HOP KX KP HPS HG HB HEC HUL
    have bad : ∀ q, errP i N ≠ 0 → Below W.heap.size W q → OpSt W (errP i N) (ckP L N i) (wayL L N i) (.int .i64 (errP i N)) (.slice none 0 0) (.slice none 0 0) q := fun q h hq => by
      obtain ⟨e1, e2⟩ := errP_none L h
      rw [e1, e2]
      exact ⟨rfl, ⟨none, 0, 0, rfl, by omega, Lst.nil _ _ _⟩, ⟨none, 0, 0, rfl, by omega, LstW.nil _ _ _⟩, hq⟩
    have HBAD : Hid (∀ q, errP i N ≠ 0 → Below W.heap.size W q → OpSt W (errP i N) (ckP L N i) (wayL L N i) (.int .i64 (errP i N)) (.slice none 0 0) (.slice none 0 0) q) := bad
    clear bad
    by_cases h0 : N = 0
    · have n0 : ((N : Int) == 0) = true := by rw [beq_iff_eq]; omega
      have HE : Hid (errP i N = 1) := errP_zero h0
      clear h0
      go_wp2_with fail
      go_meet
      case rel =>
        have h := HBAD.out q1 (by rw [HE.out]; decide) T1
        rw [HE.out] at h ⊢
        exact h
    · have n0 : ((N : Int) == 0) = false := by rw [beq_eq_false_iff_ne]; omega
      by_cases h2 : 200 < N
      · have n2 : (N : Int) > 200 := by omega
        have HE : Hid (errP i N = 2) := errP_long h2
        go_wp2_with fail
        go_meet
        case rel =>
          have h := HBAD.out q1 (by rw [HE.out]; decide) T1
          rw [HE.out] at h ⊢
          exact h
      · have n2 : ¬ (N : Int) > 200 := by omega
        obtain ⟨M, hM⟩ : ∃ M, (N - 1) / 4 = M := ⟨_, rfl⟩
        have e1 : ((N : Int) - 1).tdiv 4 = (M : Int) := by rw [Int.tdiv_eq_ediv_of_nonneg (by omega)]; omega
        have e2 : ((N : Int) - 1) / 4 = (M : Int) := by omega
        by_cases h3 : i < 0
        · have HE : Hid (errP i N = 1) := errP_out (by omega) (by omega) (by omega)
          clear hM
          go_wp2_with fail
          go_meet
          case rel =>
            have h := HBAD.out q1 (by rw [HE.out]; decide) T1
            rw [HE.out] at h ⊢
            exact h
        · obtain ⟨k, rfl⟩ : ∃ k : Nat, i = k := ⟨i.toNat, by omega⟩
          by_cases h4 : M < k
          · have HE : Hid (errP k N = 1) := errP_out (by omega) (by omega) (by omega)
            have h5 : (k : Int) > (M : Int) := by omega
            clear hM
            go_wp2_with fail
            go_meet
            case rel =>
              have h := HBAD.out q1 (by rw [HE.out]; decide) T1
              rw [HE.out] at h ⊢
              exact h
          · have h5 : ¬ (k : Int) > (M : Int) := by omega
            have hk : k < (N + 3) / 4 := by omega
            have HCH := honest_chunk (xs := L) (show 1 ≤ N by omega) (show N ≤ 200 by omega) hk
            obtain ⟨g1, g2, g3⟩ := HCH
            have HE : Hid (errP k N = 0 ∧ ckP L N k = partL L N k ∧ wayL L N k = wayP (leavesP L N) k) := ⟨g1, g2, g3⟩
            obtain ⟨hi, hhi⟩ : ∃ hi, hiN N k = hi := ⟨_, rfl⟩
            have hh : k * 4 < hi ∧ hi ≤ N ∧ hi ≤ k * 4 + 4 := by unfold hiN at hhi; omega
            obtain ⟨vb, vo, rfl, _⟩ := lv.at (by omega)
            have hsub := lv.sub (by omega) (k * 4) hi (Nat.le_of_lt hh.1) hh.2.1
            have HSB : Hid (Lst q1 (some ⟨vb, vo + k * 4, none⟩) (hi - k * 4) (vc - k * 4) (partL L N k)) := by
              show Lst _ _ _ _ _
              unfold partL
              rw [hhi]
              exact hsub
            have hvc := lv.cap
            have HRL : Hid (∀ q, Below q1.heap.size q1 q → Calls Try.prog 7 #[.slice (some ⟨vb, vo, none⟩) N vc] q fun e w' => ∃ a' c', e = .returned (.slice a' ((N + 3) / 4 : Nat) c') ∧ LstW w' a' ((N + 3) / 4) c' (leavesP L N) ∧ Below q.heap.size q w') := fun q hq => rLeaves_calls _ N vc L q (lv.below hq (Nat.le_refl _)) (by omega) (by omega)
            have hmin : min (4 * (k : Int) + 4) (N : Int) = (hi : Int) := by unfold hiN at hhi; omega
            clear g1 g2 g3 hsub HBAD hM
            have hN3 : 1 ≤ (N + 3) / 4 := by omega
            have hN4 : (N + 3) / 4 ≤ 50 := by omega
            have HLN : Hid ((leavesP L N).length = (N + 3) / 4) := leavesP_len L N
            have hBq : Below q1.heap.size q1 q1.drew := below_drewN (Below.refl _ _) 1
            have RL := HRL.out _ hBq
            obtain ⟨lo, HLO⟩ : ∃ lo : Nat, Hid (4 * k = lo) := ⟨_, rfl⟩
            have hlo : 4 * k = lo := HLO.out
            have z1 : 4 * (k : Int) = (lo : Int) := by omega
            have w1 : IntKind.i64.wrap (4 * (k : Int)) = (lo : Int) := by rw [z1]; exact wrap_in _ (by omega) (by omega)
            have w3 : IntKind.i64.wrap (lo : Int) = (lo : Int) := wrap_in _ (by omega) (by omega)
            have x3 : (0 : Int) ≤ (lo : Int) := by omega
            have x4 : ¬ vc = lo := by omega
            have x6 : ¬ vc - lo = 0 := by omega
            have x5 : (lo : Int) ≤ (hi : Int) := by omega
            have x7 : (hi : Int) ≤ (vc : Int) := by omega
            have x8 : lo ≤ hi := by omega
            have x9 : hi ≤ vc := by omega
            have hd1 : hi - k * 4 ≤ 200 := by omega
            generalize (N + 3) / 4 = NL at *
            clear HRL
            by_cases h6 : 4 * k + 4 ≤ N
            · have z2 : (lo : Int) + 4 = (hi : Int) := by unfold hiN at hhi; omega
              have w2 : IntKind.i64.wrap ((lo : Int) + 4) = (hi : Int) := by rw [z2]; exact wrap_in _ (by omega) (by omega)
              have w4 : IntKind.i64.wrap (hi : Int) = (hi : Int) := wrap_in _ (by omega) (by omega)
              have y1 : (hi : Int) ≤ (N : Int) := by omega
              have y2 : ¬ (N : Int) < (hi : Int) := by omega
              have y3 : hi ≤ N := by omega
              have y4 : ¬ N < hi := by omega
              have y5 : decide ((N : Int) < (hi : Int)) = false := decide_eq_false y2
              have y6 : decide (N < hi) = false := decide_eq_false y4
              have y7 : decide ((hi : Int) ≤ (N : Int)) = true := decide_eq_true y1
              have y8 : decide (hi ≤ N) = true := decide_eq_true y3
              clear hlo hh hhi h6 hmin
              go_wp2_with fail
              go_region_held3 (fun _ => True) (exact True.intro) (first | (go_at_call 7; refine RL.mono ?_; rintro e w3 ⟨a3, c3, rfl, l3, hw3⟩) | (go_at_call 6; refine (rWay_calls 50 _ _ _ (leavesP L N) k _ (by omega) (by omega) (by omega) hk l3 (leavesP_ok _ _)).mono ?_; rintro e w4 ⟨v4, rfl, hown, hw4⟩))
              all_goals
                go_wp2_with fail
                go_meet
                case rel =>
                  obtain ⟨e0, e1, e2⟩ := HE.out
                  have hlo := HLO.out
                  obtain ⟨a5, c5, hv, hl5⟩ := hown.lst
                  have hd := (way_deep _ (leavesP L N) k (Nat.le_refl _) (leavesP_ok _ _)).1
                  have hd2 := deepP_le k (leavesP L N).length
                  rw [HLN.out] at hd hd2
                  have T3 := hBq.trans hw3
                  have T4 := T3.trans (hw4.mono T3.size)
                  rw [e0, e1, e2]
                  refine ⟨rfl, ⟨_, _, _, rfl, ?_, Lst.re (HSB.out.below T4 (Nat.le_refl _)) ?_ ?_ ?_⟩, ⟨a5, _, c5, hv, by omega, hl5⟩, T1.trans (T4.mono T1.size)⟩ <;> omega
            · obtain ⟨hj, hhj⟩ : ∃ hj : Nat, lo + 4 = hj := ⟨_, rfl⟩
              have z2 : (lo : Int) + 4 = (hj : Int) := by omega
              have w2 : IntKind.i64.wrap ((lo : Int) + 4) = (hj : Int) := by rw [z2]; exact wrap_in _ (by omega) (by omega)
              have w4 : IntKind.i64.wrap (hj : Int) = (hj : Int) := wrap_in _ (by omega) (by omega)
              have heN : N = hi := by unfold hiN at hhi; omega
              subst heN
              have y1 : (N : Int) < (hj : Int) := by omega
              have y2 : ¬ (hj : Int) ≤ (N : Int) := by omega
              clear hlo hh hhi h6 hmin hhj
              go_wp2_with fail
              go_region_held3 (fun _ => True) (exact True.intro) (first | (go_at_call 7; refine RL.mono ?_; rintro e w3 ⟨a3, c3, rfl, l3, hw3⟩) | (go_at_call 6; refine (rWay_calls 50 _ _ _ (leavesP L N) k _ (by omega) (by omega) (by omega) hk l3 (leavesP_ok _ _)).mono ?_; rintro e w4 ⟨v4, rfl, hown, hw4⟩))
              all_goals
                go_wp2_with fail
                go_meet
                case rel =>
                  obtain ⟨e0, e1, e2⟩ := HE.out
                  have hlo := HLO.out
                  obtain ⟨a5, c5, hv, hl5⟩ := hown.lst
                  have hd := (way_deep _ (leavesP L N) k (Nat.le_refl _) (leavesP_ok _ _)).1
                  have hd2 := deepP_le k (leavesP L N).length
                  rw [HLN.out] at hd hd2
                  have T3 := hBq.trans hw3
                  have T4 := T3.trans (hw4.mono T3.size)
                  rw [e0, e1, e2]
                  refine ⟨rfl, ⟨_, _, _, rfl, ?_, Lst.re (HSB.out.below T4 (Nat.le_refl _)) ?_ ?_ ?_⟩, ⟨a5, _, c5, hv, by omega, hl5⟩, T1.trans (T4.mono T1.size)⟩ <;> omega
  case rest =>
  obtain ⟨rfl, ⟨pa, pn, pc, rfl, hpn, lpt⟩, ⟨wa, wn, wk, rfl, hwn, lwy⟩, T2⟩ := hcut
  generalize hwc : wc = q2 at *
  clear hwc lv T1 hlen
  obtain ⟨t0, t1⟩ := KS.out _ T2
  have U2 := hal.trans (T2.mono hal.size)
  have CK := HCK.out _ U2
  clear HCK
  generalize errP i N = F at *
  generalize ckP L N i = PT at *
  generalize wayL L N i = WY at *
  have hFF : (F != F) = false := by simp
  go_wp2_with fail
  refine CK.mono ?_
  rintro e w5 ⟨b1, m1, d1, b2, m2, d2, rfl, hm1, hm2, lx1, lx2, hw5⟩
  have lpt5 := lpt.below hw5 (Nat.le_refl _)
  have lwy5 := lwy.below hw5 (Nat.le_refl _)
  have U5 := U2.trans (hw5.mono U2.size)
  clear CK t0 t1 lpt lwy hw5 U2 T2
  go_wp2_with fail
  refine (eq_calls _ _ _ _ _ _ _ _ _ lx1 lpt5 (by omega)).mono ?_
  rintro e w6 ⟨rfl, k6, hw6⟩
  rw [decide_eq_true rfl]
  have U6 : Below w.heap.size w w6 := hw6 ▸ below_drewN U5 k6
  have lx26 : LstW w6 b2 m2 d2 WY := hw6 ▸ lx2.drewN k6
  have lwy6 : LstW w6 wa wn wk WY := hw6 ▸ lwy5.drewN k6
  clear hw6 U5 lx1 lx2 lwy5 lpt5
  go_wp2_with fail
  refine (weq_calls _ _ _ _ _ _ _ _ _ lx26 lwy6 (by omega)).mono ?_
  rintro e w7 ⟨rfl, k7, hw7⟩
  rw [decide_eq_true rfl]
  have U7 : Below w.heap.size w w7 := hw7 ▸ below_drewN U6 k7
  clear hw7 U6 lx26 lwy6 KS
  go_upto_block 1 with fail
  go_cut [14, 20] (fun g u q => g = .int .i64 G ∧ u = .bool OB ∧ Below w7.heap.size w7 q)
  case first =>
    have lx7 := KX.out _ U7
    have lp7 := KP.out _ U7
    clear HOP KX KP
    by_cases h1 : 1 ≤ n ∧ n ≤ 200
    · obtain ⟨h1, h2⟩ := h1
      obtain ⟨M0, rfl⟩ : ∃ m : Nat, n = m := ⟨n.toNat, by omega⟩
      have HI : Hid (inB (M0 : Int) 1 200 = true) := by
        show inB (M0 : Int) 1 200 = true
        unfold inB
        rw [decide_eq_true h1, decide_eq_true h2]; rfl
      by_cases h3 : i < 0
      · have HC : Hid (¬ okC i M0) := fun h => by have := h.2.2.1; omega
        have HR : Hid (G = 1 ∧ OB = false) := by
          have e1 : EC = 1 := by rw [HEC.out, if_neg HC.out]
          have e2 : G = 1 := by rw [HG.out, e1, if_neg (by decide)]
          exact ⟨e2, by rw [HB.out, e2, if_neg (by decide)]⟩
        clear HG HB HEC HUL
        go_wp2_with (go_at_call 11; refine (rin_calls _ _ _ _).mono ?_; rintro e w' ⟨rfl, hw'⟩; replace hw' := hw'.symm; subst hw'; rw [HI.out])
        go_meet
        case rel => exact ⟨by rw [HR.out.1], by rw [HR.out.2], Below.refl _ _⟩
      · obtain ⟨k, rfl⟩ : ∃ k : Nat, i = k := ⟨i.toNat, by omega⟩
        obtain ⟨M, hM⟩ : ∃ M, (M0 - 1) / 4 = M := ⟨_, rfl⟩
        have e1 : ((M0 : Int) - 1).tdiv 4 = (M : Int) := by rw [Int.tdiv_eq_ediv_of_nonneg (by omega)]; omega
        have e2 : ((M0 : Int) - 1) / 4 = (M : Int) := by omega
        by_cases h4 : M < k
        · have HC : Hid (¬ okC k M0) := fun h => by have := h.2.2.2; omega
          have HR : Hid (G = 1 ∧ OB = false) := by
            have e1 : EC = 1 := by rw [HEC.out, if_neg HC.out]
            have e2 : G = 1 := by rw [HG.out, e1, if_neg (by decide)]
            exact ⟨e2, by rw [HB.out, e2, if_neg (by decide)]⟩
          clear hM HG HB HEC HUL
          go_wp2_with (go_at_call 11; refine (rin_calls _ _ _ _).mono ?_; rintro e w' ⟨rfl, hw'⟩; replace hw' := hw'.symm; subst hw'; rw [HI.out])
          go_meet
          case rel => exact ⟨by rw [HR.out.1], by rw [HR.out.2], Below.refl _ _⟩
        · have HC : Hid (okC k M0) := ⟨h1, h2, by omega, by omega⟩
          obtain ⟨NL, hNL⟩ : ∃ N, (M0 + 3) / 4 = N := ⟨_, rfl⟩
          have e3 : (M : Int) + 1 = (NL : Int) := by omega
          have hN2 : NL ≤ 50 := by omega
          have hk : k < NL := by omega
          have HD : Hid (dpC k M0 = deepP k NL) := by show dpC k M0 = _; unfold dpC; simp [hNL]
          have HUP : Hid (∀ x, upP (k : Int).toNat (((M0 : Int).toNat + 3) / 4) x ps = upP k NL x ps) := fun x => by show _ = _; simp [hNL]
          have hd := deepP_le k NL
          by_cases h5 : p = deepP k NL
          · have HQ : Hid (deepP k NL = p) := h5.symm
            have q0 : ((p : Int) != (p : Int)) = false := by simp
            have hp50 : p ≤ 50 := by omega
            have hEC : EC = 0 := by rw [HEC.out, if_pos HC.out, if_pos (by rw [HD.out]; exact h5)]
            obtain ⟨mi, HMI⟩ : ∃ t : Int, Hid (min 4 ((M0 : Int) - 4 * (k : Int)) = t) := ⟨_, rfl⟩
            by_cases h6 : (m : Int) = mi
            · have hG : G = 0 := by rw [HG.out, hEC, if_pos rfl, HMI.out, if_pos h6]
              have hm14 : 1 ≤ m ∧ m ≤ 4 := by have := HMI.out; omega
              have hlf : leavesP xs m = [ofP 4 (numL xs m)] := by
                have hlx := lx7.len
                unfold leavesP
                rw [show (m + 3) / 4 = 1 by omega, show List.range 1 = [0] from rfl, List.map_cons, List.map_nil]
                unfold leafG hiN
                rw [Nat.zero_mul, List.drop_zero, show min (0 + 4) m - 0 = m by omega, List.take_of_length_le (by omega)]
              have HLV : Hid (∀ q, Below w7.heap.size w7 q → Calls Try.prog 7 #[.slice a m c] q fun e w' => ∃ g o cc, e = .returned (.slice (some ⟨g, o, none⟩) 1 cc) ∧ 1 ≤ cc ∧ w'.cell? ⟨g, o, none⟩ = some (.int .u64 (ofP 4 (numL xs m))) ∧ Below q.heap.size q w') := fun q hq => by
                refine (rLeaves_calls a m c xs q (lx7.below hq (Nat.le_refl _)) hm14.1 (by omega)).mono ?_
                rintro e w' ⟨a', c', he, lw, hb⟩
                rw [show (m + 3) / 4 = 1 by omega] at he lw
                rw [hlf] at lw
                obtain ⟨b1, o1, e1, _, hc⟩ := lw.at (by omega)
                have hc0 := hc 0 (by omega)
                subst e1
                exact ⟨b1, o1, c', he, lw.cap, by simpa using hc0, hb⟩
              have hOB : OB = decide (ofP 3 [(M0 : Int), upP k NL (ofP 4 (numL xs m)) ps] = root % 2305843009213693951) := by
                rw [HB.out, hG, if_pos rfl, HUL.out, if_pos ⟨HC.out, by rw [HD.out]; exact h5⟩, HUP.out]
              have hxo := okP_W (ofP_ok 4 (numL xs m))
              have huo : okW (upP k NL (ofP 4 (numL xs m)) ps) := upP_ok hxo
              have HUC : Hid (∀ q, Below w7.heap.size w7 q → Calls Try.prog 14 #[.int .i64 k, .int .i64 NL, .int .u64 (ofP 4 (numL xs m)), .slice b p d] q fun e w' => e = .returned (.int .u64 (upP k NL (ofP 4 (numL xs m)) ps)) ∧ Below q.heap.size q w') := fun q hq => rUp_calls 50 k NL _ b p d ps q hN2 (by omega) hN2 hk hxo (lp7.below hq (Nat.le_refl _)) HPS.out h5
              have HPC : Hid (∀ q, Calls Try.prog 13 #[.int .u64 (M0 : Int), .int .u64 (upP k NL (ofP 4 (numL xs m)) ps)] q fun e w' => e = .returned (.int .u64 (ofP 3 [(M0 : Int), upP k NL (ofP 4 (numL xs m)) ps])) ∧ Below q.heap.size q w') := fun q => rPair_calls _ _ ⟨by omega, by omega⟩ huo q
              obtain ⟨RM, HRM⟩ : ∃ t, Hid (root % 2305843009213693951 = t) := ⟨_, rfl⟩
              have tm : root.tmod 2305843009213693951 = RM := by rw [← HRM.out, Int.tmod_eq_emod_of_nonneg rt0]
              have em : root % 2305843009213693951 = RM := HRM.out
              rw [em] at hOB
              have LV := HLV.out _ (Below.refl _ _)
              generalize ofP 3 [(M0 : Int), upP k NL (ofP 4 (numL xs m)) ps] = PR at *
              generalize upP k NL (ofP 4 (numL xs m)) ps = UU at *
              generalize ofP 4 (numL xs m) = LF at *
              have hOB2 : Hid (OB = (PR == RM)) := by show OB = _; rw [hOB]; rfl
              clear hd h5 hM hNL HC HD HUP HG HB HEC HUL hlf hOB huo hxo HLV lx7 lp7 HRM
              by_cases h7 : (M0 : Int) - 4 * (k : Int) < 4
              · have q7 : ((m : Int) != (M0 : Int) - 4 * (k : Int)) = false := by rw [h6, ← HMI.out]; simp; omega
                clear h6 HMI
                go_wp2_with (first | (go_at_call 11; refine (rin_calls _ _ _ _).mono ?_; rintro e w' ⟨rfl, hw'⟩; replace hw' := hw'.symm; subst hw'; rw [HI.out]) | (go_at_call 12; refine (rDeep_calls 50 _ _ _ hN2 (by omega) hN2 hk).mono ?_; rintro e w' ⟨rfl, hw'⟩; replace hw' := hw'.symm; subst hw'; rw [HQ.out]))
                refine LV.mono ?_
                rintro e w8 ⟨g, o, cc, rfl, hcc, hcell, hw8⟩
                have UC := HUC.out _ hw8
                go_wp2_with fail
                refine UC.mono ?_
                rintro e w9 ⟨rfl, hw9⟩
                have PC := HPC.out w9
                go_wp2_with fail
                refine PC.mono ?_
                rintro e w10 ⟨rfl, hw10⟩
                go_wp2_with fail
                go_meet
                case rel =>
                  have v9 := hw8.trans (hw9.mono hw8.size)
                  exact ⟨by rw [hG], by rw [hOB2.out], v9.trans (hw10.mono v9.size)⟩
              · have q7 : ((m : Int) != 4) = false := by rw [h6, ← HMI.out]; simp; omega
                clear h6 HMI
                go_wp2_with (first | (go_at_call 11; refine (rin_calls _ _ _ _).mono ?_; rintro e w' ⟨rfl, hw'⟩; replace hw' := hw'.symm; subst hw'; rw [HI.out]) | (go_at_call 12; refine (rDeep_calls 50 _ _ _ hN2 (by omega) hN2 hk).mono ?_; rintro e w' ⟨rfl, hw'⟩; replace hw' := hw'.symm; subst hw'; rw [HQ.out]))
                refine LV.mono ?_
                rintro e w8 ⟨g, o, cc, rfl, hcc, hcell, hw8⟩
                have UC := HUC.out _ hw8
                go_wp2_with fail
                refine UC.mono ?_
                rintro e w9 ⟨rfl, hw9⟩
                have PC := HPC.out w9
                go_wp2_with fail
                refine PC.mono ?_
                rintro e w10 ⟨rfl, hw10⟩
                go_wp2_with fail
                go_meet
                case rel =>
                  have v9 := hw8.trans (hw9.mono hw8.size)
                  exact ⟨by rw [hG], by rw [hOB2.out], v9.trans (hw10.mono v9.size)⟩
            · have HR : Hid (G = 5 ∧ OB = false) := by
                have e2 : G = 5 := by rw [HG.out, hEC, if_pos rfl, HMI.out, if_neg h6]
                exact ⟨e2, by rw [HB.out, e2, if_neg (by decide)]⟩
              clear hd h5 hM hNL HC HD HUP HG HB HEC HUL hEC
              by_cases h7 : (M0 : Int) - 4 * (k : Int) < 4
              · have q7 : ((m : Int) != (M0 : Int) - 4 * (k : Int)) = true := by rw [bne_iff_ne]; have := HMI.out; omega
                clear h6 HMI
                go_wp2_with (first | (go_at_call 11; refine (rin_calls _ _ _ _).mono ?_; rintro e w' ⟨rfl, hw'⟩; replace hw' := hw'.symm; subst hw'; rw [HI.out]) | (go_at_call 12; refine (rDeep_calls 50 _ _ _ hN2 (by omega) hN2 hk).mono ?_; rintro e w' ⟨rfl, hw'⟩; replace hw' := hw'.symm; subst hw'; rw [HQ.out]))
                go_meet
                case rel => exact ⟨by rw [HR.out.1], by rw [HR.out.2], Below.refl _ _⟩
              · have q7 : ((m : Int) != 4) = true := by rw [bne_iff_ne]; have := HMI.out; omega
                clear h6 HMI
                go_wp2_with (first | (go_at_call 11; refine (rin_calls _ _ _ _).mono ?_; rintro e w' ⟨rfl, hw'⟩; replace hw' := hw'.symm; subst hw'; rw [HI.out]) | (go_at_call 12; refine (rDeep_calls 50 _ _ _ hN2 (by omega) hN2 hk).mono ?_; rintro e w' ⟨rfl, hw'⟩; replace hw' := hw'.symm; subst hw'; rw [HQ.out]))
                go_meet
                case rel => exact ⟨by rw [HR.out.1], by rw [HR.out.2], Below.refl _ _⟩
          · obtain ⟨q, hq⟩ : ∃ q, deepP k NL = q := ⟨_, rfl⟩
            have HQ : Hid (deepP k NL = q) := hq
            have q0 : ((p : Int) != (q : Int)) = true := by rw [bne_iff_ne]; omega
            have q2 : q ≤ 50 := by omega
            have HR : Hid (G = 5 ∧ OB = false) := by
              have e1 : EC = 5 := by rw [HEC.out, if_pos HC.out, if_neg (by rw [HD.out]; exact h5)]
              have e2 : G = 5 := by rw [HG.out, e1, if_neg (by decide)]
              exact ⟨e2, by rw [HB.out, e2, if_neg (by decide)]⟩
            clear hd h5 hM hNL hq HC HD HUP HG HB HEC HUL
            go_wp2_with (first | (go_at_call 11; refine (rin_calls _ _ _ _).mono ?_; rintro e w' ⟨rfl, hw'⟩; replace hw' := hw'.symm; subst hw'; rw [HI.out]) | (go_at_call 12; refine (rDeep_calls 50 _ _ _ hN2 (by omega) hN2 hk).mono ?_; rintro e w' ⟨rfl, hw'⟩; replace hw' := hw'.symm; subst hw'; rw [HQ.out]))
            go_meet
            case rel => exact ⟨by rw [HR.out.1], by rw [HR.out.2], Below.refl _ _⟩
    · have HI : Hid (inB n 1 200 = false) := by
        show inB n 1 200 = false
        unfold inB
        rw [Bool.and_eq_false_iff, decide_eq_false_iff_not, decide_eq_false_iff_not]
        omega
      have HC : Hid (¬ okC i n) := fun h => h1 ⟨h.1, h.2.1⟩
      have HR : Hid (G = 1 ∧ OB = false) := by
        have e1 : EC = 1 := by rw [HEC.out, if_neg HC.out]
        have e2 : G = 1 := by rw [HG.out, e1, if_neg (by decide)]
        exact ⟨e2, by rw [HB.out, e2, if_neg (by decide)]⟩
      clear h1 HG HB HEC HUL
      go_wp2_with (go_at_call 11; refine (rin_calls _ _ _ _).mono ?_; rintro e w' ⟨rfl, hw'⟩; replace hw' := hw'.symm; subst hw'; rw [HI.out])
      go_meet
      case rel => exact ⟨by rw [HR.out.1], by rw [HR.out.2], Below.refl _ _⟩
  case rest =>
  obtain ⟨rfl, rfl, T8⟩ := hcut
  generalize hwc : wc = q3 at *
  clear hwc
  have U8 := U7.trans (T8.mono U7.size)
  have OP := HOP.out _ U8
  clear HOP HG HB HEC HUL KX KP
  have hGG : (G == G) = true := by simp
  have hOO : (OB == OB) = true := by simp
  go_wp2_with fail
  refine OP.mono ?_
  rintro e w9 ⟨rfl, hw9⟩
  go_wp2_with fail
  go_ret
  exact ⟨rfl, U8.trans (hw9.mono U8.size)⟩
end Go.Proofs.Ytfkalnehomgccaa.Fx
