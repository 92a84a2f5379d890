/- The walk of VecSigns: it returns true, whatever matrix and lists lie there (each list of at most 2^47 bytes), and nothing that was there is written. -/
import Derived.Test.YtknmnailimkliadVecD
import Derived.Test.YtknmnailimkliadApps
import Derived.Test.YtknmnailimkliadSigns
namespace Go.Proofs.Ytknmnailimkliad.Fx
open Go.RowKit

theorem negL_eq (xs : List Int) (n : Nat) (h : xs.length = n) : (List.range n).map (fun i => -clampI (xs.getD i 0)) = negL xs := by
  refine eq_of_getD (n := n) (by simp) (by rw [negL_len, h]) (fun j hj => ?_)
  rw [negL_get]
  simp [hj]

set_option maxHeartbeats 800000 in
theorem minus_calls (a : Option Addr) (la ca : Nat) (xs : List Int) (w : World) (ha : Lst w a la ca xs) (hr : la * 8 ≤ 140737488351232) :
    Calls Try.prog 12 #[.slice a la ca] w fun e w' => ∃ a' c', e = .returned (.slice a' la c') ∧ Lst w' a' la c' (negL xs) ∧ Below w.heap.size w w' := by
  go_enter Try.func12, Try.ntmps12
  go_wp2
  go_loopw [3, 8] (fun v i wr => ∃ k : Nat, k ≤ la ∧ i = .int .i64 k ∧ OwnI w.heap.size wr v ((List.range k).map (fun i => -clampI (xs.getD i 0))) ∧ Below w.heap.size w wr) (fun _ i _ => la - (intOf i).toNat)
  case atStart => exact ⟨0, Nat.zero_le _, rfl, OwnI.nil _ _, Below.refl _ _⟩
  case round =>
    obtain ⟨k, hk, rfl, hown, hbel⟩ := hrel
    have hsz := hbel.size
    by_cases hlt : k < la
    · obtain ⟨b1, o1, x, rfl, s1, c1, HX⟩ := ha.at1b hbel (Nat.le_refl _) hlt
      have hx := clampI_bd x
      clear ha
      go_wp2_with (first | (at_builtin; refine wpList_append_int (by rfl) _ _ (by rfl) w.heap.size _ ((List.range k).map (fun i => -clampI (xs.getD i 0))) (-clampI x) wr.heap.size wr (by rfl) (by rfl) (by exact hown.alloc _) (by exact cell_new _ _ _) (by simp; omega) (by simp; omega) (by exact (Below.refl _ _).alloc (by omega) _) ?_; intro v1 w3 hown1 hbel1) | (go_at_call 8; refine (clamp_calls _ _).mono ?_; rintro e w' ⟨rfl, hw'⟩; replace hw' := hw'.symm; subst hw'))
      go_roundw
      case rel => exact ⟨k + 1, by omega, by go_num, hown1.congr (range_snoc _ _ _ (by simp only [HX.out])), hbel.trans hbel1⟩
      case measure => simp [intOf]; omega
    · obtain rfl : k = la := by omega
      have hl := ha.len
      obtain ⟨a1, c1, rfl, hn⟩ := hown.lst' (n := k) (by simp)
      rw [negL_eq xs k hl] at hn
      go_wp2
      go_ret
      exact ⟨_, _, rfl, hn, hbel⟩

theorem twoI_comm (la lb : Nat) : twoI la lb = twoI lb la := by
  unfold twoI
  have h1 : (200 < la ∨ 200 < lb) = (200 < lb ∨ 200 < la) := propext or_comm
  have h2 : (la = lb) = (lb = la) := propext eq_comm
  simp only [h1, h2]
/-- What Dot tells of two lists. -/
def dotI (xs ys : List Int) (la lb : Nat) : Int := if twoI la lb = 0 then dotTo xs ys la else 0
theorem dotI_comm (xs ys : List Int) (la lb : Nat) : dotI ys xs lb la = dotI xs ys la lb := by
  unfold dotI
  rw [twoI_comm lb la]
  rcases twoI_cases la lb with ⟨h0, rfl, _⟩ | ⟨h0, _⟩
  · rw [if_pos h0, if_pos h0, dotTo_comm]
  · rw [if_neg h0, if_neg h0]
theorem dotI_neg (xs ys : List Int) (la lb : Nat) : dotI (negL xs) ys la lb = -dotI xs ys la lb := by
  unfold dotI
  by_cases h : twoI la lb = 0
  · rw [if_pos h, if_pos h, dotTo_negL]
  · rw [if_neg h, if_neg h]; rfl
theorem dotI_bd (xs ys : List Int) (la lb : Nat) : -2147483647 ≤ dotI xs ys la lb ∧ dotI xs ys la lb ≤ 2147483647 := by
  unfold dotI
  by_cases h : twoI la lb = 0
  · rw [if_pos h]; exact dotTo_bd _ _ _
  · rw [if_neg h]; omega
theorem pair_lst (w : World) (x y : Int) (t : TypeId) : Lst (w.alloc (.cells #[.int .i64 x, .int .i64 y] t)) (some ⟨w.heap.size, 0, none⟩) 2 2 [x, y] := by
  refine Lst.row (World.rowIs_alloc w #[.int .i64 x, .int .i64 y] t (fun i => if i = 0 then .int .i64 x else .int .i64 y) ?_) rfl ?_
  · intro i hi
    rcases (show i = 0 ∨ i = 1 from by have : i < 2 := hi
                                       omega) with rfl | rfl <;> rfl
  · intro i hi
    rcases (show i = 0 ∨ i = 1 from by omega) with rfl | rfl <;> rfl

set_option maxRecDepth 100000 in
set_option maxHeartbeats 3200000 in
theorem vecSigns_any (r c : Int) (m : Option Addr) (len cap : Nat) (zs : List Int) (a : Option Addr) (la ca : Nat) (xs : List Int) (b : Option Addr) (lb cb : Nat) (ys : List Int) (w : World) (hm : Lst w m len cap zs) (ha : Lst w a la ca xs) (hb : Lst w b lb cb ys) (hra : la * 8 ≤ 140737488351232) (hrb : lb * 8 ≤ 140737488351232) :
    Calls Try.prog 5 #[.agg #[.int .i64 r, .int .i64 c, .slice m len cap], .slice a la ca, .slice b lb cb] w fun e w' => e = .returned (.bool true) ∧ Below w.heap.size w w' := by
  have hal := (Below.refl w.heap.size w).alloc (Nat.le_refl _) (.cells #[.int .i64 r, .int .i64 c, .slice m len cap] 31)
  have l1 := pair_lst (w.alloc (.cells #[.int .i64 r, .int .i64 c, .slice m len cap] 31)) 65536 131072 3
  have l2 := pair_lst ((w.alloc (.cells #[.int .i64 r, .int .i64 c, .slice m len cap] 31)).alloc (.cells #[.int .i64 65536, .int .i64 131072] 3)) 3 4 3
  have l1 := l1.below ((Below.refl _ _).alloc (Nat.le_refl _) (.cells #[.int .i64 3, .int .i64 4] 3)) (Nat.le_refl _)
  simp at l1 l2
  go_enter Try.func5, Try.ntmps5
  go_wp2_with fail
  refine (vDot_calls _ _ _ _ _ _ _ _ _ l1 l2).mono ?_
  rintro e p0 ⟨rfl, hp0⟩
  rw [show (if twoI 2 2 = 0 then dotTo [65536, 131072] [3, 4] 2 else 0) = 11 from by decide, show twoI 2 2 = 0 from by decide]
  have T0 : Below (w.heap.size + 1) (w.alloc (.cells #[.int .i64 r, .int .i64 c, .slice m len cap] 31)) p0 :=
    (((Below.refl _ _).alloc (by simp) _).alloc (by simp) _).trans (hp0.mono (by simp))
  clear hp0 l1 l2
  have hbx := hal.trans (T0.mono (by omega))
  have ha0 := ha.below hbx (Nat.le_refl _)
  have hb0 := hb.below hbx (Nat.le_refl _)
  have hX := dotI_bd xs ys la lb
  have hN := dotI_neg xs ys la lb
  have hC := dotI_comm xs ys la lb
  obtain ⟨X, HX⟩ : ∃ X, Hid (dotI xs ys la lb = X) := ⟨_, rfl⟩
  rw [HX.out] at hX hN hC
  have HN : Hid (dotI (negL xs) ys la lb = -X) := hN
  have HC : Hid (dotI ys xs lb la = X) := hC
  clear hN hC
  go_wp2_with fail
  refine (vDot_calls _ _ _ _ _ _ xs ys _ ha0 hb0).mono ?_
  rintro e p1 ⟨rfl, hp1⟩
  rw [show (if twoI la lb = 0 then dotTo xs ys la else 0) = X from HX.out]
  have hs0 := T0.size
  simp at hs0
  have T1 := T0.trans (hp1.mono hs0)
  have ha1 := ha0.below hp1 (Nat.le_refl _)
  have hb1 := hb0.below hp1 (Nat.le_refl _)
  clear T0 ha0 hb0 hp1 hs0 hbx
  go_wp2_with fail
  refine (vDot_calls _ _ _ _ _ _ ys xs _ hb1 ha1).mono ?_
  rintro e p2 ⟨rfl, hp2⟩
  rw [show (if twoI lb la = 0 then dotTo ys xs lb else 0) = X from HC.out, twoI_comm lb la]
  have hs1 := T1.size
  simp at hs1
  have T2 := T1.trans (hp2.mono hs1)
  have ha2 := ha1.below hp2 (Nat.le_refl _)
  have hb2 := hb1.below hp2 (Nat.le_refl _)
  clear T1 ha1 hb1 hp2 hs1 ha2 hb2
  have q1 : (twoI la lb != twoI la lb) = false := by simp
  have q2 : (X != X) = false := by simp
  have KA : Hid (∀ q, Below (w.heap.size + 1) (w.alloc (.cells #[.int .i64 r, .int .i64 c, .slice m len cap] 31)) q → Lst q a la ca xs) := fun q h => ha.below (hal.trans (h.mono (by omega))) (Nat.le_refl _)
  have KB : Hid (∀ q, Below (w.heap.size + 1) (w.alloc (.cells #[.int .i64 r, .int .i64 c, .slice m len cap] 31)) q → Lst q b lb cb ys) := fun q h => hb.below (hal.trans (h.mono (by omega))) (Nat.le_refl _)
  have KM : Hid (∀ q, Below (w.heap.size + 1) (w.alloc (.cells #[.int .i64 r, .int .i64 c, .slice m len cap] 31)) q → Lst q m len cap zs) := fun q h => hm.below (hal.trans (h.mono (by omega))) (Nat.le_refl _)
  have KW : Hid (∀ q, Below (w.heap.size + 1) (w.alloc (.cells #[.int .i64 r, .int .i64 c, .slice m len cap] 31)) q → Below w.heap.size w q) := fun q h => hal.trans (h.mono (by omega))
  have KC : Hid (∀ q, Below (w.heap.size + 1) (w.alloc (.cells #[.int .i64 r, .int .i64 c, .slice m len cap] 31)) q → q.cell? ⟨w.heap.size, 0, none⟩ = some (.int .i64 r) ∧ q.cell? ⟨w.heap.size, 1, none⟩ = some (.int .i64 c) ∧ q.cell? ⟨w.heap.size, 2, none⟩ = some (.slice m len cap)) := fun q h => box3 _ _ _ _ h (Nat.lt_succ_self _)
  clear ha hb hm hal
  go_wp2_with fail
  refine (minus_calls _ _ _ xs _ (KA.out _ T2) hra).mono ?_
  rintro e p3 ⟨na, nc, rfl, hna, hp3⟩
  have hs := T2.size
  simp at hs
  have T3 := T2.trans (hp3.mono hs)
  clear T2 hs
  clear hp3
  go_wp2_with fail
  refine (vDot_calls _ _ _ _ _ _ (negL xs) ys _ hna (KB.out _ T3)).mono ?_
  rintro e p4 ⟨rfl, hp4⟩
  rw [show (if twoI la lb = 0 then dotTo (negL xs) ys la else 0) = -X from HN.out]
  have hs := T3.size
  simp at hs
  have T4 := T3.trans (hp4.mono hs)
  clear T3 hs
  clear hp4 hna
  obtain ⟨g0, g1, g2⟩ := KC.out _ T4
  go_wp2_with fail
  refine (vMul_calls _ _ _ _ _ zs _ _ _ xs _ (KM.out _ T4) (KA.out _ T4)).mono ?_
  rintro e p5 ⟨ua, un, rfl, hun, hU, hp5⟩
  have hs := T4.size
  simp at hs
  have T5 := T4.trans (hp5.mono hs)
  clear T4 hs
  clear g0 g1 g2 hp5
  obtain ⟨g0, g1, g2⟩ := KC.out _ T5
  have hs5 := T5.size
  simp at hs5
  go_wp2_with fail
  go_region_held3 (fun w' => w'.cell? ⟨w.heap.size, 0, none⟩ = some (.int .i64 r) ∧ w'.cell? ⟨w.heap.size, 1, none⟩ = some (.int .i64 c) ∧ w'.cell? ⟨w.heap.size, 2, none⟩ = some (.slice m len cap)) (first | go_keep | exact KC.out _ T7 | exact KC.out _ T6)
    (first | (go_at_call 12; refine (minus_calls _ _ _ xs _ (by exact (KA.out _ T5).drew) hra).mono ?_; rintro e p6 ⟨na, nc, rfl, hna, hp6⟩; have T6 := T5.trans (Below.trans (Below.drew (Below.refl _ _)) (hp6.mono hs5)); have hs6 := T6.size; simp at hs6) | (go_at_call 13; refine (vMul_calls _ _ _ _ _ zs _ _ _ (negL xs) _ (by exact KM.out _ T6) (by exact hna)).mono ?_; rintro e p7 ⟨va, vn, rfl, hvn, hV, hp7⟩; have T7 := T6.trans (hp7.mono hs6)))
  have hb57 : Below p5.heap.size p5 p7 := ((Below.drew (Below.refl _ _)).trans hp6).trans (hp7.mono hp6.size)
  have hU7 := hU.below hb57 (Nat.le_refl _)
  clear hU hb57 hp6 hp7 hna T5 T6 hs5 hs6 g0 g1 g2
  obtain ⟨g0, g1, g2⟩ := KC.out _ T7
  go_wp2_with fail
  refine (vBack_calls _ _ _ _ _ zs _ _ _ ys _ (KM.out _ T7) (KB.out _ T7)).mono ?_
  rintro e p8 ⟨wa, wn, rfl, hwn, hW, hp8⟩
  have hU8 := hU7.below hp8 (Nat.le_refl _)
  have hV8 := hV.below hp8 (Nat.le_refl _)
  have hs := T7.size
  simp at hs
  have T8 := T7.trans (hp8.mono hs)
  clear T7 hs
  clear g0 g1 g2 hp8 hU7 hV
  obtain ⟨g0, g1, g2⟩ := KC.out _ T8
  have hs8 := T8.size
  simp at hs8
  go_wp2_with fail
  go_region_held3 (fun w' => w'.cell? ⟨w.heap.size, 0, none⟩ = some (.int .i64 r) ∧ w'.cell? ⟨w.heap.size, 1, none⟩ = some (.int .i64 c) ∧ w'.cell? ⟨w.heap.size, 2, none⟩ = some (.slice m len cap)) (first | go_keep | exact KC.out _ T10 | exact KC.out _ T9)
    (first | (go_at_call 12; refine (minus_calls _ _ _ ys _ (by exact (KB.out _ T8).drew) hrb).mono ?_; rintro e p9 ⟨nb, nd, rfl, hnb, hp9⟩; have T9 := T8.trans (Below.trans (Below.drew (Below.refl _ _)) (hp9.mono hs8)); have hs9 := T9.size; simp at hs9) | (go_at_call 14; refine (vBack_calls _ _ _ _ _ zs _ _ _ (negL ys) _ (by exact KM.out _ T9) (by exact hnb)).mono ?_; rintro e p10 ⟨ta, tn, rfl, htn, hT, hp10⟩; have T10 := T9.trans (hp10.mono hs9)))
  have hb810 : Below p8.heap.size p8 p10 := ((Below.drew (Below.refl _ _)).trans hp9).trans (hp10.mono hp9.size)
  have hU10 := hU8.below hb810 (Nat.le_refl _)
  have hV10 := hV8.below hb810 (Nat.le_refl _)
  have hW10 := hW.below hb810 (Nat.le_refl _)
  clear hU8 hV8 hW hb810 hp9 hp10 hnb T8 T9 hs8 hs9 g0 g1 g2
  have q3 : (twoI la lb == twoI la lb) = true := by simp
  have q4 : (-X == -X) = true := by simp
  have q5 : (bothI r c len zs la c == bothI r c len zs la c) = true := by simp
  have q6 : (bothI r c len zs lb r == bothI r c len zs lb r) = true := by simp
  go_wp2_with fail
  refine (minus_calls _ _ _ _ _ hU10 (by omega)).mono ?_
  rintro e p11 ⟨ea, ec, rfl, hE, hp11⟩
  have hV11 := hV10.below hp11 (Nat.le_refl _)
  have hW11 := hW10.below hp11 (Nat.le_refl _)
  have hT11 := hT.below hp11 (Nat.le_refl _)
  have hs := T10.size
  simp at hs
  have T11 := T10.trans (hp11.mono hs)
  clear T10 hs
  clear hp11 hU10 hV10 hW10 hT
  go_wp2_with fail
  refine (eq_calls _ _ _ _ _ _ _ _ _ hE hV11 (by omega)).mono ?_
  rintro e p12 ⟨rfl, n12, h12⟩
  rw [decide_eq_true (negL_mul r c len zs la xs)]
  have hp12 : Below p11.heap.size p11 p12 := h12 ▸ below_drewN (Below.refl _ _) _
  have hW12 := hW11.below hp12 (Nat.le_refl _)
  have hT12 := hT11.below hp12 (Nat.le_refl _)
  have hs := T11.size
  simp at hs
  have T12 := T11.trans (hp12.mono hs)
  clear T11 hs
  clear hp12 h12 hE hV11 hW11 hT11
  go_wp2_with fail
  refine (minus_calls _ _ _ _ _ hW12 (by omega)).mono ?_
  rintro e p13 ⟨fa, fc, rfl, hF, hp13⟩
  have hT13 := hT12.below hp13 (Nat.le_refl _)
  have hs := T12.size
  simp at hs
  have T13 := T12.trans (hp13.mono hs)
  clear T12 hs
  clear hp13 hW12 hT12
  go_wp2_with fail
  refine (eq_calls _ _ _ _ _ _ _ _ _ hF hT13 (by omega)).mono ?_
  rintro e p14 ⟨rfl, n14, h14⟩
  rw [decide_eq_true (negL_back r c len zs lb ys)]
  have hp14 : Below p13.heap.size p13 p14 := h14 ▸ below_drewN (Below.refl _ _) _
  have hs := T13.size
  simp at hs
  have T14 := T13.trans (hp14.mono hs)
  clear T13 hs
  clear hp14 h14 hF hT13
  go_wp2
  go_ret
  exact ⟨rfl, KW.out _ T14⟩
end Go.Proofs.Ytknmnailimkliad.Fx
