/- What coachref's Pupil, Flat, Size and Shape return. -/
import Derived.Test.YtimciamfgpdjlaaGreatJ18
import Derived.Test.YtimciamfgpdjlaaGreatJ03
import Derived.Test.YtimciamfgpdjlaaGreatJ08
import Derived.Test.YtimciamfgpdjlaaGreatJ02
import Derived.Test.YtimciamfgpdjlaaGreatJ09
namespace Go.Proofs.YtimciamfgpdjlaaGreat.Fx
open Go.RowKit

set_option maxHeartbeats 1600000 in
theorem rpupil_calls (p : Pup) (d : PD) (w : World) (h : InPup w p d) :
    Calls Tryz.prog 26 #[p.val] w fun e w' => e = .returned (.int .i64 (pchk p d)) ∧ Below w.heap.size w w' := by
  obtain ⟨r1, c1, a1, n1, k1, r2, c2, a2, n2, k2, d1, m1, e1, d2, m2, e2⟩ := p
  obtain ⟨X1, X2, B1, B2⟩ := d
  obtain ⟨hx1, hx2, hb1, hb2⟩ := h
  simp only [Pup.val, Pup.cells] at *
  have hal := (Below.refl w.heap.size w).alloc (Nat.le_refl _) (.cells #[.int .i64 r1, .int .i64 c1, .slice a1 n1 k1, .int .i64 r2, .int .i64 c2, .slice a2 n2 k2, .slice d1 m1 e1, .slice d2 m2 e2] 62)
  have hx1 := hx1.below hal (Nat.le_refl _)
  go_enter Tryz.func26, Tryz.ntmps26
  go_wp2_with fail
  refine (rmat_calls _ _ _ _ _ X1 _ hx1).mono ?_
  rintro e w1 ⟨rfl, hw1⟩
  have hbw := hal.trans (hw1.mono hal.size)
  have hx2 := hx2.below hbw (Nat.le_refl _)
  obtain ⟨f0, f1, f2, f3, f4, f5, f6, f7⟩ := box8 hw1 (by simp)
  rcases chkI_cases r1 c1 n1 X1 with h1 | ⟨h1, t1, _⟩
  · have G1 : Hid (chkI r1 c1 n1 X1 = 0) := h1
    clear h1 hx1
    rw [G1.out]
    go_wp2_with fail
    refine (rmat_calls _ _ _ _ _ X2 _ hx2).mono ?_
    rintro e w2 ⟨rfl, hw2⟩
    clear hx2 f0 f1 f2 f3 f4 f5 f6 f7
    have hbw2 := hbw.trans (hw2.mono hbw.size)
    obtain ⟨f0, f1, f2, f3, f4, f5, f6, f7⟩ := box8 (hw1.trans (hw2.mono hw1.size)) (by simp)
    have hb1 := hb1.below hbw2 (Nat.le_refl _)
    have hb2 := hb2.below hbw2 (Nat.le_refl _)
    clear hw1 hw2 hbw hal
    rcases chkI_cases r2 c2 n2 X2 with h2 | ⟨h2, t2, _⟩
    · have G2 : Hid (chkI r2 c2 n2 X2 = 0) := h2
      clear h2
      rw [G2.out]
      obtain ⟨R1, C1, rfl, rfl, p1, p2, p3, p4, rfl, g1⟩ := chkI_zero G1.out
      obtain ⟨R2, C2, rfl, rfl, q1, q2, q3, q4, rfl, g2⟩ := chkI_zero G2.out
      by_cases u1 : C2 = R1
      · have s1 : ((C2 : Int) != (R1 : Int)) = false := by rw [bne_eq_false_iff_eq]; omega
        by_cases u2 : m1 = R1
        · have s2 : ((m1 : Int) != (R1 : Int)) = false := by rw [bne_eq_false_iff_eq]; omega
          by_cases u3 : m2 = R2
          · have s3 : ((m2 : Int) != (R2 : Int)) = false := by rw [bne_eq_false_iff_eq]; omega
            have HU : Hid (((C2 : Int) = (R1 : Int) ∧ (m1 : Int) = (R1 : Int) ∧ (m2 : Int) = (R2 : Int))) := ⟨by omega, by omega, by omega⟩
            have l1 : m1 ≤ 4 := by omega
            have l2 : m2 ≤ 4 := by omega
            clear u1 u2 u3
            cases z1 : rightB B1 with
            | false =>
              go_wp2_with (go_at_call 52; refine (rright_calls _ _ _ B1 _ hb1 (by omega)).mono ?_; rintro e w3 ⟨rfl, kd, rfl⟩; rw [z1])
              go_ret
              exact ⟨ret_int (by unfold pchk; dsimp only; rw [if_pos G1.out, if_pos G2.out, if_neg (fun h => by have := h.2.1; rw [z1] at this; cases this)]), below_drewN hbw2 _⟩
            | true =>
              go_wp2_with fail
              refine (rright_calls _ _ _ B1 _ hb1 (by omega)).mono ?_
              rintro e w3 ⟨rfl, kd, rfl⟩
              rw [z1]
              cases z2 : rightB B2 with
              | false =>
                go_wp2_with fail
                refine (rright_calls _ _ _ B2 _ (hb2.drewN _) (by omega)).mono ?_
                rintro e w4 ⟨rfl, kd4, rfl⟩
                rw [z2]
                go_wp2
                go_ret
                exact ⟨ret_int (by unfold pchk; dsimp only; rw [if_pos G1.out, if_pos G2.out, if_neg (fun h => by have := h.2.2; rw [z2] at this; cases this)]), below_drewN hbw2 _⟩
              | true =>
                go_wp2_with fail
                refine (rright_calls _ _ _ B2 _ (hb2.drewN _) (by omega)).mono ?_
                rintro e w4 ⟨rfl, kd4, rfl⟩
                rw [z2]
                go_wp2
                go_ret
                exact ⟨ret_int (by unfold pchk; dsimp only; rw [if_pos G1.out, if_pos G2.out, if_pos ⟨HU.out, z1, z2⟩]), below_drewN hbw2 _⟩
          · have s3 : ((m2 : Int) != (R2 : Int)) = true := by rw [bne_iff_ne]; omega
            clear u1 u2
            go_wp2
            go_ret
            exact ⟨ret_int (by unfold pchk; dsimp only; rw [if_pos G1.out, if_pos G2.out, if_neg (by omega)]), hbw2⟩
        · have s2 : ((m1 : Int) != (R1 : Int)) = true := by rw [bne_iff_ne]; omega
          clear u1
          go_wp2
          go_ret
          exact ⟨ret_int (by unfold pchk; dsimp only; rw [if_pos G1.out, if_pos G2.out, if_neg (by omega)]), hbw2⟩
      · have s1 : ((C2 : Int) != (R1 : Int)) = true := by rw [bne_iff_ne]; omega
        go_wp2
        go_ret
        exact ⟨ret_int (by unfold pchk; dsimp only; rw [if_pos G1.out, if_pos G2.out, if_neg (by omega)]), hbw2⟩
    · go_wp2
      go_ret
      exact ⟨ret_int (by unfold pchk; dsimp only; rw [if_pos G1.out, if_neg h2]), hbw2⟩
  · go_wp2
    go_ret
    exact ⟨ret_int (by unfold pchk; dsimp only; rw [if_neg h1]), hbw⟩

theorem take_snoc {xs : List Int} {t : Nat} {x : Int} (h : t < xs.length) (hx : xs.getD t 0 = x) : xs.take t ++ [x] = xs.take (t + 1) := by
  rw [List.take_add_one, ← hx]
  simp [h]

set_option maxHeartbeats 1600000 in
theorem rflat_calls (I H O : Nat) (a1 : Option Addr) (k1 : Nat) (a2 : Option Addr) (k2 : Nat) (d1 : Option Addr) (e1 : Nat) (d2 : Option Addr) (e2 : Nat) (d : PD) (w : World) (h : InPup w (rpup I H O a1 k1 a2 k2 d1 e1 d2 e2) d) (i2 : I ≤ 4) (j2 : H ≤ 4) (o2 : O ≤ 4) :
    Calls Tryz.prog 29 #[(rpup I H O a1 k1 a2 k2 d1 e1 d2 e2).val] w fun e w' => ∃ a n c, e = .returned (.slice a n c) ∧ n ≤ 40 ∧ Lst w' a n c (flatD d) ∧ Below w.heap.size w w' ∧ (∀ g o, a = some ⟨g, o, none⟩ → w.heap.size ≤ g) := by
  have hal := (Below.refl w.heap.size w).alloc (Nat.le_refl _) (.cells (rpup I H O a1 k1 a2 k2 d1 e1 d2 e2).cells 62)
  obtain ⟨X1, X2, B1, B2⟩ := d
  obtain ⟨hx1, hx2, hb1, hb2⟩ := h
  simp only [Pup.val, Pup.cells, rpup] at *
  have s1 := prod_sideN j2 i2
  have s2 := prod_sideN o2 j2
  have hal2 := hal.alloc hal.size (.cells #[.slice a1 (H * I) k1, .slice d1 H e1, .slice a2 (O * H) k2, .slice d2 O e2] 26)
  have hr := World.rowIs_alloc (w.alloc (.cells #[.int .i64 H, .int .i64 I, .slice a1 (H * I) k1, .int .i64 O, .int .i64 H, .slice a2 (O * H) k2, .slice d1 H e1, .slice d2 O e2] 62)) #[.slice a1 (H * I) k1, .slice d1 H e1, .slice a2 (O * H) k2, .slice d2 O e2] 26 (fun i => .slice (four a1 d1 a2 d2 i) (four (H * I) H (O * H) O i) (four k1 e1 k2 e2 i)) (by
    intro i hi
    rcases lt_four hi with rfl | rfl | rfl | rfl <;> rfl)
  have HL : Hid (∀ i, i < 4 → Lst w (four a1 d1 a2 d2 i) (four (H * I) H (O * H) O i) (four k1 e1 k2 e2 i) (four X1 B1 X2 B2 i)) := by
    intro i hi
    rcases lt_four hi with rfl | rfl | rfl | rfl
    · exact hx1
    · exact hb1
    · exact hx2
    · exact hb2
  have HT : Hid (∀ i, i < 4 → four (H * I) H (O * H) O i ≤ 16) := by
    intro i hi
    rcases lt_four hi with rfl | rfl | rfl | rfl
    · exact s1
    · show H ≤ 16; omega
    · exact s2
    · show O ≤ 16; omega
  have HN : Hid (∀ j, j ≤ 4 → (catTo (four X1 B1 X2 B2) j).length ≤ 40) := by
    intro j hj
    rw [catTo_len (four X1 B1 X2 B2) (four (H * I) H (O * H) O) j (fun i hi => (HL.out i (by omega)).len)]
    refine Nat.le_trans (lenTo_le _ hj) ?_
    show 0 + H * I + H + O * H + O ≤ 40
    omega
  have HE : Hid (catTo (four X1 B1 X2 B2) 4 = X1 ++ (B1 ++ (X2 ++ B2))) := by
    show (([] ++ X1) ++ B1 ++ X2) ++ B2 = _
    simp [List.append_assoc]
  simp at hr
  clear hx1 hx2 hb1 hb2 s1 s2
  go_enter Tryz.func29, Tryz.ntmps29
  go_wp2
  generalize hW : (w.alloc (.cells #[.int .i64 H, .int .i64 I, .slice a1 (H * I) k1, .int .i64 O, .int .i64 H, .slice a2 (O * H) k2, .slice d1 H e1, .slice d2 O e2] 62)).alloc (.cells #[.slice a1 (H * I) k1, .slice d1 H e1, .slice a2 (O * H) k2, .slice d2 O e2] 26) = W at hr hal2 ⊢
  have hWs : W.heap.size = w.heap.size + 1 + 1 := by rw [← hW]; simp
  clear hW hal
  go_loopw [3, 19] (fun v i wr => ∃ j : Nat, j ≤ 4 ∧ i = .int .i64 j ∧ OwnI W.heap.size wr v (catTo (four X1 B1 X2 B2) j) ∧ Below W.heap.size W wr) (fun _ i _ => 4 - (intOf i).toNat)
  case atStart => exact ⟨0, Nat.zero_le _, rfl, OwnI.nil _ _, Below.refl _ _⟩
  case round =>
    obtain ⟨j, hj, rfl, hown, hbel⟩ := hrel
    by_cases hlt : j < 4
    · have c := (hbel.cell (p := ⟨w.heap.size + 1, j, none⟩) (by show w.heap.size + 1 < W.heap.size; omega)).trans (hr.cell hlt)
      have hx := (HL.out j hlt).below hal2 (Nat.le_refl _)
      have hd4 : decide ((j : Int) < 4) = true := decide_eq_true (by omega)
      have h16 := HT.out j hlt
      have hnn := HN.out (j + 1) (by omega)
      rw [catTo, List.length_append, hx.len] at hnn
      have hXl := hx.len
      generalize four a1 d1 a2 d2 j = sa at c hx
      generalize four (H * I) H (O * H) O j = sl at c hx h16 hnn hXl
      generalize four k1 e1 k2 e2 j = sc at c hx
      go_wp2
      generalize hwr : wr = w1 at *
      clear hwr
      go_loopw [3, 6] (fun v i wr => ∃ t : Nat, t ≤ sl ∧ i = .int .i64 t ∧ OwnI W.heap.size wr v (catTo (four X1 B1 X2 B2) j ++ (four X1 B1 X2 B2 j).take t) ∧ Below W.heap.size W wr) (fun _ i _ => sl - (intOf i).toNat)
      case atStart => exact ⟨0, Nat.zero_le _, rfl, by rw [List.take_zero, List.append_nil]; exact hown, hbel⟩
      case round =>
        clear hown hbel c
        obtain ⟨t, ht, rfl, hown, hbel⟩ := hrel
        have hsz := hbel.size
        by_cases hlt2 : t < sl
        · obtain ⟨b1, o1, x, rfl, sb1, c1, HX⟩ := hx.at1b hbel (Nat.le_refl _) hlt2
          have hl1 : (List.take t (four X1 B1 X2 B2 j)).length ≤ sl := by rw [List.length_take]; omega
          go_wp2_with (at_builtin; refine wpList_append_int (by rfl) _ _ (by rfl) W.heap.size _ (catTo (four X1 B1 X2 B2) j ++ (four X1 B1 X2 B2 j).take t) x wr.heap.size wr (by rfl) (by rfl) (by exact hown.alloc _) (by exact cell_new _ _ _) (by rw [List.length_append]; omega) (by simp; omega) (by exact (Below.refl _ _).alloc (by omega) _) ?_; intro v1 w3 hown1 hbel1)
          go_roundw
          case rel => exact ⟨t + 1, by omega, by go_num, hown1.congr (by rw [List.append_assoc, take_snoc (by omega) HX.out]), hbel.trans hbel1⟩
          case measure => simp [intOf]; omega
        · obtain rfl : t = sl := by omega
          go_wp2
          go_roundw
          case rel => exact ⟨j + 1, by omega, by go_num, hown.congr (by rw [List.take_of_length_le (by omega)]; rfl), hbel⟩
          case measure => simp [intOf]; omega
    · obtain rfl : j = 4 := by omega
      have hd4 : decide (((4 : Nat) : Int) < 4) = false := by decide
      obtain ⟨a, c, rfl, hl⟩ := hown.lst
      have hnew : ∀ g o, a = some ⟨g, o, none⟩ → w.heap.size ≤ g := by
        rintro g o rfl
        rcases hown.blk with h0 | ⟨g', hg', hge, _⟩
        · simp [Value.ownBlock] at h0
        · simp [Value.ownBlock] at hg'
          have := hal2.size
          omega
      have hn := HN.out 4 (by omega)
      rw [HE.out] at hl hn ⊢
      go_wp2
      go_ret
      exact ⟨a, _, c, rfl, hn, hl, hal2.trans (hbel.mono hal2.size), hnew⟩

theorem rsize_calls (I H O : Nat) (w : World) (i2 : I ≤ 4) (j2 : H ≤ 4) (o2 : O ≤ 4) :
    Calls Tryz.prog 110 #[.int .i64 I, .int .i64 H, .int .i64 O] w fun e w' => e = .returned (.int .i64 ((H : Int) * (I : Int) + (H : Int) + (O : Int) * (H : Int) + (O : Int))) ∧ w' = w := by
  have s1 : (H : Int) * ((I : Int) + 1) = (H : Int) * (I : Int) + (H : Int) := by rw [Int.mul_add, Int.mul_one]
  have s2 : (O : Int) * ((H : Int) + 1) = (O : Int) * (H : Int) + (O : Int) := by rw [Int.mul_add, Int.mul_one]
  have b1 := prod_sideN j2 i2
  have b2 := prod_sideN o2 j2
  have z1 : (H : Int) * (I : Int) = ((H * I : Nat) : Int) := by push_cast; rfl
  have z2 : (O : Int) * (H : Int) = ((O * H : Nat) : Int) := by push_cast; rfl
  have c1 : 0 ≤ (H : Int) * (I : Int) := by omega
  have c2 : (H : Int) * (I : Int) ≤ 16 := by omega
  have c3 : 0 ≤ (O : Int) * (H : Int) := by omega
  have c4 : (O : Int) * (H : Int) ≤ 16 := by omega
  clear z1 z2
  go_enter Tryz.func110, Tryz.ntmps110
  go_wp2
  go_ret
  exact ⟨ret_int (by omega), rfl⟩

set_option maxHeartbeats 3200000 in
theorem rshape_good (I H O : Nat) (a : Option Addr) (len cap : Nat) (xs : List Int) (w W0 : World) (ha : Lst w a len cap xs) (ha0 : Lst W0 a len cap xs) (i1 : 1 ≤ I) (i2 : I ≤ 4) (j1 : 1 ≤ H) (j2 : H ≤ 4) (o1 : 1 ≤ O) (o2 : O ≤ 4) (hlen : len = H * I + H + O * H + O) :
    Calls Tryz.prog 58 #[.int .i64 I, .int .i64 H, .int .i64 O, .slice a len cap] w fun e w' => ∃ a1 k1 a2 k2 b1 t1 b2 t2, e = .returned ((rpup I H O a1 k1 a2 k2 b1 t1 b2 t2).val) ∧ InPup W0 (rpup I H O a1 k1 a2 k2 b1 t1 b2 t2) (cutD I H O xs) ∧ Below w.heap.size w w' := by
  have hal := (Below.refl w.heap.size w).alloc (Nat.le_refl _) (.cells #[.int .i64 0, .int .i64 0, .slice none 0 0, .int .i64 0, .int .i64 0, .slice none 0 0, .slice none 0 0, .slice none 0 0] 62)
  have hrow := fn8_alloc w (.int .i64 0) (.int .i64 0) (.slice none 0 0) (.int .i64 0) (.int .i64 0) (.slice none 0 0) (.slice none 0 0) (.slice none 0 0) 62
  have s1 := prod_sideN j2 i2
  have s2 := prod_sideN o2 j2
  have s3 : 0 < H * I := Nat.mul_pos (by omega) (by omega)
  have s4 : 0 < O * H := Nat.mul_pos (by omega) (by omega)
  have hlc := ha.cap
  have z1 : (H : Int) * (I : Int) = ((H * I : Nat) : Int) := by push_cast; rfl
  have z2 : (O : Int) * (H : Int) = ((O * H : Nat) : Int) := by push_cast; rfl
  unfold rpup cutD
  generalize H * I = P at *
  generalize O * H = Q at *
  have e2 : ((P : Int) + (H : Int)).toNat = P + H := by omega
  have e3 : ((P : Int) + (H : Int) + (Q : Int)).toNat = P + H + Q := by omega
  have hxl := ha.len
  obtain ⟨g, off, rfl, hgs, hc⟩ := ha.at (by omega)
  have HLEN : Hid (len = P + H + Q + O) := hlen
  have d1 : P + H ≤ cap := by omega
  have d2 : P + H + Q ≤ len := by omega
  have d3 : P + H + Q < cap := by omega
  have hs1 := ha0.sub (by omega) 0 P (by omega) (by omega)
  have hs2 := ha0.sub (by omega) P (P + H) (by omega) (by omega)
  have hs3 := ha0.sub (by omega) (P + H) (P + H + Q) (by omega) (by omega)
  have hs4 := ha0.sub (by omega) (P + H + Q) len (by omega) (by omega)
  have n1 : ¬ cap = P := by omega
  have n2 : ¬ cap = P + H := by omega
  have n3 : ¬ cap = P + H + Q := by omega
  clear hlen hc
  go_enter Tryz.func58, Tryz.ntmps58
  go_wp2
  generalize w.alloc (.cells #[.int .i64 0, .int .i64 0, .slice none 0 0, .int .i64 0, .int .i64 0, .slice none 0 0, .slice none 0 0, .slice none 0 0] 62) = w0 at hal hrow ⊢
  obtain ⟨f0, f1, f2, f3, f4, f5, f6, f7⟩ := fn8_box hrow
  have g0 := hrow.frozen 0
  have g1 := hrow.frozen 1
  have g2 := hrow.frozen 2
  have g3 := hrow.frozen 3
  have g4 := hrow.frozen 4
  have g5 := hrow.frozen 5
  have g6 := hrow.frozen 6
  have g7 := hrow.frozen 7
  go_region
  all_goals go_wp2
  have hq := fn8_set8 hrow (.int .i64 H) (.int .i64 I) (.slice (some ⟨g, off, none⟩) P cap) (.int .i64 O) (.int .i64 H) (.slice (some ⟨g, off + (P + H), none⟩) Q (cap - (P + H))) (.slice (some ⟨g, off + P, none⟩) H (cap - P)) (.slice (some ⟨g, off + (P + H + Q), none⟩) (len - (P + H + Q)) (cap - (P + H + Q)))
  have hqd := hq.drew
  have hO : len - (P + H + Q) = O := by have := HLEN.out; omega
  have hbq := (((((((hal.setCell (p := ⟨w.heap.size, 0, none⟩) (Nat.le_refl _) (.int .i64 H)).setCell (p := ⟨w.heap.size, 1, none⟩) (Nat.le_refl _) (.int .i64 I)).setCell (p := ⟨w.heap.size, 2, none⟩) (Nat.le_refl _) (.slice (some ⟨g, off, none⟩) P cap)).setCell (p := ⟨w.heap.size, 3, none⟩) (Nat.le_refl _) (.int .i64 O)).setCell (p := ⟨w.heap.size, 4, none⟩) (Nat.le_refl _) (.int .i64 H)).setCell (p := ⟨w.heap.size, 5, none⟩) (Nat.le_refl _) (.slice (some ⟨g, off + (P + H), none⟩) Q (cap - (P + H)))).setCell (p := ⟨w.heap.size, 6, none⟩) (Nat.le_refl _) (.slice (some ⟨g, off + P, none⟩) H (cap - P))).setCell (p := ⟨w.heap.size, 7, none⟩) (Nat.le_refl _) (.slice (some ⟨g, off + (P + H + Q), none⟩) (len - (P + H + Q)) (cap - (P + H + Q)))
  have hbq := hbq.drew
  refine (fun (key : ∀ wz : World, wz.rowIs w.heap.size 62 8 (fn8 (.int .i64 H) (.int .i64 I) (.slice (some ⟨g, off, none⟩) P cap) (.int .i64 O) (.int .i64 H) (.slice (some ⟨g, off + (P + H), none⟩) Q (cap - (P + H))) (.slice (some ⟨g, off + P, none⟩) H (cap - P)) (.slice (some ⟨g, off + (P + H + Q), none⟩) (len - (P + H + Q)) (cap - (P + H + Q)))) → Below w.heap.size w wz → bodyPost Tryz.prog Tryz.f58 _ Exit.ret _ wz) => key _ hqd hbq) ?_
  clear hqd hbq hq hal hrow f0 f1 f2 f3 f4 f5 f6 f7 g0 g1 g2 g3 g4 g5 g6 g7
  intro wz hq hbq
  obtain ⟨q0, q1, q2, q3, q4, q5, q6, q7⟩ := fn8_box hq
  refine bodyPost_ret (v := Pup.val ⟨H, I, some ⟨g, off, none⟩, P, cap, O, H, some ⟨g, off + (P + H), none⟩, Q, cap - (P + H), some ⟨g, off + P, none⟩, H, cap - P, some ⟨g, off + (P + H + Q), none⟩, O, cap - (P + H + Q)⟩) (by simp [results, Tryz.results58, go_sem, Pup.val, Pup.cells, q0, q1, q2, q3, q4, q5, q6, q7, hO]) rfl ⟨_, _, _, _, _, _, _, _, rfl, ⟨?_, ?_, ?_, ?_⟩, hbq⟩
  · have h1 := hs1
    simpa using h1
  · have h1 := hs3
    rw [Nat.add_sub_cancel_left, ← List.drop_drop] at h1
    exact h1
  · have h1 := hs2
    rw [Nat.add_sub_cancel_left] at h1
    exact h1
  · have h1 := hs4
    rw [hO, ← List.drop_drop, ← List.drop_drop] at h1
    exact h1
end Go.Proofs.YtimciamfgpdjlaaGreat.Fx

/- More lists as blocks of their own: pupil.Flat, spot.Chunk; and what coachkeep.spoil leaves. -/
namespace Go.Proofs.YtimciamfgpdjlaaGreat.Fx
open Go.RowKit

set_option maxHeartbeats 1600000 in
theorem pflat_own (p : Pup) (d : PD) (w : World) (h : InPup w p d) (h0 : pchk p d = 0) :
    Calls Tryz.prog 30 #[p.val] w fun e w' => ∃ v, e = .returned (.tuple #[v, .int .i64 0]) ∧ OwnI w.heap.size w' v (flatD d) ∧ Below w.heap.size w w' := by
  have hal := (Below.refl w.heap.size w).alloc (Nat.le_refl _) (.cells p.cells 62)
  have h1 := h.below hal (Nat.le_refl _)
  have hck := pcheck_calls p d _ h1
  have G : Hid (pchk p d = 0) := h0
  obtain ⟨I, H, O, a1, k1, a2, k2, d1, e1, d2, e2, rfl, i1, i2, j1, j2, o1, o2, hr⟩ := pchk_zero h0
  clear h0 hr h
  obtain ⟨X1, X2, B1, B2⟩ := d
  obtain ⟨hx1, hx2, hb1, hb2⟩ := h1
  simp only [Pup.val, Pup.cells, rpup] at *
  have s1 := prod_sideN j2 i2
  have s2 := prod_sideN o2 j2
  have s3 : 0 < H * I := Nat.mul_pos (by omega) (by omega)
  have s4 : 0 < O * H := Nat.mul_pos (by omega) (by omega)
  go_enter Tryz.func30, Tryz.ntmps30
  go_wp2_with fail
  refine hck.mono ?_
  rintro e w1 ⟨rfl, hw1⟩
  rw [G.out]
  obtain ⟨f0, f1, f2, f3, f4, f5, f6, f7⟩ := box8 hw1 (by simp)
  have hbw := hal.trans (hw1.mono hal.size)
  have hx1 := hx1.below hw1 (Nat.le_refl _)
  have hx2 := hx2.below hw1 (Nat.le_refl _)
  have hb1 := hb1.below hw1 (Nat.le_refl _)
  have hb2 := hb2.below hw1 (Nat.le_refl _)
  clear hal hck hw1
  go_wp2_with fail
  refine (concat4_own a1 d1 a2 d2 _ _ _ _ _ _ _ _ X1 B1 X2 B2 _ _ rfl hx1 hb1 hx2 hb2 s3 (by omega) s4 (by omega) (by omega)).mono ?_
  rintro e w2 ⟨v, rfl, hown, hw2⟩
  go_wp2
  go_ret2
  exact ⟨v, rfl, hown.mono hbw.size, hbw.trans (hw2.mono hbw.size)⟩

set_option maxRecDepth 100000 in
set_option maxHeartbeats 800000 in
theorem chunkg_own (a1 : Option Addr) (n1 k1 : Nat) (ws : List Int) (a2 : Option Addr) (n2 k2 : Nat) (ms : List Int) (k : Nat) (w : World) (l1 : Lst w a1 n1 k1 ws) (l2 : Lst w a2 n2 k2 ms) (g1 : 1 ≤ n1 + n2) (g2 : n1 + n2 ≤ 200) (g4 : k < (n1 + n2 + 3) / 4) :
    Calls Tryz.prog 23 #[.agg #[.slice a1 n1 k1, .slice a2 n2 k2], .int .i64 k] w fun e w' => ∃ v u, e = .returned (.tuple #[v, u, .int .i64 0]) ∧ OwnI w.heap.size w' v (partL (ws ++ ms) (n1 + n2) k) ∧ OwnW w.heap.size w' u (wayP (leavesP (ws ++ ms) (n1 + n2)) k) ∧ Below w.heap.size w w' := by
  have hal := low_alloc w (.cells #[.slice a1 n1 k1, .slice a2 n2 k2] 28)
  obtain ⟨c0, c1⟩ := two_cells w (.slice a1 n1 k1) (.slice a2 n2 k2) 28
  have l1' := l1.below hal (Nat.le_refl _)
  have l2' := l2.below hal (Nat.le_refl _)
  have h1 : ¬ (n1 : Int) + (n2 : Int) > 200 := by omega
  have hsz := hal.size
  obtain ⟨W, HW⟩ : ∃ q, Hid (q = w.alloc (.cells #[.slice a1 n1 k1, .slice a2 n2 k2] 28)) := ⟨_, rfl⟩
  rw [← HW.out] at hal c0 c1 l1' l2' hsz
  have CC : Hid (Calls Tryz.prog 69 #[.slice (some ⟨W.heap.size, 0, none⟩) 2 2] (W.alloc (.cells #[.slice a1 n1 k1, .slice a2 n2 k2] 26)) fun e w' => ∃ a c, e = .returned (.slice a (n1 + n2) c) ∧ Lst w' a (n1 + n2) c (ws ++ ms) ∧ Below W.heap.size W w') := concat2 a1 a2 n1 n2 k1 k2 ws ms _ _ rfl l1' l2' (by omega)
  clear l1 l2 l1' l2'
  generalize ws ++ ms = L at *
  have HPA : Hid (∀ a c q, Lst q a (n1 + n2) c L → Calls Tryz.prog 70 #[.slice a (n1 + n2 : Nat) c, .int .i64 k] q fun e w' => ∃ u, e = .returned (.tuple #[u, .int .i64 0]) ∧ OwnW q.heap.size w' u (wayP (leavesP L (n1 + n2)) k) ∧ Below q.heap.size q w') := fun a c q hl => path_own a (n1 + n2) c L k q hl g1 g2 g4
  obtain ⟨hi, hhi⟩ : ∃ hi, hiN (n1 + n2) k = hi := ⟨_, rfl⟩
  have hh : k * 4 < hi ∧ hi ≤ n1 + n2 ∧ hi ≤ k * 4 + 4 := by unfold hiN at hhi; omega
  have HSB : Hid (∀ b off c q, Lst q (some ⟨b, off, none⟩) (n1 + n2) c L → Lst q (some ⟨b, off + k * 4, none⟩) (hi - k * 4) (c - k * 4) (partL L (n1 + n2) k)) := fun b off c q hl => by
    have h := hl.sub (by omega) (k * 4) hi (Nat.le_of_lt hh.1) hh.2.1
    unfold partL
    rw [hhi]
    exact h
  have SZ := fun q => size_calls ((n1 + n2 : Nat) : Int) k ⟨by omega, by omega⟩ ⟨by omega, by omega⟩ q
  have hmin : min 4 (((n1 + n2 : Nat) : Int) - 4 * (k : Int)) = ((hi - k * 4 : Nat) : Int) := by unfold hiN at hhi; omega
  rw [hmin] at SZ
  have HSZ : Hid (∀ q, Calls Tryz.prog 71 #[.int .i64 (n1 + n2 : Nat), .int .i64 k] q fun e w' => e = .returned (.int .i64 ((hi - k * 4 : Nat) : Int)) ∧ w' = q) := SZ
  generalize partL L (n1 + n2) k = PL at *
  generalize wayP (leavesP L (n1 + n2)) k = WL at *
  obtain ⟨d, hd⟩ : ∃ d, hi - k * 4 = d := ⟨_, rfl⟩
  rw [hd] at HSB HSZ
  have hkd : k * 4 + d = hi := by omega
  have hk50 : (k : Int) ≤ 50 := by omega
  have hd4 : d ≤ 4 := by omega
  have x1 : (k : Int) * 4 ≤ (k : Int) * 4 + (d : Int) := by omega
  obtain ⟨N, HN⟩ : ∃ q, Hid (n1 + n2 = q) := ⟨_, rfl⟩
  rw [HN.out] at CC HPA HSB HSZ hh
  have hkN : k * 4 + d ≤ N := by omega
  have hN1 : 1 ≤ N := by have := HN.out; omega
  clear SZ hmin hhi HN hd
  go_enter Tryz.func23, Tryz.ntmps23
  go_upto_region 1 with fail
  rw [← HW.out]
  clear HW
  go_wp2_with fail
  refine CC.out.mono ?_
  rintro e w1 ⟨a, c, rfl, hl, hw1⟩
  have PA := HPA.out a c w1 hl
  have hbw1 := hal.trans (hw1.mono hal.size)
  clear c0 c1 CC HPA
  go_wp2_with fail
  refine PA.mono ?_
  rintro e w2 ⟨u, rfl, lp, hw2⟩
  obtain ⟨b, off, rfl, _⟩ := hl.at (by omega)
  have hNc := hl.cap
  have SZ1 := HSZ.out w2
  have hsub := (HSB.out b off c w1 hl).below hw2 (Nat.le_refl _)
  have CL := cloneI_any _ _ _ _ w2 hsub (by omega)
  have y1 : (k : Int) * 4 + (d : Int) ≤ (c : Int) := by omega
  have y2 : (0 : Int) ≤ (k : Int) * 4 := by omega
  have hdd : k * 4 + d - k * 4 = d := by omega
  have hck : ¬ c = k * 4 := by omega
  have hck2 : ¬ c - k * 4 = 0 := by omega
  clear HSB HSZ hsub PA hkd hh
  go_wp2_with fail
  refine SZ1.mono ?_
  rintro e w3 ⟨rfl, hw3⟩
  replace hw3 := hw3.symm
  subst hw3
  go_wp2_with fail
  refine CL.mono ?_
  rintro e w4 ⟨v, rfl, hv, hw4⟩
  have hbw2 := hbw1.trans (hw2.mono hbw1.size)
  have hv2 : OwnI w.heap.size w4 v PL := hv.mono hbw2.size
  go_wp2_with fail
  go_ret3
  exact ⟨v, u, rfl, hv2, (ownW_mono lp hbw1.size).below hw4, hbw2.trans (hw4.mono hbw2.size)⟩

/-- A row keeps its length. -/
def KeepR (w w' : World) : Prop := ∀ b t d F, w.rowIs b t d F → ∃ F', w'.rowIs b t d F'
theorem KeepR.refl (w : World) : KeepR w w := fun _ _ _ F h => ⟨F, h⟩
theorem KeepR.trans {a b c : World} (h1 : KeepR a b) (h2 : KeepR b c) : KeepR a c := fun x t d F h => by
  obtain ⟨F', h'⟩ := h1 x t d F h
  exact h2 x t d F' h'
theorem KeepR.set {w q : World} (h : KeepR w q) (g i : Nat) (v : Value) : KeepR w (q.setCell ⟨g, i, none⟩ v) := fun x t d F hx => by
  obtain ⟨F', h'⟩ := h x t d F hx
  by_cases e : x = g
  · subst e; exact ⟨_, h'.set i v⟩
  · exact ⟨F', h'.setOther (by simpa using e) v⟩

set_option maxHeartbeats 800000 in
theorem spoil_rows (g N d : Nat) (x : Int) (w : World) (h : ∃ F, w.rowIs g 3 d F) (hNd : N ≤ d) (hd : d ≤ 9223372036854775807) :
    Calls Tryz.prog 36 #[.slice (some ⟨g, 0, none⟩) N d, .int .i64 x] w fun e w' => e = .returned (.tuple #[]) ∧ KeepR w w' ∧ OnlyB g w w' := by
  have HA : Hid (∃ F, w.rowIs g 3 d F) := h
  clear h
  go_enter Tryz.func36, Tryz.ntmps36
  go_wp2_with fail
  go_loopw [11] (fun v wr => ∃ k : Nat, k ≤ d ∧ v = .int .i64 k ∧ KeepR w wr ∧ OnlyB g w wr) (fun v _ => d - (intOf v).toNat)
  case atStart => exact ⟨0, Nat.zero_le _, rfl, KeepR.refl _, OnlyB.refl _ _⟩
  case round =>
    obtain ⟨k, hk, rfl, hkr, ho⟩ := hrel
    by_cases hlt : k < d
    · obtain ⟨F, hr⟩ : ∃ F, wr.rowIs g 3 d F := by obtain ⟨F, hr⟩ := HA.out; exact hkr _ _ _ F hr
      have c1 := hr.cell hlt
      have f1 := hr.frozen k
      clear hr
      go_wp2_with fail
      go_roundw
      case rel => exact ⟨k + 1, by omega, by go_num, hkr.set g k _, ho.set k _⟩
      case measure => simp [intOf]; omega
    · obtain rfl : k = d := by omega
      go_wp2_with fail
      go_end0
      exact ⟨rfl, hkr, ho⟩

set_option maxHeartbeats 800000 in
theorem spoilW_rows (g N d : Nat) (x : Int) (w : World) (h : ∃ F, w.rowIs g 22 d F) (hNd : N ≤ d) (hd : d ≤ 9223372036854775807) :
    Calls Tryz.prog 37 #[.slice (some ⟨g, 0, none⟩) N d, .int .u64 x] w fun e w' => e = .returned (.tuple #[]) ∧ KeepR w w' ∧ OnlyB g w w' := by
  have HA : Hid (∃ F, w.rowIs g 22 d F) := h
  clear h
  go_enter Tryz.func37, Tryz.ntmps37
  go_wp2_with fail
  go_loopw [11] (fun v wr => ∃ k : Nat, k ≤ d ∧ v = .int .i64 k ∧ KeepR w wr ∧ OnlyB g w wr) (fun v _ => d - (intOf v).toNat)
  case atStart => exact ⟨0, Nat.zero_le _, rfl, KeepR.refl _, OnlyB.refl _ _⟩
  case round =>
    obtain ⟨k, hk, rfl, hkr, ho⟩ := hrel
    by_cases hlt : k < d
    · obtain ⟨F, hr⟩ : ∃ F, wr.rowIs g 22 d F := by obtain ⟨F, hr⟩ := HA.out; exact hkr _ _ _ F hr
      have c1 := hr.cell hlt
      have f1 := hr.frozen k
      clear hr
      go_wp2_with fail
      go_roundw
      case rel => exact ⟨k + 1, by omega, by go_num, hkr.set g k _, ho.set k _⟩
      case measure => simp [intOf]; omega
    · obtain rfl : k = d := by omega
      go_wp2_with fail
      go_end0
      exact ⟨rfl, hkr, ho⟩

theorem spoilW_nil (x : Int) (w : World) : Calls Tryz.prog 37 #[.slice none 0 0, .int .u64 x] w fun e w' => e = .returned (.tuple #[]) ∧ w' = w := by
  go_enter Tryz.func37, Tryz.ntmps37
  go_wp2_with fail
  go_loopw [11] (fun v wr => v = .int .i64 0 ∧ wr = w) (fun _ _ => 0)
  case atStart => exact ⟨rfl, rfl⟩
  case round =>
    obtain ⟨rfl, hw⟩ := hrel
    replace hw := hw.symm
    subst hw
    go_wp2_with fail
    go_end0
    exact ⟨rfl, rfl⟩
end Go.Proofs.YtimciamfgpdjlaaGreat.Fx
