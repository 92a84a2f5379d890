/- What coachtop.twoRoots returns of two unlike states of one root; coachtop.told's contract is handed in. -/
import Derived.Test.YtkikhfdkibekgaaGreatJ29
import Derived.Test.YtkikhfdkibekgaaGreatJ27
import Derived.Test.YtkikhfdkibekgaaGreatJ26
import Derived.Test.YtkikhfdkibekgaaGreatJ19
import Derived.Deep.DeepCutAuto
import Derived.Deep.CutBlock
import Derived.Deep.QuietTactic
import Derived.BigQuiet
import Derived.Deep.RegionHeld3
namespace Go.Proofs.YtkikhfdkibekgaaGreat.Fx
open Go.RowKit

/-- What coachtop.told is to answer. -/
def ToldSays : Prop := ∀ (a : Option Addr) (n c : Nat) (xs : List Int) (po : Nat) (w : World), 1 ≤ n → n ≤ 80 → Lst w a n c xs → w.rowIs po 63 1 (fun _ => .slice none 0 0) →
  Calls Tryz.prog 27 #[.slice a n c, .pointer (some ⟨po, 0, none⟩)] w fun e w' => ∃ v, e = .returned (.int .u64 (ofP 3 [(n : Int), treeP (leavesP xs n)])) ∧ w'.rowIs po 63 1 (fun _ => v) ∧ OwnLL w.heap.size w' v (toldL xs n) ∧ w.grownBy w' (some po)

theorem one_row (w : World) (v : Value) (t : TypeId) : (w.alloc (.cells #[v] t)).rowIs w.heap.size t 1 (fun _ => v) :=
  World.rowIs_alloc w #[v] t (fun _ => v) (by
    intro i hi
    obtain rfl : i = 0 := by simpa using hi
    rfl)
theorem ll_range (fs : List (List Int)) : fs = (List.range fs.length).map (fun k => fs.getD k []) := by
  apply List.ext_getElem (by simp)
  intro i h1 h2
  simp [List.getD_eq_getElem?_getD, h1]
theorem growL_mem : ∀ (f : Nat) (l : List Int), l.length ≤ f → okL l → ∀ e ∈ growL l, okL e ∧ e.length = 3
  | 0, l, h, _, e, he => by rw [growL_one (by omega)] at he; cases he
  | f + 1, l, h, ho, e, he => by
    by_cases h1 : l.length ≤ 1
    · rw [growL_one h1] at he; cases he
    · obtain ⟨c1, c2, c3⟩ := cutN_lt (show 2 ≤ l.length by omega)
      rw [growL_two (by omega), List.mem_append, List.mem_append] at he
      rcases he with (he | he) | he
      · exact growL_mem f _ (by rw [List.length_take]; omega) (okL_take ho _) e he
      · exact growL_mem f _ (by rw [List.length_drop]; omega) (okL_drop ho _) e he
      · rw [List.mem_singleton] at he
        subst he
        exact ⟨okL_cons ⟨by decide, by decide⟩ (okL_cons (treeP_ok (okL_take ho _) (by rw [List.length_take]; omega)) (okL_cons (treeP_ok (okL_drop ho _) (by rw [List.length_drop]; omega)) okL_nil)), rfl⟩
theorem told_ok (xs : List Int) (n k : Nat) (h1 : 1 ≤ n) (hn : n ≤ 80) (hk : k < (toldL xs n).length) : okL ((toldL xs n).getD k []) ∧ 2 ≤ ((toldL xs n).getD k []).length ∧ ((toldL xs n).getD k []).length ≤ 5 := by
  have hm : (toldL xs n).getD k [] ∈ toldL xs n := by
    rw [List.getD_eq_getElem?_getD, List.getElem?_eq_getElem hk]
    exact List.getElem_mem hk
  generalize (toldL xs n).getD k [] = e at *
  unfold toldL at hm
  rw [List.mem_append, List.mem_append] at hm
  rcases hm with (hm | hm) | hm
  · rw [List.mem_map] at hm
    obtain ⟨i, hi, rfl⟩ := hm
    have hi2 := List.mem_range.1 hi
    have hlen : (numL (chnkL xs n i) (hiN n i - i * 4)).length = hiN n i - i * 4 := by unfold numL; rw [if_neg (by unfold hiN; omega)]; simp
    refine ⟨okL_cons ⟨by decide, by decide⟩ (numL_ok _ _), ?_, ?_⟩ <;> rw [List.length_cons, hlen] <;> unfold hiN <;> omega
  · have g := growL_mem _ _ (Nat.le_refl _) (leavesP_ok xs n) e hm
    exact ⟨g.1, by omega, by omega⟩
  · rw [List.mem_singleton] at hm
    subst hm
    exact ⟨okL_cons ⟨by decide, by decide⟩ (okL_cons ⟨by omega, by omega⟩ (okL_cons (treeP_ok (leavesP_ok xs n) (by rw [leavesP_len]; omega)) okL_nil)), by simp, by simp⟩

set_option maxRecDepth 100000 in
set_option maxHeartbeats 3200000 in
theorem two_says (HT : ToldSays) : TwoRootsSays := by
  intro n a1 k1 ws a2 k2 ms b1 d1 vs b2 d2 us w h1 h40 l1 l2 l3 l4 r1 r2 r3 r4 hroot hne
  have hBB : Hid (NoColl (toldL (ws ++ ms) (n + n)) (toldL (vs ++ us) (n + n)) → False) := fun hn => by
    have e := told_bind (xs := ws ++ ms) (ys := vs ++ us) (n := n + n) (by omega) (by rw [List.length_append, l1.len, l2.len]) (by rw [List.length_append, l3.len, l4.len]) (by unfold rightB at *; rw [List.all_append, r1, r2]; rfl) (by unfold rightB at *; rw [List.all_append, r3, r4]; rfl) hroot hn
    have e2 := List.append_inj e (by rw [l1.len, l3.len])
    rw [decide_eq_true e2.1, decide_eq_true e2.2] at hne
    cases hne
  have hal0 := low_alloc w (.cells #[.slice a1 n k1, .slice a2 n k2] 28)
  have hal := hal0.alloc hal0.size (.cells #[.slice b1 n d1, .slice b2 n d2] 28)
  obtain ⟨W, HW⟩ : ∃ q, Hid (q = (w.alloc (.cells #[.slice a1 n k1, .slice a2 n k2] 28)).alloc (.cells #[.slice b1 n d1, .slice b2 n d2] 28)) := ⟨_, rfl⟩
  have bx := fn2_alloc w (.slice a1 n k1) (.slice a2 n k2) 28
  have by' := fn2_alloc (w.alloc (.cells #[.slice a1 n k1, .slice a2 n k2] 28)) (.slice b1 n d1) (.slice b2 n d2) 28
  have bx2 := bx.alloc (.cells #[.slice b1 n d1, .slice b2 n d2] 28)
  have hs1 : (w.alloc (.cells #[.slice a1 n k1, .slice a2 n k2] 28)).heap.size = w.heap.size + 1 := by simp
  rw [hs1] at by'
  rw [← HW.out] at hal bx2 by'
  have KA : Hid (∀ q, Below W.heap.size W q → (q.cell? ⟨w.heap.size, 0, none⟩ = some (.slice a1 n k1) ∧ q.cell? ⟨w.heap.size, 1, none⟩ = some (.slice a2 n k2)) ∧ q.cell? ⟨w.heap.size + 1, 0, none⟩ = some (.slice b1 n d1) ∧ q.cell? ⟨w.heap.size + 1, 1, none⟩ = some (.slice b2 n d2)) := fun q hq => ⟨fn2_cells (bx2.of_block (hq.block _ bx2.lt)), fn2_cells (by'.of_block (hq.block _ by'.lt))⟩
  have m1 := l1.below hal (Nat.le_refl _)
  have m2 := l2.below hal (Nat.le_refl _)
  have C1 := concat2 a1 a2 n n k1 k2 ws ms _ _ rfl m1 m2 (by omega)
  have KL : Hid (∀ q, Below W.heap.size W q → Lst q b1 n d1 vs ∧ Lst q b2 n d2 us) := fun q hq => ⟨(l3.below hal (Nat.le_refl _)).below hq (Nat.le_refl _), (l4.below hal (Nat.le_refl _)).below hq (Nat.le_refl _)⟩
  clear bx by' bx2 hs1 hal0 l1 l2 l3 l4 m1 m2 r1 r2 r3 r4 hne
  have HRT : Hid (ofP 3 [((n + n : Nat) : Int), treeP (leavesP (ws ++ ms) (n + n))] = ofP 3 [((n + n : Nat) : Int), treeP (leavesP (vs ++ us) (n + n))]) := hroot
  clear hroot
  obtain ⟨⟨x0, x1⟩, y0, y1⟩ := KA.out _ (Below.refl _ _)
  have HTT : Hid ToldSays := HT
  clear HT
  go_enter Tryz.func14, Tryz.ntmps14
  go_upto_region 1 with fail
  rw [← HW.out]
  clear HW
  go_wp2_with fail
  refine C1.mono ?_
  rintro e w1 ⟨ax, cx, rfl, lx, T1⟩
  obtain ⟨lb1, lb2⟩ := KL.out _ T1
  have C2 := concat2 b1 b2 n n d1 d2 vs us _ _ rfl lb1 lb2 (by omega)
  clear C1 x0 x1 y0 y1 lb1 lb2 KL
  obtain ⟨⟨x0, x1⟩, y0, y1⟩ := KA.out _ T1
  clear KA
  go_wp2_with fail
  refine C2.mono ?_
  rintro e w2 ⟨ay, cy, rfl, ly, hw2⟩
  have T2 := T1.trans (hw2.mono T1.size)
  have hT2 := hal.trans (T2.mono hal.size)
  have lx2 := lx.below hw2 (Nat.le_refl _)
  clear C2 x0 x1 y0 y1 lx hw2 T1
  obtain ⟨N, HN⟩ : ∃ t, Hid (n + n = t) := ⟨_, rfl⟩
  have hN1 : 1 ≤ N := by have := HN.out; omega
  have hN80 : N ≤ 80 := by have := HN.out; omega
  rw [HN.out] at lx2 ly hBB HRT
  rw [HN.out]
  generalize ws ++ ms = L1 at *
  generalize vs ++ us = L2 at *
  have hu0 := one_row w2 (.slice none 0 0) 63
  have hv0 := one_row (w2.alloc (.cells #[.slice none 0 0] 63)) (.slice none 0 0) 63
  have hu1 := hu0.alloc (.cells #[.slice none 0 0] 63)
  have ha2 := low_alloc w2 (.cells #[.slice none 0 0] 63)
  have ha3 := ha2.trans ((low_alloc (w2.alloc (.cells #[.slice none 0 0] 63)) (.cells #[.slice none 0 0] 63)).mono ha2.size)
  obtain ⟨W3, HW3⟩ : ∃ q, Hid (q = (w2.alloc (.cells #[.slice none 0 0] 63)).alloc (.cells #[.slice none 0 0] 63)) := ⟨_, rfl⟩
  have hsz2 : (w2.alloc (.cells #[.slice none 0 0] 63)).heap.size = w2.heap.size + 1 := by simp
  rw [hsz2] at hv0
  rw [← HW3.out] at hv0 hu1 ha3
  have lx3 := lx2.below ha3 (Nat.le_refl _)
  have hT3 := hT2.trans (ha3.mono hT2.size)
  obtain ⟨by1, oy1, rfl, hby, _⟩ := ly.at (by omega)
  have ly3 := ly.below ha3 (Nat.le_refl _)
  have hpvl := hv0.lt
  have TL1 := HTT.out ax N cx L1 w2.heap.size W3 hN1 hN80 lx3 hu1
  have hpw : w.heap.size ≤ w2.heap.size := hT2.size
  go_upto_region 4 with fail
  rw [← HW3.out]
  clear HW3 hu0 hsz2 ha2 ha3 lx2 lx3 ly
  obtain ⟨pu, HPU⟩ : ∃ t, Hid (w2.heap.size = t) := ⟨_, rfl⟩
  rw [HPU.out] at TL1 hu1 hv0 hpvl hby hpw
  rw [HPU.out]
  have hpw2 : pu < W3.heap.size := by omega
  go_wp2_with fail
  refine TL1.mono ?_
  rintro e w4 ⟨v1, rfl, rw1, ow1, gr1⟩
  have ly4 : Lst w4 (some ⟨by1, oy1, none⟩) N cy L2 := ly3.grown gr1 (by omega)
  have rv4 := hv0.of_block (gr1.block _ hv0.lt (by simp))
  have TL2 := HTT.out (some ⟨by1, oy1, none⟩) N cy L2 (pu + 1) w4 hN1 hN80 ly4 rv4
  have hT4 := hT3.grown gr1 hT3.size (fun k e => by simp at e; omega)
  have s4 := gr1.size
  rw [← HRT.out] at TL2
  clear TL1 hu1 hv0 ly3 ly4 rv4 hT3 HTT
  go_wp2_with fail
  refine TL2.mono ?_
  rintro e w5 ⟨v2, rfl, rw2, ow2, gr2⟩
  have T5 := hT4.grown gr2 hT4.size (fun k e => by simp at e; omega)
  have rw15 := rw1.of_block (gr2.block _ rw1.lt (by simp))
  have ow15 := ow1.kept gr2 (fun g e => by simp at e; omega)
  have hq1 : (ofP 3 [(N : Int), treeP (leavesP L1 N)] != ofP 3 [(N : Int), treeP (leavesP L1 N)]) = false := by simp
  obtain ⟨NN, HNN⟩ : ∃ t, Hid ((N + 3) / 4 + ((N + 3) / 4 - 1) + 1 = t) := ⟨_, rfl⟩
  have e1 := toldL_len L1 N
  have e2 := toldL_len L2 N
  rw [HNN.out] at e1 e2
  have hNN : 0 < NN := by have := HNN.out; omega
  have hNN2 : NN ≤ 100 := by have := HNN.out; omega
  have HK1 : Hid (∀ t, t < NN → okL ((toldL L1 N).getD t []) ∧ 2 ≤ ((toldL L1 N).getD t []).length ∧ ((toldL L1 N).getD t []).length ≤ 5) := fun t ht => told_ok L1 N t hN1 hN80 (by rw [e1]; exact ht)
  have HK2 : Hid (∀ t, t < NN → okL ((toldL L2 N).getD t []) ∧ 2 ≤ ((toldL L2 N).getD t []).length ∧ ((toldL L2 N).getD t []).length ≤ 5) := fun t ht => told_ok L2 N t hN1 hN80 (by rw [e2]; exact ht)
  have HBD : Hid ((∀ t, t < NN → (toldL L1 N).getD t [] = (toldL L2 N).getD t [] ∨ madeP ((toldL L1 N).getD t []) ≠ madeP ((toldL L2 N).getD t [])) → False) := fun h => hBB.out (fun k hk => h k (by rw [← e1]; exact hk))
  rw [ll_range (toldL L1 N), e1] at ow15
  rw [ll_range (toldL L2 N), e2] at ow2
  obtain ⟨AB1, HA1⟩ : ∃ f, Hid ((fun k => (toldL L1 N).getD k []) = f) := ⟨_, rfl⟩
  obtain ⟨AB2, HA2⟩ : ∃ f, Hid ((fun k => (toldL L2 N).getD k []) = f) := ⟨_, rfl⟩
  rw [HA1.out] at ow15
  rw [HA2.out] at ow2
  replace HK1 : Hid (∀ t, t < NN → okL (AB1 t) ∧ 2 ≤ (AB1 t).length ∧ (AB1 t).length ≤ 5) := fun t ht => by rw [← HA1.out]; exact HK1.out t ht
  replace HK2 : Hid (∀ t, t < NN → okL (AB2 t) ∧ 2 ≤ (AB2 t).length ∧ (AB2 t).length ≤ 5) := fun t ht => by rw [← HA2.out]; exact HK2.out t ht
  replace HBD : Hid ((∀ t, t < NN → AB1 t = AB2 t ∨ madeP (AB1 t) ≠ madeP (AB2 t)) → False) := fun h => HBD.out (fun t ht => by rw [← HA1.out, ← HA2.out] at h; exact h t ht)
  obtain ⟨gu, cu, rfl, hcu, hgu5, hU⟩ := ow15.at hNN
  obtain ⟨gv, cv, rfl, hcv, hgv, hV⟩ := ow2.at hNN
  have HU : Hid (∀ k, k < NN → ∃ g' c', w5.cell? ⟨gu, k, none⟩ = some (.slice (some ⟨g', 0, none⟩) (AB1 k).length c') ∧ LstW w5 (some ⟨g', 0, none⟩) (AB1 k).length c' (AB1 k)) := hU
  have HV : Hid (∀ k, k < NN → ∃ g' c', w5.cell? ⟨gv, k, none⟩ = some (.slice (some ⟨g', 0, none⟩) (AB2 k).length c') ∧ LstW w5 (some ⟨g', 0, none⟩) (AB2 k).length c' (AB2 k)) := hV
  have cpu := rw15.cell (i := 0) (by omega)
  have cpv := rw2.cell (i := 0) (by omega)
  obtain ⟨pv, hpve⟩ : ∃ t, pu + 1 = t := ⟨_, rfl⟩
  have q2 : ((NN : Int) != (NN : Int)) = false := by simp
  clear hU hV ow15 ow2 ow1 rw1 rw2 rw15 gr1 gr2 TL2 e1 e2 HA1 HA2 HNN hBB HRT
  rw [hpve] at cpv
  rw [hpve]
  clear hpve
  generalize ofP 3 [(N : Int), treeP (leavesP L1 N)] = RR at *
  go_wp2_with fail
  go_loopw [40] (fun kv wr => ∃ k : Nat, k ≤ NN ∧ kv = .int .i64 k ∧ Hid (∀ t, t < k → AB1 t = AB2 t ∨ madeP (AB1 t) ≠ madeP (AB2 t)) ∧ Below w5.heap.size w5 wr) (fun kv _ => NN - (intOf kv).toNat)
  case atStart => exact ⟨0, Nat.zero_le _, rfl, fun t ht => by omega, Below.refl _ _⟩
  case round =>
    obtain ⟨k, hk, rfl, HALL, hbel⟩ := hrel
    by_cases hlt : k < NN
    · generalize hq6 : wr = q6 at *
      clear hq6
      obtain ⟨g1, c1, e1, l1⟩ := HU.out k hlt
      obtain ⟨g2, c2, e2, l2⟩ := HV.out k hlt
      have KS : Hid (∀ q, Below q6.heap.size q6 q → q.cell? ⟨pu, 0, none⟩ = some (.slice (some ⟨gu, 0, none⟩) NN cu) ∧ q.cell? ⟨pv, 0, none⟩ = some (.slice (some ⟨gv, 0, none⟩) NN cv) ∧ q.cell? ⟨gu, k, none⟩ = some (.slice (some ⟨g1, 0, none⟩) (AB1 k).length c1) ∧ q.cell? ⟨gv, k, none⟩ = some (.slice (some ⟨g2, 0, none⟩) (AB2 k).length c2)) := fun q hq => by
        have hq5 := hbel.trans (hq.mono hbel.size)
        exact ⟨(hq5.cell (p := ⟨pu, 0, none⟩) (cell_lt cpu)).trans cpu, (hq5.cell (p := ⟨pv, 0, none⟩) (cell_lt cpv)).trans cpv, (hq5.cell (p := ⟨gu, k, none⟩) hgu5).trans e1, (hq5.cell (p := ⟨gv, k, none⟩) hgv).trans e2⟩
      have V0 : Below q6.heap.size q6 q6.drew := below_drewN (Below.refl _ _) 1
      have S0 := KS.out _ V0
      obtain ⟨o1, y1, y2⟩ := HK1.out k hlt
      obtain ⟨o2, z1, z2⟩ := HK2.out k hlt
      have V05 := hbel.trans (V0.mono hbel.size)
      have EQ := weq_calls _ _ _ _ _ _ _ _ _ (l1.below V05 (Nat.le_refl _)) (l2.below V05 (Nat.le_refl _)) (by omega)
      have MU : Hid (∀ q, Below q6.heap.size q6 q → Calls Tryz.prog 29 #[.slice (some ⟨g1, 0, none⟩) (AB1 k).length c1] q fun e w' => e = .returned (.int .u64 (madeP (AB1 k))) ∧ Below q.heap.size q w') := fun q hq => tmade_calls _ _ _ _ q (l1.below (hbel.trans (hq.mono hbel.size)) (Nat.le_refl _)) y1 (by omega) o1
      have MV : Hid (∀ q, Below q6.heap.size q6 q → Calls Tryz.prog 29 #[.slice (some ⟨g2, 0, none⟩) (AB2 k).length c2] q fun e w' => e = .returned (.int .u64 (madeP (AB2 k))) ∧ Below q.heap.size q w') := fun q hq => tmade_calls _ _ _ _ q (l2.below (hbel.trans (hq.mono hbel.size)) (Nat.le_refl _)) z1 (by omega) o2
      generalize (AB1 k).length = n1 at *
      generalize (AB2 k).length = n2 at *
      have k1 : (k : Int) < (NN : Int) := by omega
      have k2 : (k : Int) < (NN : Int) := by omega
      have k3 : (0 : Int) ≤ (k : Int) := by omega
      clear l1 l2 e1 e2 o1 o2 y1 y2 z1 z2 V05
      by_cases h1 : AB1 k = AB2 k
      · rw [decide_eq_true h1] at EQ
        have HALL2 : Hid (∀ t, t < k + 1 → AB1 t = AB2 t ∨ madeP (AB1 t) ≠ madeP (AB2 t)) := fun t ht => by
          by_cases e : t = k
          · rw [e]; exact .inl h1
          · exact HALL.out t (by omega)
        clear HALL h1 MU MV
        go_wp2_with fail
        refine wp_region_held_drew (S := fun q => q.cell? ⟨pu, 0, none⟩ = some (.slice (some ⟨gu, 0, none⟩) NN cu) ∧ q.cell? ⟨pv, 0, none⟩ = some (.slice (some ⟨gv, 0, none⟩) NN cv) ∧ q.cell? ⟨gu, k, none⟩ = some (.slice (some ⟨g1, 0, none⟩) n1 c1) ∧ q.cell? ⟨gv, k, none⟩ = some (.slice (some ⟨g2, 0, none⟩) n2 c2)) (by kernel_rfl) (by with_reducible exact S0) (fun hHeld => ?_)
        refine wpAnyH_take (i := 0) (oi := _) (v := ?_) rfl (by kernel_rfl) (by kernel_rfl) (by kernel_rfl) (fun _ _ _ h => h) (Or.inl ⟨by rfl, ?_⟩) (by assumption) ?_
        rotate_left
        · intro w hSw
          try dsimp only at hSw
          go_simp
          try with_reducible rfl
        simp only [Act.put, List.getElem_toArray, List.getElem_cons_zero, List.setIfInBounds_toArray, List.set_cons_zero, List.set_cons_succ]
        refine wpAnyH_take (i := 1) (oi := _) (v := ?_) rfl (by kernel_rfl) (by kernel_rfl) (by kernel_rfl) (fun _ _ _ h => h) (Or.inl ⟨by rfl, ?_⟩) (by assumption) ?_
        rotate_left
        · intro w hSw
          try dsimp only at hSw
          go_simp
          try with_reducible rfl
        simp only [Act.put, List.getElem_toArray, List.getElem_cons_zero, List.getElem_cons_succ, List.setIfInBounds_toArray, List.set_cons_zero, List.set_cons_succ]
        refine wpAnyH_take (i := 2) (oi := _) (v := ?_) rfl (by kernel_rfl) (by kernel_rfl) (by kernel_rfl) (fun _ _ _ h => h) (Or.inl ⟨by rfl, ?_⟩) (by assumption) ?_
        rotate_left
        · intro w hSw
          try dsimp only at hSw
          go_simp
          try with_reducible rfl
        simp only [Act.put, List.getElem_toArray, List.getElem_cons_zero, List.getElem_cons_succ, List.setIfInBounds_toArray, List.set_cons_zero, List.set_cons_succ]
        refine wpAnyH_take (i := 3) (oi := _) (v := ?_) rfl (by kernel_rfl) (by kernel_rfl) (by kernel_rfl) (fun _ _ _ h => h) (Or.inl ⟨by rfl, ?_⟩) (by assumption) ?_
        rotate_left
        · intro w hSw
          try dsimp only at hSw
          go_simp
          try with_reducible rfl
        simp only [Act.put, List.getElem_toArray, List.getElem_cons_zero, List.getElem_cons_succ, List.setIfInBounds_toArray, List.set_cons_zero, List.set_cons_succ]
        refine wpAnyH_take (i := 4) (oi := _) (v := ?_) rfl (by kernel_rfl) (by kernel_rfl) (by kernel_rfl) (fun _ _ _ h => h) (Or.inl ⟨by rfl, ?_⟩) (by assumption) ?_
        rotate_left
        · intro w hSw
          try dsimp only at hSw
          go_simp
          try with_reducible rfl
        simp only [Act.put, List.getElem_toArray, List.getElem_cons_zero, List.getElem_cons_succ, List.setIfInBounds_toArray, List.set_cons_zero, List.set_cons_succ]
        refine wpAnyH_take (i := 5) (oi := _) (v := ?_) rfl (by kernel_rfl) (by kernel_rfl) (by kernel_rfl) (fun _ _ _ h => h) (Or.inl ⟨by rfl, ?_⟩) (by assumption) ?_
        rotate_left
        · intro w hSw
          try dsimp only at hSw
          go_simp
          try with_reducible rfl
        simp only [Act.put, List.getElem_toArray, List.getElem_cons_zero, List.getElem_cons_succ, List.setIfInBounds_toArray, List.set_cons_zero, List.set_cons_succ]
        refine wpAnyH_take (i := 6) (oi := _) (v := ?_) rfl (by kernel_rfl) (by kernel_rfl) (by kernel_rfl) (fun _ _ _ h => h) (Or.inl ⟨by rfl, ?_⟩) (by assumption) ?_
        rotate_left
        · intro w hSw
          try dsimp only at hSw
          go_simp
          try with_reducible rfl
        simp only [Act.put, List.getElem_toArray, List.getElem_cons_zero, List.getElem_cons_succ, List.setIfInBounds_toArray, List.set_cons_zero, List.set_cons_succ]
        refine wpAnyH_take (i := 7) (oi := _) (v := ?_) rfl (by kernel_rfl) (by kernel_rfl) (by kernel_rfl) (fun _ _ _ h => h) (Or.inl ⟨by rfl, ?_⟩) (by assumption) ?_
        rotate_left
        · intro w hSw
          try dsimp only at hSw
          go_simp
          try with_reducible rfl
        simp only [Act.put, List.getElem_toArray, List.getElem_cons_zero, List.getElem_cons_succ, List.setIfInBounds_toArray, List.set_cons_zero, List.set_cons_succ]
        refine wpAnyH_ready (rs := [8]) (by kernel_rfl) (by simp) ?_
        refine AllReadyH.cons (o := _) rfl (fun K hK => ?_) AllReadyH.nil
        clear hHeld
        go_simp
        (go_at_call 28; refine EQ.mono ?_; rintro e q1 ⟨rfl, kq1, hq1⟩; have V1 := below_drewN V0 kq1; rw [← hq1] at V1; clear hq1; have S1 := KS.out _ V1)
        go_wp2_with fail
        refine hK.out _ _ ?_ (fun hHeld => ?_)
        · with_reducible exact S1
        clear hK K
        try simp only [Act.put, List.setIfInBounds_toArray, List.set_cons_zero, List.set_cons_succ]
        refine wpAnyH_take (i := 9) (oi := _) (v := ?_) rfl (by kernel_rfl) (by kernel_rfl) (by kernel_rfl) (fun _ _ _ h => h) (Or.inl ⟨by rfl, ?_⟩) (by assumption) ?_
        rotate_left
        · intro w hSw
          try dsimp only at hSw
          go_simp
          try with_reducible rfl
        simp only [Act.put, List.getElem_toArray, List.getElem_cons_zero, List.getElem_cons_succ, List.setIfInBounds_toArray, List.set_cons_zero, List.set_cons_succ]
        refine wpAnyH_take (i := 10) (oi := _) (v := ?_) rfl (by kernel_rfl) (by kernel_rfl) (by kernel_rfl) (fun _ _ _ h => h) (Or.inl ⟨by rfl, ?_⟩) (by assumption) ?_
        rotate_left
        · intro w hSw
          try dsimp only at hSw
          go_simp
          try with_reducible rfl
        simp only [Act.put, List.getElem_toArray, List.getElem_cons_zero, List.getElem_cons_succ, List.setIfInBounds_toArray, List.set_cons_zero, List.set_cons_succ]
        refine wpAnyH_take (i := 11) (oi := _) (v := undef) rfl (by kernel_rfl) (by kernel_rfl) (by kernel_rfl) (fun _ _ _ h => h) (Or.inr ⟨by rfl, rfl⟩) (by assumption) ?_
        simp only [Act.put, List.getElem_toArray, List.getElem_cons_zero, List.getElem_cons_succ, List.setIfInBounds_toArray, List.set_cons_zero, List.set_cons_succ]
        refine wpAnyH_take (i := 12) (oi := _) (v := undef) rfl (by kernel_rfl) (by kernel_rfl) (by kernel_rfl) (fun _ _ _ h => h) (Or.inr ⟨by rfl, rfl⟩) (by assumption) ?_
        simp only [Act.put, List.getElem_toArray, List.getElem_cons_zero, List.getElem_cons_succ, List.setIfInBounds_toArray, List.set_cons_zero, List.set_cons_succ]
        refine wpAnyH_take (i := 13) (oi := _) (v := undef) rfl (by kernel_rfl) (by kernel_rfl) (by kernel_rfl) (fun _ _ _ h => h) (Or.inr ⟨by rfl, rfl⟩) (by assumption) ?_
        simp only [Act.put, List.getElem_toArray, List.getElem_cons_zero, List.getElem_cons_succ, List.setIfInBounds_toArray, List.set_cons_zero, List.set_cons_succ]
        refine wpAnyH_take (i := 14) (oi := _) (v := undef) rfl (by kernel_rfl) (by kernel_rfl) (by kernel_rfl) (fun _ _ _ h => h) (Or.inr ⟨by rfl, rfl⟩) (by assumption) ?_
        simp only [Act.put, List.getElem_toArray, List.getElem_cons_zero, List.getElem_cons_succ, List.setIfInBounds_toArray, List.set_cons_zero, List.set_cons_succ]
        refine wpAnyH_take (i := 15) (oi := _) (v := undef) rfl (by kernel_rfl) (by kernel_rfl) (by kernel_rfl) (fun _ _ _ h => h) (Or.inr ⟨by rfl, rfl⟩) (by assumption) ?_
        simp only [Act.put, List.getElem_toArray, List.getElem_cons_zero, List.getElem_cons_succ, List.setIfInBounds_toArray, List.set_cons_zero, List.set_cons_succ]
        refine wpAnyH_take (i := 16) (oi := _) (v := undef) rfl (by kernel_rfl) (by kernel_rfl) (by kernel_rfl) (fun _ _ _ h => h) (Or.inr ⟨by rfl, rfl⟩) (by assumption) ?_
        simp only [Act.put, List.getElem_toArray, List.getElem_cons_zero, List.getElem_cons_succ, List.setIfInBounds_toArray, List.set_cons_zero, List.set_cons_succ]
        refine wpAnyH_take (i := 17) (oi := _) (v := undef) rfl (by kernel_rfl) (by kernel_rfl) (by kernel_rfl) (fun _ _ _ h => h) (Or.inr ⟨by rfl, rfl⟩) (by assumption) ?_
        simp only [Act.put, List.getElem_toArray, List.getElem_cons_zero, List.getElem_cons_succ, List.setIfInBounds_toArray, List.set_cons_zero, List.set_cons_succ]
        refine wpAnyH_take (i := 18) (oi := _) (v := undef) rfl (by kernel_rfl) (by kernel_rfl) (by kernel_rfl) (fun _ _ _ h => h) (Or.inr ⟨by rfl, rfl⟩) (by assumption) ?_
        simp only [Act.put, List.getElem_toArray, List.getElem_cons_zero, List.getElem_cons_succ, List.setIfInBounds_toArray, List.set_cons_zero, List.set_cons_succ]
        refine wpAnyH_take (i := 19) (oi := _) (v := undef) rfl (by kernel_rfl) (by kernel_rfl) (by kernel_rfl) (fun _ _ _ h => h) (Or.inr ⟨by rfl, rfl⟩) (by assumption) ?_
        simp only [Act.put, List.getElem_toArray, List.getElem_cons_zero, List.getElem_cons_succ, List.setIfInBounds_toArray, List.set_cons_zero, List.set_cons_succ]
        refine wpAnyH_take (i := 20) (oi := _) (v := undef) rfl (by kernel_rfl) (by kernel_rfl) (by kernel_rfl) (fun _ _ _ h => h) (Or.inr ⟨by rfl, rfl⟩) (by assumption) ?_
        simp only [Act.put, List.getElem_toArray, List.getElem_cons_zero, List.getElem_cons_succ, List.setIfInBounds_toArray, List.set_cons_zero, List.set_cons_succ]
        refine wpAnyH_take (i := 21) (oi := _) (v := undef) rfl (by kernel_rfl) (by kernel_rfl) (by kernel_rfl) (fun _ _ _ h => h) (Or.inr ⟨by rfl, rfl⟩) (by assumption) ?_
        simp only [Act.put, List.getElem_toArray, List.getElem_cons_zero, List.getElem_cons_succ, List.setIfInBounds_toArray, List.set_cons_zero, List.set_cons_succ]
        refine wpAnyH_take (i := 22) (oi := _) (v := ?_) rfl (by kernel_rfl) (by kernel_rfl) (by kernel_rfl) (fun _ _ _ h => h) (Or.inl ⟨by rfl, ?_⟩) (by assumption) ?_
        rotate_left
        · intro w hSw
          try dsimp only at hSw
          go_simp
          try with_reducible rfl
        simp only [Act.put, List.getElem_toArray, List.getElem_cons_zero, List.getElem_cons_succ, List.setIfInBounds_toArray, List.set_cons_zero, List.set_cons_succ]
        refine wpAnyH_done (by kernel_rfl) ?_ _
        go_wp2_with fail
        go_roundw
        case rel => exact ⟨k + 1, by omega, by go_num, HALL2, hbel.trans (V1.mono hbel.size)⟩
        case measure => simp [intOf]; omega
      · rw [decide_eq_false h1] at EQ
        by_cases h2 : madeP (AB1 k) = madeP (AB2 k)
        · have hq2 : (madeP (AB1 k) == madeP (AB2 k)) = true := by rw [h2]; simp
          generalize madeP (AB1 k) = Y1 at *
          generalize madeP (AB2 k) = Y2 at *
          clear HALL h1 h2
          go_wp2_with fail
          refine wp_region_held_drew (S := fun q => q.cell? ⟨pu, 0, none⟩ = some (.slice (some ⟨gu, 0, none⟩) NN cu) ∧ q.cell? ⟨pv, 0, none⟩ = some (.slice (some ⟨gv, 0, none⟩) NN cv) ∧ q.cell? ⟨gu, k, none⟩ = some (.slice (some ⟨g1, 0, none⟩) n1 c1) ∧ q.cell? ⟨gv, k, none⟩ = some (.slice (some ⟨g2, 0, none⟩) n2 c2)) (by kernel_rfl) (by with_reducible exact S0) (fun hHeld => ?_)
          refine wpAnyH_take (i := 0) (oi := _) (v := ?_) rfl (by kernel_rfl) (by kernel_rfl) (by kernel_rfl) (fun _ _ _ h => h) (Or.inl ⟨by rfl, ?_⟩) (by assumption) ?_
          rotate_left
          · intro w hSw
            try dsimp only at hSw
            go_simp
            try with_reducible rfl
          simp only [Act.put, List.getElem_toArray, List.getElem_cons_zero, List.setIfInBounds_toArray, List.set_cons_zero, List.set_cons_succ]
          refine wpAnyH_take (i := 1) (oi := _) (v := ?_) rfl (by kernel_rfl) (by kernel_rfl) (by kernel_rfl) (fun _ _ _ h => h) (Or.inl ⟨by rfl, ?_⟩) (by assumption) ?_
          rotate_left
          · intro w hSw
            try dsimp only at hSw
            go_simp
            try with_reducible rfl
          simp only [Act.put, List.getElem_toArray, List.getElem_cons_zero, List.getElem_cons_succ, List.setIfInBounds_toArray, List.set_cons_zero, List.set_cons_succ]
          refine wpAnyH_take (i := 2) (oi := _) (v := ?_) rfl (by kernel_rfl) (by kernel_rfl) (by kernel_rfl) (fun _ _ _ h => h) (Or.inl ⟨by rfl, ?_⟩) (by assumption) ?_
          rotate_left
          · intro w hSw
            try dsimp only at hSw
            go_simp
            try with_reducible rfl
          simp only [Act.put, List.getElem_toArray, List.getElem_cons_zero, List.getElem_cons_succ, List.setIfInBounds_toArray, List.set_cons_zero, List.set_cons_succ]
          refine wpAnyH_take (i := 3) (oi := _) (v := ?_) rfl (by kernel_rfl) (by kernel_rfl) (by kernel_rfl) (fun _ _ _ h => h) (Or.inl ⟨by rfl, ?_⟩) (by assumption) ?_
          rotate_left
          · intro w hSw
            try dsimp only at hSw
            go_simp
            try with_reducible rfl
          simp only [Act.put, List.getElem_toArray, List.getElem_cons_zero, List.getElem_cons_succ, List.setIfInBounds_toArray, List.set_cons_zero, List.set_cons_succ]
          refine wpAnyH_take (i := 4) (oi := _) (v := ?_) rfl (by kernel_rfl) (by kernel_rfl) (by kernel_rfl) (fun _ _ _ h => h) (Or.inl ⟨by rfl, ?_⟩) (by assumption) ?_
          rotate_left
          · intro w hSw
            try dsimp only at hSw
            go_simp
            try with_reducible rfl
          simp only [Act.put, List.getElem_toArray, List.getElem_cons_zero, List.getElem_cons_succ, List.setIfInBounds_toArray, List.set_cons_zero, List.set_cons_succ]
          refine wpAnyH_take (i := 5) (oi := _) (v := ?_) rfl (by kernel_rfl) (by kernel_rfl) (by kernel_rfl) (fun _ _ _ h => h) (Or.inl ⟨by rfl, ?_⟩) (by assumption) ?_
          rotate_left
          · intro w hSw
            try dsimp only at hSw
            go_simp
            try with_reducible rfl
          simp only [Act.put, List.getElem_toArray, List.getElem_cons_zero, List.getElem_cons_succ, List.setIfInBounds_toArray, List.set_cons_zero, List.set_cons_succ]
          refine wpAnyH_take (i := 6) (oi := _) (v := ?_) rfl (by kernel_rfl) (by kernel_rfl) (by kernel_rfl) (fun _ _ _ h => h) (Or.inl ⟨by rfl, ?_⟩) (by assumption) ?_
          rotate_left
          · intro w hSw
            try dsimp only at hSw
            go_simp
            try with_reducible rfl
          simp only [Act.put, List.getElem_toArray, List.getElem_cons_zero, List.getElem_cons_succ, List.setIfInBounds_toArray, List.set_cons_zero, List.set_cons_succ]
          refine wpAnyH_take (i := 7) (oi := _) (v := ?_) rfl (by kernel_rfl) (by kernel_rfl) (by kernel_rfl) (fun _ _ _ h => h) (Or.inl ⟨by rfl, ?_⟩) (by assumption) ?_
          rotate_left
          · intro w hSw
            try dsimp only at hSw
            go_simp
            try with_reducible rfl
          simp only [Act.put, List.getElem_toArray, List.getElem_cons_zero, List.getElem_cons_succ, List.setIfInBounds_toArray, List.set_cons_zero, List.set_cons_succ]
          refine wpAnyH_ready (rs := [8]) (by kernel_rfl) (by simp) ?_
          refine AllReadyH.cons (o := _) rfl (fun K hK => ?_) AllReadyH.nil
          clear hHeld
          go_simp
          (go_at_call 28; refine EQ.mono ?_; rintro e q1 ⟨rfl, kq1, hq1⟩; have V1 := below_drewN V0 kq1; rw [← hq1] at V1; clear hq1; have S1 := KS.out _ V1)
          go_wp2_with fail
          refine hK.out _ _ ?_ (fun hHeld => ?_)
          · with_reducible exact S1
          clear hK K
          try simp only [Act.put, List.setIfInBounds_toArray, List.set_cons_zero, List.set_cons_succ]
          refine wpAnyH_take (i := 9) (oi := _) (v := ?_) rfl (by kernel_rfl) (by kernel_rfl) (by kernel_rfl) (fun _ _ _ h => h) (Or.inl ⟨by rfl, ?_⟩) (by assumption) ?_
          rotate_left
          · intro w hSw
            try dsimp only at hSw
            go_simp
            try with_reducible rfl
          simp only [Act.put, List.getElem_toArray, List.getElem_cons_zero, List.getElem_cons_succ, List.setIfInBounds_toArray, List.set_cons_zero, List.set_cons_succ]
          refine wpAnyH_take (i := 10) (oi := _) (v := ?_) rfl (by kernel_rfl) (by kernel_rfl) (by kernel_rfl) (fun _ _ _ h => h) (Or.inl ⟨by rfl, ?_⟩) (by assumption) ?_
          rotate_left
          · intro w hSw
            try dsimp only at hSw
            go_simp
            try with_reducible rfl
          simp only [Act.put, List.getElem_toArray, List.getElem_cons_zero, List.getElem_cons_succ, List.setIfInBounds_toArray, List.set_cons_zero, List.set_cons_succ]
          refine wpAnyH_take (i := 11) (oi := _) (v := ?_) rfl (by kernel_rfl) (by kernel_rfl) (by kernel_rfl) (fun _ _ _ h => h) (Or.inl ⟨by rfl, ?_⟩) (by assumption) ?_
          rotate_left
          · intro w hSw
            try dsimp only at hSw
            go_simp
            try with_reducible rfl
          simp only [Act.put, List.getElem_toArray, List.getElem_cons_zero, List.getElem_cons_succ, List.setIfInBounds_toArray, List.set_cons_zero, List.set_cons_succ]
          refine wpAnyH_take (i := 12) (oi := _) (v := ?_) rfl (by kernel_rfl) (by kernel_rfl) (by kernel_rfl) (fun _ _ _ h => h) (Or.inl ⟨by rfl, ?_⟩) (by assumption) ?_
          rotate_left
          · intro w hSw
            try dsimp only at hSw
            go_simp
            try with_reducible rfl
          simp only [Act.put, List.getElem_toArray, List.getElem_cons_zero, List.getElem_cons_succ, List.setIfInBounds_toArray, List.set_cons_zero, List.set_cons_succ]
          refine wpAnyH_take (i := 13) (oi := _) (v := ?_) rfl (by kernel_rfl) (by kernel_rfl) (by kernel_rfl) (fun _ _ _ h => h) (Or.inl ⟨by rfl, ?_⟩) (by assumption) ?_
          rotate_left
          · intro w hSw
            try dsimp only at hSw
            go_simp
            try with_reducible rfl
          simp only [Act.put, List.getElem_toArray, List.getElem_cons_zero, List.getElem_cons_succ, List.setIfInBounds_toArray, List.set_cons_zero, List.set_cons_succ]
          refine wpAnyH_take (i := 14) (oi := _) (v := ?_) rfl (by kernel_rfl) (by kernel_rfl) (by kernel_rfl) (fun _ _ _ h => h) (Or.inl ⟨by rfl, ?_⟩) (by assumption) ?_
          rotate_left
          · intro w hSw
            try dsimp only at hSw
            go_simp
            try with_reducible rfl
          simp only [Act.put, List.getElem_toArray, List.getElem_cons_zero, List.getElem_cons_succ, List.setIfInBounds_toArray, List.set_cons_zero, List.set_cons_succ]
          refine wpAnyH_take (i := 16) (oi := _) (v := ?_) rfl (by kernel_rfl) (by kernel_rfl) (by kernel_rfl) (fun _ _ _ h => h) (Or.inl ⟨by rfl, ?_⟩) (by assumption) ?_
          rotate_left
          · intro w hSw
            try dsimp only at hSw
            go_simp
            try with_reducible rfl
          simp only [Act.put, List.getElem_toArray, List.getElem_cons_zero, List.getElem_cons_succ, List.setIfInBounds_toArray, List.set_cons_zero, List.set_cons_succ]
          refine wpAnyH_take (i := 17) (oi := _) (v := ?_) rfl (by kernel_rfl) (by kernel_rfl) (by kernel_rfl) (fun _ _ _ h => h) (Or.inl ⟨by rfl, ?_⟩) (by assumption) ?_
          rotate_left
          · intro w hSw
            try dsimp only at hSw
            go_simp
            try with_reducible rfl
          simp only [Act.put, List.getElem_toArray, List.getElem_cons_zero, List.getElem_cons_succ, List.setIfInBounds_toArray, List.set_cons_zero, List.set_cons_succ]
          refine wpAnyH_take (i := 18) (oi := _) (v := ?_) rfl (by kernel_rfl) (by kernel_rfl) (by kernel_rfl) (fun _ _ _ h => h) (Or.inl ⟨by rfl, ?_⟩) (by assumption) ?_
          rotate_left
          · intro w hSw
            try dsimp only at hSw
            go_simp
            try with_reducible rfl
          simp only [Act.put, List.getElem_toArray, List.getElem_cons_zero, List.getElem_cons_succ, List.setIfInBounds_toArray, List.set_cons_zero, List.set_cons_succ]
          refine wpAnyH_take (i := 19) (oi := _) (v := ?_) rfl (by kernel_rfl) (by kernel_rfl) (by kernel_rfl) (fun _ _ _ h => h) (Or.inl ⟨by rfl, ?_⟩) (by assumption) ?_
          rotate_left
          · intro w hSw
            try dsimp only at hSw
            go_simp
            try with_reducible rfl
          simp only [Act.put, List.getElem_toArray, List.getElem_cons_zero, List.getElem_cons_succ, List.setIfInBounds_toArray, List.set_cons_zero, List.set_cons_succ]
          refine wpAnyH_ready (rs := [15]) (by kernel_rfl) (by simp) ?_
          refine AllReadyH.cons (o := _) rfl (fun K hK => ?_) AllReadyH.nil
          clear hHeld
          go_simp
          (go_at_call 29; refine (MU.out _ V1).mono ?_; rintro e q2 ⟨rfl, hq2⟩; have V2 := V1.trans (hq2.mono V1.size); have S2 := KS.out _ V2)
          go_wp2_with fail
          refine hK.out _ _ ?_ (fun hHeld => ?_)
          · with_reducible exact S2
          clear hK K
          try simp only [Act.put, List.setIfInBounds_toArray, List.set_cons_zero, List.set_cons_succ]
          refine wpAnyH_ready (rs := [20]) (by kernel_rfl) (by simp) ?_
          refine AllReadyH.cons (o := _) rfl (fun K hK => ?_) AllReadyH.nil
          clear hHeld
          go_simp
          (go_at_call 29; refine (MV.out _ V2).mono ?_; rintro e q3 ⟨rfl, hq3⟩; have V3 := V2.trans (hq3.mono V2.size); have S3 := KS.out _ V3)
          go_wp2_with fail
          refine hK.out _ _ ?_ (fun hHeld => ?_)
          · with_reducible exact S3
          clear hK K
          try simp only [Act.put, List.setIfInBounds_toArray, List.set_cons_zero, List.set_cons_succ]
          refine wpAnyH_take (i := 21) (oi := _) (v := ?_) rfl (by kernel_rfl) (by kernel_rfl) (by kernel_rfl) (fun _ _ _ h => h) (Or.inl ⟨by rfl, ?_⟩) (by assumption) ?_
          rotate_left
          · intro w hSw
            try dsimp only at hSw
            go_simp
            try with_reducible rfl
          simp only [Act.put, List.getElem_toArray, List.getElem_cons_zero, List.getElem_cons_succ, List.setIfInBounds_toArray, List.set_cons_zero, List.set_cons_succ]
          refine wpAnyH_take (i := 22) (oi := _) (v := ?_) rfl (by kernel_rfl) (by kernel_rfl) (by kernel_rfl) (fun _ _ _ h => h) (Or.inl ⟨by rfl, ?_⟩) (by assumption) ?_
          rotate_left
          · intro w hSw
            try dsimp only at hSw
            go_simp
            try with_reducible rfl
          simp only [Act.put, List.getElem_toArray, List.getElem_cons_zero, List.getElem_cons_succ, List.setIfInBounds_toArray, List.set_cons_zero, List.set_cons_succ]
          refine wpAnyH_done (by kernel_rfl) ?_ _
          go_wp2_with fail
          go_ret
          have V5 := hbel.trans (V3.mono hbel.size)
          exact ⟨rfl, T5.trans (V5.mono T5.size)⟩
        · have HALL2 : Hid (∀ t, t < k + 1 → AB1 t = AB2 t ∨ madeP (AB1 t) ≠ madeP (AB2 t)) := fun t ht => by
            by_cases e : t = k
            · rw [e]; exact .inr h2
            · exact HALL.out t (by omega)
          have hq2 : (madeP (AB1 k) == madeP (AB2 k)) = false := by rw [beq_eq_false_iff_ne]; exact h2
          generalize madeP (AB1 k) = Y1 at *
          generalize madeP (AB2 k) = Y2 at *
          clear HALL h1 h2
          go_wp2_with fail
          refine wp_region_held_drew (S := fun q => q.cell? ⟨pu, 0, none⟩ = some (.slice (some ⟨gu, 0, none⟩) NN cu) ∧ q.cell? ⟨pv, 0, none⟩ = some (.slice (some ⟨gv, 0, none⟩) NN cv) ∧ q.cell? ⟨gu, k, none⟩ = some (.slice (some ⟨g1, 0, none⟩) n1 c1) ∧ q.cell? ⟨gv, k, none⟩ = some (.slice (some ⟨g2, 0, none⟩) n2 c2)) (by kernel_rfl) (by with_reducible exact S0) (fun hHeld => ?_)
          refine wpAnyH_take (i := 0) (oi := _) (v := ?_) rfl (by kernel_rfl) (by kernel_rfl) (by kernel_rfl) (fun _ _ _ h => h) (Or.inl ⟨by rfl, ?_⟩) (by assumption) ?_
          rotate_left
          · intro w hSw
            try dsimp only at hSw
            go_simp
            try with_reducible rfl
          simp only [Act.put, List.getElem_toArray, List.getElem_cons_zero, List.setIfInBounds_toArray, List.set_cons_zero, List.set_cons_succ]
          refine wpAnyH_take (i := 1) (oi := _) (v := ?_) rfl (by kernel_rfl) (by kernel_rfl) (by kernel_rfl) (fun _ _ _ h => h) (Or.inl ⟨by rfl, ?_⟩) (by assumption) ?_
          rotate_left
          · intro w hSw
            try dsimp only at hSw
            go_simp
            try with_reducible rfl
          simp only [Act.put, List.getElem_toArray, List.getElem_cons_zero, List.getElem_cons_succ, List.setIfInBounds_toArray, List.set_cons_zero, List.set_cons_succ]
          refine wpAnyH_take (i := 2) (oi := _) (v := ?_) rfl (by kernel_rfl) (by kernel_rfl) (by kernel_rfl) (fun _ _ _ h => h) (Or.inl ⟨by rfl, ?_⟩) (by assumption) ?_
          rotate_left
          · intro w hSw
            try dsimp only at hSw
            go_simp
            try with_reducible rfl
          simp only [Act.put, List.getElem_toArray, List.getElem_cons_zero, List.getElem_cons_succ, List.setIfInBounds_toArray, List.set_cons_zero, List.set_cons_succ]
          refine wpAnyH_take (i := 3) (oi := _) (v := ?_) rfl (by kernel_rfl) (by kernel_rfl) (by kernel_rfl) (fun _ _ _ h => h) (Or.inl ⟨by rfl, ?_⟩) (by assumption) ?_
          rotate_left
          · intro w hSw
            try dsimp only at hSw
            go_simp
            try with_reducible rfl
          simp only [Act.put, List.getElem_toArray, List.getElem_cons_zero, List.getElem_cons_succ, List.setIfInBounds_toArray, List.set_cons_zero, List.set_cons_succ]
          refine wpAnyH_take (i := 4) (oi := _) (v := ?_) rfl (by kernel_rfl) (by kernel_rfl) (by kernel_rfl) (fun _ _ _ h => h) (Or.inl ⟨by rfl, ?_⟩) (by assumption) ?_
          rotate_left
          · intro w hSw
            try dsimp only at hSw
            go_simp
            try with_reducible rfl
          simp only [Act.put, List.getElem_toArray, List.getElem_cons_zero, List.getElem_cons_succ, List.setIfInBounds_toArray, List.set_cons_zero, List.set_cons_succ]
          refine wpAnyH_take (i := 5) (oi := _) (v := ?_) rfl (by kernel_rfl) (by kernel_rfl) (by kernel_rfl) (fun _ _ _ h => h) (Or.inl ⟨by rfl, ?_⟩) (by assumption) ?_
          rotate_left
          · intro w hSw
            try dsimp only at hSw
            go_simp
            try with_reducible rfl
          simp only [Act.put, List.getElem_toArray, List.getElem_cons_zero, List.getElem_cons_succ, List.setIfInBounds_toArray, List.set_cons_zero, List.set_cons_succ]
          refine wpAnyH_take (i := 6) (oi := _) (v := ?_) rfl (by kernel_rfl) (by kernel_rfl) (by kernel_rfl) (fun _ _ _ h => h) (Or.inl ⟨by rfl, ?_⟩) (by assumption) ?_
          rotate_left
          · intro w hSw
            try dsimp only at hSw
            go_simp
            try with_reducible rfl
          simp only [Act.put, List.getElem_toArray, List.getElem_cons_zero, List.getElem_cons_succ, List.setIfInBounds_toArray, List.set_cons_zero, List.set_cons_succ]
          refine wpAnyH_take (i := 7) (oi := _) (v := ?_) rfl (by kernel_rfl) (by kernel_rfl) (by kernel_rfl) (fun _ _ _ h => h) (Or.inl ⟨by rfl, ?_⟩) (by assumption) ?_
          rotate_left
          · intro w hSw
            try dsimp only at hSw
            go_simp
            try with_reducible rfl
          simp only [Act.put, List.getElem_toArray, List.getElem_cons_zero, List.getElem_cons_succ, List.setIfInBounds_toArray, List.set_cons_zero, List.set_cons_succ]
          refine wpAnyH_ready (rs := [8]) (by kernel_rfl) (by simp) ?_
          refine AllReadyH.cons (o := _) rfl (fun K hK => ?_) AllReadyH.nil
          clear hHeld
          go_simp
          (go_at_call 28; refine EQ.mono ?_; rintro e q1 ⟨rfl, kq1, hq1⟩; have V1 := below_drewN V0 kq1; rw [← hq1] at V1; clear hq1; have S1 := KS.out _ V1)
          go_wp2_with fail
          refine hK.out _ _ ?_ (fun hHeld => ?_)
          · with_reducible exact S1
          clear hK K
          try simp only [Act.put, List.setIfInBounds_toArray, List.set_cons_zero, List.set_cons_succ]
          refine wpAnyH_take (i := 9) (oi := _) (v := ?_) rfl (by kernel_rfl) (by kernel_rfl) (by kernel_rfl) (fun _ _ _ h => h) (Or.inl ⟨by rfl, ?_⟩) (by assumption) ?_
          rotate_left
          · intro w hSw
            try dsimp only at hSw
            go_simp
            try with_reducible rfl
          simp only [Act.put, List.getElem_toArray, List.getElem_cons_zero, List.getElem_cons_succ, List.setIfInBounds_toArray, List.set_cons_zero, List.set_cons_succ]
          refine wpAnyH_take (i := 10) (oi := _) (v := ?_) rfl (by kernel_rfl) (by kernel_rfl) (by kernel_rfl) (fun _ _ _ h => h) (Or.inl ⟨by rfl, ?_⟩) (by assumption) ?_
          rotate_left
          · intro w hSw
            try dsimp only at hSw
            go_simp
            try with_reducible rfl
          simp only [Act.put, List.getElem_toArray, List.getElem_cons_zero, List.getElem_cons_succ, List.setIfInBounds_toArray, List.set_cons_zero, List.set_cons_succ]
          refine wpAnyH_take (i := 11) (oi := _) (v := ?_) rfl (by kernel_rfl) (by kernel_rfl) (by kernel_rfl) (fun _ _ _ h => h) (Or.inl ⟨by rfl, ?_⟩) (by assumption) ?_
          rotate_left
          · intro w hSw
            try dsimp only at hSw
            go_simp
            try with_reducible rfl
          simp only [Act.put, List.getElem_toArray, List.getElem_cons_zero, List.getElem_cons_succ, List.setIfInBounds_toArray, List.set_cons_zero, List.set_cons_succ]
          refine wpAnyH_take (i := 12) (oi := _) (v := ?_) rfl (by kernel_rfl) (by kernel_rfl) (by kernel_rfl) (fun _ _ _ h => h) (Or.inl ⟨by rfl, ?_⟩) (by assumption) ?_
          rotate_left
          · intro w hSw
            try dsimp only at hSw
            go_simp
            try with_reducible rfl
          simp only [Act.put, List.getElem_toArray, List.getElem_cons_zero, List.getElem_cons_succ, List.setIfInBounds_toArray, List.set_cons_zero, List.set_cons_succ]
          refine wpAnyH_take (i := 13) (oi := _) (v := ?_) rfl (by kernel_rfl) (by kernel_rfl) (by kernel_rfl) (fun _ _ _ h => h) (Or.inl ⟨by rfl, ?_⟩) (by assumption) ?_
          rotate_left
          · intro w hSw
            try dsimp only at hSw
            go_simp
            try with_reducible rfl
          simp only [Act.put, List.getElem_toArray, List.getElem_cons_zero, List.getElem_cons_succ, List.setIfInBounds_toArray, List.set_cons_zero, List.set_cons_succ]
          refine wpAnyH_take (i := 14) (oi := _) (v := ?_) rfl (by kernel_rfl) (by kernel_rfl) (by kernel_rfl) (fun _ _ _ h => h) (Or.inl ⟨by rfl, ?_⟩) (by assumption) ?_
          rotate_left
          · intro w hSw
            try dsimp only at hSw
            go_simp
            try with_reducible rfl
          simp only [Act.put, List.getElem_toArray, List.getElem_cons_zero, List.getElem_cons_succ, List.setIfInBounds_toArray, List.set_cons_zero, List.set_cons_succ]
          refine wpAnyH_take (i := 16) (oi := _) (v := ?_) rfl (by kernel_rfl) (by kernel_rfl) (by kernel_rfl) (fun _ _ _ h => h) (Or.inl ⟨by rfl, ?_⟩) (by assumption) ?_
          rotate_left
          · intro w hSw
            try dsimp only at hSw
            go_simp
            try with_reducible rfl
          simp only [Act.put, List.getElem_toArray, List.getElem_cons_zero, List.getElem_cons_succ, List.setIfInBounds_toArray, List.set_cons_zero, List.set_cons_succ]
          refine wpAnyH_take (i := 17) (oi := _) (v := ?_) rfl (by kernel_rfl) (by kernel_rfl) (by kernel_rfl) (fun _ _ _ h => h) (Or.inl ⟨by rfl, ?_⟩) (by assumption) ?_
          rotate_left
          · intro w hSw
            try dsimp only at hSw
            go_simp
            try with_reducible rfl
          simp only [Act.put, List.getElem_toArray, List.getElem_cons_zero, List.getElem_cons_succ, List.setIfInBounds_toArray, List.set_cons_zero, List.set_cons_succ]
          refine wpAnyH_take (i := 18) (oi := _) (v := ?_) rfl (by kernel_rfl) (by kernel_rfl) (by kernel_rfl) (fun _ _ _ h => h) (Or.inl ⟨by rfl, ?_⟩) (by assumption) ?_
          rotate_left
          · intro w hSw
            try dsimp only at hSw
            go_simp
            try with_reducible rfl
          simp only [Act.put, List.getElem_toArray, List.getElem_cons_zero, List.getElem_cons_succ, List.setIfInBounds_toArray, List.set_cons_zero, List.set_cons_succ]
          refine wpAnyH_take (i := 19) (oi := _) (v := ?_) rfl (by kernel_rfl) (by kernel_rfl) (by kernel_rfl) (fun _ _ _ h => h) (Or.inl ⟨by rfl, ?_⟩) (by assumption) ?_
          rotate_left
          · intro w hSw
            try dsimp only at hSw
            go_simp
            try with_reducible rfl
          simp only [Act.put, List.getElem_toArray, List.getElem_cons_zero, List.getElem_cons_succ, List.setIfInBounds_toArray, List.set_cons_zero, List.set_cons_succ]
          refine wpAnyH_ready (rs := [15]) (by kernel_rfl) (by simp) ?_
          refine AllReadyH.cons (o := _) rfl (fun K hK => ?_) AllReadyH.nil
          clear hHeld
          go_simp
          (go_at_call 29; refine (MU.out _ V1).mono ?_; rintro e q2 ⟨rfl, hq2⟩; have V2 := V1.trans (hq2.mono V1.size); have S2 := KS.out _ V2)
          go_wp2_with fail
          refine hK.out _ _ ?_ (fun hHeld => ?_)
          · with_reducible exact S2
          clear hK K
          try simp only [Act.put, List.setIfInBounds_toArray, List.set_cons_zero, List.set_cons_succ]
          refine wpAnyH_ready (rs := [20]) (by kernel_rfl) (by simp) ?_
          refine AllReadyH.cons (o := _) rfl (fun K hK => ?_) AllReadyH.nil
          clear hHeld
          go_simp
          (go_at_call 29; refine (MV.out _ V2).mono ?_; rintro e q3 ⟨rfl, hq3⟩; have V3 := V2.trans (hq3.mono V2.size); have S3 := KS.out _ V3)
          go_wp2_with fail
          refine hK.out _ _ ?_ (fun hHeld => ?_)
          · with_reducible exact S3
          clear hK K
          try simp only [Act.put, List.setIfInBounds_toArray, List.set_cons_zero, List.set_cons_succ]
          refine wpAnyH_take (i := 21) (oi := _) (v := ?_) rfl (by kernel_rfl) (by kernel_rfl) (by kernel_rfl) (fun _ _ _ h => h) (Or.inl ⟨by rfl, ?_⟩) (by assumption) ?_
          rotate_left
          · intro w hSw
            try dsimp only at hSw
            go_simp
            try with_reducible rfl
          simp only [Act.put, List.getElem_toArray, List.getElem_cons_zero, List.getElem_cons_succ, List.setIfInBounds_toArray, List.set_cons_zero, List.set_cons_succ]
          refine wpAnyH_take (i := 22) (oi := _) (v := ?_) rfl (by kernel_rfl) (by kernel_rfl) (by kernel_rfl) (fun _ _ _ h => h) (Or.inl ⟨by rfl, ?_⟩) (by assumption) ?_
          rotate_left
          · intro w hSw
            try dsimp only at hSw
            go_simp
            try with_reducible rfl
          simp only [Act.put, List.getElem_toArray, List.getElem_cons_zero, List.getElem_cons_succ, List.setIfInBounds_toArray, List.set_cons_zero, List.set_cons_succ]
          refine wpAnyH_done (by kernel_rfl) ?_ _
          go_wp2_with fail
          go_roundw
          case rel => exact ⟨k + 1, by omega, by go_num, HALL2, hbel.trans (V3.mono hbel.size)⟩
          case measure => simp [intOf]; omega
    · have ek : NN = k := by omega
      subst ek
      exact (HBD.out HALL.out).elim
end Go.Proofs.YtkikhfdkibekgaaGreat.Fx
