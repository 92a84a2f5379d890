/- TopResumes' closure: the store goes on by one record of the course, as it tells where. -/
import Derived.Test.YtfcnnolpcnacoaaGreatDoorJ33
import Derived.Test.YtfcnnolpcnacoaaGreatDoorJ47
import Derived.Deep.RegionHeld3
import Derived.Deep.QuietTactic
import Derived.BigQuiet
import Derived.Test.YtfcnnolpcnacoaaGreatDoorJ45
import Derived.Deep.DeepCutAuto
import Derived.Deep.CutBlock
namespace Go.Proofs.YtfcnnolpcnacoaaGreatDoor.Fx
open Go.RowKit

theorem Keeps.drewL {b : Nat} {w w' : World} (h : Keeps b w.drew w') : Keeps b w w' := (Keeps.ofBelow (Below.drew (Below.refl _ _))).trans h

set_option maxRecDepth 100000 in
set_option maxHeartbeats 1600000 in
theorem on_calls (c : Cfg) (a : Option Addr) (n cap : Nat) (X : Nat → Exm) (DI DO : Nat → List Int) (hs : okW c.seed) (hF : courseI c n X DI DO = 0) (N : Nat) (hN : (N : Int) ≤ c.steps) (sB nB cB dB b j SY : Nat) (hsb : sB ≠ b) (hj : j ≤ N) (q : World) (hx : Exs q a n cap X DI DO) (cfg : BoxC q cB c) (cs : q.cell? ⟨sB, 0, none⟩ = some (.pointer (some ⟨b, 0, none⟩))) (cn : q.cell? ⟨nB, 0, none⟩ = some (.int .i64 N)) (cd : q.cell? ⟨dB, 0, none⟩ = some (.slice a n cap)) (ST : StoAt q b (fT (jrL c n DI DO) j) 8192 SY) (hL : LD q) :
    Calls Tryz.prog 9 #[.pointer (some ⟨sB, 0, none⟩), .pointer (some ⟨nB, 0, none⟩), .pointer (some ⟨cB, 0, none⟩), .pointer (some ⟨dB, 0, none⟩)] q fun e q' => e = .returned (.bool true) ∧ StoAt q' b (fT (jrL c n DI DO) (min (j + 1) N)) 8192 SY ∧ Keeps b q q' := by
  obtain ⟨J2, HJ2⟩ : ∃ m : Nat, Hid (min (j + 1) N = m) := ⟨_, rfl⟩
  rw [HJ2.out]
  obtain ⟨_, _, _, ⟨b1, b8⟩, ⟨s1, s40⟩, _⟩ := cfgB_is (course_is hF).1
  have hN40 : N ≤ 40 := by omega
  have HG : Hid (GoodL (jrL c n DI DO) N) := jrL_good hF s40 (by omega) hN
  have HJ : Hid (∀ (k : Nat) (R : Nat → Rcm), JrN k R (mkRV c) (mkRO c n DI DO) (mkCH c n DI DO) → ∀ i, i < k → (R i).ln (jrBatch c n i) = jrL c n DI DO i) := fun k R h i hi => jrL_is h hi
  have hTl : (fT (jrL c n DI DO) j).length ≤ 8192 := by have := fT_len HG.out j hj; omega
  have HRc := Lib.hid (records_at b _ 8192 SY hTl _ (fT_beg HG.out hj) q ST hL)
  rw [lnsTo_len] at HRc
  have HCl : Hid (∀ q', Below q.heap.size q q' → q'.cell? ⟨sB, 0, none⟩ = some (.pointer (some ⟨b, 0, none⟩)) ∧ q'.cell? ⟨nB, 0, none⟩ = some (.int .i64 N) ∧ q'.cell? ⟨dB, 0, none⟩ = some (.slice a n cap) ∧ BoxC q' cB c) := fun q' h =>
    ⟨(h.cell (p := ⟨sB, 0, none⟩) (cell_lt cs)).trans cs, (h.cell (p := ⟨nB, 0, none⟩) (cell_lt cn)).trans cn, (h.cell (p := ⟨dB, 0, none⟩) (cell_lt cd)).trans cd, (h.cell (p := ⟨cB, 0, none⟩) (cell_lt cfg.c0)).trans cfg.c0, (h.cell (p := ⟨cB, 1, none⟩) (cell_lt cfg.c1)).trans cfg.c1, (h.cell (p := ⟨cB, 2, none⟩) (cell_lt cfg.c2)).trans cfg.c2, (h.cell (p := ⟨cB, 3, none⟩) (cell_lt cfg.c3)).trans cfg.c3, (h.cell (p := ⟨cB, 4, none⟩) (cell_lt cfg.c4)).trans cfg.c4, (h.cell (p := ⟨cB, 5, none⟩) (cell_lt cfg.c5)).trans cfg.c5, (h.cell (p := ⟨cB, 6, none⟩) (cell_lt cfg.c6)).trans cfg.c6, (h.cell (p := ⟨cB, 7, none⟩) (cell_lt cfg.c7)).trans cfg.c7, (h.cell (p := ⟨cB, 8, none⟩) (cell_lt cfg.c8)).trans cfg.c8, (h.cell (p := ⟨cB, 9, none⟩) (cell_lt cfg.c9)).trans cfg.c9, (h.cell (p := ⟨cB, 10, none⟩) (cell_lt cfg.c10)).trans cfg.c10⟩
  have HMK : Hid (∀ q', Below q.heap.size q q' → (((j + 1 : Nat)) : Int) ≤ c.steps → Calls Tryz.prog 7 #[c.val, .slice a n cap, .int .i64 ((j : Int) + 1)] q' fun e w' => ∃ g R, e = .returned (.tuple #[.slice (some ⟨g, 0, none⟩) (j + 1) (j + 1), .int .i64 0]) ∧ q'.heap.size ≤ g ∧ w'.rowIs g 40 ((j + 1) * 5) (rcsR R (j + 1)) ∧ JrIn w' g q'.heap.size c.batch.toNat (j + 1) R (jrG c n) ∧ JrN (j + 1) R (mkRV c) (mkRO c n DI DO) (mkCH c n DI DO) ∧ Below q'.heap.size q' w') := fun q' h hk => jMake_good c a n cap X DI DO (j + 1) q' hs (hx.below h (Nat.le_refl _)) hF hk
  have HSt : Hid (∀ q', Below q.heap.size q q' → StoAt q' b (fT (jrL c n DI DO) j) 8192 SY ∧ LD q') := fun q' h => ⟨ST.below h, hL.below h (Nat.le_refl _)⟩
  have HLT : Hid (b < q.heap.size ∧ sB < q.heap.size) := ⟨ST.lt, cell_lt (a := ⟨sB, 0, none⟩) cs⟩
  have HNX : Hid (j < N → (jrL c n DI DO j).ok ∧ fT (jrL c n DI DO) (j + 1) = fT (jrL c n DI DO) j ++ (jrL c n DI DO j).text ∧ (fT (jrL c n DI DO) (j + 1)).length ≤ 78 * (j + 1)) := fun h => ⟨(HG.out j h).1, fT_succ _ _, fT_len HG.out (j + 1) h⟩
  generalize jrL c n DI DO = LL at *
  generalize mkRV c = RV at *
  generalize mkRO c n DI DO = RO at *
  generalize mkCH c n DI DO = CH at *
  clear hF hx hL cfg cn cd ST s1 b1 b8 HG
  simp only [Cfg.val, Cfg.cells] at HMK
  go_enter Tryz.func9, Tryz.ntmps9
  go_wp2_with fail
  refine HRc.out.mono ?_
  rintro e q1 ⟨⟨ra, rc, _, rfl⟩, hq1⟩
  clear cs
  obtain ⟨cs, cn, cd, ⟨c0, c1, c2, c3, c4, c5, c6, c7, c8, c9, c10⟩⟩ := HCl.out _ hq1
  by_cases hjN : j < N
  · have hge : ¬ (N : Int) ≤ (j : Int) := by omega
    have hst : ((j + 1 : Nat) : Int) ≤ c.steps := by omega
    go_wp2_with fail
    refine (HMK.out _ hq1 hst).mono ?_
    rintro e q2 ⟨g, R, rfl, hg, row, jin, jn, hq2⟩
    have hQ2 := hq1.trans (hq2.mono hq1.size)
    clear cs cn cd c0 c1 c2 c3 c4 c5 c6 c7 c8 c9 c10
    obtain ⟨cs, cn, cd, _⟩ := HCl.out _ hQ2
    obtain ⟨S2, L2⟩ := HSt.out _ hQ2
    obtain ⟨hok, htx, hln⟩ := HNX.out hjN
    obtain ⟨r1, r2, bg, r3, r4, r5, rl⟩ := jin j (by omega)
    have hr0 := HJ.out _ _ jn j (by omega)
    have e0 : q2.cell? ⟨g, j * 5, none⟩ = some (.int .i64 (R j).s) := rcsR_cell row (by omega) (Nat.le_refl _) (i := 0) (by omega)
    have e1 : q2.cell? ⟨g, j * 5 + 1, none⟩ = some (.slice (R j).a (R j).n (R j).k) := rcsR_cell row (by omega) (Nat.le_refl _) (i := 1) (by omega)
    have e2 : q2.cell? ⟨g, j * 5 + 2, none⟩ = some (.int .i64 (R j).r) := rcsR_cell row (by omega) (Nat.le_refl _) (i := 2) (by omega)
    have e3 : q2.cell? ⟨g, j * 5 + 3, none⟩ = some (.int .u64 (R j).root) := rcsR_cell row (by omega) (Nat.le_refl _) (i := 3) (by omega)
    have e4 : q2.cell? ⟨g, j * 5 + 4, none⟩ = some (.int .u64 (R j).chain) := rcsR_cell row (by omega) (Nat.le_refl _) (i := 4) (by omega)
    have hR0 : 0 ≤ (R j).root ∧ 0 ≤ (R j).chain := by
      have h1 := hok.root.1
      have h2 := hok.chain.1
      rw [← hr0] at h1 h2
      exact ⟨h1, h2⟩
    have hLst : Lst q2.drew (R j).a (R j).n (R j).k (jrBatch c n j) := by
      rw [r1, r2, r3]
      exact (rl.lst).below (Below.drew (Below.refl _ _)) (Nat.le_refl _)
    have HAp : Hid (Calls Tryz.prog 11 #[.pointer (some ⟨b, 0, none⟩), (R j).val] q2.drew fun e w' => e = .returned (.int .i64 0) ∧ StoAt w' b (fT LL (j + 1)) 8192 SY ∧ Keeps b q2.drew w') := by
      refine (append_calls b (fT LL j) 8192 SY hTl (R j) (jrBatch c n j) q2.drew (S2.below (Below.drew (Below.refl _ _))) hLst hR0.1 hR0.2 (L2.below (Below.drew (Below.refl _ _)) (Nat.le_refl _))).mono ?_
      rintro e w' ⟨E, T', hA, rfl, hS, hK⟩
      rw [hr0] at hA
      rw [htx] at hln
      rw [List.length_append] at hln
      rcases hA with ⟨h, _⟩ | ⟨_, h, _⟩ | ⟨_, _, rfl, rfl⟩
      · exact absurd hok h
      · omega
      · rw [htx]; exact ⟨rfl, hS, hK⟩
    have hgb : g ≠ b := by have := HLT.out.1; have := hq1.size; omega
    generalize R j = x at *
    obtain ⟨xs, xa, xn, xk, xr, xroot, xchain⟩ := x
    simp only [Rcm.val] at HAp e0 e1 e2 e3 e4
    have HSS : Hid (∀ q, Keeps b q2 q → q.cell? ⟨sB, 0, none⟩ = some (.pointer (some ⟨b, 0, none⟩)) ∧ q.cell? ⟨g, j * 5, none⟩ = some (.int .i64 xs) ∧ q.cell? ⟨g, j * 5 + 1, none⟩ = some (.slice xa xn xk) ∧ q.cell? ⟨g, j * 5 + 2, none⟩ = some (.int .i64 xr) ∧ q.cell? ⟨g, j * 5 + 3, none⟩ = some (.int .u64 xroot) ∧ q.cell? ⟨g, j * 5 + 4, none⟩ = some (.int .u64 xchain)) := fun q h => ⟨(h.cell (a := ⟨sB, 0, none⟩) (cell_lt cs) hsb).trans cs, (h.cell (a := ⟨g, j * 5, none⟩) (cell_lt e0) hgb).trans e0, (h.cell (a := ⟨g, j * 5 + 1, none⟩) (cell_lt e1) hgb).trans e1, (h.cell (a := ⟨g, j * 5 + 2, none⟩) (cell_lt e2) hgb).trans e2, (h.cell (a := ⟨g, j * 5 + 3, none⟩) (cell_lt e3) hgb).trans e3, (h.cell (a := ⟨g, j * 5 + 4, none⟩) (cell_lt e4) hgb).trans e4⟩
    have SV0 := HSS.out _ (Keeps.ofBelow (Below.drew (Below.refl _ _)))
    have k0 : (0 : Int) ≤ (j : Int) := by omega
    have kn : (j : Int) < (j : Int) + 1 := by omega
    have hmn : J2 = j + 1 := by have := HJ2.out; omega
    clear jin jn row rl r1 r2 r3 r4 r5 hr0 hR0 hLst hok htx hln S2 L2 cs cn cd e0 e1 e2 e3 e4 hge hst HMK HRc HSt HNX HJ
    go_wp2_with fail
    refine wp_region_held_drew (S := fun q => q.cell? ⟨sB, 0, none⟩ = some (.pointer (some ⟨b, 0, none⟩)) ∧ q.cell? ⟨g, j * 5, none⟩ = some (.int .i64 xs) ∧ q.cell? ⟨g, j * 5 + 1, none⟩ = some (.slice xa xn xk) ∧ q.cell? ⟨g, j * 5 + 2, none⟩ = some (.int .i64 xr) ∧ q.cell? ⟨g, j * 5 + 3, none⟩ = some (.int .u64 xroot) ∧ q.cell? ⟨g, j * 5 + 4, none⟩ = some (.int .u64 xchain)) (by kernel_rfl) (by with_reducible exact SV0) (fun hHeld => ?_)
    refine wpAnyH_take (i := 0) (oi := _) (v := ?_) rfl (by kernel_rfl) (by kernel_rfl) (by kernel_rfl) (fun _ _ _ h => h) (Or.inl ⟨by rfl, ?_⟩) (by assumption) ?_
    rotate_left
    · intro w hSw
      try dsimp only at hSw
      go_simp
      try with_reducible rfl
    simp only [Act.put, List.getElem_toArray, List.getElem_cons_zero, List.setIfInBounds_toArray, List.set_cons_zero, List.set_cons_succ]
    refine wpAnyH_take (i := 1) (oi := _) (v := ?_) rfl (by kernel_rfl) (by kernel_rfl) (by kernel_rfl) (fun _ _ _ h => h) (Or.inl ⟨by rfl, ?_⟩) (by assumption) ?_
    rotate_left
    · intro w hSw
      try dsimp only at hSw
      go_simp
      try with_reducible rfl
    simp only [Act.put, List.getElem_toArray, List.getElem_cons_zero, List.getElem_cons_succ, List.setIfInBounds_toArray, List.set_cons_zero, List.set_cons_succ]
    refine wpAnyH_take (i := 2) (oi := _) (v := ?_) rfl (by kernel_rfl) (by kernel_rfl) (by kernel_rfl) (fun _ _ _ h => h) (Or.inl ⟨by rfl, ?_⟩) (by assumption) ?_
    rotate_left
    · intro w hSw
      try dsimp only at hSw
      go_simp
      try with_reducible rfl
    simp only [Act.put, List.getElem_toArray, List.getElem_cons_zero, List.getElem_cons_succ, List.setIfInBounds_toArray, List.set_cons_zero, List.set_cons_succ]
    refine wpAnyH_take (i := 3) (oi := _) (v := ?_) rfl (by kernel_rfl) (by kernel_rfl) (by kernel_rfl) (fun _ _ _ h => h) (Or.inl ⟨by rfl, ?_⟩) (by assumption) ?_
    rotate_left
    · intro w hSw
      try dsimp only at hSw
      go_simp
      try with_reducible rfl
    simp only [Act.put, List.getElem_toArray, List.getElem_cons_zero, List.getElem_cons_succ, List.setIfInBounds_toArray, List.set_cons_zero, List.set_cons_succ]
    refine wpAnyH_take (i := 4) (oi := _) (v := ?_) rfl (by kernel_rfl) (by kernel_rfl) (by kernel_rfl) (fun _ _ _ h => h) (Or.inl ⟨by rfl, ?_⟩) (by assumption) ?_
    rotate_left
    · intro w hSw
      try dsimp only at hSw
      go_simp
      try with_reducible rfl
    simp only [Act.put, List.getElem_toArray, List.getElem_cons_zero, List.getElem_cons_succ, List.setIfInBounds_toArray, List.set_cons_zero, List.set_cons_succ]
    refine wpAnyH_take (i := 5) (oi := _) (v := ?_) rfl (by kernel_rfl) (by kernel_rfl) (by kernel_rfl) (fun _ _ _ h => h) (Or.inl ⟨by rfl, ?_⟩) (by assumption) ?_
    rotate_left
    · intro w hSw
      try dsimp only at hSw
      go_simp
      try with_reducible rfl
    simp only [Act.put, List.getElem_toArray, List.getElem_cons_zero, List.getElem_cons_succ, List.setIfInBounds_toArray, List.set_cons_zero, List.set_cons_succ]
    refine wpAnyH_take (i := 6) (oi := _) (v := ?_) rfl (by kernel_rfl) (by kernel_rfl) (by kernel_rfl) (fun _ _ _ h => h) (Or.inl ⟨by rfl, ?_⟩) (by assumption) ?_
    rotate_left
    · intro w hSw
      try dsimp only at hSw
      go_simp
      try with_reducible rfl
    simp only [Act.put, List.getElem_toArray, List.getElem_cons_zero, List.getElem_cons_succ, List.setIfInBounds_toArray, List.set_cons_zero, List.set_cons_succ]
    refine wpAnyH_take (i := 7) (oi := _) (v := ?_) rfl (by kernel_rfl) (by kernel_rfl) (by kernel_rfl) (fun _ _ _ h => h) (Or.inl ⟨by rfl, ?_⟩) (by assumption) ?_
    rotate_left
    · intro w hSw
      try dsimp only at hSw
      go_simp
      try with_reducible rfl
    simp only [Act.put, List.getElem_toArray, List.getElem_cons_zero, List.getElem_cons_succ, List.setIfInBounds_toArray, List.set_cons_zero, List.set_cons_succ]
    refine wpAnyH_ready (rs := [8]) (by kernel_rfl) (by simp) ?_
    refine AllReadyH.cons (o := _) rfl (fun K hK => ?_) AllReadyH.nil
    clear hHeld
    go_simp
    refine HAp.out.mono ?_
    rintro e q3 ⟨rfl, S3, hK3⟩
    have SV3 := HSS.out _ (Keeps.ofBelow (Below.drew (Below.refl _ _))|>.trans hK3)
    go_wp2_with fail
    refine hK.out _ _ ?_ (fun hHeld => ?_)
    · with_reducible exact SV3
    clear hK K
    try simp only [Act.put, List.setIfInBounds_toArray, List.set_cons_zero, List.set_cons_succ]
    refine wpAnyH_take (i := 9) (oi := _) (v := ?_) rfl (by kernel_rfl) (by kernel_rfl) (by kernel_rfl) (fun _ _ _ h => h) (Or.inl ⟨by rfl, ?_⟩) (by assumption) ?_
    rotate_left
    · intro w hSw
      try dsimp only at hSw
      go_simp
      try with_reducible rfl
    simp only [Act.put, List.getElem_toArray, List.getElem_cons_zero, List.getElem_cons_succ, List.setIfInBounds_toArray, List.set_cons_zero, List.set_cons_succ]
    refine wpAnyH_take (i := 10) (oi := _) (v := ?_) rfl (by kernel_rfl) (by kernel_rfl) (by kernel_rfl) (fun _ _ _ h => h) (Or.inl ⟨by rfl, ?_⟩) (by assumption) ?_
    rotate_left
    · intro w hSw
      try dsimp only at hSw
      go_simp
      try with_reducible rfl
    simp only [Act.put, List.getElem_toArray, List.getElem_cons_zero, List.getElem_cons_succ, List.setIfInBounds_toArray, List.set_cons_zero, List.set_cons_succ]
    refine wpAnyH_take (i := 11) (oi := _) (v := ?_) rfl (by kernel_rfl) (by kernel_rfl) (by kernel_rfl) (fun _ _ _ h => h) (Or.inl ⟨by rfl, ?_⟩) (by assumption) ?_
    rotate_left
    · intro w hSw
      try dsimp only at hSw
      go_simp
      try with_reducible rfl
    simp only [Act.put, List.getElem_toArray, List.getElem_cons_zero, List.getElem_cons_succ, List.setIfInBounds_toArray, List.set_cons_zero, List.set_cons_succ]
    refine wpAnyH_done (by kernel_rfl) ?_ _
    go_wp2
    go_ret
    exact ⟨rfl, by rw [hmn]; exact S3, (Keeps.ofBelow hQ2).trans hK3.drewL⟩
  · have hge : (N : Int) ≤ (j : Int) := by omega
    have hmn : J2 = j := by have := HJ2.out; omega
    go_wp2_with fail
    go_ret
    exact ⟨rfl, by rw [hmn]; exact (HSt.out _ hq1).1, Keeps.ofBelow hq1⟩
end Go.Proofs.YtfcnnolpcnacoaaGreatDoor.Fx

/- TopResumes' walk: whatever is handed in, it returns true. -/
namespace Go.Proofs.YtfcnnolpcnacoaaGreatDoor.Fx
open Go.RowKit

structure ReBox (w : World) (c : Cfg) (v : Value) (z : Int) (wr : World) : Prop where
  cfg : BoxC wr w.heap.size c
  dat : wr.cell? ⟨w.heap.size + 1, 0, none⟩ = some v
  num : wr.rowIs (w.heap.size + 1 + 1) 3 1 (fun _ => .int .i64 z)
  bel : Below w.heap.size w wr
theorem ReBox.start (w : World) (c : Cfg) (v : Value) (z : Int) : ReBox w c v z (((w.alloc (.cells c.cells 24)).alloc (.cells #[v] 25)).alloc (.cells #[.int .i64 z] 3)) := by
  refine ⟨?_, ?_, ?_, (((Below.refl w.heap.size w).alloc (Nat.le_refl _) _).alloc (by simp) _).alloc (by simp; omega) _⟩
  · exact boxC (B := w.heap.size + 1) (((Below.refl _ _).alloc (by simp) _).alloc (by simp) _) (by omega)
  · have h : ((w.alloc (.cells c.cells 24)).alloc (.cells #[v] 25)).rowIs (w.alloc (.cells c.cells 24)).heap.size 25 1 (fun _ => v) := World.rowIs_alloc (w.alloc (.cells c.cells 24)) #[v] 25 (fun _ => v) (fun i hi => by
      obtain rfl : i = 0 := by simpa using hi
      rfl)
    have h2 := (h.alloc (.cells #[.int .i64 z] 3)).cell (i := 0) (by omega)
    simpa using h2
  · have h := World.rowIs_alloc ((w.alloc (.cells c.cells 24)).alloc (.cells #[v] 25)) #[.int .i64 z] 3 (fun _ => .int .i64 z) (fun i hi => by
      obtain rfl : i = 0 := by simpa using hi
      rfl)
    simpa using h
theorem ReBox.keeps {w : World} {c : Cfg} {v : Value} {z : Int} {wr w2 : World} {b : Nat} (h : ReBox w c v z wr) (hk : Keeps b wr w2) (hb : w.heap.size + 1 + 1 < b) : ReBox w c v z w2 := by
  have l2 := h.num.lt
  have k : ∀ i, w2.cell? ⟨w.heap.size, i, none⟩ = wr.cell? ⟨w.heap.size, i, none⟩ := fun i => hk.cell (a := ⟨w.heap.size, i, none⟩) (by show w.heap.size < _; omega) (by show w.heap.size ≠ b; omega)
  exact ⟨⟨(k 0).trans h.cfg.c0, (k 1).trans h.cfg.c1, (k 2).trans h.cfg.c2, (k 3).trans h.cfg.c3, (k 4).trans h.cfg.c4, (k 5).trans h.cfg.c5, (k 6).trans h.cfg.c6, (k 7).trans h.cfg.c7, (k 8).trans h.cfg.c8, (k 9).trans h.cfg.c9, (k 10).trans h.cfg.c10⟩,
    (hk.cell (a := ⟨w.heap.size + 1, 0, none⟩) (by show w.heap.size + 1 < _; omega) (by show w.heap.size + 1 ≠ b; omega)).trans h.dat, h.num.of_block (hk.block _ l2 (by omega)), hk.below h.bel (by omega) (by omega)⟩
theorem ReBox.below {w : World} {c : Cfg} {v : Value} {z : Int} {wr w2 : World} (h : ReBox w c v z wr) (hb : Below wr.heap.size wr w2) : ReBox w c v z w2 := by
  have l2 := h.num.lt
  exact h.keeps (b := wr.heap.size) (Keeps.ofBelow hb) (by omega)
theorem ReBox.set {w : World} {c : Cfg} {v : Value} {z : Int} {wr : World} (h : ReBox w c v z wr) (z2 : Int) : ReBox w c v z2 (wr.setCell ⟨w.heap.size + 1 + 1, 0, none⟩ (.int .i64 z2)) := by
  have l2 := h.num.lt
  have hk := Keeps.set (w.heap.size + 1 + 1) 0 wr (.int .i64 z2)
  have k : ∀ i, (wr.setCell ⟨w.heap.size + 1 + 1, 0, none⟩ (.int .i64 z2)).cell? ⟨w.heap.size, i, none⟩ = wr.cell? ⟨w.heap.size, i, none⟩ := fun i => hk.cell (a := ⟨w.heap.size, i, none⟩) (by show w.heap.size < _; omega) (by show w.heap.size ≠ _; omega)
  refine ⟨⟨(k 0).trans h.cfg.c0, (k 1).trans h.cfg.c1, (k 2).trans h.cfg.c2, (k 3).trans h.cfg.c3, (k 4).trans h.cfg.c4, (k 5).trans h.cfg.c5, (k 6).trans h.cfg.c6, (k 7).trans h.cfg.c7, (k 8).trans h.cfg.c8, (k 9).trans h.cfg.c9, (k 10).trans h.cfg.c10⟩,
    (hk.cell (a := ⟨w.heap.size + 1, 0, none⟩) (by show w.heap.size + 1 < _; omega) (by show w.heap.size + 1 ≠ _; omega)).trans h.dat, World.rowIs.congr (World.rowIs.set h.num 0 _) (fun i hi => ?_), hk.below h.bel (by omega) (by omega)⟩
  obtain rfl : i = 0 := by omega
  rfl
theorem lnsTo_b (c : Cfg) (n : Nat) (DI DO : Nat → List Int) {N j : Nat} (hj : j < N) : (lnAt (lnsTo (jrL c n DI DO) N) j).b = jrBatch c n j := by rw [lnsTo_at _ hj]; rfl
theorem RecAt.jr {c : Cfg} {n : Nat} {DI DO : Nat → List Int} {w : World} {g base N b : Nat} {R : Nat → Rcm} (row : w.rowIs g 40 (N * 5) (rcsR R N)) (jin : JrIn w g base c.batch.toNat N R (jrG c n)) (jn : JrN N R (mkRV c) (mkRO c n DI DO) (mkCH c n DI DO)) (hb : w.heap.size ≤ b) : RecAt b w (lnsTo (jrL c n DI DO) N) (some ⟨g, 0, none⟩) N := by
  have h := recs_of row jin
  refine ⟨R, fun j hj => ?_, ?_, fun g' o hg => ?_, fun j hj g' o hg => ?_⟩
  · rw [lnsTo_len] at hj
    rw [lnsTo_b c n DI DO hj, lnsTo_at _ hj]
    exact jrL_is jn hj
  · rw [lnsTo_len]
    refine ⟨h.1, ?_⟩
    rcases h.2 with h0 | ⟨b1, off, e, hs, hc⟩
    · exact .inl h0
    · refine .inr ⟨b1, off, e, hs, fun i hi => ?_⟩
      obtain ⟨h1, h2, h3, h4, h5, h6⟩ := hc i hi
      refine ⟨h1, h2, h3, h4, h5, ?_⟩
      show Lst w _ _ _ ((lnAt (lnsTo (jrL c n DI DO) N) i).b)
      rw [lnsTo_b c n DI DO hi]
      exact h6
  · have := row.lt
    injection hg with hg
    injection hg with hg
    omega
  · rw [lnsTo_len] at hj
    obtain ⟨_, _, bg, h3, _, _, hl⟩ := jin j hj
    rw [h3] at hg
    injection hg with hg
    injection hg with hg
    have := hl.lt
    omega
/-- What the law keeps while it goes: the store holds the first j lines, of which sn are synced. -/
structure ReIn (WB : World) (b : Nat) (LL : Nat → Ln) (N j sn SY : Nat) (q : World) : Prop where
  st : StoAt q b (fT LL j) 8192 SY
  le : SY ≤ (fT LL j).length
  sy : (fT LL sn).length ≤ SY
  sn : sn ≤ j
  jn : j ≤ N
  k : Keeps b WB q
theorem ReIn.below {WB : World} {b : Nat} {LL : Nat → Ln} {N j sn SY : Nat} {q q' : World} (h : ReIn WB b LL N j sn SY q) (hb : Below q.heap.size q q') : ReIn WB b LL N j sn SY q' := ⟨h.st.below hb, h.le, h.sy, h.sn, h.jn, h.k.trans (Keeps.ofBelow hb)⟩
theorem ReIn.on {WB : World} {b : Nat} {LL : Nat → Ln} {N j sn SY : Nat} {q q' : World} (h : ReIn WB b LL N j sn SY q) (hs : StoAt q' b (fT LL (min (j + 1) N)) 8192 SY) (hk : Keeps b q q') : ReIn WB b LL N (min (j + 1) N) sn SY q' := by
  have h1 := h.jn
  have h2 := h.sn
  have h3 := h.le
  have h4 := (fT_le LL j (min (j + 1) N) (by omega)).length_le
  exact ⟨hs, by omega, h.sy, by omega, by omega, h.k.trans hk⟩

set_option maxRecDepth 100000 in
set_option maxHeartbeats 3200000 in
theorem topResumes_core (c : Cfg) (hs : okW c.seed) (a : Option Addr) (n cap : Nat) (X : Nat → Exm) (DI DO : Nat → List Int) (n0 : Int) (la : Option Addr) (ln lk : Nat) (xs : List Int) (w : World) (hx : Exs w a n cap X DI DO) (hl : Lst w la ln lk xs) (hL : LD w) :
    Calls Tryz.prog 3 #[c.val, .slice a n cap, .int .i64 n0, .slice la ln lk] w fun e w' => e = .returned (.bool true) ∧ Below w.heap.size w w' := by
  have rb0 := ReBox.start w c (.slice a n cap) n0
  obtain ⟨W0, HW0⟩ : ∃ q, Hid (((w.alloc (.cells c.cells 24)).alloc (.cells #[.slice a n cap] 25)).alloc (.cells #[.int .i64 n0] 3) = q) := ⟨_, rfl⟩
  rw [HW0.out] at rb0
  have HRK : Hid (∀ q, Below w.heap.size w q → Calls Tryz.prog 5 #[c.val, .slice a n cap] q fun e w' => e = .returned (.int .i64 (courseI c n X DI DO)) ∧ Below q.heap.size q w') := fun q hq => rcourse_calls c a n cap X DI DO q (hx.below hq (Nat.le_refl _))
  have HMK : Hid (courseI c n X DI DO = 0 → ∀ (k : Nat) q, (k : Int) ≤ c.steps → Below w.heap.size w q → Calls Tryz.prog 7 #[c.val, .slice a n cap, .int .i64 k] q fun e w' => ∃ g, e = .returned (.tuple #[.slice (some ⟨g, 0, none⟩) k k, .int .i64 0]) ∧ (∀ b, w'.heap.size ≤ b → RecAt b w' (lnsTo (jrL c n DI DO) k) (some ⟨g, 0, none⟩) k) ∧ Below q.heap.size q w') := fun hF k q hk hq => by
    refine (jMake_good c a n cap X DI DO k q hs (hx.below hq (Nat.le_refl _)) hF hk).mono ?_
    rintro e w' ⟨g, R, he, _, row, jin, jn, hb⟩
    exact ⟨g, he, fun b h => RecAt.jr row jin jn h, hb⟩
  have HON : Hid (courseI c n X DI DO = 0 → ∀ (N sB b j SY : Nat) (q : World), (N : Int) ≤ c.steps → sB ≠ b → j ≤ N → ReBox w c (.slice a n cap) N q → q.cell? ⟨sB, 0, none⟩ = some (.pointer (some ⟨b, 0, none⟩)) → StoAt q b (fT (jrL c n DI DO) j) 8192 SY → Calls Tryz.prog 9 #[.pointer (some ⟨sB, 0, none⟩), .pointer (some ⟨w.heap.size + 1 + 1, 0, none⟩), .pointer (some ⟨w.heap.size, 0, none⟩), .pointer (some ⟨w.heap.size + 1, 0, none⟩)] q fun e q' => e = .returned (.bool true) ∧ StoAt q' b (fT (jrL c n DI DO) (min (j + 1) N)) 8192 SY ∧ Keeps b q q') := fun hF N sB b j SY q hN hsb hj rb hc hst =>
    on_calls c a n cap X DI DO hs hF N hN sB _ _ _ b j SY hsb hj q (hx.below rb.bel (Nat.le_refl _)) rb.cfg hc (rb.num.cell (i := 0) (by omega)) rb.dat hst (hL.below rb.bel (Nat.le_refl _))
  have HGD : Hid (courseI c n X DI DO = 0 → (1 ≤ c.steps ∧ c.steps ≤ 40) ∧ ∀ N : Nat, (N : Int) ≤ c.steps → GoodL (jrL c n DI DO) N) := fun hF => by
    obtain ⟨_, _, _, ⟨b1, b8⟩, ⟨s1, s40⟩, _⟩ := cfgB_is (course_is hF).1
    exact ⟨⟨s1, s40⟩, fun N hN => jrL_good hF s40 (by omega) hN⟩
  have KL : Hid (∀ q, Below w.heap.size w q → LD q) := fun q hq => hL.below hq (Nat.le_refl _)
  have KX : Hid (∀ q k, Below w.heap.size w q → k < ln → ∃ lb lo x, la = some ⟨lb, lo, none⟩ ∧ q.cell? ⟨lb, lo + k, none⟩ = some (.int .i64 x)) := fun q k hq hk => by
    rcases hl.2.2 with h0 | ⟨lb, lo, e, hs, hc⟩
    · omega
    · exact ⟨lb, lo, _, e, (hq.cell (p := ⟨lb, lo + k, none⟩) hs).trans (hc k hk)⟩
  have KB : Hid (∀ q, Below W0.heap.size W0 q → ReBox w c (.slice a n cap) n0 q) := fun q hq => rb0.below hq
  generalize courseI c n X DI DO = F at *
  generalize jrL c n DI DO = LL at *
  have hal := rb0.bel
  clear hx hs hL hl rb0
  obtain ⟨i, h, o, seed, batch, steps, crate, decay, how, keep, clip⟩ := c
  simp only [Cfg.val, Cfg.cells] at *
  go_enter Tryz.func3, Tryz.ntmps3
  go_wp2_with fail
  rw [HW0.out]
  clear HW0
  refine (said_calls _).mono ?_
  rintro e w1 ⟨rfl, T⟩
  obtain ⟨⟨c0, c1, c2, c3, c4, c5, c6, c7, c8, c9, c10⟩, d0, _, bl1⟩ := KB.out _ T
  dsimp only at c0 c1 c2 c3 c4 c5 c6 c7 c8 c9 c10
  go_wp2_with fail
  refine (HRK.out _ bl1).mono ?_
  rintro e w2 ⟨rfl, hw2⟩
  replace T := T.trans (hw2.mono T.size)
  clear hw2 HRK c0 c1 c2 c3 c4 c5 c6 c7 c8 c9 c10 d0 bl1
  have rb2 := KB.out _ T
  obtain ⟨⟨c0, c1, c2, c3, c4, c5, c6, c7, c8, c9, c10⟩, d0, nr, bl2⟩ := KB.out _ T
  dsimp only at c0 c1 c2 c3 c4 c5 c6 c7 c8 c9 c10
  by_cases hF : F = 0
  rotate_left
  · have hFn : (F != 0) = true := by rw [bne_iff_ne]; exact hF
    clear HMK HON HGD hF
    go_wp2_with fail
    go_ret
    exact ⟨rfl, bl2⟩
  subst hF
  obtain ⟨⟨s1, s40⟩, HG0⟩ := HGD.out (by trivial)
  have HG1 := Lib.hid HG0
  have HMK1 := Lib.hid (HMK.out (by trivial))
  have HON1 := Lib.hid (HON.out (by trivial))
  clear HGD HMK HON HG0
  by_cases h30 : 30 < ln
  · have h30' : (30 : Int) < (ln : Int) := by omega
    go_wp2_with fail
    go_ret
    exact ⟨rfl, bl2⟩
  have h30' : ¬ (30 : Int) < (ln : Int) := by omega
  obtain ⟨MM, hmm, mm1, mm5, mms⟩ : ∃ MM : Nat, min steps 5 = (MM : Int) ∧ 1 ≤ MM ∧ MM ≤ 5 ∧ (MM : Int) ≤ steps := ⟨(min steps 5).toNat, by omega, by omega, by omega, by omega⟩
  have RS : Calls Tryz.prog 6 #[.int .i64 n0, .int .i64 ((MM : Int) + 1)] w2 fun e w' => (∃ k : Nat, k < MM + 1 ∧ e = .returned (.int .i64 k)) ∧ w' = w2 := rest_any n0 (MM + 1) (by omega) (by omega) w2
  have n0c := nr.cell (i := 0) (by omega)
  have fr := World.rowIs.frozen nr 0
  have wrm : IntKind.i64.wrap ((MM : Int) + 1) = (MM : Int) + 1 := wrap_in _ (by omega) (by omega)
  go_wp2_with fail
  refine RS.mono ?_
  rintro e w' ⟨⟨N, hN, rfl⟩, hw'⟩
  replace hw' := hw'.symm
  subst hw'
  have hNs : (N : Int) ≤ steps := by omega
  have hN5 : N ≤ 5 := by omega
  have rb3 := rb2.set (N : Int)
  clear c0 c1 c2 c3 c4 c5 c6 c7 c8 c9 c10 d0
  obtain ⟨c0, c1, c2, c3, c4, c5, c6, c7, c8, c9, c10⟩ := rb3.cfg
  dsimp only at c0 c1 c2 c3 c4 c5 c6 c7 c8 c9 c10
  have n3 := rb3.num.cell (i := 0) (by omega)
  have d3 := rb3.dat
  obtain ⟨w3, HW3⟩ : ∃ q, Hid (w2.setCell ⟨w.heap.size + 1 + 1, 0, none⟩ (.int .i64 (N : Int)) = q) := ⟨_, rfl⟩
  rw [HW3.out] at rb3
  have HMk := Lib.hid (HMK1.out N w3 hNs rb3.bel)
  have HG := Lib.hid (HG1.out N hNs)
  have HON2 := Lib.hid (fun sB b j SY q => HON1.out N sB b j SY q hNs)
  clear HG1 HMK1 HON1 nr bl2 RS T rb2 KB
  go_wp2_with fail
  rw [HW3.out]
  refine HMk.out.mono ?_
  rintro e w4 ⟨g, rfl, hRA, hw4⟩
  clear c0 c1 c2 c3 c4 c5 c6 c7 c8 c9 c10 n3 d3 fr n0c
  have rb4 := rb3.below hw4
  clear rb3 hw4 HW3
  have HNw := Lib.hid (new_good 8192 (by decide) (by decide) w4)
  go_wp2_with fail
  refine HNw.out.mono ?_
  rintro e w5 ⟨rfl, hw5⟩
  go_wp2_with fail
  subst hw5
  have hb2 : w.heap.size + 1 + 1 < w4.heap.size := rb4.num.lt
  have hal4 : Below w4.heap.size w4 ((w4.alloc (.cells #[.string ⟨#[]⟩, .int .i64 8192, .int .i64 0] 53)).alloc (.cells #[.pointer (some ⟨w4.heap.size, 0, none⟩)] 34)) := ((Below.refl _ _).alloc (Nat.le_refl _) _).alloc (by simp) _
  have St0 : StoAt ((w4.alloc (.cells #[.string ⟨#[]⟩, .int .i64 8192, .int .i64 0] 53)).alloc (.cells #[.pointer (some ⟨w4.heap.size, 0, none⟩)] 34)) w4.heap.size [] 8192 ((0 : Nat) : Int) := (StoAt.made w4 8192).below ((Below.refl _ _).alloc (Nat.le_refl _) _)
  have sc0 : ((w4.alloc (.cells #[.string ⟨#[]⟩, .int .i64 8192, .int .i64 0] 53)).alloc (.cells #[.pointer (some ⟨w4.heap.size, 0, none⟩)] 34)).cell? ⟨w4.heap.size + 1, 0, none⟩ = some (.pointer (some ⟨w4.heap.size, 0, none⟩)) := by
    simp
  have RAw := (hRA w4.heap.size (Nat.le_refl _)).below hal4
  have rbB := rb4.below hal4
  obtain ⟨WB, HWB⟩ : ∃ q, Hid ((w4.alloc (.cells #[.string ⟨#[]⟩, .int .i64 8192, .int .i64 0] 53)).alloc (.cells #[.pointer (some ⟨w4.heap.size, 0, none⟩)] 34) = q) := ⟨_, rfl⟩
  rw [HWB.out] at hal4 St0 sc0 RAw rbB
  rw [HWB.out]
  clear HWB hRA rb4 hal4 HNw HMk
  obtain ⟨sB, HsB⟩ : ∃ m, Hid (w4.heap.size + 1 = m) := ⟨_, rfl⟩
  have hsb : sB ≠ w4.heap.size := by have := HsB.out; omega
  rw [HsB.out] at sc0
  rw [HsB.out]
  clear HsB
  generalize w4.heap.size = b at *
  have hsl : sB < WB.heap.size := cell_lt (a := ⟨sB, 0, none⟩) sc0
  have KC : Hid (∀ q, Keeps b WB q → q.cell? ⟨sB, 0, none⟩ = some (.pointer (some ⟨b, 0, none⟩)) ∧ RecAt b q (lnsTo LL N) (some ⟨g, 0, none⟩) N ∧ ReBox w ⟨i, h, o, seed, batch, steps, crate, decay, how, keep, clip⟩ (.slice a n cap) N q) := fun q hq => ⟨(hq.cell (a := ⟨sB, 0, none⟩) hsl hsb).trans sc0, RAw.keeps hq, rbB.keeps hq hb2⟩
  have In0 : ReIn WB b LL N 0 0 0 WB := ⟨St0, Nat.zero_le _, by rw [fT_zero]; exact Nat.zero_le _, Nat.le_refl _, Nat.zero_le _, Keeps.refl _ _⟩
  have HT8 : Hid (∀ j, j ≤ N → (fT LL j).length ≤ 8192) := fun j hj => by have := fT_len HG.out j hj; omega
  have HRec : Hid (∀ (j sn SY : Nat) q, ReIn WB b LL N j sn SY q → Calls Tryz.prog 10 #[.pointer (some ⟨b, 0, none⟩)] q fun e q' => (∃ a c, RecAt b q' (lnsTo LL j) a c ∧ e = .returned (.slice a j c)) ∧ Below q.heap.size q q') := fun j sn SY q hI => by
    have h := records_at b _ 8192 SY (HT8.out j hI.jn) _ (fT_beg HG.out hI.jn) q hI.st (KL.out _ (KC.out _ hI.k).2.2.bel)
    rw [lnsTo_len] at h
    exact h
  have HSam : Hid (∀ (j : Nat) (a1 : Option Addr) (c1 : Nat) q, j ≤ N → RecAt b q (lnsTo LL j) a1 c1 → RecAt b q (lnsTo LL N) (some ⟨g, 0, none⟩) N → Calls Tryz.prog 15 #[.slice a1 j c1, .slice (some ⟨g, 0, none⟩) j N] q fun e q' => e = .returned (.bool true) ∧ Below q.heap.size q q') := fun j a1 c1 q hj h1 h2 =>
    same_at b j (lnsTo LL j) (lnsTo LL N) (fT LL j) (fT LL N) (fT_to HG.out hj) (fT_to HG.out (Nat.le_refl _)) (by rw [lnsTo_len]; exact Nat.le_refl _) (by rw [lnsTo_len]; exact hj) (.inl (fT_le LL j N hj)) a1 _ c1 N q h1 h2
  have HOn : Hid (∀ (j sn SY : Nat) q, ReIn WB b LL N j sn SY q → Calls Tryz.prog 9 #[.pointer (some ⟨sB, 0, none⟩), .pointer (some ⟨w.heap.size + 1 + 1, 0, none⟩), .pointer (some ⟨w.heap.size, 0, none⟩), .pointer (some ⟨w.heap.size + 1, 0, none⟩)] q fun e q' => e = .returned (.bool true) ∧ ReIn WB b LL N (min (j + 1) N) sn SY q') := fun j sn SY q hI => by
    refine (HON2.out sB b j SY q hsb hI.jn (KC.out _ hI.k).2.2 (KC.out _ hI.k).1 hI.st).mono ?_
    rintro e q' ⟨he, hS, hK⟩
    exact ⟨he, hI.on hS hK⟩
  have HCrash : Hid (∀ (j sn SY : Nat) q, ReIn WB b LL N j sn SY q → ∀ keep : Int, Calls Tryz.prog 13 #[.pointer (some ⟨b, 0, none⟩), .int .i64 keep] q fun e q' => ∃ (N' : Nat) (T' : List UInt8), SY ≤ N' ∧ T'.length = N' ∧ Hid (T' <+: fT LL j) ∧ e = .returned (.tuple #[]) ∧ StoAt q' b T' 8192 N' ∧ Keeps b q q') := fun j sn SY q hI keep => by
    refine (crash_calls b (fT LL j) 8192 SY hI.le (HT8.out j hI.jn) keep q hI.st).mono ?_
    rintro e q' ⟨he, hS, hK⟩
    have hc := crN_le keep hI.le
    exact ⟨_, _, hc.1, by rw [List.length_take]; omega, List.take_prefix _ _, he, hS, hK⟩
  have HRep : Hid (∀ (j sn SY N' : Nat) (T' : List UInt8) q, sn ≤ j → j ≤ N → (fT LL sn).length ≤ N' → T'.length = N' → T' <+: fT LL j → StoAt q b T' 8192 N' → Keeps b WB q → Calls Tryz.prog 14 #[.pointer (some ⟨b, 0, none⟩)] q fun e q' => (∃ j2 SY2 z, e = .returned (.int .i64 z) ∧ ReIn WB b LL N j2 sn SY2 q')) := fun j sn SY N' T' q hsn hj hl hT hp hS hK => by
    have h8 := HT8.out j hj
    have hpl := hp.length_le
    refine (repair_calls b T' 8192 N' (by omega) q hS (KL.out _ (KC.out _ hK).2.2.bel)).mono ?_
    rintro e q' ⟨ls, N2, hB, HN2, hN2, he, hS2, hK2⟩
    obtain ⟨h1, h2⟩ := fT_back HG.out hj hp hB
    have h3 := fT_kept HG.out hj hsn hp (by omega) hB
    have h4 : T'.take N2 = fT LL ls.length := by
      rw [← HN2.out, hB.toBegTo.take]
      unfold fT
      rw [← h2]
    have h5 := (fT_le LL sn ls.length h3).length_le
    rw [h4] at hS2
    have h6 : (fT LL ls.length).length = N2 := by rw [← h4, List.length_take]; omega
    exact ⟨ls.length, N2, _, he, hS2, by omega, by omega, h3, by omega, hK.trans hK2⟩
  have KBl : Hid (∀ q, Keeps b WB q → Below w.heap.size w q) := fun q hq => (KC.out q hq).2.2.bel
  have KN : Hid (∀ q, Keeps b WB q → q.cell? ⟨w.heap.size + 1 + 1, 0, none⟩ = some (.int .i64 N)) := fun q hq => (KC.out q hq).2.2.num.cell (i := 0) (by omega)
  have KSc : Hid (∀ q, Keeps b WB q → q.cell? ⟨sB, 0, none⟩ = some (.pointer (some ⟨b, 0, none⟩))) := fun q hq => (KC.out q hq).1
  have KW : Hid (∀ q, Keeps b WB q → RecAt b q (lnsTo LL N) (some ⟨g, 0, none⟩) N) := fun q hq => (KC.out q hq).2.1
  clear KC St0 sc0 RAw rbB HON2 KL HT8
  generalize w.heap.size + 1 + 1 = nB at *
  go_loopw [14, 56] (fun sv iv wr => ∃ (k j sn SY : Nat), k ≤ ln ∧ sv = .int .i64 sn ∧ iv = .int .i64 k ∧ ReIn WB b LL N j sn SY wr) (fun _ iv _ => ln - (intOf iv).toNat)
  case atStart => exact ⟨0, 0, 0, 0, Nat.zero_le _, rfl, rfl, In0⟩
  case round =>
    clear In0
    obtain ⟨k, j, sn, SY, hk, rfl, rfl, hI⟩ := hrel
    by_cases hlt : k < ln
    · obtain ⟨lb, lo, x, rfl, ex⟩ := KX.out _ k (KBl.out _ hI.k) hlt
      have kn : (k : Int) < (ln : Int) := by omega
      have k0 : (0 : Int) ≤ (k : Int) := by omega
      have RS : Calls Tryz.prog 6 #[.int .i64 x, .int .i64 4] wr fun e w' => (∃ z : Int, (z = 0 ∨ z = 1 ∨ z = 2 ∨ z = 3) ∧ e = .returned (.int .i64 z)) ∧ w' = wr := by
        refine (rest_any x 4 (by omega) (by omega) wr).mono ?_
        rintro e w' ⟨⟨k, hk, he⟩, hw⟩
        exact ⟨⟨(k : Int), by omega, he⟩, hw⟩
      go_upto_block 2 with (go_at_call 6; refine RS.mono ?_; rintro e w' ⟨⟨z, hz, rfl⟩, hw'⟩; replace hw' := hw'.symm; subst hw')
      clear RS ex
      go_cut [14] from 57 to 101 (fun sv q => ∃ (j sn SY : Nat), sv = .int .i64 sn ∧ ReIn WB b LL N j sn SY q)
      case first =>
        rcases hz with rfl | rfl | rfl | rfl
        · go_wp2_with fail
          refine (HOn.out _ _ _ _ hI).mono ?_
          rintro e q1 ⟨rfl, hI1⟩
          go_wp2_with fail
          go_meet
          case rel => exact ⟨_, sn, SY, rfl, hI1⟩
        · go_wp2_with fail
          refine (HOn.out _ _ _ _ hI).mono ?_
          rintro e q1 ⟨rfl, hI1⟩
          go_wp2_with fail
          go_meet
          case rel => exact ⟨_, sn, SY, rfl, hI1⟩
        · have sc := KSc.out _ hI.k
          have HSy := Lib.hid (sync_calls b (fT LL j) 8192 SY wr hI.st)
          go_wp2_with fail
          refine HSy.out.mono ?_
          rintro e q1 ⟨rfl, S1, hK1⟩
          have hI1 : ReIn WB b LL N j j (fT LL j).length q1 := ⟨S1, Nat.le_refl _, Nat.le_refl _, Nat.le_refl _, hI.jn, hI.k.trans hK1⟩
          clear sc
          have sc := KSc.out _ hI1.k
          go_wp2_with fail
          refine (HRec.out _ _ _ _ hI1).mono ?_
          rintro e q2 ⟨⟨ra, rc, _, rfl⟩, hq2⟩
          have hI2 := hI1.below hq2
          go_wp2_with fail
          go_meet
          case rel => exact ⟨j, j, _, rfl, hI2⟩
        · have hId := hI.below (Below.drew (Below.refl _ _))
          have cdr := KSc.out _ hId.k
          have HCr := Lib.hid (HCrash.out _ _ _ _ hId)
          have RS2 : ∀ q, Calls Tryz.prog 6 #[.int .i64 x, .int .i64 200] q fun e w' => (∃ k : Nat, k < 200 ∧ e = .returned (.int .i64 k)) ∧ w' = q := fun q => rest_any x 200 (by omega) (by omega) q
          have hmx : max (sn : Int) 0 = (sn : Int) := by omega
          go_wp2_with fail
          refine wp_region_held_drew (S := fun q => q.cell? ⟨sB, 0, none⟩ = some (.pointer (some ⟨b, 0, none⟩))) (by kernel_rfl) (by with_reducible exact cdr) (fun hHeld => ?_)
          refine wpAnyH_take (i := 0) (oi := _) (v := ?_) rfl (by kernel_rfl) (by kernel_rfl) (by kernel_rfl) (fun _ _ _ h => h) (Or.inl ⟨by rfl, ?_⟩) (by assumption) ?_
          rotate_left
          · intro w hSw
            try dsimp only at hSw
            go_simp
            try with_reducible rfl
          simp only [Act.put, List.getElem_toArray, List.getElem_cons_zero, List.setIfInBounds_toArray, List.set_cons_zero, List.set_cons_succ]
          refine wpAnyH_take (i := 1) (oi := _) (v := ?_) rfl (by kernel_rfl) (by kernel_rfl) (by kernel_rfl) (fun _ _ _ h => h) (Or.inl ⟨by rfl, ?_⟩) (by assumption) ?_
          rotate_left
          · intro w hSw
            try dsimp only at hSw
            go_simp
            try with_reducible rfl
          simp only [Act.put, List.getElem_toArray, List.getElem_cons_zero, List.getElem_cons_succ, List.setIfInBounds_toArray, List.set_cons_zero, List.set_cons_succ]
          refine wpAnyH_ready (rs := [2]) (by kernel_rfl) (by simp) ?_
          refine AllReadyH.cons (o := _) rfl (fun K hK => ?_) AllReadyH.nil
          clear hHeld
          go_simp
          refine (RS2 _).mono ?_
          rintro e q3 ⟨⟨kp, _, rfl⟩, hq3⟩
          replace hq3 := hq3.symm
          subst hq3
          go_wp2_with fail
          refine hK.out _ _ ?_ (fun hHeld => ?_)
          · with_reducible exact cdr
          clear hK K
          try simp only [Act.put, List.setIfInBounds_toArray, List.set_cons_zero, List.set_cons_succ]
          refine wpAnyH_ready (rs := [3]) (by kernel_rfl) (by simp) ?_
          refine AllReadyH.cons (o := _) rfl (fun K hK => ?_) AllReadyH.nil
          clear hHeld
          go_simp
          refine (HCr.out kp).mono ?_
          rintro e q4 ⟨N', T', hN1, hN2, HT', rfl, S4, hK4⟩
          have SV4 : q4.cell? ⟨sB, 0, none⟩ = some (.pointer (some ⟨b, 0, none⟩)) := (hK4.cell (a := ⟨sB, 0, none⟩) (cell_lt cdr) hsb).trans cdr
          go_wp2_with fail
          refine hK.out _ _ ?_ (fun hHeld => ?_)
          · with_reducible exact SV4
          clear hK K
          try simp only [Act.put, List.setIfInBounds_toArray, List.set_cons_zero, List.set_cons_succ]
          refine wpAnyH_done (by kernel_rfl) ?_ _
          have kq4 := hId.k.trans hK4
          have sc := KSc.out _ kq4
          have HRp := Lib.hid (HRep.out j sn SY N' T' q4 hI.sn hI.jn (Nat.le_trans hI.sy hN1) hN2 HT'.out S4 kq4)
          clear HCr RS2 SV4 cdr
          go_wp2_with fail
          refine HRp.out.mono ?_
          rintro e q5 ⟨j2, SY2, z2, rfl, hI5⟩
          clear sc
          go_wp2_with fail
          go_meet
          case rel => exact ⟨j2, sn, SY2, rfl, hI5⟩
      case rest =>
        clear hI hz
        obtain ⟨j, sn, SY, rfl, hI⟩ := hcut
        have sc := KSc.out _ hI.k
        have hsj : ¬ (j : Int) < (sn : Int) := by have := hI.sn; omega
        have j0 : (0 : Int) ≤ (j : Int) := by omega
        have jN : (j : Int) ≤ (N : Int) := by have := hI.jn; omega
        go_wp2_with fail
        refine (HRec.out _ _ _ _ hI).mono ?_
        rintro e q2 ⟨⟨ra, rc, hRA, rfl⟩, hq2⟩
        have hI2 := hI.below hq2
        have HSm := Lib.hid (HSam.out j ra rc q2 hI.jn hRA (KW.out _ hI2.k))
        clear sc
        go_wp2_with fail
        refine HSm.out.mono ?_
        rintro e q3 ⟨rfl, hq3⟩
        have hI3 := hI2.below hq3
        go_wp2_with fail
        go_roundw
        case rel => exact ⟨k + 1, j, sn, SY, by omega, by trivial, by go_num, hI3⟩
        case measure => simp [intOf]; omega
    · obtain rfl : k = ln := by omega
      have nc := KN.out _ hI.k
      go_wp2_with fail
      clear nc hlt
      generalize hww : wr = w9 at *
      clear hww
      go_loopw [103] (fun iv wr => ∃ (k j SY : Nat), k ≤ N ∧ k ≤ j ∧ iv = .int .i64 k ∧ ReIn WB b LL N j sn SY wr) (fun iv _ => N - (intOf iv).toNat)
      case atStart => exact ⟨0, j, SY, Nat.zero_le _, Nat.zero_le _, rfl, hI⟩
      case round =>
        clear hI
        obtain ⟨m, j2, SY2, hm, hmj, rfl, hI⟩ := hrel
        by_cases hlt : m < N
        · have kn : (m : Int) < (N : Int) := by omega
          go_wp2_with fail
          refine (HOn.out _ _ _ _ hI).mono ?_
          rintro e q1 ⟨rfl, hI1⟩
          go_wp2_with fail
          go_roundw
          case rel => exact ⟨m + 1, _, SY2, by omega, by omega, by go_num, hI1⟩
          case measure => simp [intOf]; omega
        · obtain rfl : m = N := by omega
          obtain rfl : j2 = m := by have := hI.jn; omega
          have sc := KSc.out _ hI.k
          go_wp2_with fail
          refine (HRec.out _ _ _ _ hI).mono ?_
          rintro e q2 ⟨⟨ra, rc, hRA, rfl⟩, hq2⟩
          have hI2 := hI.below hq2
          have HSm := Lib.hid (HSam.out j2 ra rc q2 (Nat.le_refl _) hRA (KW.out _ hI2.k))
          clear sc
          go_wp2_with fail
          refine HSm.out.mono ?_
          rintro e q3 ⟨rfl, hq3⟩
          have hI3 := hI2.below hq3
          go_wp2_with fail
          go_ret
          exact ⟨rfl, KBl.out _ hI3.k⟩
end Go.Proofs.YtfcnnolpcnacoaaGreatDoor.Fx
