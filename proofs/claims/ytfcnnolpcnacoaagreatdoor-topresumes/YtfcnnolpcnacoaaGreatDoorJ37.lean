/- What coachtop.said returns: a small course is kept, and a bent journal told. -/
import Derived.Test.YtfcnnolpcnacoaaGreatDoorJ27
import Derived.Test.YtfcnnolpcnacoaaGreatDoorJ36
import Derived.Test.YtfcnnolpcnacoaaGreatDoorJ01
import Derived.Test.YtfcnnolpcnacoaaGreatDoorRows
import Derived.Shelf.Strings.Cut
import Derived.Shelf.Strings.Split
import Derived.Shelf.Strings.OnBuilder
import Derived.Shelf.Strconv.Itoa3
import Derived.Shelf.Pu.ErrVarParseUint
import Derived.Test.YtfcnnolpcnacoaaGreatDoorJ00
import Derived.Lib.ItoaNum
import Derived.Lib.ItoaLen
import Derived.Lib.Join
import Derived.Lib.IndexMore
import Derived.Lib.ParseIntBCases
import Derived.Lib.SplitLaws
namespace Go.Proofs.YtfcnnolpcnacoaaGreatDoor.Fx
open Go.RowKit

def rateR (x : Rcm) (r : Int) : Rcm := ⟨x.s, x.a, x.n, x.k, r, x.root, x.chain⟩
theorem rcsR_rate {w : World} {b t n K N : Nat} {R : Nat → Rcm} (h : w.rowIs b t n (rcsR R N)) (r : Int) (hK : K < N) : (w.setCell ⟨b, K * 5 + 2, none⟩ (.int .i64 r)).rowIs b t n (rcsR (bentR R K (rateR (R K) r)) N) := by
  refine (h.set (K * 5 + 2) (.int .i64 r)).congr (fun i hi => ?_)
  unfold rcsR
  by_cases h0 : i < N * 5
  · rw [if_pos h0]
    by_cases e : i / 5 = K
    · have hb : bentR R K (rateR (R K) r) (i / 5) = rateR (R K) r := by unfold bentR; rw [if_pos e]
      rw [hb, if_pos h0, e]
      rcases lt5 (Nat.mod_lt i (show 0 < 5 by omega)) with hm | hm | hm | hm | hm
      · rw [if_neg (by omega), hm]; rfl
      · rw [if_neg (by omega), hm]; rfl
      · rw [if_pos (by omega), hm]; rfl
      · rw [if_neg (by omega), hm]; rfl
      · rw [if_neg (by omega), hm]; rfl
    · have hb : bentR R K (rateR (R K) r) (i / 5) = R (i / 5) := by unfold bentR; rw [if_neg e]
      rw [hb, if_neg (by omega), if_pos h0]
  · rw [if_neg h0, if_neg (by omega), if_neg h0]
theorem small_rate : mkRV smallC 1 = 6554 := by decide +kernel

set_option maxRecDepth 100000 in
set_option maxHeartbeats 1600000 in
theorem said_calls (w : World) : Calls Tryz.prog 4 #[] w fun e w' => e = .returned (.bool true) ∧ Below w.heap.size w w' := by
  have h0 := low_alloc w (.cells smallC.cells 24)
  obtain ⟨v0, H0⟩ : ∃ q, Hid (q = w.alloc (.cells smallC.cells 24)) := ⟨_, rfl⟩
  have hs0 : v0.heap.size = w.heap.size + 1 := by rw [H0.out]; simp
  rw [← H0.out] at h0
  have h1 := low_alloc v0 (.cells #[.int .i64 65536] 3)
  have l1 := one_lst v0 65536 3
  obtain ⟨v1, H1⟩ : ∃ q, Hid (q = v0.alloc (.cells #[.int .i64 65536] 3)) := ⟨_, rfl⟩
  have hs1 : v1.heap.size = w.heap.size + 1 + 1 := by rw [H1.out]; simp [hs0]
  rw [← H1.out] at h1 l1
  have h2 := low_alloc v1 (.cells #[.int .i64 131072] 3)
  have l2 := one_lst v1 131072 3
  obtain ⟨v2, H2⟩ : ∃ q, Hid (q = v1.alloc (.cells #[.int .i64 131072] 3)) := ⟨_, rfl⟩
  have hs2 : v2.heap.size = w.heap.size + 1 + 1 + 1 := by rw [H2.out]; simp [hs1]
  rw [← H2.out] at h2 l2
  rw [hs0] at l1
  rw [hs1] at l2
  have h3 := low_alloc v2 (.cells #[.slice (some ⟨w.heap.size + 1, 0, none⟩) 1 1, .slice (some ⟨w.heap.size + 1 + 1, 0, none⟩) 1 1] 46)
  have row := fn2_alloc v2 (.slice (some ⟨w.heap.size + 1, 0, none⟩) 1 1) (.slice (some ⟨w.heap.size + 1 + 1, 0, none⟩) 1 1) 46
  obtain ⟨v3, H3⟩ : ∃ q, Hid (q = v2.alloc (.cells #[.slice (some ⟨w.heap.size + 1, 0, none⟩) 1 1, .slice (some ⟨w.heap.size + 1 + 1, 0, none⟩) 1 1] 46)) := ⟨_, rfl⟩
  rw [← H3.out] at h3 row
  rw [hs2] at row
  have b1 := h0.trans (h1.mono h0.size)
  have b2 := b1.trans (h2.mono b1.size)
  have b3 := b2.trans (h3.mono b2.size)
  have k1 := h1.trans ((h2.trans (h3.mono h2.size)).mono h1.size)
  have kc : BoxC v3 w.heap.size smallC := by
    rw [H0.out] at k1
    exact boxC k1 (by simp)
  have l1' := (l1.below h2 (Nat.le_refl _)).below h3 (Nat.le_refl _)
  have l2' := l2.below h3 (Nat.le_refl _)
  have hcl := fn2_cells row
  have hlt := row.lt
  have hx : Exs v3 (some ⟨w.heap.size + 1 + 1 + 1, 0, none⟩) 1 1 (fun _ => ⟨some ⟨w.heap.size + 1, 0, none⟩, 1, 1, some ⟨w.heap.size + 1 + 1, 0, none⟩, 1, 1⟩) smallI smallO := by
    refine ⟨Nat.le_refl _, .inr ⟨_, _, rfl, hlt, fun i hi => ?_⟩⟩
    obtain rfl : i = 0 := by omega
    exact ⟨hcl.1, hcl.2, ⟨l1', l2'⟩⟩
  have hco : courseI smallC 1 (fun _ => ⟨some ⟨w.heap.size + 1, 0, none⟩, 1, 1, some ⟨w.heap.size + 1 + 1, 0, none⟩, 1, 1⟩) smallI smallO = 0 := small_course rfl rfl
  have hs : okW smallC.seed := ⟨by decide, by decide⟩
  have KB : Hid (∀ q, Below v3.heap.size v3 q → BoxC q w.heap.size smallC) := fun q hq => by
    have k : ∀ i, q.cell? ⟨w.heap.size, i, none⟩ = v3.cell? ⟨w.heap.size, i, none⟩ := fun i => hq.cell (p := ⟨w.heap.size, i, none⟩) (by show w.heap.size < _; omega)
    exact ⟨(k 0).trans kc.c0, (k 1).trans kc.c1, (k 2).trans kc.c2, (k 3).trans kc.c3, (k 4).trans kc.c4, (k 5).trans kc.c5, (k 6).trans kc.c6, (k 7).trans kc.c7, (k 8).trans kc.c8, (k 9).trans kc.c9, (k 10).trans kc.c10⟩
  have MK : Calls Tryz.prog 7 #[.agg #[.int .i64 1, .int .i64 1, .int .i64 1, .int .u64 1, .int .i64 1, .int .i64 3, .int .i64 6554, .int .i64 0, .int .i64 0, .int .i64 0, .int .i64 0], .slice (some ⟨w.heap.size + 1 + 1 + 1, 0, none⟩) 1 1, .int .i64 3] v3 fun e w' => ∃ g R, e = .returned (.tuple #[.slice (some ⟨g, 0, none⟩) 3 3, .int .i64 0]) ∧ v3.heap.size ≤ g ∧ w'.rowIs g 40 (3 * 5) (rcsR R 3) ∧ JrIn w' g v3.heap.size 1 3 R (jrG smallC 1) ∧ JrN 3 R (mkRV smallC) (mkRO smallC 1 smallI smallO) (mkCH smallC 1 smallI smallO) ∧ Below v3.heap.size v3 w' := jMake_good smallC _ 1 1 _ smallI smallO 3 v3 hs hx hco (by decide)
  have HWO : Hid (∀ (q : World) (g : Nat) (R : Nat → Rcm), Below v3.heap.size v3 q → q.rowIs g 40 (3 * 5) (rcsR R 3) → JrIn q g v3.heap.size 1 3 R (jrG smallC 1) → JrN 3 R (mkRV smallC) (mkRO smallC 1 smallI smallO) (mkCH smallC 1 smallI smallO) → Calls Tryz.prog 16 #[.agg #[.int .i64 1, .int .i64 1, .int .i64 1, .int .u64 1, .int .i64 1, .int .i64 3, .int .i64 6554, .int .i64 0, .int .i64 0, .int .i64 0, .int .i64 0], .slice (some ⟨w.heap.size + 1 + 1 + 1, 0, none⟩) 1 1, .slice (some ⟨g, 0, none⟩) 3 3] q fun e w' => e = .returned (.tuple #[.int .i64 3, .int .i64 0]) ∧ Below q.heap.size q w') := fun q g R hq hr hj hJ => whole_own smallC hs _ 1 1 _ smallI smallO _ 3 3 R q (hx.below hq (Nat.le_refl _)) (recs_of hr hj) (fun j hj2 => by have := (hj j hj2).1; omega) hco (by decide) hJ
  have HWB : Hid (∀ (q : World) (g : Nat) (R : Nat → Rcm), Below v3.heap.size v3 q → q.rowIs g 40 (3 * 5) (rcsR (bentR R 1 (rateR (R 1) 6555)) 3) → JrIn q g v3.heap.size 1 3 R (jrG smallC 1) → JrN 3 R (mkRV smallC) (mkRO smallC 1 smallI smallO) (mkCH smallC 1 smallI smallO) → Calls Tryz.prog 16 #[.agg #[.int .i64 1, .int .i64 1, .int .i64 1, .int .u64 1, .int .i64 1, .int .i64 3, .int .i64 6554, .int .i64 0, .int .i64 0, .int .i64 0, .int .i64 0], .slice (some ⟨w.heap.size + 1 + 1 + 1, 0, none⟩) 1 1, .slice (some ⟨g, 0, none⟩) 3 3] q fun e w' => e = .returned (.tuple #[.int .i64 1, .int .i64 0]) ∧ Below q.heap.size q w') := fun q g R hq hr hj hJ => by
    obtain ⟨x1, x2, bg, x3, _, _, x6⟩ := hj 1 (by omega)
    have hl : Lst q (rateR (R 1) 6555).a (rateR (R 1) 6555).n (rateR (R 1) 6555).k (jrBatch smallC 1 1) := by
      show Lst q (R 1).a (R 1).n (R 1).k _
      rw [x1, x2, x3]
      exact x6.lst
    have h := whole_good smallC hs _ 1 1 _ smallI smallO _ 3 3 _ _ q (hx.below hq (Nat.le_refl _)) (recs_bent hr hj hl) (fun j hj2 => by
      unfold bentR
      by_cases e : j = 1
      · rw [if_pos e]; show (R 1).n ≤ _; omega
      · rw [if_neg e]; have := (hj j hj2).1; omega) hco (by decide)
    have e := first_bent hJ (rateR (R 1) 6555) (jrBatch smallC 1 1) (K := 1) (by omega)
    have hrb : recB (rateR (R 1) 6555) (R 1) (jrBatch smallC 1 1) (jrBatch smallC 1 1) = false := by
      unfold recB likeB
      have hr1 : (R 1).r = 6554 := by rw [(hJ 1 (by omega)).2.1]; exact small_rate
      have : ¬ (rateR (R 1) 6555).r = (R 1).r := by rw [hr1]; show ¬ (6555 : Int) = 6554; decide
      rw [decide_eq_false this]
      simp
    rw [hrb] at e
    rw [if_neg (by decide)] at e
    have e2 : firstNo (auB smallC 1 smallI smallO (bentR R 1 (rateR (R 1) 6555)) (bentD (fun k => (List.range 1).map (jrG smallC 1 k)) 1 (jrBatch smallC 1 1))) 3 = 1 := e
    rw [e2] at h
    exact h
  have HR1 : Hid (∀ R : Nat → Rcm, JrN 3 R (mkRV smallC) (mkRO smallC 1 smallI smallO) (mkCH smallC 1 smallI smallO) → (R 1).r = 6554) := fun R hJ => by rw [(hJ 1 (by omega)).2.1]; exact small_rate
  clear l1 l2 h0 h1 h2 h3 b1 b2 k1 hs1 hs0 hs2 l1' l2' hcl row hx hco hs hlt
  generalize jrG smallC 1 = DG at *
  generalize mkRV smallC = RV at *
  generalize mkRO smallC 1 smallI smallO = RO at *
  generalize mkCH smallC 1 smallI smallO = CH at *
  obtain ⟨c0, c1, c2, c3, c4, c5, c6, c7, c8, c9, c10⟩ := kc
  simp only [smallC, Cfg.cells] at *
  go_enter Tryz.func4, Tryz.ntmps4
  go_wp2_with fail
  rw [← H0.out, ← H1.out, ← H2.out, ← H3.out]
  clear H0 H1 H2 H3
  refine MK.mono ?_
  rintro e w4 ⟨g, R, rfl, hg, rrow, hji, hjn, hw4⟩
  have HJI : Hid (JrIn w4 g v3.heap.size 1 3 R DG) := hji
  have HJN : Hid (JrN 3 R RV RO CH) := hjn
  have WO := HWO.out w4 g R hw4 rrow hji hjn
  clear MK HWO hji hjn c0 c1 c2 c3 c4 c5 c6 c7 c8 c9 c10
  obtain ⟨c0, c1, c2, c3, c4, c5, c6, c7, c8, c9, c10⟩ := KB.out _ hw4
  dsimp only at c0 c1 c2 c3 c4 c5 c6 c7 c8 c9 c10
  go_wp2_with fail
  refine WO.mono ?_
  rintro e w5 ⟨rfl, hw5⟩
  have T5 := hw4.trans (hw5.mono hw4.size)
  have rrow5 := rrow.of_block (hw5.block _ rrow.lt)
  have HJI5 : Hid (JrIn w5 g v3.heap.size 1 3 R DG) := HJI.out.below hw5
  have r7 : w5.cell? ⟨g, 7, none⟩ = some (.int .i64 6554) := by
    have h := rcsR_cell rrow5 (j := 1) (by omega) (Nat.le_refl _) (i := 2) (by omega)
    have e : recC (R 1) 2 = .int .i64 6554 := by show Value.int .i64 (R 1).r = _; rw [HR1.out R HJN.out]
    rw [e] at h
    exact h
  have f7 := rrow5.frozen 7
  have T6 : Below v3.heap.size v3 (w5.setCell ⟨g, 7, none⟩ (.int .i64 6555)) := T5.setCell hg _
  have WB := HWB.out (w5.setCell ⟨g, 7, none⟩ (.int .i64 6555)) g R T6 (rcsR_rate rrow5 (K := 1) 6555 (by omega)) (HJI5.out.setO _ _) HJN.out
  clear WO HWB HJI HJI5 HJN HR1 rrow rrow5 c0 c1 c2 c3 c4 c5 c6 c7 c8 c9 c10
  obtain ⟨c0, c1, c2, c3, c4, c5, c6, c7, c8, c9, c10⟩ := KB.out _ T6
  dsimp only at c0 c1 c2 c3 c4 c5 c6 c7 c8 c9 c10
  have hT6 := b3.trans (T6.mono b3.size)
  go_wp2_with fail
  refine WB.mono ?_
  rintro e w7 ⟨rfl, hw7⟩
  go_wp2_with fail
  go_ret
  exact ⟨rfl, hT6.trans (hw7.mono hT6.size)⟩
end Go.Proofs.YtfcnnolpcnacoaaGreatDoor.Fx

/- What coachref.Rest returns: a number below the second one. -/
namespace Go.Proofs.YtfcnnolpcnacoaaGreatDoor.Fx
open Go.RowKit

theorem rest_any (n : Int) (m : Nat) (h1 : 1 ≤ m) (h2 : m ≤ 2000) (w : World) :
    Calls Tryz.prog 6 #[.int .i64 n, .int .i64 m] w fun e w' => (∃ k : Nat, k < m ∧ e = .returned (.int .i64 k)) ∧ w' = w := by
  obtain ⟨r, hr⟩ : ∃ r, n.tmod (m : Int) = r := ⟨_, rfl⟩
  have r1 : r < (m : Int) := by rw [← hr]; exact Int.tmod_lt_of_pos _ (by omega)
  have r2 : -(m : Int) < r := by
    rw [← hr]
    have := Int.tmod_lt_of_pos (-n) (b := (m : Int)) (by omega)
    rw [Int.neg_tmod] at this
    omega
  by_cases h : r < 0
  · go_enter Tryz.func6, Tryz.ntmps6
    go_wp2
    go_ret
    exact ⟨⟨(r + m).toNat, by omega, ret_word (by omega)⟩, rfl⟩
  · go_enter Tryz.func6, Tryz.ntmps6
    go_wp2
    go_ret
    exact ⟨⟨r.toNat, by omega, ret_word (by omega)⟩, rfl⟩
end Go.Proofs.YtfcnnolpcnacoaaGreatDoor.Fx

/- The library's functions on strings and numerals as this program has them: which of its functions and types are those of the proved contracts (laid by program). -/
namespace Go.Proofs.YtfcnnolpcnacoaaGreatDoor.Fx
open Go.Shelf

def laysCut_ren : Go.Shelf.Ren := ⟨fun | 145 => 51 | 220 => 70 | 219 => 102 | 217 => 135 | 225 => 136 | 224 => 137 | 267 => 138 | 266 => 159 | 314 => 160 | n => n, fun | 9 => 9 | 4 => 4 | 59 => 89 | 3 => 3 | 5 => 5 | 46 => 157 | 146 => 193 | 51 => 155 | n => n, fun | 1 => 1 | n => n⟩
theorem laysCut : Go.Proofs.Lays.n145 Tryz.prog laysCut_ren := {
  mixed := by kernel_rfl
  f145 := Tryz.func51.trans (congrArg some (by kernel_rfl))
  f217 := Tryz.func135.trans (congrArg some (by kernel_rfl))
  f219 := Tryz.func102.trans (congrArg some (by kernel_rfl))
  f220 := Tryz.func70.trans (congrArg some (by kernel_rfl))
  f224 := Tryz.func137.trans (congrArg some (by kernel_rfl))
  f225 := Tryz.func136.trans (congrArg some (by kernel_rfl))
  f266 := Tryz.func159.trans (congrArg some (by kernel_rfl))
  f267 := Tryz.func138.trans (congrArg some (by kernel_rfl))
  f314 := Tryz.func160.trans (congrArg some (by kernel_rfl))
  t3 := Tryz.underlying3
  a3 := Tryz.isAgg3
  z3 := Tryz.sizeOf3
  v3 := Tryz.zeroValue3
  t4 := Tryz.underlying4
  a4 := Tryz.isAgg4
  z4 := Tryz.sizeOf4
  v4 := Tryz.zeroValue4
  t5 := Tryz.underlying5
  a5 := Tryz.isAgg5
  z5 := Tryz.sizeOf5
  v5 := Tryz.zeroValue5
  t9 := Tryz.underlying9
  a9 := Tryz.isAgg9
  z9 := Tryz.sizeOf9
  v9 := Tryz.zeroValue9
  t46 := Tryz.underlying157
  a46 := Tryz.isAgg157
  z46 := Tryz.sizeOf157
  v46 := Tryz.zeroValue157
  t51 := Tryz.underlying155
  a51 := Tryz.isAgg155
  z51 := Tryz.sizeOf155
  v51 := Tryz.zeroValue155
  t59 := Tryz.underlying89
  a59 := Tryz.isAgg89
  z59 := Tryz.sizeOf89
  v59 := Tryz.zeroValue89
  t146 := Tryz.underlying193
  a146 := Tryz.isAgg193
  z146 := Tryz.sizeOf193
  v146 := Tryz.zeroValue193
  g1 := by kernel_rfl }
def laysCutM_ren : Go.Shelf.Ren := ⟨fun | 145 => 51 | 220 => 70 | 219 => 102 | 217 => 135 | 225 => 136 | 224 => 137 | 267 => 138 | 266 => 159 | 314 => 160 | n => n, fun | 9 => 9 | 4 => 4 | 59 => 89 | 3 => 3 | 5 => 5 | 46 => 157 | 146 => 193 | 51 => 155 | n => n, fun | 1 => 1 | n => n⟩
theorem laysCutM : Go.Proofs.LaysM.n145 Tryz.prog laysCutM_ren := {
  mixed := by kernel_rfl
  f145 := Tryz.func51.trans (congrArg some (by kernel_rfl))
  f217 := Tryz.func135.trans (congrArg some (by kernel_rfl))
  f219 := Tryz.func102.trans (congrArg some (by kernel_rfl))
  f220 := Tryz.func70.trans (congrArg some (by kernel_rfl))
  f224 := Tryz.func137.trans (congrArg some (by kernel_rfl))
  f225 := Tryz.func136.trans (congrArg some (by kernel_rfl))
  f266 := Tryz.func159.trans (congrArg some (by kernel_rfl))
  f267 := Tryz.func138.trans (congrArg some (by kernel_rfl))
  f314 := Tryz.func160.trans (congrArg some (by kernel_rfl))
  t3 := Tryz.underlying3
  a3 := Tryz.isAgg3
  z3 := Tryz.sizeOf3
  v3 := Tryz.zeroValue3
  t4 := Tryz.underlying4
  a4 := Tryz.isAgg4
  z4 := Tryz.sizeOf4
  v4 := Tryz.zeroValue4
  t5 := Tryz.underlying5
  a5 := Tryz.isAgg5
  z5 := Tryz.sizeOf5
  v5 := Tryz.zeroValue5
  t9 := Tryz.underlying9
  a9 := Tryz.isAgg9
  z9 := Tryz.sizeOf9
  v9 := Tryz.zeroValue9
  t46 := Tryz.underlying157
  a46 := Tryz.isAgg157
  z46 := Tryz.sizeOf157
  v46 := Tryz.zeroValue157
  t51 := Tryz.underlying155
  a51 := Tryz.isAgg155
  z51 := Tryz.sizeOf155
  v51 := Tryz.zeroValue155
  t59 := Tryz.underlying89
  a59 := Tryz.isAgg89
  z59 := Tryz.sizeOf89
  v59 := Tryz.zeroValue89
  t146 := Tryz.underlying193
  a146 := Tryz.isAgg193
  z146 := Tryz.sizeOf193
  v146 := Tryz.zeroValue193
  g1 := by kernel_rfl
  i3 := by kernel_rfl
  i4 := by kernel_rfl
  i5 := by kernel_rfl
  i9 := by kernel_rfl
  i46 := by kernel_rfl
  i51 := by kernel_rfl
  i59 := by kernel_rfl
  i146 := by kernel_rfl
  m1 := by kernel_rfl
  s1_3 := fun w h => Go.Proofs.cell_of_shapedOpen_int (zero := #[.int .i64 0]) (t := 3) h (of_decide_eq_true (by kernel_rfl)) (by kernel_rfl) rfl (by kernel_rfl) (by kernel_rfl) Tryz.underlying3 }
def laysSplit_ren : Go.Shelf.Ren := ⟨fun | 146 => 53 | 221 => 72 | 268 => 105 | 138 => 106 | 143 => 107 | 195 => 145 | 197 => 146 | 218 => 147 | 219 => 102 | 260 => 163 | 217 => 135 | 225 => 136 | 224 => 137 | 267 => 138 | 266 => 159 | 314 => 160 | n => n, fun | 9 => 9 | 31 => 78 | 3 => 3 | 4 => 4 | 0 => 0 | 105 => 185 | 21 => 21 | 5 => 5 | 46 => 157 | 119 => 207 | 139 => 210 | 138 => 209 | 146 => 193 | 51 => 155 | n => n, fun | 1 => 1 | 3 => 6 | 4 => 7 | n => n⟩
theorem laysSplit : Go.Proofs.Lays.n146 Tryz.prog laysSplit_ren := {
  mixed := by kernel_rfl
  f138 := Tryz.func106.trans (congrArg some (by kernel_rfl))
  f143 := Tryz.func107.trans (congrArg some (by kernel_rfl))
  f146 := Tryz.func53.trans (congrArg some (by kernel_rfl))
  f195 := Tryz.func145.trans (congrArg some (by kernel_rfl))
  f197 := Tryz.func146.trans (congrArg some (by kernel_rfl))
  f217 := Tryz.func135.trans (congrArg some (by kernel_rfl))
  f218 := Tryz.func147.trans (congrArg some (by kernel_rfl))
  f219 := Tryz.func102.trans (congrArg some (by kernel_rfl))
  f221 := Tryz.func72.trans (congrArg some (by kernel_rfl))
  f224 := Tryz.func137.trans (congrArg some (by kernel_rfl))
  f225 := Tryz.func136.trans (congrArg some (by kernel_rfl))
  f260 := Tryz.func163.trans (congrArg some (by kernel_rfl))
  f266 := Tryz.func159.trans (congrArg some (by kernel_rfl))
  f267 := Tryz.func138.trans (congrArg some (by kernel_rfl))
  f268 := Tryz.func105.trans (congrArg some (by kernel_rfl))
  f314 := Tryz.func160.trans (congrArg some (by kernel_rfl))
  t0 := Tryz.underlying0
  a0 := Tryz.isAgg0
  z0 := Tryz.sizeOf0
  v0 := Tryz.zeroValue0
  t3 := Tryz.underlying3
  a3 := Tryz.isAgg3
  z3 := Tryz.sizeOf3
  v3 := Tryz.zeroValue3
  t4 := Tryz.underlying4
  a4 := Tryz.isAgg4
  z4 := Tryz.sizeOf4
  v4 := Tryz.zeroValue4
  t5 := Tryz.underlying5
  a5 := Tryz.isAgg5
  z5 := Tryz.sizeOf5
  v5 := Tryz.zeroValue5
  t9 := Tryz.underlying9
  a9 := Tryz.isAgg9
  z9 := Tryz.sizeOf9
  v9 := Tryz.zeroValue9
  t21 := Tryz.underlying21
  a21 := Tryz.isAgg21
  z21 := Tryz.sizeOf21
  v21 := Tryz.zeroValue21
  t31 := Tryz.underlying78
  a31 := Tryz.isAgg78
  z31 := Tryz.sizeOf78
  v31 := Tryz.zeroValue78
  t46 := Tryz.underlying157
  a46 := Tryz.isAgg157
  z46 := Tryz.sizeOf157
  v46 := Tryz.zeroValue157
  t51 := Tryz.underlying155
  a51 := Tryz.isAgg155
  z51 := Tryz.sizeOf155
  v51 := Tryz.zeroValue155
  t105 := Tryz.underlying185
  a105 := Tryz.isAgg185
  z105 := Tryz.sizeOf185
  v105 := Tryz.zeroValue185
  t119 := Tryz.underlying207
  a119 := Tryz.isAgg207
  z119 := Tryz.sizeOf207
  t138 := Tryz.underlying209
  a138 := Tryz.isAgg209
  z138 := Tryz.sizeOf209
  v138 := Tryz.zeroValue209
  t139 := Tryz.underlying210
  a139 := Tryz.isAgg210
  z139 := Tryz.sizeOf210
  v139 := Tryz.zeroValue210
  t146 := Tryz.underlying193
  a146 := Tryz.isAgg193
  z146 := Tryz.sizeOf193
  v146 := Tryz.zeroValue193
  g1 := by kernel_rfl
  g3 := by kernel_rfl
  g4 := by kernel_rfl }
def laysJoin_ren : Go.Shelf.Ren := ⟨fun | 156 => 41 | 165 => 57 | 166 => 58 | 169 => 59 | 240 => 78 | 241 => 79 | 276 => 113 | 277 => 114 | n => n, fun | 31 => 78 | 9 => 9 | 3 => 3 | 4 => 4 | 0 => 0 | 20 => 20 | 72 => 97 | 76 => 100 | 70 => 94 | 37 => 95 | 75 => 99 | 127 => 123 | 164 => 159 | 5 => 5 | 80 => 102 | n => n, fun | n => n⟩
theorem laysJoin : Go.Proofs.Lays.n156 Tryz.prog laysJoin_ren := {
  mixed := by kernel_rfl
  f156 := Tryz.func41.trans (congrArg some (by kernel_rfl))
  f165 := Tryz.func57.trans (congrArg some (by kernel_rfl))
  f166 := Tryz.func58.trans (congrArg some (by kernel_rfl))
  f169 := Tryz.func59.trans (congrArg some (by kernel_rfl))
  f240 := Tryz.func78.trans (congrArg some (by kernel_rfl))
  f241 := Tryz.func79.trans (congrArg some (by kernel_rfl))
  f276 := Tryz.func113.trans (congrArg some (by kernel_rfl))
  f277 := Tryz.func114.trans (congrArg some (by kernel_rfl))
  t0 := Tryz.underlying0
  a0 := Tryz.isAgg0
  z0 := Tryz.sizeOf0
  v0 := Tryz.zeroValue0
  t3 := Tryz.underlying3
  a3 := Tryz.isAgg3
  z3 := Tryz.sizeOf3
  v3 := Tryz.zeroValue3
  t4 := Tryz.underlying4
  a4 := Tryz.isAgg4
  z4 := Tryz.sizeOf4
  v4 := Tryz.zeroValue4
  t9 := Tryz.underlying9
  a9 := Tryz.isAgg9
  z9 := Tryz.sizeOf9
  v9 := Tryz.zeroValue9
  t20 := Tryz.underlying20
  a20 := Tryz.isAgg20
  z20 := Tryz.sizeOf20
  v20 := Tryz.zeroValue20
  t31 := Tryz.underlying78
  a31 := Tryz.isAgg78
  z31 := Tryz.sizeOf78
  v31 := Tryz.zeroValue78
  t37 := Tryz.underlying95
  a37 := Tryz.isAgg95
  z37 := Tryz.sizeOf95
  v37 := Tryz.zeroValue95
  t70 := Tryz.underlying94
  a70 := Tryz.isAgg94
  z70 := Tryz.sizeOf94
  v70 := Tryz.zeroValue94
  t72 := Tryz.underlying97
  a72 := Tryz.isAgg97
  z72 := Tryz.sizeOf97
  v72 := Tryz.zeroValue97
  t75 := Tryz.underlying99
  a75 := Tryz.isAgg99
  z75 := Tryz.sizeOf99
  v75 := Tryz.zeroValue99
  t76 := Tryz.underlying100
  a76 := Tryz.isAgg100
  z76 := Tryz.sizeOf100
  v76 := Tryz.zeroValue100
  t127 := Tryz.underlying123
  a127 := Tryz.isAgg123
  z127 := Tryz.sizeOf123
  v127 := Tryz.zeroValue123
  t164 := Tryz.underlying159
  a164 := Tryz.isAgg159
  z164 := Tryz.sizeOf159
  v164 := Tryz.zeroValue159 }
def laysItoa_ren : Go.Shelf.Ren := ⟨fun | 171 => 39 | 243 => 55 | 246 => 73 | 283 => 74 | 284 => 75 | 285 => 76 | 286 => 77 | 129 => 109 | 317 => 108 | 318 => 110 | 319 => 111 | 320 => 112 | 337 => 148 | 338 => 149 | n => n, fun | 3 => 3 | 9 => 9 | 2 => 2 | 4 => 4 | 171 => 118 | 0 => 0 | 53 => 22 | 37 => 95 | 5 => 5 | 173 => 121 | 212 => 154 | 51 => 155 | 20 => 20 | 213 => 156 | 46 => 157 | 232 => 199 | 233 => 200 | n => n, fun | 17 => 0 | 18 => 4 | 19 => 5 | n => n⟩
theorem laysItoa : Go.Proofs.LaysM.n171 Tryz.prog laysItoa_ren := {
  mixed := by kernel_rfl
  f129 := Tryz.func109.trans (congrArg some (by kernel_rfl))
  f171 := Tryz.func39.trans (congrArg some (by kernel_rfl))
  f243 := Tryz.func55.trans (congrArg some (by kernel_rfl))
  f246 := Tryz.func73.trans (congrArg some (by kernel_rfl))
  f283 := Tryz.func74.trans (congrArg some (by kernel_rfl))
  f284 := Tryz.func75.trans (congrArg some (by kernel_rfl))
  f285 := Tryz.func76.trans (congrArg some (by kernel_rfl))
  f286 := Tryz.func77.trans (congrArg some (by kernel_rfl))
  f317 := Tryz.func108.trans (congrArg some (by kernel_rfl))
  f318 := Tryz.func110.trans (congrArg some (by kernel_rfl))
  f319 := Tryz.func111.trans (congrArg some (by kernel_rfl))
  f320 := Tryz.func112.trans (congrArg some (by kernel_rfl))
  f337 := Tryz.func148.trans (congrArg some (by kernel_rfl))
  f338 := Tryz.func149.trans (congrArg some (by kernel_rfl))
  t0 := Tryz.underlying0
  a0 := Tryz.isAgg0
  z0 := Tryz.sizeOf0
  v0 := Tryz.zeroValue0
  t2 := Tryz.underlying2
  a2 := Tryz.isAgg2
  z2 := Tryz.sizeOf2
  v2 := Tryz.zeroValue2
  t3 := Tryz.underlying3
  a3 := Tryz.isAgg3
  z3 := Tryz.sizeOf3
  v3 := Tryz.zeroValue3
  t4 := Tryz.underlying4
  a4 := Tryz.isAgg4
  z4 := Tryz.sizeOf4
  v4 := Tryz.zeroValue4
  t5 := Tryz.underlying5
  a5 := Tryz.isAgg5
  z5 := Tryz.sizeOf5
  v5 := Tryz.zeroValue5
  t9 := Tryz.underlying9
  a9 := Tryz.isAgg9
  z9 := Tryz.sizeOf9
  v9 := Tryz.zeroValue9
  t20 := Tryz.underlying20
  a20 := Tryz.isAgg20
  z20 := Tryz.sizeOf20
  v20 := Tryz.zeroValue20
  t37 := Tryz.underlying95
  a37 := Tryz.isAgg95
  z37 := Tryz.sizeOf95
  v37 := Tryz.zeroValue95
  t46 := Tryz.underlying157
  a46 := Tryz.isAgg157
  z46 := Tryz.sizeOf157
  v46 := Tryz.zeroValue157
  t51 := Tryz.underlying155
  a51 := Tryz.isAgg155
  z51 := Tryz.sizeOf155
  v51 := Tryz.zeroValue155
  t53 := Tryz.underlying22
  a53 := Tryz.isAgg22
  z53 := Tryz.sizeOf22
  v53 := Tryz.zeroValue22
  t171 := Tryz.underlying118
  a171 := Tryz.isAgg118
  z171 := Tryz.sizeOf118
  v171 := Tryz.zeroValue118
  t173 := Tryz.underlying121
  a173 := Tryz.isAgg121
  z173 := Tryz.sizeOf121
  v173 := Tryz.zeroValue121
  t212 := Tryz.underlying154
  a212 := Tryz.isAgg154
  z212 := Tryz.sizeOf154
  v212 := Tryz.zeroValue154
  t213 := Tryz.underlying156
  a213 := Tryz.isAgg156
  z213 := Tryz.sizeOf156
  t232 := Tryz.underlying199
  a232 := Tryz.isAgg199
  z232 := Tryz.sizeOf199
  v232 := Tryz.zeroValue199
  t233 := Tryz.underlying200
  a233 := Tryz.isAgg200
  z233 := Tryz.sizeOf200
  v233 := Tryz.zeroValue200
  g17 := by kernel_rfl
  g18 := by kernel_rfl
  g19 := by kernel_rfl
  i0 := by kernel_rfl
  i2 := by kernel_rfl
  i3 := by kernel_rfl
  i4 := by kernel_rfl
  i5 := by kernel_rfl
  i9 := by kernel_rfl
  i20 := by kernel_rfl
  i37 := by kernel_rfl
  i46 := by kernel_rfl
  i51 := by kernel_rfl
  i53 := by kernel_rfl
  i171 := by kernel_rfl
  i173 := by kernel_rfl
  i212 := by kernel_rfl
  i232 := by kernel_rfl
  i233 := by kernel_rfl
  m17 := by kernel_rfl
  m18 := by kernel_rfl
  m19 := by kernel_rfl }
def laysNum_ren : Go.Shelf.Ren := ⟨fun | 284 => 75 | 129 => 109 | 317 => 108 | 318 => 110 | n => n, fun | 53 => 22 | 3 => 3 | 212 => 154 | 0 => 0 | 4 => 4 | 46 => 157 | 5 => 5 | 9 => 9 | n => n, fun | 17 => 0 | n => n⟩
theorem laysNum : Go.Proofs.LaysM.n284 Tryz.prog laysNum_ren := {
  mixed := by kernel_rfl
  f129 := Tryz.func109.trans (congrArg some (by kernel_rfl))
  f284 := Tryz.func75.trans (congrArg some (by kernel_rfl))
  f317 := Tryz.func108.trans (congrArg some (by kernel_rfl))
  f318 := Tryz.func110.trans (congrArg some (by kernel_rfl))
  t0 := Tryz.underlying0
  a0 := Tryz.isAgg0
  z0 := Tryz.sizeOf0
  v0 := Tryz.zeroValue0
  t3 := Tryz.underlying3
  a3 := Tryz.isAgg3
  z3 := Tryz.sizeOf3
  v3 := Tryz.zeroValue3
  t4 := Tryz.underlying4
  a4 := Tryz.isAgg4
  z4 := Tryz.sizeOf4
  v4 := Tryz.zeroValue4
  t5 := Tryz.underlying5
  a5 := Tryz.isAgg5
  z5 := Tryz.sizeOf5
  v5 := Tryz.zeroValue5
  t9 := Tryz.underlying9
  a9 := Tryz.isAgg9
  z9 := Tryz.sizeOf9
  v9 := Tryz.zeroValue9
  t46 := Tryz.underlying157
  a46 := Tryz.isAgg157
  z46 := Tryz.sizeOf157
  v46 := Tryz.zeroValue157
  t53 := Tryz.underlying22
  a53 := Tryz.isAgg22
  z53 := Tryz.sizeOf22
  v53 := Tryz.zeroValue22
  t212 := Tryz.underlying154
  a212 := Tryz.isAgg154
  z212 := Tryz.sizeOf154
  v212 := Tryz.zeroValue154
  g17 := by kernel_rfl
  i0 := by kernel_rfl
  i3 := by kernel_rfl
  i4 := by kernel_rfl
  i5 := by kernel_rfl
  i9 := by kernel_rfl
  i46 := by kernel_rfl
  i53 := by kernel_rfl
  i212 := by kernel_rfl
  m17 := by kernel_rfl }
def laysBase_ren : Go.Shelf.Ren := ⟨fun | 285 => 76 | n => n, fun | 37 => 95 | 53 => 22 | 3 => 3 | 4 => 4 | 51 => 155 | 9 => 9 | 5 => 5 | 0 => 0 | n => n, fun | n => n⟩
theorem laysBase : Go.Proofs.Lays.n285 Tryz.prog laysBase_ren := {
  mixed := by kernel_rfl
  f285 := Tryz.func76.trans (congrArg some (by kernel_rfl))
  t0 := Tryz.underlying0
  a0 := Tryz.isAgg0
  z0 := Tryz.sizeOf0
  v0 := Tryz.zeroValue0
  t3 := Tryz.underlying3
  a3 := Tryz.isAgg3
  z3 := Tryz.sizeOf3
  v3 := Tryz.zeroValue3
  t4 := Tryz.underlying4
  a4 := Tryz.isAgg4
  z4 := Tryz.sizeOf4
  v4 := Tryz.zeroValue4
  t5 := Tryz.underlying5
  a5 := Tryz.isAgg5
  z5 := Tryz.sizeOf5
  v5 := Tryz.zeroValue5
  t9 := Tryz.underlying9
  a9 := Tryz.isAgg9
  z9 := Tryz.sizeOf9
  v9 := Tryz.zeroValue9
  t37 := Tryz.underlying95
  a37 := Tryz.isAgg95
  z37 := Tryz.sizeOf95
  v37 := Tryz.zeroValue95
  t51 := Tryz.underlying155
  a51 := Tryz.isAgg155
  z51 := Tryz.sizeOf155
  v51 := Tryz.zeroValue155
  t53 := Tryz.underlying22
  a53 := Tryz.isAgg22
  z53 := Tryz.sizeOf22
  v53 := Tryz.zeroValue22 }
def laysSmall_ren : Go.Shelf.Ren := ⟨fun | 283 => 74 | n => n, fun | 3 => 3 | 9 => 9 | 4 => 4 | n => n, fun | n => n⟩
theorem laysSmall : Go.Proofs.Lays.n283 Tryz.prog laysSmall_ren := {
  mixed := by kernel_rfl
  f283 := Tryz.func74.trans (congrArg some (by kernel_rfl))
  t3 := Tryz.underlying3
  a3 := Tryz.isAgg3
  z3 := Tryz.sizeOf3
  v3 := Tryz.zeroValue3
  t4 := Tryz.underlying4
  a4 := Tryz.isAgg4
  z4 := Tryz.sizeOf4
  v4 := Tryz.zeroValue4
  t9 := Tryz.underlying9
  a9 := Tryz.isAgg9
  z9 := Tryz.sizeOf9
  v9 := Tryz.zeroValue9 }
def laysUint_ren : Go.Shelf.Ren := ⟨fun | 14 => 71 | 16 => 103 | 17 => 104 | 19 => 139 | 20 => 140 | 21 => 141 | 22 => 142 | 23 => 143 | 24 => 144 | 25 => 161 | 27 => 39 | 26 => 162 | 28 => 55 | 29 => 73 | 30 => 74 | 31 => 75 | 32 => 76 | 33 => 77 | 35 => 109 | 34 => 108 | 36 => 110 | 37 => 111 | 38 => 112 | 39 => 148 | 40 => 149 | n => n, fun | 9 => 9 | 3 => 3 | 22 => 22 | 24 => 99 | 25 => 114 | 4 => 4 | 34 => 178 | 5 => 5 | 36 => 157 | 37 => 95 | 0 => 0 | 39 => 181 | 21 => 21 | 44 => 197 | 47 => 123 | 50 => 206 | 48 => 204 | 2 => 2 | 52 => 118 | 55 => 121 | 59 => 154 | 60 => 155 | 20 => 20 | 61 => 156 | 65 => 199 | 66 => 200 | 67 => 102 | n => n, fun | 0 => 2 | 1 => 3 | 2 => 0 | 3 => 4 | 4 => 5 | n => n⟩
theorem laysUint : Go.Proofs.LaysPu.n14 Tryz.prog laysUint_ren := {
  mixed := by kernel_rfl
  f14 := Tryz.func71.trans (congrArg some (by kernel_rfl))
  f16 := Tryz.func103.trans (congrArg some (by kernel_rfl))
  f17 := Tryz.func104.trans (congrArg some (by kernel_rfl))
  f19 := Tryz.func139.trans (congrArg some (by kernel_rfl))
  f20 := Tryz.func140.trans (congrArg some (by kernel_rfl))
  f21 := Tryz.func141.trans (congrArg some (by kernel_rfl))
  f22 := Tryz.func142.trans (congrArg some (by kernel_rfl))
  f23 := Tryz.func143.trans (congrArg some (by kernel_rfl))
  f24 := Tryz.func144.trans (congrArg some (by kernel_rfl))
  f25 := Tryz.func161.trans (congrArg some (by kernel_rfl))
  f26 := Tryz.func162.trans (congrArg some (by kernel_rfl))
  f27 := Tryz.func39.trans (congrArg some (by kernel_rfl))
  f28 := Tryz.func55.trans (congrArg some (by kernel_rfl))
  f29 := Tryz.func73.trans (congrArg some (by kernel_rfl))
  f30 := Tryz.func74.trans (congrArg some (by kernel_rfl))
  f31 := Tryz.func75.trans (congrArg some (by kernel_rfl))
  f32 := Tryz.func76.trans (congrArg some (by kernel_rfl))
  f33 := Tryz.func77.trans (congrArg some (by kernel_rfl))
  f34 := Tryz.func108.trans (congrArg some (by kernel_rfl))
  f35 := Tryz.func109.trans (congrArg some (by kernel_rfl))
  f36 := Tryz.func110.trans (congrArg some (by kernel_rfl))
  f37 := Tryz.func111.trans (congrArg some (by kernel_rfl))
  f38 := Tryz.func112.trans (congrArg some (by kernel_rfl))
  f39 := Tryz.func148.trans (congrArg some (by kernel_rfl))
  f40 := Tryz.func149.trans (congrArg some (by kernel_rfl))
  t0 := Tryz.underlying0
  a0 := Tryz.isAgg0
  z0 := Tryz.sizeOf0
  v0 := Tryz.zeroValue0
  i0 := by kernel_rfl
  t2 := Tryz.underlying2
  a2 := Tryz.isAgg2
  z2 := Tryz.sizeOf2
  v2 := Tryz.zeroValue2
  i2 := by kernel_rfl
  t3 := Tryz.underlying3
  a3 := Tryz.isAgg3
  z3 := Tryz.sizeOf3
  v3 := Tryz.zeroValue3
  i3 := by kernel_rfl
  t4 := Tryz.underlying4
  a4 := Tryz.isAgg4
  z4 := Tryz.sizeOf4
  v4 := Tryz.zeroValue4
  i4 := by kernel_rfl
  t5 := Tryz.underlying5
  a5 := Tryz.isAgg5
  z5 := Tryz.sizeOf5
  v5 := Tryz.zeroValue5
  i5 := by kernel_rfl
  t9 := Tryz.underlying9
  a9 := Tryz.isAgg9
  z9 := Tryz.sizeOf9
  v9 := Tryz.zeroValue9
  i9 := by kernel_rfl
  t20 := Tryz.underlying20
  a20 := Tryz.isAgg20
  z20 := Tryz.sizeOf20
  v20 := Tryz.zeroValue20
  i20 := by kernel_rfl
  t21 := Tryz.underlying21
  a21 := Tryz.isAgg21
  z21 := Tryz.sizeOf21
  v21 := Tryz.zeroValue21
  i21 := by kernel_rfl
  t22 := Tryz.underlying22
  a22 := Tryz.isAgg22
  z22 := Tryz.sizeOf22
  v22 := Tryz.zeroValue22
  i22 := by kernel_rfl
  t24 := Tryz.underlying99
  a24 := Tryz.isAgg99
  z24 := Tryz.sizeOf99
  v24 := Tryz.zeroValue99
  i24 := by kernel_rfl
  t25 := Tryz.underlying114
  a25 := Tryz.isAgg114
  z25 := Tryz.sizeOf114
  v25 := Tryz.zeroValue114
  i25 := by kernel_rfl
  t34 := Tryz.underlying178
  a34 := Tryz.isAgg178
  z34 := Tryz.sizeOf178
  v34 := Tryz.zeroValue178
  i34 := by kernel_rfl
  c34 := by kernel_rfl
  t36 := Tryz.underlying157
  a36 := Tryz.isAgg157
  z36 := Tryz.sizeOf157
  v36 := Tryz.zeroValue157
  i36 := by kernel_rfl
  t37 := Tryz.underlying95
  a37 := Tryz.isAgg95
  z37 := Tryz.sizeOf95
  v37 := Tryz.zeroValue95
  i37 := by kernel_rfl
  t39 := Tryz.underlying181
  a39 := Tryz.isAgg181
  z39 := Tryz.sizeOf181
  v39 := Tryz.zeroValue181
  i39 := by kernel_rfl
  t44 := Tryz.underlying197
  a44 := Tryz.isAgg197
  z44 := Tryz.sizeOf197
  v44 := Tryz.zeroValue197
  i44 := by kernel_rfl
  t47 := Tryz.underlying123
  a47 := Tryz.isAgg123
  z47 := Tryz.sizeOf123
  v47 := Tryz.zeroValue123
  i47 := by kernel_rfl
  t48 := Tryz.underlying204
  a48 := Tryz.isAgg204
  z48 := Tryz.sizeOf204
  v48 := Tryz.zeroValue204
  i48 := by kernel_rfl
  t50 := Tryz.underlying206
  a50 := Tryz.isAgg206
  z50 := Tryz.sizeOf206
  v50 := Tryz.zeroValue206
  i50 := by kernel_rfl
  t52 := Tryz.underlying118
  a52 := Tryz.isAgg118
  z52 := Tryz.sizeOf118
  v52 := Tryz.zeroValue118
  i52 := by kernel_rfl
  t55 := Tryz.underlying121
  a55 := Tryz.isAgg121
  z55 := Tryz.sizeOf121
  v55 := Tryz.zeroValue121
  i55 := by kernel_rfl
  t59 := Tryz.underlying154
  a59 := Tryz.isAgg154
  z59 := Tryz.sizeOf154
  v59 := Tryz.zeroValue154
  i59 := by kernel_rfl
  t60 := Tryz.underlying155
  a60 := Tryz.isAgg155
  z60 := Tryz.sizeOf155
  v60 := Tryz.zeroValue155
  i60 := by kernel_rfl
  t61 := Tryz.underlying156
  a61 := Tryz.isAgg156
  z61 := Tryz.sizeOf156
  t65 := Tryz.underlying199
  a65 := Tryz.isAgg199
  z65 := Tryz.sizeOf199
  v65 := Tryz.zeroValue199
  i65 := by kernel_rfl
  t66 := Tryz.underlying200
  a66 := Tryz.isAgg200
  z66 := Tryz.sizeOf200
  v66 := Tryz.zeroValue200
  i66 := by kernel_rfl
  t67 := Tryz.underlying102
  a67 := Tryz.isAgg102
  z67 := Tryz.sizeOf102
  v67 := Tryz.zeroValue102
  i67 := by kernel_rfl
  g0 := by kernel_rfl
  m0 := by kernel_rfl
  g1 := by kernel_rfl
  m1 := by kernel_rfl
  g2 := by kernel_rfl
  m2 := by kernel_rfl
  g3 := by kernel_rfl
  m3 := by kernel_rfl
  g4 := by kernel_rfl
  m4 := by kernel_rfl }
end Go.Proofs.YtfcnnolpcnacoaaGreatDoor.Fx

/- Lines of a journal as plain lists of bytes: how a record's line is told, and that a text begins with the line of one record at most; no function of the program is spoken of. -/
namespace Go.Proofs.YtfcnnolpcnacoaaGreatDoor.Fx
open Go.RowKit

/-! Numerals. -/

/-- A number's digits. -/
def dg (z : Int) : List UInt8 := Lib.decDigits z.toNat
theorem digit_toNat {u : Nat} (h : u < 10) : (UInt8.ofNat (48 + u)).toNat = 48 + u := by
  rw [UInt8.toNat_ofNat']; exact Nat.mod_eq_of_lt (by omega)
theorem dec_digit (u : Nat) : ∀ c ∈ Lib.decDigits u, 48 ≤ c.toNat ∧ c.toNat ≤ 57 := by
  induction u using Nat.strongRecOn with
  | _ u ih =>
    intro c hc
    rw [Lib.decDigits] at hc
    split at hc
    · rename_i h
      rw [List.mem_singleton] at hc
      rw [hc, digit_toNat h]; omega
    · rcases List.mem_append.1 hc with h | h
      · exact ih (u / 10) (by omega) c h
      · rw [List.mem_singleton] at h
        rw [h, digit_toNat (by omega)]; omega
theorem dec_ne (u : Nat) : Lib.decDigits u ≠ [] := by
  intro h
  have := congrArg List.length h
  rw [Lib.decDigits_length] at this
  have := Lib.nDigits_pos u
  simp at *
  omega
theorem dec_parse (u : Nat) (r : List UInt8) (h : u < 18446744073709551616) : Lib.parseUint10 0 (Lib.decDigits u ++ r) = Lib.parseUint10 u r := by
  induction u using Nat.strongRecOn generalizing r with
  | _ u ih =>
    rw [Lib.decDigits]
    split
    · rename_i h1
      rw [List.singleton_append, Lib.parseUint10, digit_toNat h1, if_pos (by omega), if_neg (by omega), if_neg (by omega)]
      congr 1; omega
    · rw [List.append_assoc, ih (u / 10) (by omega) _ (by omega), List.singleton_append, Lib.parseUint10, digit_toNat (by omega), if_pos (by omega), if_neg (by omega), if_neg (by omega)]
      congr 1; omega
theorem dec_parseB (u : Nat) (h : u < 18446744073709551616) : Lib.parseUintB 64 (Lib.decDigits u) = .ok u := by
  rw [Lib.parseUintB_64, Lib.parseMag, if_neg (dec_ne u)]
  have := dec_parse u [] h
  rw [List.append_nil] at this
  rw [this]; rfl
theorem dec_inj {u v : Nat} (hu : u < 18446744073709551616) (hv : v < 18446744073709551616) (h : Lib.decDigits u = Lib.decDigits v) : u = v := by
  have a := dec_parseB u hu
  rw [h, dec_parseB v hv] at a
  injection a with a
  exact a.symm
theorem dec_short {u k : Nat} (hk : 1 ≤ k) (h : u < 10 ^ k) : (Lib.decDigits u).length ≤ k := by
  rw [Lib.decDigits_length]
  induction k generalizing u with
  | zero => omega
  | succ k ih =>
    by_cases h1 : u < 10
    · rw [Lib.nDigits_small h1]; omega
    · rw [Lib.nDigits_big h1]
      by_cases hk0 : k = 0
      · subst hk0; simp at h; omega
      · have := @ih (u / 10) (by omega) (by rw [Nat.pow_succ] at h; omega)
        omega
theorem itoa_dg {z : Int} (h : 0 ≤ z) : Lib.itoa z = dg z := by rw [Lib.itoa, if_neg (by omega)]; rfl

/-! Words between bytes b. -/

/-- Words, each with a b behind it, and what is left. -/
def glue (b : UInt8) (ws : List (List UInt8)) (p : List UInt8) : List UInt8 := (ws.map (· ++ [b])).flatten ++ p
def psStep (b : UInt8) (x : List (List UInt8) × List UInt8) (c : UInt8) : List (List UInt8) × List UInt8 := if c = b then (x.1 ++ [x.2], []) else (x.1, x.2 ++ [c])
/-- A text's words. -/
def ps (b : UInt8) (l : List UInt8) : List (List UInt8) × List UInt8 := l.foldl (psStep b) ([], [])
theorem ps_snoc (b : UInt8) (l : List UInt8) (c : UInt8) : ps b (l ++ [c]) = psStep b (ps b l) c := by simp [ps]
theorem glue_snoc (b : UInt8) (ws : List (List UInt8)) (p : List UInt8) : glue b (ws ++ [p]) [] = glue b ws p ++ [b] := by simp [glue]
theorem ps_glue (b : UInt8) (l : List UInt8) : glue b (ps b l).1 (ps b l).2 = l := by
  suffices h : ∀ k, k ≤ l.length → glue b (ps b (l.take k)).1 (ps b (l.take k)).2 = l.take k by
    have := h l.length (Nat.le_refl _); rwa [List.take_length] at this
  intro k
  induction k with
  | zero => intro _; simp [ps, glue]
  | succ k ih =>
    intro hk
    rw [List.take_add_one, List.getElem?_eq_getElem (by omega), Option.toList_some, ps_snoc, psStep]
    split
    · rename_i h
      rw [glue_snoc, ih (by omega), h]
    · rw [show glue b (ps b (List.take k l)).1 ((ps b (List.take k l)).2 ++ [l[k]]) = glue b (ps b (List.take k l)).1 (ps b (List.take k l)).2 ++ [l[k]] by simp [glue], ih (by omega)]
theorem fold_in (b : UInt8) : ∀ (p : List UInt8) (x : List (List UInt8) × List UInt8), b ∉ p → p.foldl (psStep b) x = (x.1, x.2 ++ p)
  | [], x, _ => by simp
  | c :: p, x, h => by
    have hc : ¬ c = b := fun e => h (by simp [e])
    rw [List.foldl_cons, psStep, if_neg hc, fold_in b p _ (fun e => h (List.mem_cons_of_mem _ e))]
    simp
theorem fold_glue (b : UInt8) : ∀ (ws : List (List UInt8)) (p : List UInt8) (xs : List (List UInt8)), (∀ w ∈ ws, b ∉ w) → b ∉ p → (glue b ws p).foldl (psStep b) (xs, []) = (xs ++ ws, p)
  | [], p, xs, _, hp => by simp [glue, fold_in b p _ hp]
  | w :: ws, p, xs, hw, hp => by
    have e : glue b (w :: ws) p = w ++ (b :: glue b ws p) := by simp [glue]
    rw [e, List.foldl_append, fold_in b w _ (hw w (by simp)), List.foldl_cons, psStep, if_pos rfl]
    simp only [List.nil_append]
    rw [fold_glue b ws p _ (fun x hx => hw x (List.mem_cons_of_mem _ hx)) hp]
    simp
theorem ps_of_glue (b : UInt8) (ws : List (List UInt8)) (p : List UInt8) (hw : ∀ w ∈ ws, b ∉ w) (hp : b ∉ p) : ps b (glue b ws p) = (ws, p) := by
  rw [ps, fold_glue b ws p [] hw hp]; simp
theorem ps_in (b : UInt8) (l : List UInt8) : (∀ w ∈ (ps b l).1, b ∉ w) ∧ b ∉ (ps b l).2 := by
  suffices h : ∀ k, k ≤ l.length → (∀ w ∈ (ps b (l.take k)).1, b ∉ w) ∧ b ∉ (ps b (l.take k)).2 by
    have := h l.length (Nat.le_refl _); rwa [List.take_length] at this
  intro k
  induction k with
  | zero => intro _; simp [ps]
  | succ k ih =>
    intro hk
    obtain ⟨h1, h2⟩ := ih (by omega)
    rw [List.take_add_one, List.getElem?_eq_getElem (by omega), Option.toList_some, ps_snoc, psStep]
    split
    · refine ⟨fun w hw => ?_, by simp⟩
      rcases List.mem_append.1 hw with h | h
      · exact h1 w h
      · rw [List.mem_singleton] at h; rw [h]; exact h2
    · rename_i hne
      refine ⟨h1, fun hm => ?_⟩
      rcases List.mem_append.1 hm with h | h
      · exact h2 h
      · rw [List.mem_singleton] at h; exact hne h.symm
/-- The words as one list. -/
def wordsOf (b : UInt8) (l : List UInt8) : List (List UInt8) := (ps b l).1 ++ [(ps b l).2]
theorem join_glue (b : UInt8) : ∀ (ws : List (List UInt8)) (p : List UInt8), Lib.join (ws ++ [p]) [b] = glue b ws p
  | [], p => by simp [Lib.join_one, glue]
  | [w], p => by simp [Lib.join, List.intercalate, List.intersperse, glue]
  | w :: x :: ws, p => by
    have h := join_glue b (x :: ws) p
    rw [Lib.join, List.intercalate] at *
    simp only [List.cons_append, List.intersperse_cons_cons, List.flatten_cons] at *
    rw [h]; simp [glue]
theorem join_wordsOf (b : UInt8) (l : List UInt8) : Lib.join (wordsOf b l) [b] = l := by rw [wordsOf, join_glue, ps_glue]
theorem wordsOf_join (b : UInt8) (ws : List (List UInt8)) (hne : ws ≠ []) (hw : ∀ w ∈ ws, b ∉ w) : wordsOf b (Lib.join ws [b]) = ws := by
  have e := List.dropLast_concat_getLast hne
  rw [← e, join_glue, wordsOf, ps_of_glue b _ _ (fun w h => hw w (List.dropLast_subset _ h)) (hw _ (List.getLast_mem hne))]

/-! The library's searches for one byte. -/
theorem index_at (b : UInt8) : ∀ (w r : List UInt8), b ∉ w → Lib.index (w ++ b :: r) [b] = w.length
  | [], r, _ => by simp [Lib.index, List.isPrefixOf]
  | c :: w, r, h => by
    have hc : ¬ b = c := fun e => h (by simp [e])
    have ih := index_at b w r (fun e => h (List.mem_cons_of_mem _ e))
    rw [List.cons_append, Lib.index, ih]
    simp [List.isPrefixOf, hc]
theorem index_not (b : UInt8) : ∀ (w : List UInt8), b ∉ w → Lib.index w [b] = -1
  | [], _ => by simp [Lib.index]
  | c :: w, h => by
    have hc : ¬ b = c := fun e => h (by simp [e])
    rw [Lib.index, index_not b w (fun e => h (List.mem_cons_of_mem _ e))]
    simp [List.isPrefixOf, hc]
theorem cut_at (b : UInt8) (w r : List UInt8) (h : b ∉ w) : Lib.cut (w ++ b :: r) [b] = (w, r, true) := by
  rw [Lib.cut, index_at b w r h, if_pos (by omega)]
  simp
theorem cut_not (b : UInt8) (w : List UInt8) (h : b ∉ w) : Lib.cut w [b] = (w, [], false) := by
  rw [Lib.cut, index_not b w h, if_neg (by omega)]
theorem first_at {b : UInt8} {s : List UInt8} (h : b ∈ s) : ∃ w r, s = w ++ b :: r ∧ b ∉ w := by
  induction s with
  | nil => simp at h
  | cons c s ih =>
    by_cases hc : c = b
    · exact ⟨[], s, by simp [hc], by simp⟩
    · obtain ⟨w, r, e, hw⟩ := ih ((List.mem_cons.1 h).resolve_left fun e => hc e.symm)
      refine ⟨c :: w, r, by simp [e], fun hm => ?_⟩
      rcases List.mem_cons.1 hm with h | h
      · exact hc h.symm
      · exact hw h
theorem split_glue (b : UInt8) : ∀ (ws : List (List UInt8)) (p : List UInt8), (∀ w ∈ ws, b ∉ w) → b ∉ p → Lib.splitK [b] 0 (Lib.count (glue b ws p) [b]) (glue b ws p) = ws ++ [p]
  | [], p, _, hp => by
    rw [Lib.count_one, show glue b [] p = p by simp [glue], List.count_eq_zero_of_not_mem hp]
    rfl
  | w :: ws, p, hw, hp => by
    have e : glue b (w :: ws) p = w ++ (b :: glue b ws p) := by simp [glue]
    have ih := split_glue b ws p (fun x hx => hw x (List.mem_cons_of_mem _ hx)) hp
    rw [Lib.count_one] at *
    have hc : List.count b (glue b (w :: ws) p) = List.count b (glue b ws p) + 1 := by
      rw [e, List.count_append, List.count_eq_zero_of_not_mem (hw w (by simp))]; simp
    rw [hc, Lib.splitK, e, index_at b w _ (hw w (by simp)), if_neg (by simp)]
    simp only [Int.toNat_natCast, Nat.add_zero, List.length_singleton, List.take_left', List.cons_append]
    rw [show List.drop (w.length + 1) (w ++ b :: glue b ws p) = glue b ws p by simp [List.drop_append], ih]
theorem split_words (b : UInt8) (l : List UInt8) : Lib.splitK [b] 0 (Lib.count l [b]) l = wordsOf b l := by
  have h := split_glue b (ps b l).1 (ps b l).2 (ps_in b l).1 (ps_in b l).2
  rw [ps_glue] at h
  exact h

/-! Lines. -/

/-- A record that may be told, as plain numbers: Step, Rate, Root, Chain, Batch. -/
structure Ln where
  s : Int
  r : Int
  root : Int
  chain : Int
  b : List Int
structure Ln.ok (l : Ln) : Prop where
  s : 0 ≤ l.s ∧ l.s ≤ 99
  r : 0 ≤ l.r ∧ l.r ≤ 2147483647
  root : 0 ≤ l.root ∧ l.root < 2305843009213693951
  chain : 0 ≤ l.chain ∧ l.chain < 2305843009213693951
  n : l.b.length ≤ 8
  b : ∀ z ∈ l.b, 0 ≤ z ∧ z ≤ 99
def Ln.nums (l : Ln) : List Int := [l.s, l.r, l.root, l.chain] ++ l.b
def Ln.words (l : Ln) : List (List UInt8) := l.nums.map dg
def Ln.line (l : Ln) : List UInt8 := Lib.join l.words [32]
def Ln.text (l : Ln) : List UInt8 := l.line ++ [10]
theorem dg_in (z : Int) : (32 : UInt8) ∉ dg z ∧ (10 : UInt8) ∉ dg z := by
  constructor <;> intro h <;> have := dec_digit _ _ h <;> revert this <;> decide
theorem Ln.words_ne (l : Ln) : l.words ≠ [] := by simp [Ln.words, Ln.nums]
theorem Ln.words_len (l : Ln) : l.words.length = l.b.length + 4 := by simp [Ln.words, Ln.nums]
theorem Ln.wordsOf (l : Ln) : Fx.wordsOf 32 l.line = l.words :=
  wordsOf_join 32 _ l.words_ne (fun w h => by
    obtain ⟨z, _, rfl⟩ := List.mem_map.1 h
    exact (dg_in z).1)
theorem join_not (b c : UInt8) (hbc : c ≠ b) (ws : List (List UInt8)) (h : ∀ w ∈ ws, c ∉ w) : c ∉ Lib.join ws [b] := by
  intro hm
  rw [Lib.join, List.intercalate] at hm
  obtain ⟨x, hx, hc⟩ := List.mem_flatten.1 hm
  induction ws with
  | nil => simp at hx
  | cons w ws ih =>
    cases ws with
    | nil => simp at hx; subst hx; exact h _ (by simp) hc
    | cons y ys =>
      rw [List.intersperse_cons_cons] at hx
      rcases List.mem_cons.1 hx with e | hx
      · subst e; exact h _ (by simp) hc
      · rcases List.mem_cons.1 hx with e | hx
        · subst e; rw [List.mem_singleton] at hc; exact hbc hc
        · refine ih (fun w hw => h w (List.mem_cons_of_mem _ hw)) ?_ hx
          exact List.mem_flatten.2 ⟨x, hx, hc⟩
theorem Ln.line_not (l : Ln) : (10 : UInt8) ∉ l.line :=
  join_not 32 10 (by decide) _ (fun w h => by
    obtain ⟨z, _, rfl⟩ := List.mem_map.1 h
    exact (dg_in z).2)
theorem Ln.ok.nums {l : Ln} (h : l.ok) : ∀ z ∈ l.nums, 0 ≤ z ∧ z < 2305843009213693951 := by
  intro z hz
  simp only [Ln.nums, List.cons_append, List.nil_append, List.mem_cons] at hz
  have := h.s; have := h.r; have := h.root; have := h.chain
  rcases hz with rfl | rfl | rfl | rfl | hz
  · omega
  · omega
  · omega
  · omega
  · have := h.b z hz; omega
theorem dg_inj {y z : Int} (hy : 0 ≤ y ∧ y < 2305843009213693951) (hz : 0 ≤ z ∧ z < 2305843009213693951) (h : dg y = dg z) : y = z := by
  have := dec_inj (by omega) (by omega) h
  omega
theorem map_dg_inj : ∀ {xs ys : List Int}, (∀ z ∈ xs, 0 ≤ z ∧ z < 2305843009213693951) → (∀ z ∈ ys, 0 ≤ z ∧ z < 2305843009213693951) → xs.map dg = ys.map dg → xs = ys
  | [], [], _, _, _ => rfl
  | [], _ :: _, _, _, h => by simp at h
  | _ :: _, [], _, _, h => by simp at h
  | x :: xs, y :: ys, hx, hy, h => by
    simp only [List.map_cons, List.cons.injEq] at h
    rw [dg_inj (hx x (by simp)) (hy y (by simp)) h.1, map_dg_inj (fun z hz => hx z (List.mem_cons_of_mem _ hz)) (fun z hz => hy z (List.mem_cons_of_mem _ hz)) h.2]
theorem Ln.nums_inj {l m : Ln} (h : l.nums = m.nums) : l = m := by
  cases l; cases m
  simp only [Ln.nums, List.cons_append, List.nil_append, List.cons.injEq] at h
  obtain ⟨rfl, rfl, rfl, rfl, rfl⟩ := h
  rfl
/-- A text begins with a record's line. -/
def IsLine (s : List UInt8) (l : Ln) : Prop := l.ok ∧ l.text <+: s
theorem first_eq {b : UInt8} {s w v : List UInt8} (hw : b ∉ w) (hv : b ∉ v) (h1 : w ++ [b] <+: s) (h2 : v ++ [b] <+: s) : w = v := by
  obtain ⟨r, rfl⟩ := h1
  obtain ⟨t, e⟩ := h2
  have a := index_at b w r hw
  have c := index_at b v t hv
  rw [List.append_assoc, List.singleton_append] at e
  rw [List.append_assoc, List.singleton_append] at e
  rw [e, a] at c
  have hl : w.length = v.length := by omega
  exact ((List.append_inj e hl.symm).1).symm
theorem line_unique {s w : List UInt8} {l : Ln} (h : IsLine s l) (hw : (10 : UInt8) ∉ w) (h1 : w ++ [10] <+: s) : l.line = w := first_eq l.line_not hw h.2 h1
theorem IsLine.unique {s : List UInt8} {l m : Ln} (h : IsLine s l) (k : IsLine s m) : l = m := by
  have e : l.line = m.line := first_eq l.line_not m.line_not h.2 k.2
  have e2 : l.words = m.words := by rw [← l.wordsOf, ← m.wordsOf, e]
  exact Ln.nums_inj (map_dg_inj h.1.nums k.1.nums e2)
theorem dg_short {z : Int} {k : Nat} (hk : 1 ≤ k) (h0 : 0 ≤ z) (h : z < (10 ^ k : Nat)) : (dg z).length ≤ k := dec_short hk (by omega)
theorem lens_small : ∀ (b : List Int), (∀ z ∈ b, 0 ≤ z ∧ z ≤ 99) → Lib.lens (b.map dg) ≤ 2 * b.length
  | [], _ => by simp [Lib.lens]
  | z :: b, h => by
    have := lens_small b (fun x hx => h x (List.mem_cons_of_mem _ hx))
    have h2 := dg_short (z := z) (k := 2) (by omega) (h z (by simp)).1 (by have := (h z (by simp)).2; omega)
    simp only [List.map_cons, List.length_cons]
    rw [show Lib.lens (dg z :: b.map dg) = (dg z).length + Lib.lens (b.map dg) by simp [Lib.lens]]
    omega
theorem Ln.ok.short {l : Ln} (h : l.ok) : l.text.length ≤ 78 := by
  have h1 := dg_short (z := l.s) (k := 2) (by omega) h.s.1 (by have := h.s.2; omega)
  have h2 := dg_short (z := l.r) (k := 10) (by omega) h.r.1 (by have := h.r.2; omega)
  have h3 := dg_short (z := l.root) (k := 19) (by omega) h.root.1 (by have := h.root.2; omega)
  have h4 := dg_short (z := l.chain) (k := 19) (by omega) h.chain.1 (by have := h.chain.2; omega)
  have h5 := lens_small l.b h.b
  have := h.n
  have e : l.line.length = 1 * (l.b.length + 3) + ((dg l.s).length + ((dg l.r).length + ((dg l.root).length + ((dg l.chain).length + Lib.lens (l.b.map dg))))) := by
    rw [Ln.line, Ln.words, Ln.nums]
    simp only [List.cons_append, List.nil_append, List.map_cons]
    rw [Lib.join_length]
    simp [Lib.lens]
  rw [Ln.text, List.length_append, e]
  simp
  omega
theorem IsLine.take {s : List UInt8} {l : Ln} (h : IsLine s l) {k : Nat} (hk : 78 ≤ k) : l.text <+: s.take k :=
  List.prefix_take_iff.2 ⟨h.2, Nat.le_trans h.1.short hk⟩
theorem text_ne (l : Ln) : 1 ≤ l.text.length := by simp [Ln.text]
end Go.Proofs.YtfcnnolpcnacoaaGreatDoor.Fx
