/- What store.read makes of a line's words. -/
import Derived.Test.YtfcnnolpcnacoaaGreatDoorJ40
namespace Go.Proofs.YtfcnnolpcnacoaaGreatDoor.Fx
open Go.RowKit

/-- The number that a word tells, if it tells one. -/
def pv (ws : List (List UInt8)) (i : Nat) : Int := match Lib.parseUintB 64 (ws.getD i []) with
  | .ok u => (u : Int)
  | _ => 0
def WOk (ws : List (List UInt8)) (i : Nat) : Prop := ∃ u : Nat, Lib.parseUintB 64 (ws.getD i []) = .ok u
theorem pv_of {ws : List (List UInt8)} {i u : Nat} (h : Lib.parseUintB 64 (ws.getD i []) = .ok u) : pv ws i = (u : Int) := by unfold pv; rw [h]
theorem pv_range {ws : List (List UInt8)} {i : Nat} : 0 ≤ pv ws i ∧ pv ws i < 18446744073709551616 := by
  unfold pv
  cases h : Lib.parseUintB 64 (ws.getD i []) with
  | ok u => have := Lib.parseUintB_le h; simp only; omega
  | «syntax» => simp only; omega
  | range => simp only; omega
/-- The record that is made of words. -/
def readLn (ws : List (List UInt8)) : Ln := ⟨IntKind.i64.wrap (pv ws 0), IntKind.i64.wrap (pv ws 1), pv ws 2, pv ws 3, (List.range (ws.length - 4)).map fun i => IntKind.i64.wrap (pv ws (4 + i))⟩
def zeroR : Rcm := ⟨0, none, 0, 0, 0, 0, 0⟩
def ReadR (ws : List (List UInt8)) (w : World) (e : Ending) (w' : World) : Prop :=
  (4 ≤ ws.length ∧ (∀ i, i < ws.length → WOk ws i) ∧ ∃ x : Rcm, x.ln (readLn ws).b = readLn ws ∧ e = .returned (.tuple #[x.val, .bool true]) ∧ Lst w' x.a x.n x.k (readLn ws).b ∧ ∀ bb oo, x.a = some ⟨bb, oo, none⟩ → w.heap.size ≤ bb) ∨ ((ws.length < 4 ∨ ∃ i, i < ws.length ∧ ¬ WOk ws i) ∧ e = .returned (.tuple #[zeroR.val, .bool false]))
theorem fn5_set1 {w : World} {b t : Nat} {v0 v1 v2 v3 v4 : Value} (h : w.rowIs b t 5 (fn5 v0 v1 v2 v3 v4)) (v : Value) : (w.setCell ⟨b, 1, none⟩ v).rowIs b t 5 (fn5 v0 v v2 v3 v4) := by
  refine (h.set 1 v).congr (fun i hi => ?_)
  rcases lt5 hi with rfl | rfl | rfl | rfl | rfl <;> rfl
theorem fn5_ret {w : World} {b t : Nat} {v0 v1 v2 v3 v4 : Value} (h : w.rowIs b t 5 (fn5 v0 v1 v2 v3 v4)) : w.cell? ⟨b, 0, none⟩ = some v0 ∧ w.cell? ⟨b, 1, none⟩ = some v1 ∧ w.cell? ⟨b, 2, none⟩ = some v2 ∧ w.cell? ⟨b, 3, none⟩ = some v3 ∧ w.cell? ⟨b, 4, none⟩ = some v4 :=
  ⟨(fn5_box h).c0, (fn5_box h).c1, (fn5_box h).c2, (fn5_box h).c3, (fn5_box h).c4⟩

theorem alS {B : Nat} {W q : World} (h : Below B W q) (hB : B ≤ W.heap.size) {o : Obj} : Below B W (q.alloc o) := h.alloc (Nat.le_trans hB h.size) o
theorem setS {Bd : Nat} {W q : World} (h : Below Bd W q) {b i : Nat} (hb : Bd ≤ b) {v : Value} : Below Bd W (q.setCell ⟨b, i, none⟩ v) := h.setCell hb v
/-- While words are read: the answer's cells, the numbers so far, what was there. -/
structure RdSt (w : World) (n : Nat) (ws : List (List UInt8)) (k : Nat) (wr : World) : Prop where
  res : wr.rowIs w.heap.size 40 5 (fn5 (.int .i64 0) (.slice none 0 0) (.int .i64 0) (.int .u64 0) (.int .u64 0))
  nums : wr.rowIs (w.heap.size + 1) 22 n (rowToW (pv ws) k)
  old : Below w.heap.size w wr
theorem RdSt.below {w wr w2 : World} {n k : Nat} {ws : List (List UInt8)} (h : RdSt w n ws k wr) (hb : Below wr.heap.size wr w2) : RdSt w n ws k w2 :=
  ⟨h.res.of_block (hb.block _ h.res.lt), h.nums.of_block (hb.block _ h.nums.lt), h.old.trans (hb.mono h.old.size)⟩
theorem RdSt.step {w wr : World} {n k : Nat} {ws : List (List UInt8)} {x : Int} (h : RdSt w n ws k wr) (hx : pv ws k = x) : RdSt w n ws (k + 1) (wr.setCell ⟨w.heap.size + 1, k, none⟩ (.int .u64 x)) := by
  subst hx
  exact ⟨h.res.setOther (by simp) _, rowToW_step h.nums, h.old.setCell (Nat.le_succ _) _⟩
/-- While the batch is made. -/
structure RdBt (w : World) (n : Nat) (ws : List (List UInt8)) (g : Nat) (s r root chain : Int) (v : Value) (q : Nat) (wr : World) : Prop where
  st : RdSt w n ws n wr
  box : wr.rowIs g 40 5 (fn5 (.int .i64 s) v (.int .i64 r) (.int .u64 root) (.int .u64 chain))
  own : OwnX 3 (g + 1) wr v (((List.range q).map fun i => IntKind.i64.wrap (pv ws (4 + i))).map (Value.int .i64))
  gt : w.heap.size + 1 < g

set_option maxRecDepth 100000 in
set_option maxHeartbeats 6400000 in
theorem read_calls (a : Option Addr) (n c : Nat) (ws : List (List UInt8)) (w : World) (hl : LstS w a n c ws) (hn : n ≤ 1000) (hw : ∀ i, i < n → (ws.getD i []).length ≤ 1000) (hL : LD w) :
    Calls Tryz.prog 52 #[.slice a n c] w fun e w' => ReadR ws w e w' ∧ Below w.heap.size w w' := by
  have HN : Hid (ws.length = n) := hl.len
  have HW : Hid (∀ i, i < n → (ws.getD i []).length ≤ 1000) := hw
  have hal := (Below.refl w.heap.size w).alloc (Nat.le_refl _) (.cells #[.int .i64 0, .slice none 0 0, .int .i64 0, .int .u64 0, .int .u64 0] 40)
  have R0 := fn5_alloc w (.int .i64 0) (.slice none 0 0) (.int .i64 0) (.int .u64 0) (.int .u64 0) 40
  clear hw
  by_cases h4 : n < 4
  · have f0 := R0.frozen 0
    go_enter Tryz.func52, Tryz.ntmps52
    go_wp2
    obtain ⟨e0, e1, e2, e3, e4⟩ := fn5_ret R0
    exact bodyPost_ret (v := .tuple #[.agg #[.int .i64 0, .slice none 0 0, .int .i64 0, .int .u64 0, .int .u64 0], .bool false]) (by simp [results, Tryz.results52, go_sem, e0, e1, e2, e3, e4]) rfl ⟨.inr ⟨.inl (by rw [HN.out]; exact h4), rfl⟩, hal⟩
  · have hmk := run_make_row' (P := Tryz.prog) 82 22 (.int .u64 0) 8 Tryz.underlying82 infoWordX rfl .i64 .i64 n (by omega) (by omega)
    have R1 : RdSt w n ws 0 ((w.alloc (.cells #[.int .i64 0, .slice none 0 0, .int .i64 0, .int .u64 0, .int .u64 0] 40)).alloc (.cells (madeCells #[.int .u64 0] n) 22)) :=
      ⟨R0.alloc _, rowToW_made (by have h := World.rowIs_made (w.alloc (.cells #[.int .i64 0, .slice none 0 0, .int .i64 0, .int .u64 0, .int .u64 0] 40)) (.int .u64 0) n 22; simpa using h), hal.alloc (by simp) _⟩
    clear hal R0
    go_enter Tryz.func52, Tryz.ntmps52
    go_wp2
    go_loopw [21] (fun i wr => ∃ k : Nat, k ≤ n ∧ i = .int .i64 k ∧ Hid (∀ j, j < k → WOk ws j) ∧ RdSt w n ws k wr) (fun i _ => n - (intOf i).toNat)
    case atStart => exact ⟨0, Nat.zero_le _, rfl, fun j hj => by omega, by simpa using R1⟩
    case round =>
      obtain ⟨k, hk, rfl, HG, R⟩ := hrel
      by_cases hlt : k < n
      · obtain ⟨b1, o1, rfl, g1, c1⟩ := hl.at1b R.old (Nat.le_refl _) hlt
        have hx := HW.out k hlt
        have LR := hL.below R.old (Nat.le_refl _)
        have HU := Lib.hid (uint_calls (ws.getD k []) (by omega) wr LR)
        obtain ⟨X, HX⟩ : ∃ X : ByteArray, Hid ((⟨(ws.getD k []).toArray⟩ : ByteArray) = X) := ⟨_, rfl⟩
        rw [HX.out] at c1 HU
        go_wp2_with fail
        refine HU.out.mono ?_
        rintro e w2 ⟨hu, hw2⟩
        have R2 := R.below hw2
        rcases hu with ⟨u, hu1, hu2, rfl⟩ | ⟨hu1, v, t, p, rfl⟩
        · have d3 := rowToW_cell R2.nums hlt
          have z3 := R2.nums.frozen k
          have HS := Lib.hid (R2.step (pv_of hu1))
          have HG2 : Hid (∀ j, j < k + 1 → WOk ws j) := fun j hj => by
            by_cases e : j = k
            · subst e; exact ⟨u, hu1⟩
            · exact HG.out j (by omega)
          clear hu1 hx
          go_wp2
          go_roundw
          case rel => exact ⟨k + 1, by omega, by go_num, HG2, HS.out⟩
          case measure => simp [intOf]; omega
        · have HE : Hid (∃ i, i < ws.length ∧ ¬ WOk ws i) := ⟨k, by rw [HN.out]; exact hlt, fun ⟨u, h⟩ => hu1 u h⟩
          clear hu1 hx
          obtain ⟨d0, d1, d2, d3, d4⟩ := fn5_ret R2.res
          have f0 := R2.res.frozen 0
          have f1 := R2.res.frozen 1
          have f2 := R2.res.frozen 2
          have f3 := R2.res.frozen 3
          have f4 := R2.res.frozen 4
          go_wp2
          have R3 := fn5_set R2.res (.int .i64 0) (.slice none 0 0) (.int .i64 0) (.int .u64 0) (.int .u64 0)
          obtain ⟨e0, e1, e2, e3, e4⟩ := fn5_ret R3
          exact bodyPost_ret (v := .tuple #[.agg #[.int .i64 0, .slice none 0 0, .int .i64 0, .int .u64 0, .int .u64 0], .bool false]) (by simp [results, Tryz.results52, go_sem, e0, e1, e2, e3, e4]) rfl ⟨.inr ⟨.inr HE.out, rfl⟩, below_set5 R2.old (Nat.le_refl _) _ _ _ _ _⟩
      · obtain rfl : k = n := by omega
        have LW := rowToW_lst R.nums
        obtain ⟨p0, HP0⟩ : ∃ p, Hid (pv ws 0 = p) := ⟨_, rfl⟩
        obtain ⟨p1, HP1⟩ : ∃ p, Hid (pv ws 1 = p) := ⟨_, rfl⟩
        obtain ⟨p2, HP2⟩ : ∃ p, Hid (pv ws 2 = p) := ⟨_, rfl⟩
        obtain ⟨p3, HP3⟩ : ∃ p, Hid (pv ws 3 = p) := ⟨_, rfl⟩
        have c0 : wr.cell? ⟨w.heap.size + 1, 0, none⟩ = some (.int .u64 p0) := by rw [R.nums.cell (by omega), rowToW, if_pos (by omega), HP0.out]
        have c1 : wr.cell? ⟨w.heap.size + 1, 1, none⟩ = some (.int .u64 p1) := by rw [R.nums.cell (by omega), rowToW, if_pos (by omega), HP1.out]
        have c2 : wr.cell? ⟨w.heap.size + 1, 2, none⟩ = some (.int .u64 p2) := by rw [R.nums.cell (by omega), rowToW, if_pos (by omega), HP2.out]
        have c3 : wr.cell? ⟨w.heap.size + 1, 3, none⟩ = some (.int .u64 p3) := by rw [R.nums.cell (by omega), rowToW, if_pos (by omega), HP3.out]
        have m0 : 0 < k := by omega
        obtain ⟨P0, HQ0⟩ : ∃ p, Hid (IntKind.i64.wrap p0 = p) := ⟨_, rfl⟩
        obtain ⟨P1, HQ1⟩ : ∃ p, Hid (IntKind.i64.wrap p1 = p) := ⟨_, rfl⟩
        have y0 : IntKind.i64.wrap p0 = P0 := HQ0.out
        have y1 : IntKind.i64.wrap p1 = P1 := HQ1.out
        have y2 : wrap64 p0 = P0 := by rw [← HQ0.out, IntKind.wrap_i64, wrap64]
        have y3 : wrap64 p1 = P1 := by rw [← HQ1.out, IntKind.wrap_i64, wrap64]
        have n0 : (0 : Int) < (k : Int) := by omega
        have n1 : (1 : Int) < (k : Int) := by omega
        have n2 : (2 : Int) < (k : Int) := by omega
        have n3 : (3 : Int) < (k : Int) := by omega
        have T0 : Below wr.heap.size wr wr := Below.refl _ _
        have hle : wr.heap.size ≤ wr.heap.size := Nat.le_refl _
        have KS : Hid (∀ q, Below wr.heap.size wr q → q.cell? ⟨w.heap.size + 1, 0, none⟩ = some (.int .u64 p0) ∧ q.cell? ⟨w.heap.size + 1, 1, none⟩ = some (.int .u64 p1) ∧ q.cell? ⟨w.heap.size + 1, 2, none⟩ = some (.int .u64 p2) ∧ q.cell? ⟨w.heap.size + 1, 3, none⟩ = some (.int .u64 p3)) := fun q hq => ⟨(hq.cell (p := ⟨w.heap.size + 1, 0, none⟩) R.nums.lt).trans c0, (hq.cell (p := ⟨w.heap.size + 1, 1, none⟩) R.nums.lt).trans c1, (hq.cell (p := ⟨w.heap.size + 1, 2, none⟩) R.nums.lt).trans c2, (hq.cell (p := ⟨w.heap.size + 1, 3, none⟩) R.nums.lt).trans c3⟩
        clear c0 c1 c2 c3
        go_wp2
        go_region_held3 (fun q => q.cell? ⟨w.heap.size + 1, 0, none⟩ = some (.int .u64 p0) ∧ q.cell? ⟨w.heap.size + 1, 1, none⟩ = some (.int .u64 p1) ∧ q.cell? ⟨w.heap.size + 1, 2, none⟩ = some (.int .u64 p2) ∧ q.cell? ⟨w.heap.size + 1, 3, none⟩ = some (.int .u64 p3)) ((with_reducible refine KS.out _ ?_; iterate 12 (first | done | with_reducible exact T0 | with_reducible refine Below.drew ?_ | with_reducible refine alS ?_ hle | (with_reducible refine setS ?_ ?_; rotate_left; omega)))) (fail)
        have TW : Below wr.heap.size wr (wr.alloc (.cells #[.int .i64 P0, .slice none 0 0, .int .i64 P1, .int .u64 p2, .int .u64 p3] 40)).drew := Below.drew (T0.alloc hle _)
        have RB : RdBt w k ws wr.heap.size P0 P1 p2 p3 (.slice none 0 0) 0 (wr.alloc (.cells #[.int .i64 P0, .slice none 0 0, .int .i64 P1, .int .u64 p2, .int .u64 p3] 40)).drew :=
          ⟨R.below TW, fn5_alloc wr (.int .i64 P0) (.slice none 0 0) (.int .i64 P1) (.int .u64 p2) (.int .u64 p3) 40, OwnX.nil _ _ _, R.nums.lt⟩
        generalize hWn : (wr.alloc (.cells #[.int .i64 P0, .slice none 0 0, .int .i64 P1, .int .u64 p2, .int .u64 p3] 40)).drew = Wn at *
        clear hWn T0 hle KS y0 y1 y2 y3 m0 n0 n1 n2 n3 R TW
        generalize hg9 : wr.heap.size = g9 at *
        clear hg9
        obtain ⟨m, hk4⟩ : ∃ m, k - 4 = m := ⟨_, rfl⟩
        have HM : Hid (k = m + 4) := by show _ = _; omega
        have HF : Hid (∀ v q, RdBt w k ws g9 P0 P1 p2 p3 v m q → ∃ a c, v = .slice a m c ∧ Lst q a m c (readLn ws).b ∧ ∀ bb oo, a = some ⟨bb, oo, none⟩ → g9 < bb) := fun v q h => by
          obtain ⟨a, c, e, l, hb9⟩ := h.own.intsB
          have hb : (readLn ws).b = (List.range m).map fun i => IntKind.i64.wrap (pv ws (4 + i)) := by
            show (List.range (ws.length - 4)).map _ = _
            rw [HN.out, hk4]
          rw [List.length_map, List.length_range] at e l
          exact ⟨a, c, e, by rw [hb]; exact l, hb9⟩
        by_cases hm : m = 0
        · obtain rfl : m = 0 := hm
          have hm2 : k = 4 := by have := HM.out; omega
          subst hm2
          go_wp2
          go_loopw [57] (fun i wr => ∃ (q : Nat) (v : Value), q ≤ 0 ∧ i = .int .i64 q ∧ RdBt w 4 ws g9 P0 P1 p2 p3 v q wr) (fun i _ => 0 - (intOf i).toNat)
          case atStart => exact ⟨0, _, Nat.zero_le _, rfl, RB⟩
          case round =>
            obtain ⟨q, v, hq, rfl, R⟩ := hrel
            obtain rfl : q = 0 := by omega
            obtain ⟨av, cv, rfl, LB, LBb⟩ := HF.out _ _ R
            have HLB := Lib.hid LBb
            clear LBb
            have hgt := R.gt
            obtain ⟨d0, d1, d2, d3, d4⟩ := fn5_ret R.box
            obtain ⟨x0, x1, x2, x3, x4⟩ := fn5_ret R.st.res
            have f0 := R.st.res.frozen 0
            have f1 := R.st.res.frozen 1
            have f2 := R.st.res.frozen 2
            have f3 := R.st.res.frozen 3
            have f4 := R.st.res.frozen 4
            go_wp2
            have R3 := fn5_set R.st.res (.int .i64 P0) (.slice av 0 cv) (.int .i64 P1) (.int .u64 p2) (.int .u64 p3)
            obtain ⟨e0, e1, e2, e3, e4⟩ := fn5_ret R3
            have LB2 : Lst (((((wr.setCell ⟨w.heap.size, 0, none⟩ (.int .i64 P0)).setCell ⟨w.heap.size, 1, none⟩ (.slice av 0 cv)).setCell ⟨w.heap.size, 2, none⟩ (.int .i64 P1)).setCell ⟨w.heap.size, 3, none⟩ (.int .u64 p2)).setCell ⟨w.heap.size, 4, none⟩ (.int .u64 p3)) av 0 cv (readLn ws).b := by
              obtain ⟨l1, l2, l3⟩ := LB
              refine ⟨l1, l2, l3.imp id ?_⟩
              rintro ⟨bb, oo, rfl, hs, hc⟩
              refine ⟨bb, oo, rfl, by simpa only [World.size_setCell] using hs, fun i hi => ?_⟩
              have hne : bb ≠ w.heap.size := by have := HLB.out bb oo rfl; omega
              have hne2 : ∀ o, (⟨w.heap.size, o, none⟩ : Addr) ≠ ⟨bb, oo + i, none⟩ := fun o e => by injection e with e; exact hne e.symm
              rw [World.cell?_setCell_other _ _ _ _ (hne2 _), World.cell?_setCell_other _ _ _ _ (hne2 _), World.cell?_setCell_other _ _ _ _ (hne2 _), World.cell?_setCell_other _ _ _ _ (hne2 _), World.cell?_setCell_other _ _ _ _ (hne2 _)]
              exact hc i hi
            refine bodyPost_ret (v := .tuple #[.agg #[.int .i64 P0, .slice av 0 cv, .int .i64 P1, .int .u64 p2, .int .u64 p3], .bool true]) (by simp [results, Tryz.results52, go_sem, e0, e1, e2, e3, e4]) rfl ⟨.inl ⟨by rw [HN.out]; have := HM.out; omega, fun i hi => HG.out i (by rw [HN.out] at hi; exact hi), ⟨P0, av, 0, cv, P1, p2, p3⟩, ?_, rfl, LB2, fun bb oo e => by have := HLB.out bb oo e; omega⟩, below_set5 R.st.old (Nat.le_refl _) _ _ _ _ _⟩
            simp only [Rcm.ln, readLn, HP0.out, HP1.out, HP2.out, HP3.out, HQ0.out, HQ1.out]
        · have hm1 : (4 : Int) ≤ (k : Int) := by omega
          have hm2 : ¬ k = 4 := by omega
          go_wp2
          go_loopw [57] (fun i wr => ∃ (q : Nat) (v : Value), q ≤ m ∧ i = .int .i64 q ∧ RdBt w k ws g9 P0 P1 p2 p3 v q wr) (fun i _ => m - (intOf i).toNat)
          case atStart => exact ⟨0, _, Nat.zero_le _, rfl, RB⟩
          case round =>
            obtain ⟨q, v, hq, rfl, R⟩ := hrel
            by_cases hlt : q < m
            · obtain ⟨z, HZ⟩ : ∃ z, Hid (pv ws (4 + q) = z) := ⟨_, rfl⟩
              obtain ⟨Z, HZZ⟩ : ∃ Z, Hid (IntKind.i64.wrap z = Z) := ⟨_, rfl⟩
              have c1 : wr.cell? ⟨w.heap.size + 1, 4 + q, none⟩ = some (.int .u64 z) := by rw [R.st.nums.cell (by have := HM.out; omega), rowToW, if_pos (by have := HM.out; omega), HZ.out]
              have y0 : IntKind.i64.wrap z = Z := HZZ.out
              have y1 : wrap64 z = Z := by rw [← HZZ.out, IntKind.wrap_i64, wrap64]
              obtain ⟨d0, d1, d2, d3, d4⟩ := fn5_ret R.box
              have hal : Below wr.heap.size wr (wr.alloc (.cells #[.int .i64 Z] 3)) := (Below.refl _ _).alloc (Nat.le_refl _) _
              have O1 := R.own.below hal
              have hBs : g9 + 1 ≤ (wr.alloc (.cells #[.int .i64 Z] 3)).heap.size := Nat.le_trans R.box.lt hal.size
              have hB1 : Below (g9 + 1) wr (wr.alloc (.cells #[.int .i64 Z] 3)) := hal.mono R.box.lt
              have HR : Hid (((List.range q).map fun i => IntKind.i64.wrap (pv ws (4 + i))).map (Value.int .i64) ++ [.int .i64 Z] = ((List.range (q + 1)).map fun i => IntKind.i64.wrap (pv ws (4 + i))).map (Value.int .i64)) := by
                show _ = _
                rw [List.range_succ, List.map_append, List.map_append, List.map_singleton, List.map_singleton, HZ.out, HZZ.out]
              have HL : Hid (((List.range q).map fun i => IntKind.i64.wrap (pv ws (4 + i))).map (Value.int .i64) = ((List.range q).map fun i => IntKind.i64.wrap (pv ws (4 + i))).map (Value.int .i64)) := rfl
              generalize hVS : ((List.range q).map fun i => IntKind.i64.wrap (pv ws (4 + i))).map (Value.int .i64) = VS at *
              have hvl : VS.length = q := by rw [← hVS]; simp
              have HVS := Lib.hid hVS
              clear hVS HL
              go_wp2_with (at_builtin; refine wpList_append_x Tryz.underlying26 infoIntX rfl (by decide) (by rfl) _ _ (by rfl) (g9 + 1) _ VS (.int .i64 Z) wr.heap.size wr (by rfl) (by rfl) (by exact O1) (by exact cell_new _ _ _) (by rfl) (by rw [hvl]; omega) (by exact hBs) (by exact hB1) ?_; intro v9 w9 O9 T9 _ _; obtain ⟨a9, c9, hv9, _⟩ := (O9.congr HR.out).ints; rw [List.length_map, List.length_range] at hv9; subst hv9; have d9 := (fn5_ret (R.box.of_block (T9.block _ (Nat.lt_succ_self _)))).2.1; have f9 := (R.box.of_block (T9.block _ (Nat.lt_succ_self _))).frozen 1)
              go_roundw
              case rel =>
                have hgt := R.gt
                refine ⟨q + 1, .slice a9 (q + 1) c9, by omega, by go_num, ⟨⟨?_, ?_, ?_⟩, ?_, ?_, R.gt⟩⟩
                · exact (R.st.res.of_block (T9.block _ (by omega))).setOther (by simp; omega) _
                · exact (R.st.nums.of_block (T9.block _ (by omega))).setOther (by simp; omega) _
                · exact (R.st.old.trans (T9.mono (by omega))).setCell (show w.heap.size ≤ g9 by omega) _
                · exact fn5_set1 (R.box.of_block (T9.block _ (Nat.lt_succ_self _))) _
                · exact ownsRow_setCell_below (O9.congr HR.out) (Nat.lt_succ_self _) _
              case measure => simp [intOf]; omega
            · obtain rfl : q = m := by omega
              obtain ⟨av, cv, rfl, LB, LBb⟩ := HF.out _ _ R
              have HLB := Lib.hid LBb
              clear LBb
              have hgt := R.gt
              obtain ⟨d0, d1, d2, d3, d4⟩ := fn5_ret R.box
              obtain ⟨x0, x1, x2, x3, x4⟩ := fn5_ret R.st.res
              have f0 := R.st.res.frozen 0
              have f1 := R.st.res.frozen 1
              have f2 := R.st.res.frozen 2
              have f3 := R.st.res.frozen 3
              have f4 := R.st.res.frozen 4
              go_wp2
              have R3 := fn5_set R.st.res (.int .i64 P0) (.slice av q cv) (.int .i64 P1) (.int .u64 p2) (.int .u64 p3)
              obtain ⟨e0, e1, e2, e3, e4⟩ := fn5_ret R3
              have LB2 : Lst (((((wr.setCell ⟨w.heap.size, 0, none⟩ (.int .i64 P0)).setCell ⟨w.heap.size, 1, none⟩ (.slice av q cv)).setCell ⟨w.heap.size, 2, none⟩ (.int .i64 P1)).setCell ⟨w.heap.size, 3, none⟩ (.int .u64 p2)).setCell ⟨w.heap.size, 4, none⟩ (.int .u64 p3)) av q cv (readLn ws).b := by
                obtain ⟨l1, l2, l3⟩ := LB
                refine ⟨l1, l2, l3.imp id ?_⟩
                rintro ⟨bb, oo, rfl, hs, hc⟩
                refine ⟨bb, oo, rfl, by simpa only [World.size_setCell] using hs, fun i hi => ?_⟩
                have hne : bb ≠ w.heap.size := by have := HLB.out bb oo rfl; omega
                have hne2 : ∀ o, (⟨w.heap.size, o, none⟩ : Addr) ≠ ⟨bb, oo + i, none⟩ := fun o e => by injection e with e; exact hne e.symm
                rw [World.cell?_setCell_other _ _ _ _ (hne2 _), World.cell?_setCell_other _ _ _ _ (hne2 _), World.cell?_setCell_other _ _ _ _ (hne2 _), World.cell?_setCell_other _ _ _ _ (hne2 _), World.cell?_setCell_other _ _ _ _ (hne2 _)]
                exact hc i hi
              refine bodyPost_ret (v := .tuple #[.agg #[.int .i64 P0, .slice av q cv, .int .i64 P1, .int .u64 p2, .int .u64 p3], .bool true]) (by simp [results, Tryz.results52, go_sem, e0, e1, e2, e3, e4]) rfl ⟨.inl ⟨by rw [HN.out]; have := HM.out; omega, fun i hi => HG.out i (by rw [HN.out] at hi; exact hi), ⟨P0, av, q, cv, P1, p2, p3⟩, ?_, rfl, LB2, fun bb oo e => by have := HLB.out bb oo e; omega⟩, below_set5 R.st.old (Nat.le_refl _) _ _ _ _ _⟩
              simp only [Rcm.ln, readLn, HP0.out, HP1.out, HP2.out, HP3.out, HQ0.out, HQ1.out]
end Go.Proofs.YtfcnnolpcnacoaaGreatDoor.Fx
