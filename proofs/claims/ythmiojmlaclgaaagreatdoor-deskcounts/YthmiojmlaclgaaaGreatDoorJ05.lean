/- What vec.Outer returns, whatever lists lie there. -/
import Derived.Test.YthmiojmlaclgaaaGreatDoorJ02
import Derived.Test.YthmiojmlaclgaaaGreatDoorJ01
import Derived.Maps.AppendAt
namespace Go.Proofs.YthmiojmlaclgaaaGreatDoor.Fx
open Go.RowKit

def fn3 (v0 v1 v2 : Value) (i : Nat) : Value := if i = 0 then v0 else if i = 1 then v1 else v2
def outerG (xs ys : List Int) (lb i : Nat) : Int := mulI (xs.getD (i / lb) 0) (ys.getD (i % lb) 0)
theorem fn3_alloc (w : World) (v0 v1 v2 : Value) (t : TypeId) : (w.alloc (.cells #[v0, v1, v2] t)).rowIs w.heap.size t 3 (fn3 v0 v1 v2) :=
  World.rowIs_alloc w #[v0, v1, v2] t (fn3 v0 v1 v2) (by
    intro i hi
    rcases (show i = 0 ∨ i = 1 ∨ i = 2 from by have : i < 3 := hi
                                               omega) with rfl | rfl | rfl <;> rfl)
theorem fn3_cells {w : World} {b t : Nat} {v0 v1 v2 : Value} (h : w.rowIs b t 3 (fn3 v0 v1 v2)) :
    w.cell? ⟨b, 0, none⟩ = some v0 ∧ w.cell? ⟨b, 1, none⟩ = some v1 ∧ w.cell? ⟨b, 2, none⟩ = some v2 :=
  ⟨h.cell (i := 0) (by omega), h.cell (i := 1) (by omega), h.cell (i := 2) (by omega)⟩

theorem set3 {w : World} {b t : Nat} {f : Nat → Value} (h : w.rowIs b t 3 f) (v0 v1 v2 : Value) : (((w.setCell ⟨b, 0, none⟩ v0).setCell ⟨b, 1, none⟩ v1).setCell ⟨b, 2, none⟩ v2).rowIs b t 3 (fn3 v0 v1 v2) := by
  refine (((h.set 0 v0).set 1 v1).set 2 v2).congr (fun i hi => ?_)
  rcases (show i = 0 ∨ i = 1 ∨ i = 2 from by omega) with rfl | rfl | rfl <;> rfl

/-- What Outer has laid when its loops go: the answer's struct, its row of numbers, the struct that it fills. -/
structure OutRel (w : World) (n la lb : Nat) (g : Nat → Int) (k : Nat) (wr : World) : Prop where
  row : wr.rowIs (w.heap.size + 1 + 1) 3 n (rowTo g k)
  res : wr.rowIs w.heap.size 100 3 (fn3 (.int .i64 0) (.int .i64 0) (.slice none 0 0))
  mat : wr.rowIs (w.heap.size + 1 + 1 + 1) 100 3 (fn3 (.int .i64 la) (.int .i64 lb) (.slice (some ⟨w.heap.size + 1 + 1, 0, none⟩) n n))
  old : Below w.heap.size w wr

theorem OutRel.start (w : World) (n la lb : Nat) (g : Nat → Int) (o : Obj) : OutRel w n la lb g 0
    ((((w.alloc (.cells #[.int .i64 0, .int .i64 0, .slice none 0 0] 100)).alloc o).alloc (.cells (madeCells #[.int .i64 0] n) 3)).alloc (.cells #[.int .i64 la, .int .i64 lb, .slice (some ⟨w.heap.size + 1 + 1, 0, none⟩) n n] 100)) := by
  refine ⟨?_, ?_, ?_, ?_⟩
  · refine rowTo_made ?_
    have h := World.rowIs_made ((w.alloc (.cells #[.int .i64 0, .int .i64 0, .slice none 0 0] 100)).alloc o) (.int .i64 0) n 3
    have h := h.alloc (.cells #[.int .i64 la, .int .i64 lb, .slice (some ⟨w.heap.size + 1 + 1, 0, none⟩) n n] 100)
    simpa using h
  · exact (((fn3_alloc w _ _ _ _).alloc _).alloc _).alloc _
  · have h := fn3_alloc (((w.alloc (.cells #[.int .i64 0, .int .i64 0, .slice none 0 0] 100)).alloc o).alloc (.cells (madeCells #[.int .i64 0] n) 3)) (.int .i64 la) (.int .i64 lb) (.slice (some ⟨w.heap.size + 1 + 1, 0, none⟩) n n) 100
    simpa using h
  · exact ((((Below.refl _ _).alloc (Nat.le_refl _) _).alloc (by simp) _).alloc (by simp; omega) _).alloc (by simp; omega) _

theorem OutRel.step {w wr : World} {n la lb k : Nat} {g : Nat → Int} (h : OutRel w n la lb g k wr) (d : Nat) :
    OutRel w n la lb g (k + 1) ((wr.setCell ⟨w.heap.size + 1 + 1, k, none⟩ (.int .i64 (g k))).drewN d) :=
  ⟨rowIs_drewN (rowTo_step h.row) _, rowIs_drewN (h.res.setOther (by simp; omega) _) _, rowIs_drewN (h.mat.setOther (by simp) _) _, below_drewN (h.old.setCell (by simp; omega) _) _⟩

theorem outerG_at (xs ys : List Int) (lb k j : Nat) (h : j < lb) : outerG xs ys lb (k * lb + j) = mulI (xs.getD k 0) (ys.getD j 0) := by
  unfold outerG
  rw [Nat.mul_comm, Nat.mul_add_div (by omega), Nat.div_eq_of_lt h, Nat.mul_add_mod, Nat.mod_eq_of_lt h, Nat.add_zero]

set_option maxHeartbeats 1600000 in
theorem vOuter_good (a b : Option Addr) (la ca lb cb : Nat) (xs ys : List Int) (w : World) (ha : Lst w a la ca xs) (hb : Lst w b lb cb ys) (ha1 : 1 ≤ la) (ha2 : la ≤ 4) (hb1 : 1 ≤ lb) (hb2 : lb ≤ 4) :
    Calls Tryz.prog 220 #[.slice a la ca, .slice b lb cb] w fun e w' => ∃ g, e = .returned (.tuple #[.agg #[.int .i64 la, .int .i64 lb, .slice (some ⟨g, 0, none⟩) (la * lb) (la * lb)], .int .i64 0]) ∧ w.heap.size ≤ g ∧ Lst w' (some ⟨g, 0, none⟩) (la * lb) (la * lb) ((List.range (la * lb)).map (outerG xs ys lb)) ∧ Below w.heap.size w w' := by
  have h2 := prod_sideN ha2 hb2
  have i3 : (la : Int) * (lb : Int) ≤ 16 := by exact_mod_cast h2
  have i4 : 0 ≤ (la : Int) * (lb : Int) := by exact_mod_cast Nat.zero_le (la * lb)
  have hmk := run_make_row' (P := Tryz.prog) 66 3 (.int .i64 0) 8 Tryz.underlying66 info3 rfl .i64 .i64 (la * lb) (by omega) (by omega)
  simp only [Int.natCast_mul] at hmk
  have hd : decide (200 < la ∨ 200 < lb) = false := decide_eq_false (by omega)
  have sa : sideB (la : Int) = true := sideB_mk (by omega) (by omega)
  have sb : sideB (lb : Int) = true := sideB_mk (by omega) (by omega)
  go_enter Tryz.func220, Tryz.ntmps220
  go_wp2_with (first | (go_at_call 199; refine (long2 _ _ _ _ _ _ _ _ (by simp)).mono ?_; rintro e w' ⟨rfl, rfl⟩; rw [hd]) | (go_at_call 222; refine (side_calls _ _).mono ?_; rintro e w' ⟨rfl, rfl⟩))
  go_loopw [40] (fun i wr => ∃ k : Nat, k ≤ la ∧ i = .int .i64 k ∧ OutRel w (la * lb) la lb (outerG xs ys lb) (k * lb) wr) (fun i _ => la - (intOf i).toNat)
  case atStart => exact ⟨0, Nat.zero_le _, rfl, by rw [Nat.zero_mul]; exact OutRel.start _ _ _ _ _ _⟩
  case round =>
    obtain ⟨k, hk, rfl, hrel⟩ := hrel
    clear hmk
    by_cases hlt : k < la
    · obtain ⟨b1, o1, x, rfl, s1, c1, HX⟩ := ha.at1b hrel.old (Nat.le_refl _) hlt
      go_wp2
      generalize hwr : wr = w1 at *
      clear hwr
      go_loopw [47] (fun i wr => ∃ j : Nat, j ≤ lb ∧ i = .int .i64 j ∧ OutRel w (la * lb) la lb (outerG xs ys lb) (k * lb + j) wr) (fun i _ => lb - (intOf i).toNat)
      case atStart => exact ⟨0, Nat.zero_le _, rfl, hrel⟩
      case round =>
        rename_i hrel1 _
        obtain ⟨j, hj, rfl, hin⟩ := hrel
        by_cases hlt2 : j < lb
        · obtain ⟨b2, o2, y, rfl, s2, c2, HY⟩ := hb.at1b hin.old (Nat.le_refl _) hlt2
          obtain ⟨_, g1, g2⟩ := fn3_cells hin.mat
          have m1 : (k + 1) * lb ≤ la * lb := Nat.mul_le_mul_right _ hlt
          have m2 : (k + 1) * lb = k * lb + lb := Nat.succ_mul _ _
          have m3 : k * lb + j < la * lb := by omega
          have c3 := rowTo_cell hin.row m3
          have f3 := hin.row.frozen (k * lb + j)
          have i5 : (0 : Int) ≤ (k : Int) * (lb : Int) := by exact_mod_cast Nat.zero_le (k * lb)
          have i6 : (k : Int) * (lb : Int) + (j : Int) < (la : Int) * (lb : Int) := by exact_mod_cast m3
          have HG : Hid (outerG xs ys lb (k * lb + j) = mulI x y) := by rw [outerG_at _ _ _ _ _ hlt2, HX.out, HY.out]; rfl
          have e1 : IntKind.i64.wrap ((k : Int) * (lb : Int)) = (k : Int) * (lb : Int) := wrap_in _ (by omega) (by omega)
          have e2 : IntKind.i64.wrap ((k : Int) * (lb : Int) + (j : Int)) = (k : Int) * (lb : Int) + (j : Int) := wrap_in _ (by omega) (by omega)
          clear m2 ha hb
          go_wp2
          go_region_with ((go_at_call 190; refine (mul_calls _ _ _).mono ?_; rintro e w' ⟨rfl, nd, rfl⟩))
          all_goals
            go_wp2
            go_roundw
            case rel =>
              have st := hin.step (1 + nd)
              rw [HG.out] at st
              exact ⟨j + 1, by omega, by go_num, st⟩
            case measure => simp [intOf]; omega
        · go_wp2
          go_roundw
          case rel =>
            obtain rfl : j = lb := by omega
            exact ⟨k + 1, by omega, by go_num, by rw [Nat.succ_mul]; exact hin⟩
          case measure => simp [intOf]; omega
    · obtain rfl : k = la := by omega
      obtain ⟨g0, g1, g2⟩ := fn3_cells hrel.mat
      obtain ⟨r0, r1, r2⟩ := fn3_cells hrel.res
      have f0 := hrel.res.frozen 0
      have f1 := hrel.res.frozen 1
      have f2 := hrel.res.frozen 2
      go_wp2
      have hq := set3 hrel.res (.int .i64 k) (.int .i64 lb) (.slice (some ⟨w.heap.size + 1 + 1, 0, none⟩) (k * lb) (k * lb))
      obtain ⟨q0, q1, q2⟩ := fn3_cells hq
      refine bodyPost_ret (v := .tuple #[.agg #[.int .i64 k, .int .i64 lb, .slice (some ⟨w.heap.size + 1 + 1, 0, none⟩) (k * lb) (k * lb)], .int .i64 0]) (by simp [results, Tryz.results220, go_sem, q0, q1, q2]) rfl ⟨_, rfl, by omega, ?_, ?_⟩
      · exact rowTo_lst (((hrel.row.setOther (by simp; omega) _).setOther (by simp; omega) _).setOther (by simp; omega) _)
      · exact ((hrel.old.setCell (Nat.le_refl _) _).setCell (Nat.le_refl _) _).setCell (Nat.le_refl _) _

end Go.Proofs.YthmiojmlaclgaaaGreatDoor.Fx

/- An append of one integer to a list that the program itself makes, and what it leaves of other blocks; no function of the program is spoken of. -/
namespace Go.Proofs.YthmiojmlaclgaaaGreatDoor.Fx
open Go.RowKit

section
variable {w' : World} {ops : Array Oper} {o : Oper} {a : Act} {Q : Exit → Act → World → Prop}

end

/-- Of two own slices: they don't lie in one block. -/
def Apart (x y : Value) : Prop := y.ownBlock = none ∨ y.ownBlock ≠ x.ownBlock
theorem Apart.symm {x y : Value} (h : Apart x y) : Apart y x := by
  unfold Apart at *
  rcases h with h | h
  · rw [h]
    cases e : x.ownBlock with
    | none => exact .inl rfl
    | some b => exact .inr (by simp)
  · exact .inr (fun e => h e.symm)
theorem OwnI.blk {base : Nat} {w : World} {y : Value} {xs : List Int} (h : OwnI base w y xs) : y.ownBlock = none ∨ ∃ g, y.ownBlock = some g ∧ base ≤ g ∧ g < w.heap.size := by
  rcases h.2 with ⟨rfl, _⟩ | ⟨g, cap, cur, rfl, hg, hh, _⟩
  · exact .inl rfl
  · exact .inr ⟨g, rfl, hg, (Array.getElem?_eq_some_iff.1 hh).1⟩
theorem OwnI.kept {base : Nat} {w w1 : World} {y : Value} {xs : List Int} {row : Option Nat} (h : OwnI base w y xs) (hg : w.grownBy w1 row) (hne : y.ownBlock = none ∨ y.ownBlock ≠ row) : OwnI base w1 y xs := World.ownsRow.kept h hg hne
theorem OwnI.at {base : Nat} {w : World} {a : Option Addr} {n c : Nat} {L : List Int} (h : OwnI base w (.slice a n c) L) (hl : L.length = n) (hn : 0 < n) : ∃ g, a = some ⟨g, 0, none⟩ ∧ base ≤ g ∧ Lst w (some ⟨g, 0, none⟩) n c L := by
  obtain ⟨a', c', e, hL⟩ := h.lst' hl
  simp only [Value.slice.injEq] at e
  obtain ⟨rfl, _, rfl⟩ := e
  rcases h.2 with ⟨hv, _⟩ | ⟨g, cap, cur, hv, hg, _⟩
  · simp only [Value.slice.injEq] at hv
    omega
  · simp only [Value.slice.injEq] at hv
    obtain ⟨rfl, _, _⟩ := hv
    exact ⟨g, rfl, hg, hL⟩
theorem grown1 {w w1 : World} {b : Nat} (h : w.grownBy w1 (some b)) (i : Nat) (v : Value) : w.grownBy (w1.setCell ⟨b, i, none⟩ v) (some b) :=
  ⟨h.os, h.tape, h.output, by simpa using h.size, fun k hk hne => (Go.Deep.blk_setCell_other _ _ _ _ (by simpa using hne)).trans (h.block k hk hne)⟩
theorem Lst.grown {w w' : World} {g off n c b : Nat} {xs : List Int} (h : Lst w (some ⟨g, off, none⟩) n c xs) (hg : w.grownBy w' (some b)) (hne : g ≠ b) : Lst w' (some ⟨g, off, none⟩) n c xs := by
  refine ⟨h.1, h.2.1, ?_⟩
  rcases h.2.2 with h0 | ⟨b', off', e, hs, hc⟩
  · exact .inl h0
  · simp only [Option.some.injEq, Addr.mk.injEq, and_true] at e
    obtain ⟨rfl, rfl⟩ := e
    exact .inr ⟨g, off, rfl, Nat.lt_of_lt_of_le hs hg.size, fun i hi => hg.cell (hc i hi) (by simpa using hne)⟩

theorem low_alloc (w : World) (o : Obj) : Below w.heap.size w (w.alloc o) := (Below.refl _ _).alloc (Nat.le_refl _) o
end Go.Proofs.YthmiojmlaclgaaaGreatDoor.Fx
