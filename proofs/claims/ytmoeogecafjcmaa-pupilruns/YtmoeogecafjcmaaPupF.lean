/- What pupil.forward, checkBoth, Forward and Loss return. -/
import Derived.Test.YtmoeogecafjcmaaPupE
import Derived.Test.YtmoeogecafjcmaaPupB
namespace Go.Proofs.Ytmoeogecafjcmaa.Fx
open Go.RowKit

def pos0 (n : Int) : Int := if n < 0 then 0 else n
/-- The hidden ones, and the outputs, of a pupil with so many. -/
def hidG (d : PD) (xs : List Int) (I i : Nat) : Int := pos0 (layG d.X1 d.B1 xs I i)
def hidL (d : PD) (xs : List Int) (I H : Nat) : List Int := (List.range H).map (hidG d xs I)
def outG (d : PD) (xs : List Int) (I H i : Nat) : Int := layG d.X2 d.B2 (hidL d xs I H) H i
def outYL (d : PD) (xs : List Int) (I H O : Nat) : List Int := (List.range O).map (outG d xs I H)

def midTo (g1 g2 : Nat → Int) (k i : Nat) : Value := if i < k then .int .i64 (g1 i) else .int .i64 (g2 i)
theorem midTo_step {w : World} {b t n k : Nat} {g1 g2 : Nat → Int} (h : w.rowIs b t n (midTo g1 g2 k)) : (w.setCell ⟨b, k, none⟩ (.int .i64 (g1 k))).rowIs b t n (midTo g1 g2 (k + 1)) := by
  refine (h.set k (.int .i64 (g1 k))).congr (fun i _ => ?_)
  unfold midTo
  by_cases e : i = k
  · subst e; rw [if_pos rfl, if_pos (by omega)]
  · rw [if_neg e]
    by_cases e2 : i < k
    · rw [if_pos e2, if_pos (by omega)]
    · rw [if_neg e2, if_neg (by omega)]
theorem midTo_skip {w : World} {b t n k : Nat} {g1 g2 : Nat → Int} (h : w.rowIs b t n (midTo g1 g2 k)) (e : g1 k = g2 k) : w.rowIs b t n (midTo g1 g2 (k + 1)) := by
  refine h.congr (fun i _ => ?_)
  unfold midTo
  by_cases e1 : i = k
  · subst e1; rw [if_neg (by omega), if_pos (by omega), e]
  · by_cases e2 : i < k
    · rw [if_pos e2, if_pos (by omega)]
    · rw [if_neg e2, if_neg (by omega)]
theorem midTo_start {w : World} {b t n : Nat} {g1 g2 : Nat → Int} (h : w.rowIs b t n (rowTo g2 n)) : w.rowIs b t n (midTo g1 g2 0) :=
  h.congr (fun i hi => by unfold rowTo midTo; rw [if_pos hi, if_neg (by omega)])
theorem midTo_cell {w : World} {b t n k : Nat} {g1 g2 : Nat → Int} (h : w.rowIs b t n (midTo g1 g2 k)) (hk : k < n) : w.cell? ⟨b, k, none⟩ = some (.int .i64 (g2 k)) := by
  rw [h.cell hk]; unfold midTo; rw [if_neg (by omega)]
theorem midTo_end {w : World} {b t n : Nat} {g1 g2 : Nat → Int} (h : w.rowIs b t n (midTo g1 g2 n)) : Lst w (some ⟨b, 0, none⟩) n n ((List.range n).map g1) :=
  Lst.row h (by simp) (fun i hi => by unfold midTo; rw [if_pos hi]; simp [hi])

set_option maxHeartbeats 1600000 in
theorem forward_calls (I H O : Nat) (a1 : Option Addr) (k1 : Nat) (a2 : Option Addr) (k2 : Nat) (d1 : Option Addr) (e1 : Nat) (d2 : Option Addr) (e2 : Nat) (d : PD) (v : Option Addr) (cv : Nat) (xs : List Int) (w : World) (h : InPup w (rpup I H O a1 k1 a2 k2 d1 e1 d2 e2) d) (hv : Lst w v I cv xs) (hr : RightD d) (i1 : 1 ≤ I) (i2 : I ≤ 4) (j1 : 1 ≤ H) (j2 : H ≤ 4) (o1 : 1 ≤ O) (o2 : O ≤ 4) :
    Calls Try.prog 63 #[(rpup I H O a1 k1 a2 k2 d1 e1 d2 e2).val, .slice v I cv] w fun e w' => ∃ ah ay, e = .returned (.tuple #[.slice ah H H, .slice ay O O]) ∧ Lst w' ah H H (hidL d xs I H) ∧ Lst w' ay O O (outYL d xs I H O) ∧ Below w.heap.size w w' := by
  have hal := (Below.refl w.heap.size w).alloc (Nat.le_refl _) (.cells (rpup I H O a1 k1 a2 k2 d1 e1 d2 e2).cells 47)
  have h1 := h.below hal (Nat.le_refl _)
  have hcall := layer_calls H I a1 k1 d.X1 d1 e1 d.B1 v cv xs _ h1.x1 h1.b1 (hv.below hal (Nat.le_refl _)) j1 j2 i1 i2 hr.1
  have hc2 : ∀ q g, Below w.heap.size w q → Lst q (some ⟨g, 0, none⟩) H H (hidL d xs I H) → Calls Try.prog 67 #[.agg #[.int .i64 O, .int .i64 H, .slice a2 (O * H) k2], .slice d2 O e2, .slice (some ⟨g, 0, none⟩) H H] q fun e w' => ∃ g, e = .returned (.slice (some ⟨g, 0, none⟩) O O) ∧ q.heap.size ≤ g ∧ w'.rowIs g 3 O (rowTo (layG d.X2 d.B2 (hidL d xs I H) H) O) ∧ Below q.heap.size q w' := by
    intro q g hq hl
    have hin := h.below hq (Nat.le_refl _)
    exact layer_calls O H a2 k2 d.X2 d2 e2 d.B2 _ H _ q hin.x2 hin.b2 hl o1 o2 j1 j2 hr.2.1
  have HC : Hid (∀ q g, Below w.heap.size w q → Lst q (some ⟨g, 0, none⟩) H H (hidL d xs I H) → Calls Try.prog 67 #[.agg #[.int .i64 O, .int .i64 H, .slice a2 (O * H) k2], .slice d2 O e2, .slice (some ⟨g, 0, none⟩) H H] q fun e w' => ∃ g, e = .returned (.slice (some ⟨g, 0, none⟩) O O) ∧ q.heap.size ≤ g ∧ w'.rowIs g 3 O (rowTo (layG d.X2 d.B2 (hidL d xs I H) H) O) ∧ Below q.heap.size q w') := hc2
  clear hc2 h1 h hv
  simp only [Pup.val, Pup.cells, rpup] at *
  go_enter Try.func63, Try.ntmps63
  go_wp2_with fail
  refine hcall.mono ?_
  rintro e w1 ⟨g, rfl, hg, hrow, hw1⟩
  have hg1 : w.heap.size + 1 ≤ g := by simpa using hg
  have T1 : Below (w.heap.size + 1) _ w1 := hw1.mono (by simp)
  clear hcall hw1 hg
  go_wp2
  go_loopw [16] (fun i wr => ∃ k : Nat, k ≤ H ∧ i = .int .i64 k ∧ wr.rowIs g 3 H (midTo (hidG d xs I) (layG d.X1 d.B1 xs I) k) ∧ Below (w.heap.size + 1) (w.alloc (.cells #[.int .i64 H, .int .i64 I, .slice a1 (H * I) k1, .int .i64 O, .int .i64 H, .slice a2 (O * H) k2, .slice d1 H e1, .slice d2 O e2] 47)) wr) (fun i _ => H - (intOf i).toNat)
  case atStart => exact ⟨0, Nat.zero_le _, rfl, midTo_start hrow, T1⟩
  case round =>
    obtain ⟨k, hk, rfl, hrow, hbel⟩ := hrel
    by_cases hlt : k < H
    · have c3 := midTo_cell hrow hlt
      have f3 := hrow.frozen k
      obtain ⟨x, HX⟩ : ∃ x, Hid (layG d.X1 d.B1 xs I k = x) := ⟨_, rfl⟩
      rw [HX.out] at c3
      by_cases hx : x < 0
      · have HG : Hid (hidG d xs I k = 0) := by show pos0 (layG d.X1 d.B1 xs I k) = 0; rw [HX.out]; exact if_pos hx
        go_wp2
        go_roundw
        case rel =>
          have st := midTo_step hrow
          rw [HG.out] at st
          exact ⟨k + 1, by omega, by go_num, st, hbel.setCell (by exact hg1) _⟩
        case measure => simp [intOf]; omega
      · have HG : Hid (hidG d xs I k = x) := by show pos0 (layG d.X1 d.B1 xs I k) = x; rw [HX.out]; exact if_neg hx
        go_wp2
        go_roundw
        case rel =>
          have st := midTo_step hrow
          rw [HG.out] at st
          exact ⟨k + 1, by omega, by go_num, st, hbel.setCell (by exact hg1) _⟩
        case measure => simp [intOf]; omega
    · obtain rfl : k = H := by omega
      have hh := midTo_end hrow
      obtain ⟨f0, f1, f2, f3, f4, f5, f6, f7⟩ := box8 hbel (Nat.lt_succ_self _)
      have hbw := hal.trans (hbel.mono (by omega))
      have hcall := HC.out wr g hbw hh
      clear hrow
      go_wp2_with fail
      refine hcall.mono ?_
      rintro e w2 ⟨g2, rfl, hg2, hrow2, hw2⟩
      go_wp2
      go_ret2
      exact ⟨_, _, rfl, hh.below hw2 (Nat.le_refl _), rowTo_lst hrow2, hbw.trans (hw2.mono hbw.size)⟩
end Go.Proofs.Ytmoeogecafjcmaa.Fx
