/- A desk with one example more. -/
import Derived.Test.YthmiojmlaclgaaaGreatDoorJ26
import Derived.Test.YthmiojmlaclgaaaGreatDoorJ27
import Derived.Test.YthmiojmlaclgaaaGreatDoorJ20
import Derived.Test.YthmiojmlaclgaaaGreatDoorJ24
import Derived.Lib.ItoaLen
namespace Go.Proofs.YthmiojmlaclgaaaGreatDoor.Fx
open Go.RowKit

variable {base : Nat} {w w' : World} {b s : Nat} {d : Dsk} {a : Option Addr} {cap : Nat} {X : Nat → Exm}
theorem infoE : (Tryz.prog.info? 78).map (fun i => (i.zero, i.size, i.bytes)) = some (some (.agg #[.slice none 0 0, .slice none 0 0]), 2, 48) := by kernel_rfl
section
variable {ops : Array Oper} {o : Oper} {ac : Act} {Q : Exit → Act → World → Prop}
theorem run_append_ex (ty : TypeId) (base : Nat) (v : Value) (n : Nat) (X : Nat → Exm) (g : Nat) (hown : OwnE base w' v n X) (hc0 : w'.cell? ⟨g, 0, none⟩ = some (.slice (X n).a (X n).n (X n).k)) (hc1 : w'.cell? ⟨g, 1, none⟩ = some (.slice (X n).b (X n).m (X n).t)) (hn : (n + 1) * 48 ≤ 140737488355328) (hbase : base ≤ w'.heap.size) :
    ∃ v' w1, (Builtin.append_ #[51, 51] ty #[v, .slice (some ⟨g, 0, none⟩) 1 1]).run Tryz.prog w' = .ok v' w1 ∧ OwnE base w1 v' (n + 1) X ∧ w'.grownBy w1 v.ownBlock ∧ (v'.ownBlock = v.ownBlock ∨ v'.ownBlock = some w'.heap.size) := by
  obtain ⟨i0, hi, hz0, hz1, hz2⟩ := info_parts infoE
  obtain ⟨v', w1, hrun, h1, h2, _, h3⟩ := run_append_own_at (P := Tryz.prog) w' base 51 ty 78 i0 (.agg #[.slice none 0 0, .slice none 0 0]) 2 48 Tryz.underlying51 hi hz0 hz1 hz2 rfl (by decide) v n _ hown ⟨g, 0, none⟩ 1 1 [.slice (X n).a (X n).n (X n).k, .slice (X n).b (X n).m (X n).t] rfl
    (by intro j u hj
        match j, hj with
        | 0, hj => simp at hj; subst hj; simpa [Addr.add] using hc0
        | 1, hj => simp at hj; subst hj; simpa [Addr.add] using hc1)
    (by intro u hu
        simp at hu
        rcases hu with rfl | rfl <;> rfl) (by unfold maxLen; omega) hn hbase
  exact ⟨v', w1, hrun, h1, h2, h3⟩
theorem step_append_ex {K : Act → World → Prop} {E : Prop} (hgd : o.guard = none) (s x : Operand) (ho : o.op = .call { callee := .builtin .append, args := #[s, x], argTypes := #[51, 51] })
    (base : Nat) (v : Value) (n : Nat) (X : Nat → Exm) (g : Nat) (hs : ac.eval s = v) (hx : ac.eval x = .slice (some ⟨g, 0, none⟩) 1 1) (hown : OwnE base w' v n X) (hc0 : w'.cell? ⟨g, 0, none⟩ = some (.slice (X n).a (X n).n (X n).k)) (hc1 : w'.cell? ⟨g, 1, none⟩ = some (.slice (X n).b (X n).m (X n).t)) (hn : (n + 1) * 48 ≤ 140737488355328) (hbase : base ≤ w'.heap.size)
    (h : ∀ v' w1, OwnE base w1 v' (n + 1) X → w'.grownBy w1 v.ownBlock → (v'.ownBlock = v.ownBlock ∨ v'.ownBlock = some w'.heap.size) → K (ac.put o.dst v') w1) :
    if Region.wanted o (yielded ops ac.tmps) = true then Oper.wp Tryz.prog o ac w' K Q else E := by
  obtain ⟨v', w1, hrun, h1, h2, h3⟩ := run_append_ex o.type base v n X g hown hc0 hc1 hn hbase
  rw [if_pos (by unfold Region.wanted; rw [hgd])]
  unfold Oper.wp
  simp [execOp, ho, resolve, invoke, builtin, hs, hx, hrun, Result.andThen]
  exact h v' w1 h1 h2 h3
end
def addX (X : Nat → Exm) (n : Nat) (x : Exm) (i : Nat) : Exm := if i < n then X i else x
theorem Dsk.add_n (d : Dsk) (I O : List Int) : ({ d with ex := d.ex ++ [(I, O)] } : Dsk).n = d.n + 1 := by unfold Dsk.n; simp
theorem Dsk.add_DI (d : Dsk) (I O : List Int) (i : Nat) (hi : i < d.n) : ({ d with ex := d.ex ++ [(I, O)] } : Dsk).DI i = d.DI i ∧ ({ d with ex := d.ex ++ [(I, O)] } : Dsk).DO i = d.DO i := by
  unfold Dsk.DI Dsk.DO
  have hi' : i < d.ex.length := hi
  simp [List.getD_eq_getElem?_getD, List.getElem?_append_left hi']
theorem Dsk.add_at (d : Dsk) (I O : List Int) : ({ d with ex := d.ex ++ [(I, O)] } : Dsk).DI d.n = I ∧ ({ d with ex := d.ex ++ [(I, O)] } : Dsk).DO d.n = O := by
  unfold Dsk.DI Dsk.DO Dsk.n
  simp [List.getD_eq_getElem?_getD]
/-- One example more is there. -/
theorem DkIn.addE (h : DkIn base w b s d a cap X) {x : Exm} {I O : List Int} (hx : InEx w x I O) (fx : ∀ g o, x.a = some ⟨g, o, none⟩ → base ≤ g ∧ g ≠ b ∧ g ≠ s ∧ (Value.slice a d.n cap).ownBlock ≠ some g ∧ TyI w g) (fy : ∀ g o, x.b = some ⟨g, o, none⟩ → base ≤ g ∧ g ≠ b ∧ g ≠ s ∧ (Value.slice a d.n cap).ownBlock ≠ some g ∧ TyI w g) (h16 : d.n < 16)
    {v5 : Value} {w5 : World} (hown : OwnE base w5 v5 (d.n + 1) (addX X d.n x)) (hgr : w.grownBy w5 (Value.slice a d.n cap).ownBlock) (hob : v5.ownBlock = (Value.slice a d.n cap).ownBlock ∨ v5.ownBlock = some w.heap.size) :
    w5.rowIs b 64 13 (dcell d.c (.slice a d.n cap) (.pointer (some ⟨s, 0, none⟩))) ∧ (∃ a5 c5, v5 = .slice a5 (d.n + 1) c5 ∧ DkIn base (w5.setCell ⟨b, 11, none⟩ v5) b s { d with ex := d.ex ++ [(I, O)] } a5 c5 (addX X d.n x)) ∧ DkCh base w (w5.setCell ⟨b, 11, none⟩ v5) := by
  have hne := h.ne
  have r5 : w5.rowIs b 64 13 (dcell d.c (.slice a d.n cap) (.pointer (some ⟨s, 0, none⟩))) := h.row.of_block (hgr.block b h.row.lt (fun e => (h.ownb e.symm).2.1 rfl))
  have st5 : StoAt w5 s d.T 4096 d.sy := World.rowIs.of_block h.st (hgr.block s h.st.lt (fun e => (h.ownb e.symm).2.2.1 rfl))
  have blk : ∀ k, k ≠ b → (w5.setCell ⟨b, 11, none⟩ v5).heap[k]? = w5.heap[k]? := fun k hk => Go.Deep.blk_setCell_other w5 ⟨b, 11, none⟩ v5 k hk
  have kept : ∀ (aa : Option Addr) (n c : Nat) (zs : List Int), Lst w aa n c zs → (∀ g o, aa = some ⟨g, o, none⟩ → g ≠ b ∧ (Value.slice a d.n cap).ownBlock ≠ some g) → Lst (w5.setCell ⟨b, 11, none⟩ v5) aa n c zs := fun aa n c zs hl hf => by
    refine ⟨hl.1, hl.2.1, ?_⟩
    rcases hl.2.2 with h0 | ⟨g, off, e, hs', hc⟩
    · exact .inl h0
    · refine .inr ⟨g, off, e, by rw [World.size_setCell]; exact Nat.lt_of_lt_of_le hs' hgr.size, fun i hi => ?_⟩
      refine (World.cell?_of_block (a := ⟨g, off + i, none⟩) (blk g (hf g off e).1)).trans ?_
      exact (World.cell?_of_block (a := ⟨g, off + i, none⟩) (hgr.block g hs' (fun e2 => (hf g off e).2 e2.symm))).trans (hc i hi)
  have hv5 : ∀ g, v5.ownBlock = some g → g ≠ b := fun g e hb => by
    rcases hob with h1 | h1
    · exact (h.ownb (h1.symm.trans e)).2.1 hb
    · rw [h1] at e; simp at e; have := h.row.lt; omega
  have far5 : ∀ g, g < w.heap.size → (Value.slice a d.n cap).ownBlock ≠ some g → v5.ownBlock ≠ some g := fun g hg h1 e => by
    rcases hob with h2 | h2
    · exact h1 (h2.symm.trans e)
    · rw [h2] at e; simp at e; omega
  have bel : Below base w (w5.setCell ⟨b, 11, none⟩ v5) := ((Below.refl base w).grown hgr h.lt (fun k e => (h.ownb e).1)).setCell (p := ⟨b, 11, none⟩) h.hb v5
  obtain ⟨g5, c5, e5⟩ : ∃ g c, v5 = .slice (some ⟨g, 0, none⟩) (d.n + 1) c := by
    rcases hown.2 with ⟨_, h0⟩ | ⟨g, cp, cur, e, _⟩
    · omega
    · exact ⟨g, cp, e⟩
  have typ : DkCh base w (w5.setCell ⟨b, 11, none⟩ v5) := by
    refine ⟨bel, fun k cs t fz hk h1 _ h3 => ?_⟩
    have hkl := (Array.getElem?_eq_some_iff.1 hk).1
    have hkb : k ≠ b := fun e => by
      subst e
      obtain ⟨cc, g1, _⟩ := h.row
      rw [g1] at hk
      cases hk
      exact h1 rfl
    refine (blk k hkb).trans ((hgr.block k hkl (fun e => ?_)).trans hk)
    obtain ⟨_, cs2, h2⟩ := h.own.ownNe e.symm
    rw [h2] at hk
    cases hk
    exact h3 rfl
  have hX : ∀ i, i < d.n → addX X d.n x i = X i := fun i hi => by unfold addX; rw [if_pos hi]
  have hXn : addX X d.n x d.n = x := by unfold addX; rw [if_neg (by omega)]
  have hst : StoAt (w5.setCell ⟨b, 11, none⟩ v5) s d.T 4096 d.sy := World.rowIs.of_block st5 (blk s (fun e => hne e.symm))
  refine ⟨r5, ⟨some ⟨g5, 0, none⟩, c5, e5, ?_⟩, typ⟩
  have en := d.add_n I O
  have inE : ∀ i, i < d.n + 1 → InEx (w5.setCell ⟨b, 11, none⟩ v5) (addX X d.n x i) (Dsk.DI { d with ex := d.ex ++ [(I, O)] } i) (Dsk.DO { d with ex := d.ex ++ [(I, O)] } i) := fun i hi => by
    by_cases e : i < d.n
    · rw [hX i e, (d.add_DI I O i e).1, (d.add_DI I O i e).2]
      exact ⟨kept _ _ _ _ (h.ex i e).i (fun g o e2 => ⟨(h.fa i e g o e2).2.1, (h.fa i e g o e2).2.2.2.1⟩), kept _ _ _ _ (h.ex i e).o (fun g o e2 => ⟨(h.fb i e g o e2).2.1, (h.fb i e g o e2).2.2.2.1⟩)⟩
    · obtain rfl : i = d.n := by omega
      rw [hXn, (d.add_at I O).1, (d.add_at I O).2]
      exact ⟨kept _ _ _ _ hx.i (fun g o e2 => ⟨(fx g o e2).2.1, (fx g o e2).2.2.2.1⟩), kept _ _ _ _ hx.o (fun g o e2 => ⟨(fy g o e2).2.1, (fy g o e2).2.2.2.1⟩)⟩
  constructor
  · show (w5.setCell ⟨b, 11, none⟩ v5).rowIs b 64 13 (dcell d.c (.slice _ (Dsk.n { d with ex := d.ex ++ [(I, O)] }) c5) (.pointer (some ⟨s, 0, none⟩)))
    rw [en, ← e5]
    refine (r5.set 11 v5).congr (fun i hi => ?_)
    rcases (show i = 0 ∨ i = 1 ∨ i = 2 ∨ i = 3 ∨ i = 4 ∨ i = 5 ∨ i = 6 ∨ i = 7 ∨ i = 8 ∨ i = 9 ∨ i = 10 ∨ i = 11 ∨ i = 12 by omega) with rfl | rfl | rfl | rfl | rfl | rfl | rfl | rfl | rfl | rfl | rfl | rfl | rfl <;> rfl
  · exact hst
  · rw [en, ← e5]
    refine ⟨hown.1, ?_⟩
    rcases hown.2 with h0 | ⟨g, cp, cur, hv, hg, hh, r⟩
    · exact .inl h0
    · exact .inr ⟨g, cp, cur, hv, hg, by rw [blk g (hv5 g (by rw [hv]; rfl))]; exact hh, r⟩
  · rw [en]; exact inE
  · rw [en, ← e5]
    intro i hi g o e
    by_cases e2 : i < d.n
    · rw [hX i e2] at e
      have f := h.fa i e2 g o e
      exact ⟨f.1, f.2.1, f.2.2.1, far5 g f.2.2.2.2.lt f.2.2.2.1, f.2.2.2.2.of ((blk g f.2.1).trans (hgr.block g f.2.2.2.2.lt (fun e => f.2.2.2.1 e.symm)))⟩
    · obtain rfl : i = d.n := by omega
      rw [hXn] at e
      have f := fx g o e
      exact ⟨f.1, f.2.1, f.2.2.1, far5 g f.2.2.2.2.lt f.2.2.2.1, f.2.2.2.2.of ((blk g f.2.1).trans (hgr.block g f.2.2.2.2.lt (fun e => f.2.2.2.1 e.symm)))⟩
  · rw [en, ← e5]
    intro i hi g o e
    by_cases e2 : i < d.n
    · rw [hX i e2] at e
      have f := h.fb i e2 g o e
      exact ⟨f.1, f.2.1, f.2.2.1, far5 g f.2.2.2.2.lt f.2.2.2.1, f.2.2.2.2.of ((blk g f.2.1).trans (hgr.block g f.2.2.2.2.lt (fun e => f.2.2.2.1 e.symm)))⟩
    · obtain rfl : i = d.n := by omega
      rw [hXn] at e
      have f := fy g o e
      exact ⟨f.1, f.2.1, f.2.2.1, far5 g f.2.2.2.2.lt f.2.2.2.1, f.2.2.2.2.of ((blk g f.2.1).trans (hgr.block g f.2.2.2.2.lt (fun e => f.2.2.2.1 e.symm)))⟩
  · exact h.hb
  · exact h.hs
  · exact ⟨h.ok.c, h.ok.s, by have := h16; unfold Dsk.n at this; show (d.ex ++ [(I, O)]).length ≤ 16; simp; omega, h.ok.T, h.ok.sy⟩
  · exact h.ldb.low bel

theorem dData_bad {ws : List (List UInt8)} (h : exO ws = none) : dData ws d = ⟨[], 3, d⟩ := by unfold dData; rw [h]
theorem dData_good {ws : List (List UInt8)} {I O : List Int} (h : exO ws = some (I, O)) : dData ws d = if 16 ≤ d.ex.length then ⟨[], 2, d⟩ else ⟨okA, 0, { d with ex := d.ex ++ [(I, O)] }⟩ := by unfold dData; rw [h]

set_option maxRecDepth 100000 in
set_option maxHeartbeats 3200000 in
theorem addExample_calls (h : DkIn base w b s d a cap X) (al : Option Addr) (nl cl : Nat) (ws : List (List UInt8)) (hl : LstS w al nl cl ws) (hn : nl ≤ 70000) (hw : ∀ i, (ws.getD i []).length ≤ 70000) :
    Calls Tryz.prog 30 #[.pointer (some ⟨b, 0, none⟩), .slice al nl cl] w fun e w' => DoR base b s w (dData ws d) e w' := by
  have EX := Lib.hid (exampleOf_calls al nl cl ws w hl hn hw h.ld)
  have HH : Hid (∀ q, Below w.heap.size w q → DkIn base q b s d a cap X) := fun q hq => h.below hq
  have hlt0 := h.lt
  have HB : Hid (b < w.heap.size ∧ s < w.heap.size ∧ ∀ g, (Value.slice a d.n cap).ownBlock = some g → g < w.heap.size) := ⟨h.row.lt, h.st.lt, fun g e => (h.ownb e).2.2.2⟩
  clear hw hl
  go_enter Tryz.func30, Tryz.ntmps30
  go_wp2_with fail
  refine EX.out.mono ?_
  rintro e w1 ⟨hr, hw1⟩
  rcases hr with ⟨x, I, O, hx, rfl, hin, fa, fb⟩ | ⟨hx, rfl⟩
  · have HX := Lib.hid (dData_good (d := d) hx)
    have hs1 := hw1.size
    have B2 := low_alloc w1 (.cells #[.slice x.a x.n x.k, .slice x.b x.m x.t] 78)
    have B12 := hw1.trans (B2.mono hw1.size)
    have hd2 := HH.out _ B12
    have R2 := fn2_alloc w1 (.slice x.a x.n x.k) (.slice x.b x.m x.t) 78
    have hin2 := hin.below B2 (Nat.le_refl _)
    obtain ⟨W2, HW2⟩ : ∃ q, Hid (q = w1.alloc (.cells #[.slice x.a x.n x.k, .slice x.b x.m x.t] 78)) := ⟨_, rfl⟩
    have sz2 : W2.heap.size = w1.heap.size + 1 := by rw [HW2.out]; simp
    rw [← HW2.out] at B2 B12 hd2 R2 hin2
    simp only [Exm.val]
    go_upto_region 2 with fail
    rw [← HW2.out]
    have c11 := hd2.cells.2.1
    by_cases h16 : 16 ≤ d.n
    · have HD : Hid (dData ws d = ⟨[], 2, d⟩) := HX.out.trans (if_pos h16)
      have k1 : (16 : Int) ≤ (d.n : Int) := by omega
      go_wp2_with fail
      go_ret2
      exact ⟨by rw [HD.out]; rfl, ⟨a, cap, X, by rw [HD.out]; exact hd2⟩, DkCh.ofBelow B12 hlt0⟩
    · have HD : Hid (dData ws d = ⟨okA, 0, { d with ex := d.ex ++ [(I, O)] }⟩) := HX.out.trans (if_neg h16)
      have k1 : ¬ (16 : Int) ≤ (d.n : Int) := by omega
      have h16 : d.n < 16 := by omega
      obtain ⟨D3, HD3⟩ : ∃ q, Hid (q = (W2.alloc (.cells #[.slice x.a x.n x.k, .slice x.b x.m x.t] 78)).drew) := ⟨_, rfl⟩
      have B23 : Below W2.heap.size W2 D3 := by rw [HD3.out]; exact ((Below.refl W2.heap.size W2).alloc (Nat.le_refl _) _).drew
      have sz3 : D3.heap.size = W2.heap.size + 1 := by rw [HD3.out]; simp
      have B13 := B12.trans (B23.mono B12.size)
      have hd3 := hd2.below B23
      have hx3 := hin2.below B23 (Nat.le_refl _)
      obtain ⟨m0, m1⟩ := fn2_cells R2
      have SX2 : W2.drew.cell? ⟨w1.heap.size, 0, none⟩ = some (.slice x.a x.n x.k) ∧ W2.drew.cell? ⟨w1.heap.size, 1, none⟩ = some (.slice x.b x.m x.t) := ⟨m0, m1⟩
      have SX3 : D3.cell? ⟨w1.heap.size, 0, none⟩ = some (.slice x.a x.n x.k) ∧ D3.cell? ⟨w1.heap.size, 1, none⟩ = some (.slice x.b x.m x.t) := fn2_cells (R2.of_block (B23.block _ R2.lt))
      have c2 : W2.drew.cell? ⟨b, 11, none⟩ = some (.slice a d.n cap) := c11
      have c3 := hd3.cells.2.1
      have own3 : OwnE base D3 (.slice a d.n cap) d.n (addX X d.n x) := by
        have := hd3.own
        unfold OwnE at this ⊢
        rw [stCells_congr (Y := X) (fun i hi => by unfold addX; rw [if_pos hi])]
        exact this
      have hXn : addX X d.n x d.n = x := by unfold addX; rw [if_neg (by omega)]
      have RN := fn2_alloc W2 (.slice x.a x.n x.k) (.slice x.b x.m x.t) 78
      have cn : D3.cell? ⟨w1.heap.size + 1, 0, none⟩ = some (.slice x.a x.n x.k) ∧ D3.cell? ⟨w1.heap.size + 1, 1, none⟩ = some (.slice x.b x.m x.t) := by
        rw [sz2] at RN
        rw [HD3.out]
        exact fn2_cells RN
      have cn0 : D3.cell? ⟨w1.heap.size + 1, 0, none⟩ = some (.slice (addX X d.n x d.n).a (addX X d.n x d.n).n (addX X d.n x d.n).k) := by rw [hXn]; exact cn.1
      have cn1 : D3.cell? ⟨w1.heap.size + 1, 1, none⟩ = some (.slice (addX X d.n x d.n).b (addX X d.n x d.n).m (addX X d.n x d.n).t) := by rw [hXn]; exact cn.2
      have fx3 : ∀ g o, x.a = some ⟨g, o, none⟩ → base ≤ g ∧ g ≠ b ∧ g ≠ s ∧ (Value.slice a d.n cap).ownBlock ≠ some g ∧ TyI D3 g := fun g o e => by
        have f := fa g o e
        have hbs := HB.out
        have fl := f.2.lt
        exact ⟨by omega, by omega, by omega, fun e2 => by have := hbs.2.2 g e2; omega, (f.2.of (B2.block g fl)).of (B23.block g (by omega))⟩
      have fy3 : ∀ g o, x.b = some ⟨g, o, none⟩ → base ≤ g ∧ g ≠ b ∧ g ≠ s ∧ (Value.slice a d.n cap).ownBlock ≠ some g ∧ TyI D3 g := fun g o e => by
        have f := fb g o e
        have hbs := HB.out
        have fl := f.2.lt
        exact ⟨by omega, by omega, by omega, fun e2 => by have := hbs.2.2 g e2; omega, (f.2.of (B2.block g fl)).of (B23.block g (by omega))⟩
      have KX : Hid (∀ q, D3.grownBy q (Value.slice a d.n cap).ownBlock → q.cell? ⟨w1.heap.size, 0, none⟩ = some (.slice x.a x.n x.k) ∧ q.cell? ⟨w1.heap.size, 1, none⟩ = some (.slice x.b x.m x.t)) := fun q hq => by
        have hb := hq.block w1.heap.size (by omega) (fun e => by have := HB.out.2.2 _ e.symm; omega)
        exact ⟨(World.cell?_of_block (a := ⟨w1.heap.size, 0, none⟩) hb).trans SX3.1, (World.cell?_of_block (a := ⟨w1.heap.size, 1, none⟩) hb).trans SX3.2⟩
      have KX6 : Hid (∀ (q : World) (v : Value), (q.cell? ⟨w1.heap.size, 0, none⟩ = some (.slice x.a x.n x.k) ∧ q.cell? ⟨w1.heap.size, 1, none⟩ = some (.slice x.b x.m x.t)) → (q.setCell ⟨b, 11, none⟩ v).cell? ⟨w1.heap.size, 0, none⟩ = some (.slice x.a x.n x.k) ∧ (q.setCell ⟨b, 11, none⟩ v).cell? ⟨w1.heap.size, 1, none⟩ = some (.slice x.b x.m x.t)) := fun q v hq => by
        have hbs := HB.out.1
        have hb := Go.Deep.blk_setCell_other q ⟨b, 11, none⟩ v w1.heap.size (by show w1.heap.size ≠ b; omega)
        exact ⟨(World.cell?_of_block (a := ⟨w1.heap.size, 0, none⟩) hb).trans hq.1, (World.cell?_of_block (a := ⟨w1.heap.size, 1, none⟩) hb).trans hq.2⟩
      clear cn RN hXn fa fb hin hin2 R2 m0 m1 EX
      go_wp2_with fail
      refine wp_region_held_drew (S := fun q => q.cell? ⟨w1.heap.size, 0, none⟩ = some (.slice x.a x.n x.k) ∧ q.cell? ⟨w1.heap.size, 1, none⟩ = some (.slice x.b x.m x.t)) (by kernel_rfl) (by with_reducible exact SX2) (fun hHeld => ?_)
      refine wpAnyH_take (i := 0) (oi := _) (v := ?_) rfl (by kernel_rfl) (by kernel_rfl) (by kernel_rfl) (fun _ _ _ h => h) (Or.inl ⟨by rfl, ?_⟩) (by assumption) ?_
      rotate_left
      · intro w hSw
        try dsimp only at hSw
        go_simp
        try with_reducible rfl
      simp only [Act.put, List.getElem_toArray, List.getElem_cons_zero, List.setIfInBounds_toArray, List.set_cons_zero, List.set_cons_succ]
      refine wpAnyH_take (i := 1) (oi := _) (v := ?_) rfl (by kernel_rfl) (by kernel_rfl) (by kernel_rfl) (fun _ _ _ h => h) (Or.inl ⟨by rfl, ?_⟩) (by assumption) ?_
      rotate_left
      · intro w hSw
        try dsimp only at hSw
        go_simp
        try with_reducible rfl
      simp only [Act.put, List.getElem_toArray, List.getElem_cons_zero, List.getElem_cons_succ, List.setIfInBounds_toArray, List.set_cons_zero, List.set_cons_succ]
      refine wpAnyH_take (i := 2) (oi := _) (v := ?_) rfl (by kernel_rfl) (by kernel_rfl) (by kernel_rfl) (fun _ _ _ h => h) (Or.inl ⟨by rfl, ?_⟩) (by assumption) ?_
      rotate_left
      · intro w hSw
        try dsimp only at hSw
        go_simp
        try with_reducible rfl
      simp only [Act.put, List.getElem_toArray, List.getElem_cons_zero, List.getElem_cons_succ, List.setIfInBounds_toArray, List.set_cons_zero, List.set_cons_succ]
      refine wpAnyH_take (i := 3) (oi := _) (v := ?_) rfl (by kernel_rfl) (by kernel_rfl) (by kernel_rfl) (fun _ _ _ h => h) (Or.inl ⟨by rfl, ?_⟩) (by assumption) ?_
      rotate_left
      · intro w hSw
        try dsimp only at hSw
        go_simp
        try with_reducible rfl
      simp only [Act.put, List.getElem_toArray, List.getElem_cons_zero, List.getElem_cons_succ, List.setIfInBounds_toArray, List.set_cons_zero, List.set_cons_succ]
      refine wpAnyH_take (i := 5) (oi := _) (v := ?_) rfl (by kernel_rfl) (by kernel_rfl) (by kernel_rfl) (fun _ _ _ h => h) (Or.inl ⟨by rfl, ?_⟩) (by assumption) ?_
      rotate_left
      · intro w hSw
        try dsimp only at hSw
        go_simp
        try with_reducible rfl
      simp only [Act.put, List.getElem_toArray, List.getElem_cons_zero, List.getElem_cons_succ, List.setIfInBounds_toArray, List.set_cons_zero, List.set_cons_succ]
      refine wpAnyH_ready (rs := [4, 6]) (by kernel_rfl) (by simp) ?_
      refine AllReadyH.cons (o := _) rfl (fun K hK => ?_) (AllReadyH.cons (o := _) rfl (fun K hK => ?_) AllReadyH.nil)
      · clear hHeld
        go_simp
        refine hK.out _ _ ?_ (fun hHeld => ?_)
        · with_reducible exact SX2
        clear hK K
        try simp only [Act.put, List.setIfInBounds_toArray, List.set_cons_zero, List.set_cons_succ]
        refine wpAnyH_ready (rs := [6]) (by kernel_rfl) (by simp) ?_
        refine AllReadyH.cons (o := _) rfl (fun K hK => ?_) AllReadyH.nil
        clear hHeld
        go_simp
        rw [← HD3.out]
        refine hK.out _ _ ?_ (fun hHeld => ?_)
        · with_reducible exact SX3
        clear hK K
        try simp only [Act.put, List.setIfInBounds_toArray, List.set_cons_zero, List.set_cons_succ]
        refine wpAnyH_ready (rs := [7]) (by kernel_rfl) (by simp) ?_
        refine AllReadyH.cons (o := _) rfl (fun K hK => ?_) AllReadyH.nil
        clear hHeld
        (refine step_append_ex (by rfl) _ _ (by rfl) base (.slice a d.n cap) d.n (addX X d.n x) (w1.heap.size + 1) (by rfl) (by rfl) (by exact own3) (by exact cn0) (by exact cn1) (by omega) (by omega) ?_; intro v5 w5 hown5 hgr5 hob5; obtain ⟨r5, ⟨a5, c5, hv5, hd5⟩, ch5⟩ := hd3.addE hx3 fx3 fy3 h16 hown5 hgr5 hob5; subst hv5; have P5 := r5.cell (i := 11) (by omega); have F5 := r5.frozen 11; have SX5 : w5.cell? ⟨w1.heap.size, 0, none⟩ = some (.slice x.a x.n x.k) ∧ w5.cell? ⟨w1.heap.size, 1, none⟩ = some (.slice x.b x.m x.t) := KX.out w5 hgr5; have SX6 := KX6.out _ (.slice a5 (d.n + 1) c5) SX5)
        refine hK.out _ _ ?_ (fun hHeld => ?_)
        · with_reducible exact SX5
        clear hK K
        try simp only [Act.put, List.setIfInBounds_toArray]
        refine wpAnyH_take (i := 8) (oi := _) (v := ?_) rfl (by kernel_rfl) (by kernel_rfl) (by kernel_rfl) (fun _ _ _ h => h) (Or.inl ⟨by rfl, ?_⟩) (by assumption) ?_
        rotate_left
        · intro w hSw
          try dsimp only at hSw
          go_simp
          try with_reducible rfl
        simp only [Act.put, List.getElem_toArray, List.getElem_cons_zero, List.getElem_cons_succ, List.setIfInBounds_toArray, List.set_cons_zero, List.set_cons_succ]
        refine wpAnyH_take (i := 9) (oi := _) (v := ?_) rfl (by kernel_rfl) (by kernel_rfl) (by kernel_rfl) (fun _ _ _ h => h) (Or.inl ⟨by rfl, ?_⟩) (by assumption) ?_
        rotate_left
        · intro w hSw
          try dsimp only at hSw
          go_simp
          try with_reducible rfl
        simp only [Act.put, List.getElem_toArray, List.getElem_cons_zero, List.getElem_cons_succ, List.setIfInBounds_toArray, List.set_cons_zero, List.set_cons_succ]
        refine wpAnyH_ready (rs := [10]) (by kernel_rfl) (by simp) ?_
        refine AllReadyH.cons (o := _) rfl (fun K hK => ?_) AllReadyH.nil
        clear hHeld
        go_simp
        refine hK.out _ _ ?_ (fun hHeld => ?_)
        · with_reducible exact SX6
        clear hK K
        try simp only [Act.put, List.setIfInBounds_toArray]
        refine wpAnyH_done (by kernel_rfl) ?_ _
        go_wp2_with fail
        go_ret2
        exact ⟨by rw [HD.out]; rfl, ⟨_, _, _, by rw [HD.out]; exact hd5⟩, (DkCh.ofBelow B13 hlt0).trans ch5⟩
      · clear hHeld
        go_simp
        rw [← HD3.out]
        refine hK.out _ _ ?_ (fun hHeld => ?_)
        · with_reducible exact SX3
        clear hK K
        try simp only [Act.put, List.setIfInBounds_toArray, List.set_cons_zero, List.set_cons_succ]
        refine wpAnyH_ready (rs := [4]) (by kernel_rfl) (by simp) ?_
        refine AllReadyH.cons (o := _) rfl (fun K hK => ?_) AllReadyH.nil
        clear hHeld
        go_simp
        refine hK.out _ _ ?_ (fun hHeld => ?_)
        · with_reducible exact SX3
        clear hK K
        try simp only [Act.put, List.setIfInBounds_toArray, List.set_cons_zero, List.set_cons_succ]
        refine wpAnyH_ready (rs := [7]) (by kernel_rfl) (by simp) ?_
        refine AllReadyH.cons (o := _) rfl (fun K hK => ?_) AllReadyH.nil
        clear hHeld
        (refine step_append_ex (by rfl) _ _ (by rfl) base (.slice a d.n cap) d.n (addX X d.n x) (w1.heap.size + 1) (by rfl) (by rfl) (by exact own3) (by exact cn0) (by exact cn1) (by omega) (by omega) ?_; intro v5 w5 hown5 hgr5 hob5; obtain ⟨r5, ⟨a5, c5, hv5, hd5⟩, ch5⟩ := hd3.addE hx3 fx3 fy3 h16 hown5 hgr5 hob5; subst hv5; have P5 := r5.cell (i := 11) (by omega); have F5 := r5.frozen 11; have SX5 : w5.cell? ⟨w1.heap.size, 0, none⟩ = some (.slice x.a x.n x.k) ∧ w5.cell? ⟨w1.heap.size, 1, none⟩ = some (.slice x.b x.m x.t) := KX.out w5 hgr5; have SX6 := KX6.out _ (.slice a5 (d.n + 1) c5) SX5)
        refine hK.out _ _ ?_ (fun hHeld => ?_)
        · with_reducible exact SX5
        clear hK K
        try simp only [Act.put, List.setIfInBounds_toArray]
        refine wpAnyH_take (i := 8) (oi := _) (v := ?_) rfl (by kernel_rfl) (by kernel_rfl) (by kernel_rfl) (fun _ _ _ h => h) (Or.inl ⟨by rfl, ?_⟩) (by assumption) ?_
        rotate_left
        · intro w hSw
          try dsimp only at hSw
          go_simp
          try with_reducible rfl
        simp only [Act.put, List.getElem_toArray, List.getElem_cons_zero, List.getElem_cons_succ, List.setIfInBounds_toArray, List.set_cons_zero, List.set_cons_succ]
        refine wpAnyH_take (i := 9) (oi := _) (v := ?_) rfl (by kernel_rfl) (by kernel_rfl) (by kernel_rfl) (fun _ _ _ h => h) (Or.inl ⟨by rfl, ?_⟩) (by assumption) ?_
        rotate_left
        · intro w hSw
          try dsimp only at hSw
          go_simp
          try with_reducible rfl
        simp only [Act.put, List.getElem_toArray, List.getElem_cons_zero, List.getElem_cons_succ, List.setIfInBounds_toArray, List.set_cons_zero, List.set_cons_succ]
        refine wpAnyH_ready (rs := [10]) (by kernel_rfl) (by simp) ?_
        refine AllReadyH.cons (o := _) rfl (fun K hK => ?_) AllReadyH.nil
        clear hHeld
        go_simp
        refine hK.out _ _ ?_ (fun hHeld => ?_)
        · with_reducible exact SX6
        clear hK K
        try simp only [Act.put, List.setIfInBounds_toArray]
        refine wpAnyH_done (by kernel_rfl) ?_ _
        go_wp2_with fail
        go_ret2
        exact ⟨by rw [HD.out]; rfl, ⟨_, _, _, by rw [HD.out]; exact hd5⟩, (DkCh.ofBelow B13 hlt0).trans ch5⟩
  · have HD := Lib.hid (dData_bad (d := d) hx)
    have B2 := low_alloc w1 (.cells #[.slice none 0 0, .slice none 0 0] 78)
    have B12 := hw1.trans (B2.mono hw1.size)
    have hd2 := HH.out _ B12
    clear hx
    go_wp2_with fail
    go_ret2
    exact ⟨by rw [HD.out]; rfl, ⟨a, cap, X, by rw [HD.out]; exact hd2⟩, DkCh.ofBelow B12 hlt0⟩
end Go.Proofs.YthmiojmlaclgaaaGreatDoor.Fx

/- What a desk's doAlone tells and leaves. -/
namespace Go.Proofs.YthmiojmlaclgaaaGreatDoor.Fx
open Go.RowKit

variable {base : Nat} {w w' : World} {b s : Nat} {d : Dsk} {a : Option Addr} {cap : Nat} {X : Nat → Exm}
theorem strEqL (x y : List UInt8) : ((⟨x.toArray⟩ : ByteArray).toList == y) = decide (x = y) := by
  have e : (⟨x.toArray⟩ : ByteArray).toList = x := by rw [ByteArray.toList_eq]
  rw [e]
  by_cases h : x = y
  · subst h; simp
  · rw [decide_eq_false h]; exact beq_eq_false_iff_ne.2 h
theorem recsN {w : World} {a : Option Addr} {n c : Nat} {R : Nat → Rcm} {D : Nat → List Int} (h : Recs w a n c R D) {j : Nat} (hj : j < n) : (R j).n = (D j).length := Recs.nS h hj
theorem whE_X {c : Cfg} {n : Nat} {X Y : Nat → Exm} {DI DO : Nat → List Int} {m : Nat} (h : courseI c n X DI DO = courseI c n Y DI DO) : whE c n X DI DO m = whE c n Y DI DO m := by unfold whE; rw [h]
theorem whN_X {c : Cfg} {n : Nat} {X Y : Nat → Exm} {DI DO : Nat → List Int} {m : Nat} {L : Nat → Rcm} {DL : Nat → List Int} {ls : List Ln} (h : courseI c n X DI DO = courseI c n Y DI DO) (hL : ∀ j, j < m → (L j).ln (DL j) = lnAt ls j) : whN c n X DI DO m L DL = whN c n Y DI DO m (rcL ls) (fun j => (lnAt ls j).b) := by
  unfold whN
  rw [whE_X h, firstNo_congr (fun j hj => auB_rc (hL j hj))]

set_option maxRecDepth 100000 in
set_option maxHeartbeats 3200000 in
theorem alone_step (h : DkIn base w b s d a cap X) (v : List UInt8)  (hv : v = [115, 116, 101, 112]) : Calls Tryz.prog 31 #[.pointer (some ⟨b, 0, none⟩), .string ⟨v.toArray⟩] w fun e w' => DoR base b s w (dAlone v d) e w' := by
  have HD : Hid (dAlone v d = dTake d) := by
    show _ = _
    unfold dAlone
    rw [if_pos hv]
  obtain ⟨V, HV⟩ : ∃ X : ByteArray, Hid ((⟨v.toArray⟩ : ByteArray) = X) := ⟨_, rfl⟩
  have q0 : (V.toList == [115, 116, 101, 112]) = true := by rw [← HV.out]; exact (strEqL v [115, 116, 101, 112]).trans (decide_eq_true hv)
  rw [HV.out]
  have DS := dstep_calls h
  go_enter Tryz.func31, Tryz.ntmps31
  go_wp2_with (go_at_call 48; refine DS.mono ?_; rintro e w1 ⟨rfl, hk, hc⟩)
  go_ret2
  exact ⟨by rw [HD.out]; rfl, by rw [HD.out]; exact hk, hc⟩

set_option maxRecDepth 100000 in
set_option maxHeartbeats 3200000 in
theorem alone_sync (h : DkIn base w b s d a cap X) (v : List UInt8) (h0 : v ≠ [115, 116, 101, 112]) (hv : v = [115, 121, 110, 99]) : Calls Tryz.prog 31 #[.pointer (some ⟨b, 0, none⟩), .string ⟨v.toArray⟩] w fun e w' => DoR base b s w (dAlone v d) e w' := by
  have HD : Hid (dAlone v d = ⟨okA, 0, { d with sy := d.T.length }⟩) := by
    show _ = _
    unfold dAlone
    rw [if_neg h0, if_pos hv]
  obtain ⟨V, HV⟩ : ∃ X : ByteArray, Hid ((⟨v.toArray⟩ : ByteArray) = X) := ⟨_, rfl⟩
  have q0 : (V.toList == [115, 116, 101, 112]) = false := by rw [← HV.out]; exact (strEqL v [115, 116, 101, 112]).trans (decide_eq_false h0)
  have q1 : (V.toList == [115, 121, 110, 99]) = true := by rw [← HV.out]; exact (strEqL v [115, 121, 110, 99]).trans (decide_eq_true hv)
  rw [HV.out]
  have DS := sync_calls s d.T 4096 d.sy w h.st
  have c12 := h.cells.2.2
  go_enter Tryz.func31, Tryz.ntmps31
  go_wp2_with (go_at_call 49; refine DS.mono ?_; rintro e w1 ⟨rfl, hS, hK⟩)
  go_ret2
  have hd1 : DkIn base w1 b s { d with T := d.T, sy := d.T.length } a cap X := h.keeps hK hS ⟨h.ok.c, h.ok.s, h.ok.n, h.ok.T, Nat.le_refl _⟩
  exact ⟨by rw [HD.out]; rfl, ⟨a, cap, X, by rw [HD.out]; exact hd1⟩, DkCh.ofKeeps hK h.hs h.lt h.st⟩

set_option maxRecDepth 100000 in
set_option maxHeartbeats 3200000 in
theorem alone_repair (h : DkIn base w b s d a cap X) (v : List UInt8) (h0 : v ≠ [115, 116, 101, 112]) (h1 : v ≠ [115, 121, 110, 99]) (hv : v = [114, 101, 112, 97, 105, 114]) : Calls Tryz.prog 31 #[.pointer (some ⟨b, 0, none⟩), .string ⟨v.toArray⟩] w fun e w' => DoR base b s w (dAlone v d) e w' := by
  have HD : Hid (dAlone v d = dRepair d) := by
    show _ = _
    unfold dAlone
    rw [if_neg h0, if_neg h1, if_pos hv]
  obtain ⟨V, HV⟩ : ∃ X : ByteArray, Hid ((⟨v.toArray⟩ : ByteArray) = X) := ⟨_, rfl⟩
  have q0 : (V.toList == [115, 116, 101, 112]) = false := by rw [← HV.out]; exact (strEqL v [115, 116, 101, 112]).trans (decide_eq_false h0)
  have q1 : (V.toList == [115, 121, 110, 99]) = false := by rw [← HV.out]; exact (strEqL v [115, 121, 110, 99]).trans (decide_eq_false h1)
  have q2 : (V.toList == [114, 101, 112, 97, 105, 114]) = true := by rw [← HV.out]; exact (strEqL v [114, 101, 112, 97, 105, 114]).trans (decide_eq_true hv)
  rw [HV.out]
  have DS := Lib.hid (repair_calls s d.T 4096 d.sy (by have := h.ok.T; omega) w h.st h.ld)
  have c12 := h.cells.2.2
  have HRD : Hid (dRepair d = ⟨Lib.itoa ((d.T.length : Int) - ((flatLn (begL d.T)).length : Int)), 0, { d with T := d.T.take (flatLn (begL d.T)).length, sy := (flatLn (begL d.T)).length }⟩) := rfl
  have hT := h.ok.T
  go_enter Tryz.func31, Tryz.ntmps31
  go_wp2_with fail
  refine DS.out.mono ?_
  rintro e w1 ⟨ls, N, hB, HN, hN, rfl, hS, hK⟩
  have eN : (flatLn (begL d.T)).length = N := by rw [begL_of hB]; exact HN.out
  rw [eN] at HRD
  have hd1 : DkIn base w1 b s { d with T := d.T.take N, sy := N } a cap X := h.keeps hK hS ⟨h.ok.c, h.ok.s, h.ok.n, by show (d.T.take N).length ≤ 4096; rw [List.length_take]; omega, by show N ≤ (d.T.take N).length; rw [List.length_take]; omega⟩
  have NC := number_calls ((d.T.length : Int) - (N : Int)) 0 (by omega) (by omega) d w1 hd1.ld
  have HND : Hid (dNum ((d.T.length : Int) - (N : Int)) 0 d = ⟨Lib.itoa ((d.T.length : Int) - (N : Int)), 0, d⟩) := if_pos rfl
  rw [HND.out] at NC
  have hCh := DkCh.ofKeeps hK h.hs h.lt h.st
  clear hB HN eN DS
  dsimp only at NC
  obtain ⟨Z, HZ⟩ : ∃ X : ByteArray, Hid ((⟨(Lib.itoa ((d.T.length : Int) - (N : Int))).toArray⟩ : ByteArray) = X) := ⟨_, rfl⟩
  rw [HZ.out] at NC
  go_wp2_with (go_at_call 35; refine NC.mono ?_; rintro e w2 ⟨rfl, hw2⟩)
  go_ret2
  exact ⟨by rw [HD.out, HRD.out]; dsimp only; rw [HZ.out]; rfl, ⟨a, cap, X, by rw [HD.out, HRD.out]; exact hd1.below hw2⟩, hCh.trans (DkCh.ofBelow hw2 hd1.lt)⟩

set_option maxRecDepth 100000 in
set_option maxHeartbeats 3200000 in
theorem alone_bytes (h : DkIn base w b s d a cap X) (v : List UInt8) (h0 : v ≠ [115, 116, 101, 112]) (h1 : v ≠ [115, 121, 110, 99]) (h2 : v ≠ [114, 101, 112, 97, 105, 114]) (h3 : v ≠ [97, 117, 100, 105, 116]) (hv : v = [98, 121, 116, 101, 115]) : Calls Tryz.prog 31 #[.pointer (some ⟨b, 0, none⟩), .string ⟨v.toArray⟩] w fun e w' => DoR base b s w (dAlone v d) e w' := by
  have HD : Hid (dAlone v d = ⟨Lib.itoa d.T.length, 0, d⟩) := by
    show _ = _
    unfold dAlone
    rw [if_neg h0, if_neg h1, if_neg h2, if_neg h3, if_pos hv]
  obtain ⟨V, HV⟩ : ∃ X : ByteArray, Hid ((⟨v.toArray⟩ : ByteArray) = X) := ⟨_, rfl⟩
  have q0 : (V.toList == [115, 116, 101, 112]) = false := by rw [← HV.out]; exact (strEqL v [115, 116, 101, 112]).trans (decide_eq_false h0)
  have q1 : (V.toList == [115, 121, 110, 99]) = false := by rw [← HV.out]; exact (strEqL v [115, 121, 110, 99]).trans (decide_eq_false h1)
  have q2 : (V.toList == [114, 101, 112, 97, 105, 114]) = false := by rw [← HV.out]; exact (strEqL v [114, 101, 112, 97, 105, 114]).trans (decide_eq_false h2)
  have q3 : (V.toList == [97, 117, 100, 105, 116]) = false := by rw [← HV.out]; exact (strEqL v [97, 117, 100, 105, 116]).trans (decide_eq_false h3)
  have q4 : (V.toList == [98, 121, 116, 101, 115]) = true := by rw [← HV.out]; exact (strEqL v [98, 121, 116, 101, 115]).trans (decide_eq_true hv)
  rw [HV.out]
  have DS := bytes_calls s d.T 4096 d.sy (by have := h.ok.T; omega) w h.st
  have c12 := h.cells.2.2
  have hT := h.ok.T
  obtain ⟨TB, HTB⟩ : ∃ X : ByteArray, Hid ((⟨d.T.toArray⟩ : ByteArray) = X) := ⟨_, rfl⟩
  have htb : TB.size = d.T.length := by rw [← HTB.out]; rfl
  rw [HTB.out] at DS
  go_enter Tryz.func31, Tryz.ntmps31
  go_wp2_with fail
  refine DS.mono ?_
  rintro e w1 ⟨rfl, hw1⟩
  have hd1 := h.below hw1
  have NC := number_calls (d.T.length : Int) 0 (by omega) (by omega) d w1 hd1.ld
  have HND : Hid (dNum (d.T.length : Int) 0 d = ⟨Lib.itoa (d.T.length : Int), 0, d⟩) := if_pos rfl
  rw [HND.out] at NC
  dsimp only at NC
  obtain ⟨Z, HZ⟩ : ∃ X : ByteArray, Hid ((⟨(Lib.itoa (d.T.length : Int)).toArray⟩ : ByteArray) = X) := ⟨_, rfl⟩
  rw [HZ.out] at NC
  go_wp2_with (go_at_call 35; refine NC.mono ?_; rintro e w2 ⟨rfl, hw2⟩)
  go_ret2
  exact ⟨by rw [HD.out]; dsimp only; rw [HZ.out]; rfl, ⟨a, cap, X, by rw [HD.out]; exact hd1.below hw2⟩, (DkCh.ofBelow hw1 h.lt).trans (DkCh.ofBelow hw2 hd1.lt)⟩

set_option maxRecDepth 100000 in
set_option maxHeartbeats 3200000 in
theorem alone_none (h : DkIn base w b s d a cap X) (v : List UInt8) (h0 : v ≠ [115, 116, 101, 112]) (h1 : v ≠ [115, 121, 110, 99]) (h2 : v ≠ [114, 101, 112, 97, 105, 114]) (h3 : v ≠ [97, 117, 100, 105, 116]) (h4 : v ≠ [98, 121, 116, 101, 115]) : Calls Tryz.prog 31 #[.pointer (some ⟨b, 0, none⟩), .string ⟨v.toArray⟩] w fun e w' => DoR base b s w (dAlone v d) e w' := by
  have HD : Hid (dAlone v d = ⟨[], 3, d⟩) := by
    show _ = _
    unfold dAlone
    rw [if_neg h0, if_neg h1, if_neg h2, if_neg h3, if_neg h4]
  obtain ⟨V, HV⟩ : ∃ X : ByteArray, Hid ((⟨v.toArray⟩ : ByteArray) = X) := ⟨_, rfl⟩
  have q0 : (V.toList == [115, 116, 101, 112]) = false := by rw [← HV.out]; exact (strEqL v [115, 116, 101, 112]).trans (decide_eq_false h0)
  have q1 : (V.toList == [115, 121, 110, 99]) = false := by rw [← HV.out]; exact (strEqL v [115, 121, 110, 99]).trans (decide_eq_false h1)
  have q2 : (V.toList == [114, 101, 112, 97, 105, 114]) = false := by rw [← HV.out]; exact (strEqL v [114, 101, 112, 97, 105, 114]).trans (decide_eq_false h2)
  have q3 : (V.toList == [97, 117, 100, 105, 116]) = false := by rw [← HV.out]; exact (strEqL v [97, 117, 100, 105, 116]).trans (decide_eq_false h3)
  have q4 : (V.toList == [98, 121, 116, 101, 115]) = false := by rw [← HV.out]; exact (strEqL v [98, 121, 116, 101, 115]).trans (decide_eq_false h4)
  rw [HV.out]
  go_enter Tryz.func31, Tryz.ntmps31
  go_wp2_with fail
  go_ret2
  exact ⟨by rw [HD.out]; rfl, ⟨a, cap, X, by rw [HD.out]; exact h⟩, DkCh.ofBelow (Below.refl _ _) h.lt⟩

set_option maxRecDepth 100000 in
set_option maxHeartbeats 3200000 in
theorem alone_audit (h : DkIn base w b s d a cap X) (v : List UInt8) (h0 : v ≠ [115, 116, 101, 112]) (h1 : v ≠ [115, 121, 110, 99]) (h2 : v ≠ [114, 101, 112, 97, 105, 114]) (hv : v = [97, 117, 100, 105, 116]) : Calls Tryz.prog 31 #[.pointer (some ⟨b, 0, none⟩), .string ⟨v.toArray⟩] w fun e w' => DoR base b s w (dAlone v d) e w' := by
  have HD : Hid (dAlone v d = dAudit d) := by
    show _ = _
    unfold dAlone
    rw [if_neg h0, if_neg h1, if_neg h2, if_pos hv]
  obtain ⟨V, HV⟩ : ∃ X : ByteArray, Hid ((⟨v.toArray⟩ : ByteArray) = X) := ⟨_, rfl⟩
  have q0 : (V.toList == [115, 116, 101, 112]) = false := by rw [← HV.out]; exact (strEqL v [115, 116, 101, 112]).trans (decide_eq_false h0)
  have q1 : (V.toList == [115, 121, 110, 99]) = false := by rw [← HV.out]; exact (strEqL v [115, 121, 110, 99]).trans (decide_eq_false h1)
  have q2 : (V.toList == [114, 101, 112, 97, 105, 114]) = false := by rw [← HV.out]; exact (strEqL v [114, 101, 112, 97, 105, 114]).trans (decide_eq_false h2)
  have q3 : (V.toList == [97, 117, 100, 105, 116]) = true := by rw [← HV.out]; exact (strEqL v [97, 117, 100, 105, 116]).trans (decide_eq_true hv)
  rw [HV.out]
  have RC0 := records_calls s d.T 4096 d.sy (by have := h.ok.T; omega) w.drew (h.st.below (Below.refl _ _).drew) (h.ld.below (Below.refl _ _).drew (Nat.le_refl _))
  have RC := Lib.hid RC0
  have hdr : Below w.heap.size w w.drew := (Below.refl _ _).drew
  have KC : Hid (∀ q, Below w.heap.size w q → q.cell? ⟨b, 0, none⟩ = some (.int .i64 d.c.i) ∧ q.cell? ⟨b, 1, none⟩ = some (.int .i64 d.c.h) ∧ q.cell? ⟨b, 2, none⟩ = some (.int .i64 d.c.o) ∧ q.cell? ⟨b, 3, none⟩ = some (.int .u64 d.c.seed) ∧ q.cell? ⟨b, 4, none⟩ = some (.int .i64 d.c.batch) ∧ q.cell? ⟨b, 5, none⟩ = some (.int .i64 d.c.steps) ∧ q.cell? ⟨b, 6, none⟩ = some (.int .i64 d.c.rate) ∧ q.cell? ⟨b, 7, none⟩ = some (.int .i64 d.c.decay) ∧ q.cell? ⟨b, 8, none⟩ = some (.int .i64 d.c.how) ∧ q.cell? ⟨b, 9, none⟩ = some (.int .i64 d.c.keep) ∧ q.cell? ⟨b, 10, none⟩ = some (.int .i64 d.c.clip) ∧ q.cell? ⟨b, 11, none⟩ = some (.slice a d.n cap) ∧ q.cell? ⟨b, 12, none⟩ = some (.pointer (some ⟨s, 0, none⟩))) := fun q hq => ⟨(h.below hq).cells.1.c0, (h.below hq).cells.1.c1, (h.below hq).cells.1.c2, (h.below hq).cells.1.c3, (h.below hq).cells.1.c4, (h.below hq).cells.1.c5, (h.below hq).cells.1.c6, (h.below hq).cells.1.c7, (h.below hq).cells.1.c8, (h.below hq).cells.1.c9, (h.below hq).cells.1.c10, (h.below hq).cells.2.1, (h.below hq).cells.2.2⟩
  obtain ⟨AE, HAE⟩ : ∃ t, Hid (whE d.c d.n d.X d.DI d.DO d.k = t) := ⟨_, rfl⟩
  obtain ⟨AN, HAN⟩ : ∃ t : Nat, Hid (whN d.c d.n d.X d.DI d.DO d.k (rcL (begL d.T)) (fun j => (lnAt (begL d.T) j).b) = t) := ⟨_, rfl⟩
  have HWH : Hid (∀ q, Below w.heap.size w q → ∀ (ls : List Ln) (a1 : Option Addr) (c1 : Nat) (R : Nat → Rcm), Beg d.T ls → (∀ j, j < ls.length → (R j).ln (lnAt ls j).b = lnAt ls j) → Recs q a1 ls.length c1 R (fun j => (lnAt ls j).b) → Calls Tryz.prog 51 #[d.c.val, .slice a d.n cap, .slice a1 ls.length c1] q fun e w' => e = .returned (.tuple #[.int .i64 (AN : Nat), .int .i64 AE]) ∧ Below q.heap.size q w') := fun q hq ls a1 c1 R hB hR hRec => by
    have e1 : begL d.T = ls := begL_of hB
    have e2 : d.k = ls.length := by unfold Dsk.k; rw [e1]
    have W := whole_calls d.c h.ok.s a d.n cap X d.DI d.DO a1 ls.length c1 R (fun j => (lnAt ls j).b) q (h.below hq).exs hRec (fun j hj => by rw [recsN hRec hj]; have := (hB.ok j hj).n; omega)
    rw [whN_X h.course hR, whE_X h.course] at W
    rw [e1, e2] at HAN
    rw [e2] at HAE
    rw [HAN.out, HAE.out] at W
    exact W
  have HNB : Hid (AN ≤ 100) := by
    show _ ≤ _
    rw [← HAN.out]
    have hk : d.k ≤ 100 := (begL_is d.T).toBegTo.len
    unfold whN
    split
    · exact Nat.le_trans (firstNo_le _ _) hk
    · omega
  have hnb := HNB.out
  have HNC : Hid (∀ q, Below w.heap.size w q → Calls Tryz.prog 35 #[.int .i64 (AN : Nat), .int .i64 AE] q fun e w' => e = .returned (.tuple #[.string ⟨(dNum (AN : Nat) AE d).told.toArray⟩, .int .i64 (dNum (AN : Nat) AE d).e]) ∧ Below q.heap.size q w') := fun q hq => number_calls _ _ (by omega) (by omega) d q (h.below hq).ld
  have HDA : Hid (dAudit d = dNum (AN : Nat) AE d) := by show _ = _; unfold dAudit; rw [HAN.out, HAE.out]
  have HH : Hid (∀ q, Below w.heap.size w q → DkIn base q b s d a cap X) := fun q hq => h.below hq
  have hlt0 := h.lt
  have HDD := Lib.hid (dNum_d (AN : Nat) AE d)
  obtain ⟨ND, HND⟩ : ∃ t, Hid (dNum (AN : Nat) AE d = t) := ⟨_, rfl⟩
  rw [HND.out] at HNC HDA HDD
  obtain ⟨told, ne, nd⟩ := ND
  dsimp only at HNC HDD
  obtain rfl : d = nd := HDD.out.symm
  obtain ⟨Z, HZ⟩ : ∃ X : ByteArray, Hid ((⟨told.toArray⟩ : ByteArray) = X) := ⟨_, rfl⟩
  rw [HZ.out] at HNC
  simp only [Cfg.val, Cfg.cells] at HWH
  clear RC0 HAE HAN HND h
  go_enter Tryz.func31, Tryz.ntmps31
  go_wp2_with fail
  refine wp_region_held_drew (S := fun q => q.cell? ⟨b, 0, none⟩ = some (.int .i64 d.c.i) ∧ q.cell? ⟨b, 1, none⟩ = some (.int .i64 d.c.h) ∧ q.cell? ⟨b, 2, none⟩ = some (.int .i64 d.c.o) ∧ q.cell? ⟨b, 3, none⟩ = some (.int .u64 d.c.seed) ∧ q.cell? ⟨b, 4, none⟩ = some (.int .i64 d.c.batch) ∧ q.cell? ⟨b, 5, none⟩ = some (.int .i64 d.c.steps) ∧ q.cell? ⟨b, 6, none⟩ = some (.int .i64 d.c.rate) ∧ q.cell? ⟨b, 7, none⟩ = some (.int .i64 d.c.decay) ∧ q.cell? ⟨b, 8, none⟩ = some (.int .i64 d.c.how) ∧ q.cell? ⟨b, 9, none⟩ = some (.int .i64 d.c.keep) ∧ q.cell? ⟨b, 10, none⟩ = some (.int .i64 d.c.clip) ∧ q.cell? ⟨b, 11, none⟩ = some (.slice a d.n cap) ∧ q.cell? ⟨b, 12, none⟩ = some (.pointer (some ⟨s, 0, none⟩))) (by kernel_rfl) (by with_reducible exact (KC.out _ hdr)) (fun hHeld => ?_)
  refine wpAnyH_take (i := 0) (oi := _) (v := ?_) rfl (by kernel_rfl) (by kernel_rfl) (by kernel_rfl) (fun _ _ _ h => h) (Or.inl ⟨by rfl, ?_⟩) (by assumption) ?_
  rotate_left
  · intro w hSw
    try dsimp only at hSw
    go_simp
    try with_reducible rfl
  simp only [Act.put, List.getElem_toArray, List.getElem_cons_zero, List.setIfInBounds_toArray, List.set_cons_zero, List.set_cons_succ]
  refine wpAnyH_take (i := 1) (oi := _) (v := ?_) rfl (by kernel_rfl) (by kernel_rfl) (by kernel_rfl) (fun _ _ _ h => h) (Or.inl ⟨by rfl, ?_⟩) (by assumption) ?_
  rotate_left
  · intro w hSw
    try dsimp only at hSw
    go_simp
    try with_reducible rfl
  simp only [Act.put, List.getElem_toArray, List.getElem_cons_zero, List.getElem_cons_succ, List.setIfInBounds_toArray, List.set_cons_zero, List.set_cons_succ]
  refine wpAnyH_take (i := 2) (oi := _) (v := ?_) rfl (by kernel_rfl) (by kernel_rfl) (by kernel_rfl) (fun _ _ _ h => h) (Or.inl ⟨by rfl, ?_⟩) (by assumption) ?_
  rotate_left
  · intro w hSw
    try dsimp only at hSw
    go_simp
    try with_reducible rfl
  simp only [Act.put, List.getElem_toArray, List.getElem_cons_zero, List.getElem_cons_succ, List.setIfInBounds_toArray, List.set_cons_zero, List.set_cons_succ]
  refine wpAnyH_take (i := 3) (oi := _) (v := ?_) rfl (by kernel_rfl) (by kernel_rfl) (by kernel_rfl) (fun _ _ _ h => h) (Or.inl ⟨by rfl, ?_⟩) (by assumption) ?_
  rotate_left
  · intro w hSw
    try dsimp only at hSw
    go_simp
    try with_reducible rfl
  simp only [Act.put, List.getElem_toArray, List.getElem_cons_zero, List.getElem_cons_succ, List.setIfInBounds_toArray, List.set_cons_zero, List.set_cons_succ]
  refine wpAnyH_take (i := 4) (oi := _) (v := ?_) rfl (by kernel_rfl) (by kernel_rfl) (by kernel_rfl) (fun _ _ _ h => h) (Or.inl ⟨by rfl, ?_⟩) (by assumption) ?_
  rotate_left
  · intro w hSw
    try dsimp only at hSw
    go_simp
    try with_reducible rfl
  simp only [Act.put, List.getElem_toArray, List.getElem_cons_zero, List.getElem_cons_succ, List.setIfInBounds_toArray, List.set_cons_zero, List.set_cons_succ]
  refine wpAnyH_take (i := 5) (oi := _) (v := ?_) rfl (by kernel_rfl) (by kernel_rfl) (by kernel_rfl) (fun _ _ _ h => h) (Or.inl ⟨by rfl, ?_⟩) (by assumption) ?_
  rotate_left
  · intro w hSw
    try dsimp only at hSw
    go_simp
    try with_reducible rfl
  simp only [Act.put, List.getElem_toArray, List.getElem_cons_zero, List.getElem_cons_succ, List.setIfInBounds_toArray, List.set_cons_zero, List.set_cons_succ]
  refine wpAnyH_take (i := 6) (oi := _) (v := ?_) rfl (by kernel_rfl) (by kernel_rfl) (by kernel_rfl) (fun _ _ _ h => h) (Or.inl ⟨by rfl, ?_⟩) (by assumption) ?_
  rotate_left
  · intro w hSw
    try dsimp only at hSw
    go_simp
    try with_reducible rfl
  simp only [Act.put, List.getElem_toArray, List.getElem_cons_zero, List.getElem_cons_succ, List.setIfInBounds_toArray, List.set_cons_zero, List.set_cons_succ]
  refine wpAnyH_take (i := 7) (oi := _) (v := ?_) rfl (by kernel_rfl) (by kernel_rfl) (by kernel_rfl) (fun _ _ _ h => h) (Or.inl ⟨by rfl, ?_⟩) (by assumption) ?_
  rotate_left
  · intro w hSw
    try dsimp only at hSw
    go_simp
    try with_reducible rfl
  simp only [Act.put, List.getElem_toArray, List.getElem_cons_zero, List.getElem_cons_succ, List.setIfInBounds_toArray, List.set_cons_zero, List.set_cons_succ]
  refine wpAnyH_take (i := 8) (oi := _) (v := ?_) rfl (by kernel_rfl) (by kernel_rfl) (by kernel_rfl) (fun _ _ _ h => h) (Or.inl ⟨by rfl, ?_⟩) (by assumption) ?_
  rotate_left
  · intro w hSw
    try dsimp only at hSw
    go_simp
    try with_reducible rfl
  simp only [Act.put, List.getElem_toArray, List.getElem_cons_zero, List.getElem_cons_succ, List.setIfInBounds_toArray, List.set_cons_zero, List.set_cons_succ]
  refine wpAnyH_take (i := 9) (oi := _) (v := ?_) rfl (by kernel_rfl) (by kernel_rfl) (by kernel_rfl) (fun _ _ _ h => h) (Or.inl ⟨by rfl, ?_⟩) (by assumption) ?_
  rotate_left
  · intro w hSw
    try dsimp only at hSw
    go_simp
    try with_reducible rfl
  simp only [Act.put, List.getElem_toArray, List.getElem_cons_zero, List.getElem_cons_succ, List.setIfInBounds_toArray, List.set_cons_zero, List.set_cons_succ]
  refine wpAnyH_take (i := 10) (oi := _) (v := ?_) rfl (by kernel_rfl) (by kernel_rfl) (by kernel_rfl) (fun _ _ _ h => h) (Or.inl ⟨by rfl, ?_⟩) (by assumption) ?_
  rotate_left
  · intro w hSw
    try dsimp only at hSw
    go_simp
    try with_reducible rfl
  simp only [Act.put, List.getElem_toArray, List.getElem_cons_zero, List.getElem_cons_succ, List.setIfInBounds_toArray, List.set_cons_zero, List.set_cons_succ]
  refine wpAnyH_take (i := 11) (oi := _) (v := ?_) rfl (by kernel_rfl) (by kernel_rfl) (by kernel_rfl) (fun _ _ _ h => h) (Or.inl ⟨by rfl, ?_⟩) (by assumption) ?_
  rotate_left
  · intro w hSw
    try dsimp only at hSw
    go_simp
    try with_reducible rfl
  simp only [Act.put, List.getElem_toArray, List.getElem_cons_zero, List.getElem_cons_succ, List.setIfInBounds_toArray, List.set_cons_zero, List.set_cons_succ]
  refine wpAnyH_ready (rs := [12]) (by kernel_rfl) (by simp) ?_
  refine AllReadyH.cons (o := _) rfl (fun K hK => ?_) AllReadyH.nil
  clear hHeld
  go_simp
  (go_at_call 52; refine RC.out.mono ?_; rintro e w1 ⟨⟨ls, a1, c1, R, hB, hR, hRec, hF, rfl⟩, hw1⟩; have hd1 : Below w.heap.size w w1 := hdr.trans hw1; have Z1 := KC.out _ hd1; have WH := HWH.out w1 hd1 ls a1 c1 R hB hR hRec)
  go_wp2_with fail
  refine hK.out _ _ ?_ (fun hHeld => ?_)
  · with_reducible exact Z1
  clear hK K
  try simp only [Act.put, List.setIfInBounds_toArray, List.set_cons_zero, List.set_cons_succ]
  refine wpAnyH_ready (rs := [13]) (by kernel_rfl) (by simp) ?_
  refine AllReadyH.cons (o := _) rfl (fun K hK => ?_) AllReadyH.nil
  clear hHeld
  go_simp
  (go_at_call 51; refine WH.mono ?_; rintro e w2 ⟨rfl, hw2⟩; have hd2 := hd1.trans (hw2.mono hd1.size); have Z2 := KC.out _ hd2; have NC := HNC.out w2 hd2)
  go_wp2_with fail
  refine hK.out _ _ ?_ (fun hHeld => ?_)
  · with_reducible exact Z2
  clear hK K
  try simp only [Act.put, List.setIfInBounds_toArray, List.set_cons_zero, List.set_cons_succ]
  refine wpAnyH_take (i := 14) (oi := _) (v := ?_) rfl (by kernel_rfl) (by kernel_rfl) (by kernel_rfl) (fun _ _ _ h => h) (Or.inl ⟨by rfl, ?_⟩) (by assumption) ?_
  rotate_left
  · intro w hSw
    try dsimp only at hSw
    go_simp
    try with_reducible rfl
  simp only [Act.put, List.getElem_toArray, List.getElem_cons_zero, List.getElem_cons_succ, List.setIfInBounds_toArray, List.set_cons_zero, List.set_cons_succ]
  refine wpAnyH_take (i := 15) (oi := _) (v := ?_) rfl (by kernel_rfl) (by kernel_rfl) (by kernel_rfl) (fun _ _ _ h => h) (Or.inl ⟨by rfl, ?_⟩) (by assumption) ?_
  rotate_left
  · intro w hSw
    try dsimp only at hSw
    go_simp
    try with_reducible rfl
  simp only [Act.put, List.getElem_toArray, List.getElem_cons_zero, List.getElem_cons_succ, List.setIfInBounds_toArray, List.set_cons_zero, List.set_cons_succ]
  refine wpAnyH_ready (rs := [16]) (by kernel_rfl) (by simp) ?_
  refine AllReadyH.cons (o := _) rfl (fun K hK => ?_) AllReadyH.nil
  clear hHeld
  go_simp
  (go_at_call 35; refine NC.mono ?_; rintro e w3 ⟨rfl, hw3⟩; have hd3 := hd2.trans (hw3.mono hd2.size); have Z3 := KC.out _ hd3)
  go_wp2_with fail
  refine hK.out _ _ ?_ (fun hHeld => ?_)
  · with_reducible exact Z3
  clear hK K
  try simp only [Act.put, List.setIfInBounds_toArray, List.set_cons_zero, List.set_cons_succ]
  refine wpAnyH_take (i := 17) (oi := _) (v := ?_) rfl (by kernel_rfl) (by kernel_rfl) (by kernel_rfl) (fun _ _ _ h => h) (Or.inl ⟨by rfl, ?_⟩) (by assumption) ?_
  rotate_left
  · intro w hSw
    try dsimp only at hSw
    go_simp
    try with_reducible rfl
  simp only [Act.put, List.getElem_toArray, List.getElem_cons_zero, List.getElem_cons_succ, List.setIfInBounds_toArray, List.set_cons_zero, List.set_cons_succ]
  refine wpAnyH_take (i := 18) (oi := _) (v := ?_) rfl (by kernel_rfl) (by kernel_rfl) (by kernel_rfl) (fun _ _ _ h => h) (Or.inl ⟨by rfl, ?_⟩) (by assumption) ?_
  rotate_left
  · intro w hSw
    try dsimp only at hSw
    go_simp
    try with_reducible rfl
  simp only [Act.put, List.getElem_toArray, List.getElem_cons_zero, List.getElem_cons_succ, List.setIfInBounds_toArray, List.set_cons_zero, List.set_cons_succ]
  refine wpAnyH_take (i := 19) (oi := _) (v := ?_) rfl (by kernel_rfl) (by kernel_rfl) (by kernel_rfl) (fun _ _ _ h => h) (Or.inl ⟨by rfl, ?_⟩) (by assumption) ?_
  rotate_left
  · intro w hSw
    try dsimp only at hSw
    go_simp
    try with_reducible rfl
  simp only [Act.put, List.getElem_toArray, List.getElem_cons_zero, List.getElem_cons_succ, List.setIfInBounds_toArray, List.set_cons_zero, List.set_cons_succ]
  refine wpAnyH_take (i := 20) (oi := _) (v := ?_) rfl (by kernel_rfl) (by kernel_rfl) (by kernel_rfl) (fun _ _ _ h => h) (Or.inl ⟨by rfl, ?_⟩) (by assumption) ?_
  rotate_left
  · intro w hSw
    try dsimp only at hSw
    go_simp
    try with_reducible rfl
  simp only [Act.put, List.getElem_toArray, List.getElem_cons_zero, List.getElem_cons_succ, List.setIfInBounds_toArray, List.set_cons_zero, List.set_cons_succ]
  refine wpAnyH_done (by kernel_rfl) ?_ _
  go_wp2_with fail
  go_ret2
  exact ⟨by rw [HD.out, HDA.out]; dsimp only; rw [HZ.out]; rfl, ⟨a, cap, X, by rw [HD.out, HDA.out]; exact HH.out _ hd3⟩, DkCh.ofBelow hd3 hlt0⟩

theorem alone_calls (h : DkIn base w b s d a cap X) (v : List UInt8) : Calls Tryz.prog 31 #[.pointer (some ⟨b, 0, none⟩), .string ⟨v.toArray⟩] w fun e w' => DoR base b s w (dAlone v d) e w' := by
  by_cases h0 : v = [115, 116, 101, 112]
  · exact alone_step h v h0
  by_cases h1 : v = [115, 121, 110, 99]
  · exact alone_sync h v h0 h1
  by_cases h2 : v = [114, 101, 112, 97, 105, 114]
  · exact alone_repair h v h0 h1 h2
  by_cases h3 : v = [97, 117, 100, 105, 116]
  · exact alone_audit h v h0 h1 h2 h3
  by_cases h4 : v = [98, 121, 116, 101, 115]
  · exact alone_bytes h v h0 h1 h2 h3 h4
  exact alone_none h v h0 h1 h2 h3 h4
end Go.Proofs.YthmiojmlaclgaaaGreatDoor.Fx

/- A number as it is told has at most ten digits. -/
namespace Go.Proofs.YthmiojmlaclgaaaGreatDoor.Fx
open Go.RowKit
theorem dec_lt (k u : Nat) (h : (Lib.decDigits u).length ≤ k) : u < 10 ^ k := by
  rw [Lib.decDigits_length] at h
  exact Nat.lt_of_lt_of_le (Lib.lt_pow_nDigits u) (Nat.pow_le_pow_right (by omega) h)
theorem numO_bd {x : List UInt8} {v : Int} (h : numO x = some v) : -10000000000 < v ∧ v < 10000000000 := by
  unfold numO at h
  split at h
  · rename_i h10
    split at h
    · rename_i u _
      split at h
      · rename_i e
        simp only [Option.some.injEq] at h
        subst h
        unfold Lib.itoa at e
        split at e
        · have e2 : Lib.trimPrefix x [45] = Lib.decDigits u.natAbs := by rw [← e]; rfl
          rw [e2] at h10
          have := dec_lt 10 u.natAbs h10
          omega
        · have e2 : Lib.trimPrefix x [45] = x := by
            unfold Lib.trimPrefix
            rw [if_neg]
            rw [← e]
            intro hp
            have hd := dec_digit u.toNat
            have hne := dec_ne u.toNat
            cases hh : Lib.decDigits u.toNat with
            | nil => exact hne hh
            | cons y r =>
              rw [hh] at hp hd
              have h1 := (hd y (by simp)).1
              have h2 : (45 : UInt8) = y := by
                unfold Lib.hasPrefix at hp
                simp [List.isPrefixOf] at hp
                exact hp
              subst h2
              simp at h1
          rw [e2, ← e] at h10
          have := dec_lt 10 u.toNat h10
          omega
      · cases h
    · cases h
  · cases h
theorem numsO_bd : ∀ {ws : List (List UInt8)} {z : List Int}, numsO ws = some z → ∀ i, -10000000000 < z.getD i 0 ∧ z.getD i 0 < 10000000000
  | [], z, h, i => by simp [numsO] at h; subst h; simp
  | x :: xs, z, h, i => by
    unfold numsO at h
    cases hx : numO x with
    | none => rw [hx] at h; cases h
    | some v =>
      rw [hx] at h
      cases hs : numsO xs with
      | none => rw [hs] at h; cases h
      | some zs =>
        rw [hs] at h
        simp at h
        subst h
        cases i with
        | zero => exact numO_bd hx
        | succ i => exact numsO_bd hs i
end Go.Proofs.YthmiojmlaclgaaaGreatDoor.Fx
