/- Lists of records that the program itself makes by append (as the older text AppsR, apart from the journal's texts); the right beginning of a text in plain words. -/
import Derived.Test.YtfcnnolpcnacoaaDoorStE
namespace Go.Proofs.YtfcnnolpcnacoaaDoor.Fx
open Go.RowKit

theorem infoRS : (Tryd.prog.info? 31).map (fun i => (i.zero, i.size, i.bytes)) = some (some (.agg #[.int .i64 0, .slice none 0 0, .int .i64 0, .int .u64 0, .int .u64 0]), 5, 56) := by kernel_rfl
def rcCellsS (R : Nat → Rcm) : Nat → List Value
  | 0 => []
  | n + 1 => rcCellsS R n ++ [.int .i64 (R n).s, .slice (R n).a (R n).n (R n).k, .int .i64 (R n).r, .int .u64 (R n).root, .int .u64 (R n).chain]
theorem rcCellsS_len (R : Nat → Rcm) (n : Nat) : (rcCellsS R n).length = n * 5 := by
  induction n with
  | zero => rfl
  | succ k ih => simp [rcCellsS, ih]; omega
theorem rcCellsS_congr {X Y : Nat → Rcm} {n : Nat} (h : ∀ i, i < n → X i = Y i) : rcCellsS X n = rcCellsS Y n := by
  induction n with
  | zero => rfl
  | succ k ih => simp only [rcCellsS]; rw [ih (fun i hi => h i (by omega)), h k (by omega)]
theorem rcCellsS_at (R : Nat → Rcm) {n i : Nat} (h : i < n) : (rcCellsS R n)[i * 5]? = some (.int .i64 (R i).s) ∧ (rcCellsS R n)[i * 5 + 1]? = some (.slice (R i).a (R i).n (R i).k) ∧ (rcCellsS R n)[i * 5 + 2]? = some (.int .i64 (R i).r) ∧ (rcCellsS R n)[i * 5 + 3]? = some (.int .u64 (R i).root) ∧ (rcCellsS R n)[i * 5 + 4]? = some (.int .u64 (R i).chain) := by
  induction n with
  | zero => omega
  | succ k ih =>
    have hl := rcCellsS_len R k
    simp only [rcCellsS]
    by_cases e : i = k
    · subst e
      rw [List.getElem?_append_right (by omega), List.getElem?_append_right (by omega), List.getElem?_append_right (by omega), List.getElem?_append_right (by omega), List.getElem?_append_right (by omega), hl]
      simp
    · have g := ih (by omega)
      rw [List.getElem?_append_left (by omega), List.getElem?_append_left (by omega), List.getElem?_append_left (by omega), List.getElem?_append_left (by omega), List.getElem?_append_left (by omega)]
      exact g
/-- The slice value v, made from block number base on, owns the records R. -/
def OwnRS (base : Nat) (w : World) (v : Value) (n : Nat) (R : Nat → Rcm) : Prop := w.ownsRow base 31 5 v n (rcCellsS R n)
theorem OwnRS.nil (base : Nat) (w : World) (R : Nat → Rcm) : OwnRS base w (.slice none 0 0) 0 R := World.ownsRow_nil _ _ _ _
theorem OwnRS.below {base : Nat} {w w' : World} {v : Value} {n : Nat} {R : Nat → Rcm} (h : OwnRS base w v n R) (hb : Below w.heap.size w w') : OwnRS base w' v n R := by
  refine ⟨h.1, ?_⟩
  rcases h.2 with h0 | ⟨g, cap, cur, hv, hg, hh, r⟩
  · exact .inl h0
  · exact .inr ⟨g, cap, cur, hv, hg, by rw [hb.block g (Array.getElem?_eq_some_iff.1 hh).1]; exact hh, r⟩
theorem OwnRS.congr {base : Nat} {w : World} {v : Value} {n : Nat} {X Y : Nat → Rcm} (h : OwnRS base w v n X) (e : ∀ i, i < n → X i = Y i) : OwnRS base w v n Y := by
  unfold OwnRS at *
  rw [← rcCellsS_congr e]
  exact h
theorem OwnRS.blk {base : Nat} {w : World} {v : Value} {n : Nat} {R : Nat → Rcm} (h : OwnRS base w v n R) : v.ownBlock = none ∨ ∃ g, v.ownBlock = some g ∧ base ≤ g ∧ g < w.heap.size := by
  rcases h.2 with ⟨rfl, _⟩ | ⟨g, cap, cur, rfl, hg, hh, _⟩
  · exact .inl rfl
  · exact .inr ⟨g, rfl, hg, (Array.getElem?_eq_some_iff.1 hh).1⟩
theorem OwnRS.recs {base : Nat} {w : World} {v : Value} {n : Nat} {R : Nat → Rcm} {D : Nat → List Int} (h : OwnRS base w v n R) (hin : ∀ i, i < n → Lst w (R i).a (R i).n (R i).k (D i)) : ∃ a c, v = .slice a n c ∧ Recs w a n c R D := by
  obtain ⟨hl, h2⟩ := h
  rcases h2 with ⟨rfl, rfl⟩ | ⟨g, cap, cur, rfl, _, hh, hle, _, hsz, hcur⟩
  · exact ⟨none, 0, rfl, Recs.nil _ _ _ _ _⟩
  · refine ⟨_, cap, rfl, hle, .inr ⟨g, 0, rfl, (Array.getElem?_eq_some_iff.1 hh).1, fun i hi => ?_⟩⟩
    have hc : ∀ j, j < n * 5 → w.cell? ⟨g, j, none⟩ = (rcCellsS R n)[j]? := fun j hj => by
      rw [← hcur, List.getElem?_take_of_lt hj]
      simp [World.cell?, hh]
    have g2 := rcCellsS_at R hi
    simp only [Nat.zero_add]
    exact ⟨(hc _ (by omega)).trans g2.1, (hc _ (by omega)).trans g2.2.1, (hc _ (by omega)).trans g2.2.2.1, (hc _ (by omega)).trans g2.2.2.2.1, (hc _ (by omega)).trans g2.2.2.2.2, hin i hi⟩


section
variable {w' W0 : World} {ops : Array Oper} {o : Oper} {a : Act} {Q : Exit → Act → World → Prop}
theorem run_append_rcS (ty : TypeId) (base : Nat) (v : Value) (n : Nat) (R : Nat → Rcm) (g : Nat) (hown : OwnRS base w' v n R) (hrow : w'.rowIs g 31 5 (fn5 (.int .i64 (R n).s) (.slice (R n).a (R n).n (R n).k) (.int .i64 (R n).r) (.int .u64 (R n).root) (.int .u64 (R n).chain))) (hn : (n + 1) * 56 ≤ 140737488355328) (hbase : base ≤ w'.heap.size) :
    ∃ v' w1, (Builtin.append_ #[38, 38] ty #[v, .slice (some ⟨g, 0, none⟩) 1 1]).run Tryd.prog w' = .ok v' w1 ∧ OwnRS base w1 v' (n + 1) R ∧ w'.grownBy w1 v.ownBlock ∧ (v'.ownBlock = v.ownBlock ∨ v'.ownBlock = some w'.heap.size) := by
  obtain ⟨i0, hi, hz0, hz1, hz2⟩ := info_parts infoRS
  obtain ⟨b0, b1, b2, b3, b4⟩ := fn5_box hrow
  obtain ⟨v', w1, hrun, h1, h2, _, h3⟩ := run_append_own_at (P := Tryd.prog) w' base 38 ty 31 i0 (.agg #[.int .i64 0, .slice none 0 0, .int .i64 0, .int .u64 0, .int .u64 0]) 5 56 Tryd.underlying38 hi hz0 hz1 hz2 rfl (by decide) v n _ hown ⟨g, 0, none⟩ 1 1 [.int .i64 (R n).s, .slice (R n).a (R n).n (R n).k, .int .i64 (R n).r, .int .u64 (R n).root, .int .u64 (R n).chain] rfl
    (by intro j u hj
        match j, hj with
        | 0, hj => simp at hj; subst hj; simpa [Addr.add] using b0
        | 1, hj => simp at hj; subst hj; simpa [Addr.add] using b1
        | 2, hj => simp at hj; subst hj; simpa [Addr.add] using b2
        | 3, hj => simp at hj; subst hj; simpa [Addr.add] using b3
        | 4, hj => simp at hj; subst hj; simpa [Addr.add] using b4)
    (by intro u hu
        simp at hu
        rcases hu with rfl | rfl | rfl | rfl | rfl <;> rfl) (by unfold maxLen; omega) hn hbase
  exact ⟨v', w1, hrun, h1, h2, h3⟩

theorem wpList_append_rcS {rest : List Oper} (hgd : o.guard = none) (s x : Operand) (ho : o.op = .call { callee := .builtin .append, args := #[s, x], argTypes := #[38, 38] })
    (base : Nat) (v : Value) (n : Nat) (R : Nat → Rcm) (g : Nat) (hs : a.eval s = v) (hx : a.eval x = .slice (some ⟨g, 0, none⟩) 1 1) (hown : OwnRS base w' v n R) (hrow : w'.rowIs g 31 5 (fn5 (.int .i64 (R n).s) (.slice (R n).a (R n).n (R n).k) (.int .i64 (R n).r) (.int .u64 (R n).root) (.int .u64 (R n).chain))) (hn : (n + 1) * 56 ≤ 140737488355328) (hbase : base ≤ w'.heap.size)
    (h : ∀ v' w1, OwnRS base w1 v' (n + 1) R → w'.grownBy w1 v.ownBlock → (v'.ownBlock = v.ownBlock ∨ v'.ownBlock = some w'.heap.size) → wpList Tryd.prog ops Q rest (a.put o.dst v') w1) : wpList Tryd.prog ops Q (o :: rest) a w' := by
  obtain ⟨v', w1, hrun, h1, h2, h3⟩ := run_append_rcS o.type base v n R g hown hrow hn hbase
  refine wpList_plain hgd fun K hK => ?_
  unfold Oper.wp
  simp [execOp, ho, resolve, invoke, builtin, hs, hx, hrun, Result.andThen]
  exact hK _ _ (h v' w1 h1 h2 h3)
end


theorem Lst.keptS {w w' : World} {a : Option Addr} {n c : Nat} {xs : List Int} {row : Option Nat} (h : Lst w a n c xs) (hg : w.grownBy w' row) (hne : n = 0 ∨ ∀ bb oo, a = some ⟨bb, oo, none⟩ → row ≠ some bb) : Lst w' a n c xs := by
  refine ⟨h.1, h.2.1, ?_⟩
  rcases h.2.2 with h0 | ⟨b', off', e, hs, hc⟩
  · exact .inl h0
  · by_cases h0 : n = 0
    · exact .inl h0
    · exact .inr ⟨b', off', e, Nat.lt_of_lt_of_le hs hg.size, fun i hi => hg.cell (hc i hi) (fun e2 => (hne.resolve_left h0) b' off' e e2.symm)⟩

/-! The right beginning. -/
def flatL (ls : List Ln) : List UInt8 := (ls.map Ln.text).flatten
theorem flatL_snoc (ls : List Ln) (l : Ln) : flatL (ls ++ [l]) = flatL ls ++ l.text := by simp [flatL]
def lnAt (ls : List Ln) (j : Nat) : Ln := (ls[j]?).getD ⟨0, 0, 0, 0, []⟩
structure BegTo (s : List UInt8) (ls : List Ln) : Prop where
  ok : ∀ j, j < ls.length → (lnAt ls j).ok
  step : ∀ j, j < ls.length → (lnAt ls j).s = (j : Int)
  pre : flatL ls <+: s
structure Beg (s : List UInt8) (ls : List Ln) : Prop extends BegTo s ls where
  stop : ∀ l, IsLine (s.drop (flatL ls).length) l → l.s ≠ (ls.length : Int)
theorem lnAt_snoc (ls : List Ln) (l : Ln) (j : Nat) : lnAt (ls ++ [l]) j = if j < ls.length then lnAt ls j else if j = ls.length then l else ⟨0, 0, 0, 0, []⟩ := by
  unfold lnAt
  by_cases h : j < ls.length
  · rw [if_pos h, List.getElem?_append_left h]
  · rw [if_neg h]
    by_cases h2 : j = ls.length
    · subst h2; simp
    · rw [if_neg h2, List.getElem?_eq_none (by simp; omega)]; rfl
theorem BegTo.nil (s : List UInt8) : BegTo s [] := ⟨fun j hj => by simp at hj, fun j hj => by simp at hj, List.nil_prefix⟩
theorem BegTo.len {s : List UInt8} {ls : List Ln} (h : BegTo s ls) : ls.length ≤ 100 := by
  by_cases h0 : ls.length = 0
  · omega
  · have h1 := (h.ok (ls.length - 1) (by omega)).s.2
    have h2 := h.step (ls.length - 1) (by omega)
    omega
theorem BegTo.snoc {s : List UInt8} {ls : List Ln} {l : Ln} (h : BegTo s ls) (hl : IsLine (s.drop (flatL ls).length) l) (hs : l.s = (ls.length : Int)) : BegTo s (ls ++ [l]) := by
  refine ⟨fun j hj => ?_, fun j hj => ?_, ?_⟩
  · rw [lnAt_snoc]
    rw [List.length_append, List.length_singleton] at hj
    by_cases h1 : j < ls.length
    · rw [if_pos h1]; exact h.ok j h1
    · rw [if_neg h1, if_pos (by omega)]; exact hl.1
  · rw [lnAt_snoc]
    rw [List.length_append, List.length_singleton] at hj
    by_cases h1 : j < ls.length
    · rw [if_pos h1]; exact h.step j h1
    · rw [if_neg h1, if_pos (by omega), hs]; congr 1; omega
  · rw [flatL_snoc]
    obtain ⟨t, ht⟩ := h.pre
    obtain ⟨u, hu⟩ := hl.2
    rw [← ht, List.drop_left] at hu
    exact ⟨u, by rw [List.append_assoc, hu, ht]⟩
theorem BegTo.take {s : List UInt8} {ls : List Ln} (h : BegTo s ls) : s.take (flatL ls).length = flatL ls := by
  obtain ⟨t, ht⟩ := h.pre
  rw [← ht]; simp
theorem BegTo.le {s : List UInt8} {ls : List Ln} (h : BegTo s ls) : (flatL ls).length ≤ s.length := h.pre.length_le
theorem flatL_mid (a b : List Ln) (l : Ln) : flatL (a ++ l :: b) = flatL a ++ (l.text ++ flatL b) := by simp [flatL]
theorem flatL_take (ls : List Ln) (k : Nat) (hk : k < ls.length) : flatL ls = flatL (ls.take k) ++ ((lnAt ls k).text ++ flatL (ls.drop (k + 1))) := by
  have e : ls = ls.take k ++ (ls[k] :: ls.drop (k + 1)) := by rw [← List.drop_eq_getElem_cons hk, List.take_append_drop]
  have e2 : lnAt ls k = ls[k] := by unfold lnAt; rw [List.getElem?_eq_getElem hk]; rfl
  rw [e2]
  exact (congrArg flatL e).trans (flatL_mid _ _ _)
theorem lnAt_ext {ls ms : List Ln} (hl : ls.length = ms.length) (h : ∀ j, j < ls.length → lnAt ls j = lnAt ms j) : ls = ms := by
  apply List.ext_getElem hl
  intro i h1 h2
  have := h i h1
  unfold lnAt at this
  rw [List.getElem?_eq_getElem h1, List.getElem?_eq_getElem h2] at this
  exact this
/-- Two beginnings agree as far as both go. -/
theorem BegTo.agree {s : List UInt8} {ls ms : List Ln} (h : BegTo s ls) (g : BegTo s ms) : ∀ k, k ≤ ls.length → k ≤ ms.length → ls.take k = ms.take k
  | 0, _, _ => by simp
  | k + 1, h1, h2 => by
    have ih := BegTo.agree h g k (by omega) (by omega)
    have a1 := flatL_take ls k (by omega)
    have a2 := flatL_take ms k (by omega)
    have i1 : IsLine (s.drop (flatL (ls.take k)).length) (lnAt ls k) := by
      refine ⟨h.ok k (by omega), ?_⟩
      obtain ⟨t, ht⟩ := h.pre
      rw [← ht, a1]
      exact ⟨flatL (ls.drop (k + 1)) ++ t, by simp⟩
    have i2 : IsLine (s.drop (flatL (ms.take k)).length) (lnAt ms k) := by
      refine ⟨g.ok k (by omega), ?_⟩
      obtain ⟨t, ht⟩ := g.pre
      rw [← ht, a2]
      exact ⟨flatL (ms.drop (k + 1)) ++ t, by simp⟩
    rw [ih] at i1
    have e := i1.unique i2
    have e1 : lnAt ls k = ls[k] := by unfold lnAt; rw [List.getElem?_eq_getElem (show k < ls.length by omega)]; rfl
    have e2 : lnAt ms k = ms[k] := by unfold lnAt; rw [List.getElem?_eq_getElem (show k < ms.length by omega)]; rfl
    rw [List.take_add_one, List.take_add_one, ih, List.getElem?_eq_getElem (show k < ls.length by omega), List.getElem?_eq_getElem (show k < ms.length by omega), ← e1, ← e2, e]
theorem Beg.ge {s : List UInt8} {ls ms : List Ln} (h : Beg s ls) (g : BegTo s ms) : ms.length ≤ ls.length := by
  apply Nat.le_of_not_lt
  intro hlt
  have e := h.toBegTo.agree g ls.length (Nat.le_refl _) (by omega)
  rw [List.take_length] at e
  have a2 := flatL_take ms ls.length hlt
  refine h.stop (lnAt ms ls.length) ⟨g.ok _ hlt, ?_⟩ (g.step _ hlt)
  obtain ⟨t, ht⟩ := g.pre
  rw [← ht, a2, ← e]
  exact ⟨flatL (ms.drop (ls.length + 1)) ++ t, by simp⟩
theorem Beg.unique {s : List UInt8} {ls ms : List Ln} (h : Beg s ls) (g : Beg s ms) : ls = ms := by
  have h1 := h.ge g.toBegTo
  have h2 := g.ge h.toBegTo
  have e := h.toBegTo.agree g.toBegTo ls.length (Nat.le_refl _) (by omega)
  rw [List.take_length, List.take_of_length_le (by omega)] at e
  exact e

/-- While a text's records are read: as plain lines, and as they lie there. -/
structure BgSt (w : World) (s : List UInt8) (ls : List Ln) (v : Value) (R : Nat → Rcm) (wr : World) : Prop where
  beg : BegTo s ls
  own : OwnRS w.heap.size wr v ls.length R
  eq : ∀ j, j < ls.length → (R j).ln (lnAt ls j).b = lnAt ls j
  lst : ∀ j, j < ls.length → Lst wr (R j).a (R j).n (R j).k (lnAt ls j).b ∧ ((R j).n = 0 ∨ ∀ bb oo, (R j).a = some ⟨bb, oo, none⟩ → v.ownBlock ≠ some bb)
  old : Below w.heap.size w wr
  fr : ∀ j, j < ls.length → ∀ bb oo, (R j).a = some ⟨bb, oo, none⟩ → w.heap.size ≤ bb
theorem BgSt.below {w wr w2 : World} {s : List UInt8} {ls : List Ln} {v : Value} {R : Nat → Rcm} (h : BgSt w s ls v R wr) (hb : Below wr.heap.size wr w2) : BgSt w s ls v R w2 :=
  ⟨h.beg, h.own.below hb, h.eq, fun j hj => ⟨(h.lst j hj).1.below hb (Nat.le_refl _), (h.lst j hj).2⟩, h.old.trans (hb.mono h.old.size), h.fr⟩
/-- What is told lies in blocks of its own. -/
def FreshR (w : World) (a : Option Addr) (R : Nat → Rcm) (n : Nat) : Prop := (∀ g o, a = some ⟨g, o, none⟩ → w.heap.size ≤ g) ∧ ∀ j, j < n → ∀ g o, (R j).a = some ⟨g, o, none⟩ → w.heap.size ≤ g
theorem OwnRS.fresh {base : Nat} {w : World} {a : Option Addr} {n c : Nat} {R : Nat → Rcm} (h : OwnRS base w (.slice a n c) n R) : ∀ g o, a = some ⟨g, o, none⟩ → base ≤ g := fun g o e => by
  subst e
  rcases h.2 with ⟨h0, _⟩ | ⟨g', cap, cur, hv, hg, _⟩
  · cases h0
  · injection hv with e1
    simp only [Option.some.injEq, Addr.mk.injEq] at e1
    omega
/-- What the reading of a text's right beginning tells. -/
def RightR (s : List UInt8) (w : World) (e : Ending) (w' : World) : Prop :=
  ∃ (ls : List Ln) (a : Option Addr) (c : Nat) (R : Nat → Rcm), Beg s ls ∧ (∀ j, j < ls.length → (R j).ln (lnAt ls j).b = lnAt ls j) ∧ Recs w' a ls.length c R (fun j => (lnAt ls j).b) ∧ FreshR w a R ls.length ∧ e = .returned (.tuple #[.slice a ls.length c, .int .i64 (flatL ls).length])
/-- One record more. -/
theorem BgSt.push {w w1 w2 : World} {s : List UInt8} {ls : List Ln} {v v' : Value} {R : Nat → Rcm} {l : Ln} {x : Rcm} (h : BgSt w s ls v R w1) (hl : IsLine (s.drop (flatL ls).length) l) (hs : l.s = (ls.length : Int)) (hx : x.ln l.b = l)
    (hlst : Lst w1 x.a x.n x.k l.b) (hfar : x.n = 0 ∨ ∀ bb oo, x.a = some ⟨bb, oo, none⟩ → v.ownBlock ≠ some bb) (hR : R ls.length = x) (hown : OwnRS w.heap.size w2 v' (ls.length + 1) R) (hgr : w1.grownBy w2 v.ownBlock)
    (hob : v'.ownBlock = v.ownBlock ∨ v'.ownBlock = some w1.heap.size) (hold : Below w.heap.size w w2) (hfr : ∀ bb oo, x.a = some ⟨bb, oo, none⟩ → w.heap.size ≤ bb) : BgSt w s (ls ++ [l]) v' R w2 := by
  have hlen : (ls ++ [l]).length = ls.length + 1 := by simp
  have far : ∀ (y : Rcm) (D : List Int), Lst w1 y.a y.n y.k D → (y.n = 0 ∨ ∀ bb oo, y.a = some ⟨bb, oo, none⟩ → v.ownBlock ≠ some bb) → (y.n = 0 ∨ ∀ bb oo, y.a = some ⟨bb, oo, none⟩ → v'.ownBlock ≠ some bb) := fun y D hy hf => by
    rcases hf with h0 | hf
    · exact .inl h0
    · by_cases h0 : y.n = 0
      · exact .inl h0
      · refine .inr fun bb oo e => ?_
        rcases hob with h1 | h1
        · rw [h1]; exact hf bb oo e
        · rw [h1]
          obtain ⟨b', o', e', hs', _⟩ := hy.at (by omega)
          rw [e'] at e
          simp only [Option.some.injEq, Addr.mk.injEq, and_true] at e
          intro e2
          simp only [Option.some.injEq] at e2
          omega
  refine ⟨h.beg.snoc hl hs, by rw [hlen]; exact hown, fun j hj => ?_, fun j hj => ?_, hold, fun j hj => ?_⟩
  · rw [hlen] at hj
    rw [lnAt_snoc]
    by_cases h1 : j < ls.length
    · rw [if_pos h1]; exact h.eq j h1
    · obtain rfl : j = ls.length := by omega
      rw [if_neg h1, if_pos rfl, hR]; exact hx
  · rw [hlen] at hj
    rw [lnAt_snoc]
    by_cases h1 : j < ls.length
    · rw [if_pos h1]
      obtain ⟨q1, q2⟩ := h.lst j h1
      exact ⟨q1.keptS hgr q2, far _ _ q1 q2⟩
    · obtain rfl : j = ls.length := by omega
      rw [if_neg h1, if_pos rfl, hR]
      exact ⟨hlst.keptS hgr hfar, far _ _ hlst hfar⟩
  · rw [hlen] at hj
    by_cases h1 : j < ls.length
    · exact h.fr j h1
    · obtain rfl : j = ls.length := by omega
      rw [hR]; exact hfr
end Go.Proofs.YtfcnnolpcnacoaaDoor.Fx
