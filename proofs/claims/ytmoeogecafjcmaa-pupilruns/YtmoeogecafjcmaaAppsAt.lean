/- Two lists of integers that are made by append side by side, each held in a field of one struct: an append to one leaves the other. -/
import Derived.Test.YtmoeogecafjcmaaPupH
import Derived.Test.YtmoeogecafjcmaaApps
import Derived.Maps.AppendAt
namespace Go.Proofs.Ytmoeogecafjcmaa.Fx
open Go.RowKit

section
variable {w' : World} {ops : Array Oper} {o : Oper} {a : Act} {Q : Exit → Act → World → Prop}

theorem run_append_at (ty : TypeId) (base : Nat) (v : Value) (xs : List Int) (z : Int) (g : Nat) (hown : OwnI base w' v xs) (hc : w'.cell? ⟨g, 0, none⟩ = some (.int .i64 z)) (hn : (xs.length + 1) * 8 ≤ 140737488355328) (hbase : base ≤ w'.heap.size) :
    ∃ v' w1, (Builtin.append_ #[28, 28] ty #[v, .slice (some ⟨g, 0, none⟩) 1 1]).run Try.prog w' = .ok v' w1 ∧ OwnI base w1 v' (xs ++ [z]) ∧ w'.grownBy w1 v.ownBlock ∧ (v'.ownBlock = v.ownBlock ∨ v'.ownBlock = some w'.heap.size) := by
  obtain ⟨i0, hi, hz0, hz1, hz2⟩ := info_parts info3
  obtain ⟨v', w1, hrun, h1, h2, _, h3⟩ := run_append_own_at (P := Try.prog) w' base 28 ty 3 i0 (.int .i64 0) 1 8 Try.underlying28 hi hz0 hz1 hz2 rfl (by decide) v xs.length _ hown ⟨g, 0, none⟩ 1 1 [.int .i64 z] rfl
    (by intro j u hj
        match j, hj with
        | 0, hj => simp at hj; subst hj; simpa [Addr.add] using hc)
    (by intro u hu; simp at hu; subst hu; rfl) (by unfold maxLen; omega) hn hbase
  exact ⟨v', w1, hrun, by unfold OwnI; rw [List.length_append, List.map_append]; exact h1, h2, h3⟩

theorem wpList_append_at {rest : List Oper} (hgd : o.guard = none) (s x : Operand) (ho : o.op = .call { callee := .builtin .append, args := #[s, x], argTypes := #[28, 28] })
    (base : Nat) (v : Value) (xs : List Int) (z : Int) (g : Nat) (hs : a.eval s = v) (hx : a.eval x = .slice (some ⟨g, 0, none⟩) 1 1) (hown : OwnI base w' v xs) (hc : w'.cell? ⟨g, 0, none⟩ = some (.int .i64 z)) (hn : (xs.length + 1) * 8 ≤ 140737488355328) (hbase : base ≤ w'.heap.size)
    (h : ∀ v' w1, OwnI base w1 v' (xs ++ [z]) → w'.grownBy w1 v.ownBlock → (v'.ownBlock = v.ownBlock ∨ v'.ownBlock = some w'.heap.size) → wpList Try.prog ops Q rest (a.put o.dst v') w1) : wpList Try.prog ops Q (o :: rest) a w' := by
  obtain ⟨v', w1, hrun, h1, h2, h3⟩ := run_append_at o.type base v xs z g hown hc hn hbase
  refine wpList_plain hgd fun K hK => ?_
  unfold Oper.wp
  simp [execOp, ho, resolve, invoke, builtin, hs, hx, hrun, Result.andThen]
  exact hK _ _ (h v' w1 h1 h2 h3)

theorem step_append_at {K : Act → World → Prop} {E : Prop} (hgd : o.guard = none) (s x : Operand) (ho : o.op = .call { callee := .builtin .append, args := #[s, x], argTypes := #[28, 28] })
    (base : Nat) (v : Value) (xs : List Int) (z : Int) (g : Nat) (hs : a.eval s = v) (hx : a.eval x = .slice (some ⟨g, 0, none⟩) 1 1) (hown : OwnI base w' v xs) (hc : w'.cell? ⟨g, 0, none⟩ = some (.int .i64 z)) (hn : (xs.length + 1) * 8 ≤ 140737488355328) (hbase : base ≤ w'.heap.size)
    (h : ∀ v' w1, OwnI base w1 v' (xs ++ [z]) → w'.grownBy w1 v.ownBlock → (v'.ownBlock = v.ownBlock ∨ v'.ownBlock = some w'.heap.size) → K (a.put o.dst v') w1) :
    if Region.wanted o (yielded ops a.tmps) = true then Oper.wp Try.prog o a w' K Q else E := by
  obtain ⟨v', w1, hrun, h1, h2, h3⟩ := run_append_at o.type base v xs z g hown hc hn hbase
  have hw : Region.wanted o (yielded ops a.tmps) = true := by simp [Region.wanted, hgd]
  rw [if_pos hw]
  unfold Oper.wp
  simp [execOp, ho, resolve, invoke, builtin, hs, hx, hrun, Result.andThen]
  exact h v' w1 h1 h2 h3
end

/-- Of two own slices: they don't lie in one block. -/
def Apart (x y : Value) : Prop := y.ownBlock = none ∨ y.ownBlock ≠ x.ownBlock
theorem Apart.symm {x y : Value} (h : Apart x y) : Apart y x := by
  unfold Apart at *
  rcases h with h | h
  · rw [h]
    cases e : x.ownBlock with
    | none => exact .inl rfl
    | some b => exact .inr (by simp)
  · exact .inr (fun e => h e.symm)
theorem OwnI.blk {base : Nat} {w : World} {y : Value} {xs : List Int} (h : OwnI base w y xs) : y.ownBlock = none ∨ ∃ g, y.ownBlock = some g ∧ base ≤ g ∧ g < w.heap.size := by
  rcases h.2 with ⟨rfl, _⟩ | ⟨g, cap, cur, rfl, hg, hh, _⟩
  · exact .inl rfl
  · exact .inr ⟨g, rfl, hg, (Array.getElem?_eq_some_iff.1 hh).1⟩
theorem OwnI.kept {base : Nat} {w w1 : World} {y : Value} {xs : List Int} {row : Option Nat} (h : OwnI base w y xs) (hg : w.grownBy w1 row) (hne : y.ownBlock = none ∨ y.ownBlock ≠ row) : OwnI base w1 y xs := World.ownsRow.kept h hg hne
theorem grown_trans {w w1 w2 : World} {row : Option Nat} {b : Nat} (h1 : w.grownBy w1 (some b)) (h2 : w1.grownBy w2 row) (hr : ∀ k, row = some k → w.heap.size ≤ k ∨ k = b) : w.grownBy w2 (some b) :=
  ⟨h2.os.trans h1.os, h2.tape.trans h1.tape, h2.output.trans h1.output, Nat.le_trans h1.size h2.size, fun k hk hne => by
    refine (h2.block k (Nat.lt_of_lt_of_le hk h1.size) (fun e => ?_)).trans (h1.block k hk hne)
    rcases hr k e.symm with h | h
    · omega
    · exact hne (by rw [h])⟩
theorem grown_below {w w1 w2 : World} {b : Nat} (h1 : w.grownBy w1 (some b)) (h2 : Below w1.heap.size w1 w2) : w.grownBy w2 (some b) :=
  ⟨h2.os.trans h1.os, h2.tape.trans h1.tape, h2.output.trans h1.output, Nat.le_trans h1.size h2.size, fun k hk hne => (h2.block k (Nat.lt_of_lt_of_le hk h1.size)).trans (h1.block k hk hne)⟩

/-- Two growing lists x and y, and the struct at block G that holds them. -/
structure Gr (wm : World) (G : Nat) (f : Nat → Value) (x y : Value) (Lx Ly : List Int) (wr : World) : Prop where
  row : wr.rowIs G 47 8 f
  ox : OwnI wm.heap.size wr x Lx
  oy : OwnI wm.heap.size wr y Ly
  ap : Apart x y
  gr : wm.grownBy wr (some G)
theorem Gr.swap {wm : World} {G : Nat} {f : Nat → Value} {x y : Value} {Lx Ly : List Int} {wr : World} (h : Gr wm G f x y Lx Ly wr) : Gr wm G f y x Ly Lx wr := ⟨h.row, h.oy, h.ox, h.ap.symm, h.gr⟩
theorem Gr.below {wm : World} {G : Nat} {f : Nat → Value} {x y : Value} {Lx Ly : List Int} {wr w2 : World} (h : Gr wm G f x y Lx Ly wr) (hb : Below wr.heap.size wr w2) : Gr wm G f x y Lx Ly w2 :=
  ⟨rowIs_below h.row hb h.row.lt, OwnI.below h.ox hb, OwnI.below h.oy hb, h.ap, grown_below h.gr hb⟩
/-- x has one more, and the field that holds it is written. -/
theorem Gr.push {wm : World} {G : Nat} {f : Nat → Value} {x y x1 : Value} {Lx Ly : List Int} {z : Int} {w2 w3 : World} (h : Gr wm G f x y Lx Ly w2) (hG : G < wm.heap.size) (h1 : OwnI wm.heap.size w3 x1 (Lx ++ [z])) (h2 : w2.grownBy w3 x.ownBlock) (h3 : x1.ownBlock = x.ownBlock ∨ x1.ownBlock = some w2.heap.size) (c : Nat) :
    Gr wm G (fun j => if j = c then x1 else f j) x1 y (Lx ++ [z]) Ly (w3.setCell ⟨G, c, none⟩ x1) := by
  have hxb : ∀ k, x.ownBlock = some k → wm.heap.size ≤ k := by
    intro k hk
    rcases h.ox.blk with e | ⟨g, e, hg, _⟩
    · rw [e] at hk; cases hk
    · rw [e] at hk; cases hk; exact hg
  refine ⟨?_, ownsRow_setCell_below h1 hG _, ownsRow_setCell_below (h.oy.kept h2 h.ap) hG _, ?_, ?_⟩
  · refine (h.row.of_block (h2.block G h.row.lt (fun e => ?_))).set c x1
    have := hxb G e.symm
    omega
  · rcases h3 with e | e
    · unfold Apart; rw [e]; exact h.ap
    · unfold Apart
      rw [e]
      rcases h.oy.blk with e2 | ⟨g, e2, _, hg⟩
      · exact .inl e2
      · right; rw [e2]; simp; omega
  · exact grown1 (grown_trans h.gr h2 (fun k hk => .inl (hxb k hk))) c x1
theorem Gr.congr {wm : World} {G : Nat} {f f' : Nat → Value} {x y : Value} {Lx Ly Lx' Ly' : List Int} {wr : World} (h : Gr wm G f x y Lx Ly wr) (e : ∀ i, i < 8 → f i = f' i) (e1 : Lx = Lx') (e2 : Ly = Ly') : Gr wm G f' x y Lx' Ly' wr := by
  subst e1 e2
  exact ⟨h.row.congr e, h.ox, h.oy, h.ap, h.gr⟩
end Go.Proofs.Ytmoeogecafjcmaa.Fx
