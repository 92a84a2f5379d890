/- What optim's moved and momentum return. -/
import Derived.Test.YtimciamfgpdjlaaGreatJ07
import Derived.Test.YtimciamfgpdjlaaGreatJ01
import Derived.Test.YtimciamfgpdjlaaGreatJ04
namespace Go.Proofs.YtimciamfgpdjlaaGreat.Fx
open Go.RowKit

def movedG (ws ms : List Int) (rate : Int) (i : Nat) : Int := subI (ws.getD i 0) (mulI rate (ms.getD i 0))
def momG (keep : Int) (ms gs : List Int) (i : Nat) : Int := addI (mulI keep (ms.getD i 0)) (gs.getD i 0)

set_option maxHeartbeats 800000 in
theorem moved_own (a b : Option Addr) (la ca cb : Nat) (xs ys : List Int) (rate : Int) (w : World) (ha : Lst w a la ca xs) (hb : Lst w b la cb ys) (hl : la ≤ 200) :
    Calls Tryz.prog 168 #[.slice a la ca, .slice b la cb, .int .i64 rate] w fun e w' => e = .returned (.slice (some ⟨w.heap.size, 0, none⟩) la la) ∧ Arr w' w.heap.size la la (movedG xs ys rate) ∧ Below w.heap.size w w' := by
  have hmk := run_make_row' (P := Tryz.prog) 26 3 (.int .i64 0) 8 Tryz.underlying26 info3 rfl .i64 .i64 la (by omega) (by omega)
  go_enter Tryz.func168, Tryz.ntmps168
  go_wp2
  go_loopw [14] (fun i wr => ∃ k : Nat, k ≤ la ∧ i = .int .i64 k ∧ wr.rowIs w.heap.size 3 la (rowTo (movedG xs ys rate) k) ∧ Below w.heap.size w wr) (fun i _ => la - (intOf i).toNat)
  case atStart => exact ⟨0, Nat.zero_le _, rfl, rowTo_made (World.rowIs_made _ _ _ _), (Below.refl _ _).alloc (Nat.le_refl _) _⟩
  case round =>
    obtain ⟨k, hk, rfl, hrow, hbel⟩ := hrel
    have ha' := ha.below hbel (Nat.le_refl _)
    have hb' := hb.below hbel (Nat.le_refl _)
    clear ha hb hmk
    by_cases hlt : k < la
    · obtain ⟨b1, o1, x, rfl, _, c1, HX⟩ := ha'.at1 hlt
      obtain ⟨b2, o2, y, rfl, _, c2, HY⟩ := hb'.at1 hlt
      have c3 := rowTo_cell hrow hlt
      have f3 := hrow.frozen k
      go_wp2
      go_region_with ((first | (go_at_call 144; refine (mul_calls _ _ _).mono ?_; rintro e w' ⟨rfl, nd, rfl⟩) | (go_at_call 138; refine (sub_calls _ _ _).mono ?_; rintro e w' ⟨rfl, hw'⟩; replace hw' := hw'.symm; subst hw')))
      all_goals go_wp2
      all_goals
        go_roundw
        case rel =>
          have st := rowTo_step (g := movedG xs ys rate) hrow
          simp only [movedG, HX.out, HY.out] at st
          exact ⟨k + 1, by omega, by go_num, rowIs_drewN st _, below_drewN (hbel.setCell (Nat.le_refl _) _) _⟩
        case measure => simp [intOf]; omega
    · obtain rfl : k = la := by omega
      go_wp2
      go_ret
      exact ⟨rfl, Arr.row hrow, hbel⟩

theorem moved_calls (a b : Option Addr) (la ca cb : Nat) (xs ys : List Int) (rate : Int) (w : World) (ha : Lst w a la ca xs) (hb : Lst w b la cb ys) (hl : la ≤ 200) :
    Calls Tryz.prog 168 #[.slice a la ca, .slice b la cb, .int .i64 rate] w fun e w' => e = .returned (.slice (some ⟨w.heap.size, 0, none⟩) la la) ∧ Lst w' (some ⟨w.heap.size, 0, none⟩) la la ((List.range la).map (movedG xs ys rate)) ∧ Below w.heap.size w w' :=
  (moved_own a b la ca cb xs ys rate w ha hb hl).mono fun _ _ ⟨h1, h2, h3⟩ => ⟨h1, h2.lst, h3⟩

set_option maxHeartbeats 800000 in
theorem momentum_own (keep : Int) (a b : Option Addr) (la ca cb : Nat) (xs ys : List Int) (w : World) (ha : Lst w a la ca xs) (hb : Lst w b la cb ys) (hl : la ≤ 200) :
    Calls Tryz.prog 169 #[.int .i64 keep, .slice a la ca, .slice b la cb] w fun e w' => e = .returned (.slice (some ⟨w.heap.size, 0, none⟩) la la) ∧ Arr w' w.heap.size la la (momG keep xs ys) ∧ Below w.heap.size w w' := by
  have hmk := run_make_row' (P := Tryz.prog) 26 3 (.int .i64 0) 8 Tryz.underlying26 info3 rfl .i64 .i64 la (by omega) (by omega)
  go_enter Tryz.func169, Tryz.ntmps169
  go_wp2
  go_loopw [14] (fun i wr => ∃ k : Nat, k ≤ la ∧ i = .int .i64 k ∧ wr.rowIs w.heap.size 3 la (rowTo (momG keep xs ys) k) ∧ Below w.heap.size w wr) (fun i _ => la - (intOf i).toNat)
  case atStart => exact ⟨0, Nat.zero_le _, rfl, rowTo_made (World.rowIs_made _ _ _ _), (Below.refl _ _).alloc (Nat.le_refl _) _⟩
  case round =>
    obtain ⟨k, hk, rfl, hrow, hbel⟩ := hrel
    have ha' := ha.below hbel (Nat.le_refl _)
    have hb' := hb.below hbel (Nat.le_refl _)
    clear ha hb hmk
    by_cases hlt : k < la
    · obtain ⟨b1, o1, x, rfl, _, c1, HX⟩ := ha'.at1 hlt
      obtain ⟨b2, o2, y, rfl, _, c2, HY⟩ := hb'.at1 hlt
      have c3 := rowTo_cell hrow hlt
      have f3 := hrow.frozen k
      go_wp2
      go_region_with ((first | (go_at_call 144; refine (mul_calls _ _ _).mono ?_; rintro e w' ⟨rfl, nd, rfl⟩) | (go_at_call 89; refine (add_calls _ _ _).mono ?_; rintro e w' ⟨rfl, hw'⟩; replace hw' := hw'.symm; subst hw')))
      all_goals go_wp2
      all_goals
        go_roundw
        case rel =>
          have st := rowTo_step (g := momG keep xs ys) hrow
          simp only [momG, HX.out, HY.out] at st
          exact ⟨k + 1, by omega, by go_num, rowIs_drewN st _, below_drewN (hbel.setCell (Nat.le_refl _) _) _⟩
        case measure => simp [intOf]; omega
    · obtain rfl : k = la := by omega
      go_wp2
      go_ret
      exact ⟨rfl, Arr.row hrow, hbel⟩

theorem momentum_calls (keep : Int) (a b : Option Addr) (la ca cb : Nat) (xs ys : List Int) (w : World) (ha : Lst w a la ca xs) (hb : Lst w b la cb ys) (hl : la ≤ 200) :
    Calls Tryz.prog 169 #[.int .i64 keep, .slice a la ca, .slice b la cb] w fun e w' => e = .returned (.slice (some ⟨w.heap.size, 0, none⟩) la la) ∧ Lst w' (some ⟨w.heap.size, 0, none⟩) la la ((List.range la).map (momG keep xs ys)) ∧ Below w.heap.size w w' :=
  (momentum_own keep a b la ca cb xs ys w ha hb hl).mono fun _ _ ⟨h1, h2, h3⟩ => ⟨h1, h2.lst, h3⟩

end Go.Proofs.YtimciamfgpdjlaaGreat.Fx

/- One append of an integer to a list that the program itself makes, beside blocks of its own that stay as they are. -/
namespace Go.Proofs.YtimciamfgpdjlaaGreat.Fx
open Go.RowKit

section
variable {w' W0 : World} {ops : Array Oper} {o : Oper} {a : Act} {Q : Exit → Act → World → Prop}

theorem run_append_far (ty : TypeId) (base : Nat) (v : Value) (xs : List Int) (z : Int) (g : Nat) (hown : OwnI base w' v xs) (hc : w'.cell? ⟨g, 0, none⟩ = some (.int .i64 z)) (hn : (xs.length + 1) * 8 ≤ 140737488355328) (hbase : base ≤ w'.heap.size) (hB : Below base W0 w') :
    ∃ v' w1, (Builtin.append_ #[26, 26] ty #[v, .slice (some ⟨g, 0, none⟩) 1 1]).run Tryz.prog w' = .ok v' w1 ∧ OwnI base w1 v' (xs ++ [z]) ∧ Below base W0 w1 ∧ w'.grownBy w1 v.ownBlock ∧ (v'.ownBlock = v.ownBlock ∨ v'.ownBlock = some w'.heap.size) := by
  obtain ⟨i0, hi, hz0, hz1, hz2⟩ := info_parts info3
  obtain ⟨v', w1, hrun, h1, h2, _, h3⟩ := run_append_own_at (P := Tryz.prog) w' base 26 ty 3 i0 (.int .i64 0) 1 8 Tryz.underlying26 hi hz0 hz1 hz2 rfl (by decide) v xs.length _ hown ⟨g, 0, none⟩ 1 1 [.int .i64 z] rfl
    (by intro j u hj
        match j, hj with
        | 0, hj => simp at hj; subst hj; simpa [Addr.add] using hc)
    (by intro u hu; simp at hu; subst hu; rfl) (by unfold maxLen; omega) hn hbase
  refine ⟨v', w1, hrun, by unfold OwnI; rw [List.length_append, List.map_append]; exact h1, hB.grown h2 hbase ?_, h2, h3⟩
  intro k hk
  rcases hown.2 with ⟨rfl, _⟩ | ⟨g', cap, cur, rfl, hg, _⟩
  · simp [Value.ownBlock] at hk
  · simp [Value.ownBlock] at hk; omega

theorem wpList_append_far {rest : List Oper} (hgd : o.guard = none) (s x : Operand) (ho : o.op = .call { callee := .builtin .append, args := #[s, x], argTypes := #[26, 26] })
    (base : Nat) (v : Value) (xs : List Int) (z : Int) (g : Nat) (W0 : World) (hs : a.eval s = v) (hx : a.eval x = .slice (some ⟨g, 0, none⟩) 1 1) (hown : OwnI base w' v xs) (hc : w'.cell? ⟨g, 0, none⟩ = some (.int .i64 z)) (hn : (xs.length + 1) * 8 ≤ 140737488355328) (hbase : base ≤ w'.heap.size) (hB : Below base W0 w')
    (h : ∀ v' w1, OwnI base w1 v' (xs ++ [z]) → Below base W0 w1 → w'.grownBy w1 v.ownBlock → (v'.ownBlock = v.ownBlock ∨ v'.ownBlock = some w'.heap.size) → wpList Tryz.prog ops Q rest (a.put o.dst v') w1) : wpList Tryz.prog ops Q (o :: rest) a w' := by
  obtain ⟨v', w1, hrun, h1, h2, h3, h4⟩ := run_append_far o.type base v xs z g hown hc hn hbase hB
  refine wpList_plain hgd fun K hK => ?_
  unfold Oper.wp
  simp [execOp, ho, resolve, invoke, builtin, hs, hx, hrun, Result.andThen]
  exact hK _ _ (h v' w1 h1 h2 h3 h4)
end

theorem OwnI.new {base : Nat} {w : World} {y : Value} {xs : List Int} (h : OwnI base w y xs) {b : Nat} (hb : w.heap.size ≤ b) : some b ≠ y.ownBlock := by
  rcases h.blk with e | ⟨g, e, _, hg⟩
  · rw [e]; simp
  · rw [e]; simp; omega
theorem Arr.grown {w w1 : World} {b c n : Nat} {f : Nat → Int} {row : Option Nat} (h : Arr w b c n f) (hg : w.grownBy w1 row) (hne : some b ≠ row) : Arr w1 b c n f := by
  have hlt := h.lt
  obtain ⟨hc, F, hr, hf⟩ := h
  exact ⟨hc, F, hr.of_block (hg.block b hlt hne), hf⟩

/-- The order that was made last, and of which epoch; it lies apart from the list that is made. -/
def LastIs (seed : Int) (n : Nat) (out last v : Value) (w : World) : Prop :=
  ∃ L : Int, last = .int .i64 L ∧ ∀ d : Nat, L = (d : Int) → ∃ b c, v = .slice (some ⟨b, 0, none⟩) n c ∧ some b ≠ out.ownBlock ∧ Arr w b c n (shufF seed d n)
theorem LastIs.none (seed : Int) (n : Nat) (out v : Value) (w : World) : LastIs seed n out (.int .i64 (-1)) v w := ⟨-1, rfl, fun d h => by omega⟩
theorem LastIs.one {seed : Int} {n b c d : Nat} {out : Value} {w : World} (hne : some b ≠ out.ownBlock) (h : Arr w b c n (shufF seed d n)) : LastIs seed n out (.int .i64 (d : Int)) (.slice (some ⟨b, 0, Option.none⟩) n c) w :=
  ⟨d, rfl, fun d' e => by
    obtain rfl : d' = d := by omega
    exact ⟨b, c, rfl, hne, h⟩⟩
/-- Behind an append to the list beside it. -/
theorem LastIs.push {seed : Int} {n b c d : Nat} {out out1 : Value} {w w1 : World} (hne : some b ≠ out.ownBlock) (h : Arr w b c n (shufF seed d n)) (hg : w.grownBy w1 out.ownBlock) (h3 : out1.ownBlock = out.ownBlock ∨ out1.ownBlock = some w.heap.size) :
    LastIs seed n out1 (.int .i64 (d : Int)) (.slice (some ⟨b, 0, Option.none⟩) n c) w1 := by
  refine LastIs.one ?_ (h.grown hg hne)
  rcases h3 with e | e
  · rw [e]; exact hne
  · rw [e]
    have := h.lt
    simp
    omega

end Go.Proofs.YtimciamfgpdjlaaGreat.Fx
