/- Slices of values of one cell that the program itself makes by append: what is known of them, and what one append more leaves. -/
import Derived.Test.YtfcnnolpcnacoaaDoorStB
import Derived.Test.YtfcnnolpcnacoaaDoorWords
import Derived.Maps.AppendAt
import Derived.Deep.AppendLies
import Derived.Deep.RegionHeld3
import Derived.BigRegion
import Derived.Deep.RegionWith
namespace Go.Proofs.YtfcnnolpcnacoaaDoor.Fx
open Go.RowKit

/-- The slice value v, made from block number base on, owns these values, each of one cell. -/
def OwnX (T : TypeId) (base : Nat) (w : World) (v : Value) (vs : List Value) : Prop := w.ownsRow base T 1 v vs.length vs
theorem OwnX.nil (T : TypeId) (base : Nat) (w : World) : OwnX T base w (.slice none 0 0) [] := World.ownsRow_nil _ _ _ _
theorem OwnX.below {T : TypeId} {base : Nat} {w w' : World} {v : Value} {vs : List Value} (h : OwnX T base w v vs) (hb : Below w.heap.size w w') : OwnX T base w' v vs := by
  refine ⟨h.1, ?_⟩
  rcases h.2 with h0 | ⟨g, cap, cur, hv, hg, hh, r⟩
  · exact .inl h0
  · exact .inr ⟨g, cap, cur, hv, hg, by rw [hb.block g (Array.getElem?_eq_some_iff.1 hh).1]; exact hh, r⟩
theorem OwnX.mono {T : TypeId} {base b2 : Nat} {w : World} {v : Value} {vs : List Value} (h : OwnX T base w v vs) (hb : b2 ≤ base) : OwnX T b2 w v vs :=
  ⟨h.1, h.2.imp id fun ⟨g, cap, cur, h1, h2, h3⟩ => ⟨g, cap, cur, h1, Nat.le_trans hb h2, h3⟩⟩
theorem OwnX.congr {T : TypeId} {base : Nat} {w : World} {v : Value} {vs us : List Value} (h : OwnX T base w v vs) (e : vs = us) : OwnX T base w v us := e ▸ h
theorem OwnX.blk {T : TypeId} {base : Nat} {w : World} {y : Value} {vs : List Value} (h : OwnX T base w y vs) : y.ownBlock = none ∨ ∃ g, y.ownBlock = some g ∧ base ≤ g ∧ g < w.heap.size := by
  rcases h.2 with ⟨rfl, _⟩ | ⟨g, cap, cur, rfl, hg, hh, _⟩
  · exact .inl rfl
  · exact .inr ⟨g, rfl, hg, (Array.getElem?_eq_some_iff.1 hh).1⟩
theorem OwnX.kept {T : TypeId} {base : Nat} {w w1 : World} {y : Value} {vs : List Value} {row : Option Nat} (h : OwnX T base w y vs) (hg : w.grownBy w1 row) (hne : y.ownBlock = none ∨ y.ownBlock ≠ row) : OwnX T base w1 y vs := World.ownsRow.kept h hg hne
theorem OwnX.row {T : TypeId} {base : Nat} {w : World} {v : Value} {vs : List Value} (h : OwnX T base w v vs) (hn : 0 < vs.length) : ∃ g c, v = .slice (some ⟨g, 0, none⟩) vs.length c ∧ base ≤ g ∧ g < w.heap.size ∧ vs.length ≤ c ∧ ∀ k u, vs[k]? = some u → w.cell? ⟨g, k, none⟩ = some u := by
  rcases h.2 with ⟨_, h0⟩ | ⟨g, cap, cur, rfl, hg, hh, hle, _, hsz, hcur⟩
  · omega
  · refine ⟨g, cap, rfl, hg, (Array.getElem?_eq_some_iff.1 hh).1, hle, fun k u hk => ?_⟩
    have hk2 := (List.getElem?_eq_some_iff.1 hk).1
    have h3 : (cur.toList.take vs.length)[k]? = some u := by
      rw [Nat.mul_one] at hcur
      rw [hcur]; exact hk
    rw [List.getElem?_take_of_lt hk2] at h3
    simpa [World.cell?, hh] using h3
theorem OwnX.lits (T : TypeId) (w : World) (xs : List Value) (hn : xs.length ≤ 1000) : OwnX T w.heap.size (w.alloc (.cells xs.toArray T)) (.slice (some ⟨w.heap.size, 0, none⟩) xs.length xs.length) xs :=
  ⟨by simp, .inr ⟨w.heap.size, xs.length, _, rfl, Nat.le_refl _, Go.Deep.blk_alloc_new _ _, Nat.le_refl _, by unfold maxLen; omega, by simp, by simp⟩⟩

theorem strV_one (ws : List (List UInt8)) : ∀ u ∈ ws.map (fun x => Value.string ⟨x.toArray⟩), u.oneCell' = true := by
  intro u hu
  obtain ⟨x, _, rfl⟩ := List.mem_map.1 hu
  rfl
/-- A string's value. -/
def sv (x : List UInt8) : Value := .string ⟨x.toArray⟩
theorem OwnX.strs {base : Nat} {w : World} {v : Value} {ws : List (List UInt8)} (h : OwnX 9 base w v (ws.map sv)) (hn : 0 < ws.length) : ∃ g c, v = .slice (some ⟨g, 0, none⟩) ws.length c ∧ base ≤ g ∧ LstS w (some ⟨g, 0, none⟩) ws.length c ws := by
  obtain ⟨g, c, e, hb, hg, hc, hr⟩ := h.row (by simpa using hn)
  rw [List.length_map] at e hc
  refine ⟨g, c, e, hb, rfl, hc, .inr ⟨g, 0, rfl, hg, fun i hi => ?_⟩⟩
  rw [Nat.zero_add]
  refine hr i _ ?_
  rw [List.getElem?_map, List.getElem?_eq_getElem hi, List.getD_eq_getElem?_getD, List.getElem?_eq_getElem hi]
  rfl
theorem OwnX.ints {base : Nat} {w : World} {v : Value} {xs : List Int} (h : OwnX 3 base w v (xs.map (Value.int .i64))) : ∃ a c, v = .slice a xs.length c ∧ Lst w a xs.length c xs := by
  unfold OwnX at h
  rw [List.length_map] at h
  exact Lst.owned h
theorem OwnX.intsB {base : Nat} {w : World} {v : Value} {xs : List Int} (h : OwnX 3 base w v (xs.map (Value.int .i64))) : ∃ a c, v = .slice a xs.length c ∧ Lst w a xs.length c xs ∧ ∀ g o, a = some ⟨g, o, none⟩ → base ≤ g := by
  obtain ⟨a, c, e, l⟩ := h.ints
  refine ⟨a, c, e, l, fun g o ha => ?_⟩
  subst ha
  rcases h.2 with ⟨h0, _⟩ | ⟨g', cap, cur, hv, hg, _⟩
  · rw [h0] at e; cases e
  · rw [hv] at e
    injection e with e1
    simp only [Option.some.injEq, Addr.mk.injEq] at e1
    omega
theorem OwnX.wds {base : Nat} {w : World} {v : Value} {xs : List Int} (h : OwnX 29 base w v (xs.map (Value.int .u64))) : ∃ a c, v = .slice a xs.length c ∧ LstW w a xs.length c xs := by
  unfold OwnX at h
  rw [List.length_map] at h
  exact LstW.owned h

section
variable {w' W0 : World} {ops : Array Oper} {o : Oper} {a : Act} {Q : Exit → Act → World → Prop}
theorem run_append_x {TS T : TypeId} {z : Value} {bytes : Nat} (ht : Tryd.prog.underlying TS = some (.slice T)) (hinfo : (Tryd.prog.info? T).map (fun i => (i.zero, i.size, i.bytes)) = some (some z, 1, bytes)) (hzc : z.cells.size = 1) (hby : 1 ≤ bytes)
    (ty : TypeId) (base : Nat) (v : Value) (vs : List Value) (u : Value) (g : Nat) (hown : OwnX T base w' v vs) (hc : w'.cell? ⟨g, 0, none⟩ = some u) (hu : u.oneCell' = true) (hn : (vs.length + 1) * bytes ≤ 140737488355328) (hbase : base ≤ w'.heap.size) (hB : Below base W0 w') :
    ∃ v' w1, (Builtin.append_ #[TS, TS] ty #[v, .slice (some ⟨g, 0, none⟩) 1 1]).run Tryd.prog w' = .ok v' w1 ∧ OwnX T base w1 v' (vs ++ [u]) ∧ Below base W0 w1 ∧ w'.grownBy w1 v.ownBlock ∧ (v'.ownBlock = v.ownBlock ∨ v'.ownBlock = some w'.heap.size) := by
  obtain ⟨i0, hi, hz0, hz1, hz2⟩ := info_parts hinfo
  have hle : vs.length + 1 ≤ (vs.length + 1) * bytes := Nat.le_mul_of_pos_right _ hby
  obtain ⟨v', w1, hrun, h1, h2, _, h3⟩ := run_append_own_at (P := Tryd.prog) w' base TS ty T i0 z 1 bytes ht hi hz0 hz1 hz2 hzc (by decide) v vs.length _ hown ⟨g, 0, none⟩ 1 1 [u] rfl
    (by intro j x hj
        match j, hj with
        | 0, hj => simp at hj; subst hj; simpa [Addr.add] using hc)
    (by intro x hx; simp at hx; subst hx; exact hu) (by unfold maxLen; omega) hn hbase
  refine ⟨v', w1, hrun, by unfold OwnX; rw [List.length_append]; exact h1, hB.grown h2 hbase ?_, h2, h3⟩
  intro k hk
  rcases hown.2 with ⟨rfl, _⟩ | ⟨g', cap, cur, rfl, hg, _⟩
  · simp [Value.ownBlock] at hk
  · simp [Value.ownBlock] at hk; omega
theorem wpList_append_x {rest : List Oper} {TS T : TypeId} {z : Value} {bytes : Nat} (ht : Tryd.prog.underlying TS = some (.slice T)) (hinfo : (Tryd.prog.info? T).map (fun i => (i.zero, i.size, i.bytes)) = some (some z, 1, bytes)) (hzc : z.cells.size = 1) (hby : 1 ≤ bytes)
    (hgd : o.guard = none) (s x : Operand) (ho : o.op = .call { callee := .builtin .append, args := #[s, x], argTypes := #[TS, TS] })
    (base : Nat) (v : Value) (vs : List Value) (u : Value) (g : Nat) (W0 : World) (hs : a.eval s = v) (hx : a.eval x = .slice (some ⟨g, 0, none⟩) 1 1) (hown : OwnX T base w' v vs) (hc : w'.cell? ⟨g, 0, none⟩ = some u) (hu : u.oneCell' = true) (hn : (vs.length + 1) * bytes ≤ 140737488355328) (hbase : base ≤ w'.heap.size) (hB : Below base W0 w')
    (h : ∀ v' w1, OwnX T base w1 v' (vs ++ [u]) → Below base W0 w1 → w'.grownBy w1 v.ownBlock → (v'.ownBlock = v.ownBlock ∨ v'.ownBlock = some w'.heap.size) → wpList Tryd.prog ops Q rest (a.put o.dst v') w1) : wpList Tryd.prog ops Q (o :: rest) a w' := by
  obtain ⟨v', w1, hrun, h1, h2, h3, h4⟩ := run_append_x ht hinfo hzc hby o.type base v vs u g hown hc hu hn hbase hB
  refine wpList_plain hgd fun K hK => ?_
  unfold Oper.wp
  simp [execOp, ho, resolve, invoke, builtin, hs, hx, hrun, Result.andThen]
  exact hK _ _ (h v' w1 h1 h2 h3 h4)
theorem step_append_x {K : Act → World → Prop} {E : Prop} {TS T : TypeId} {z : Value} {bytes : Nat} (ht : Tryd.prog.underlying TS = some (.slice T)) (hinfo : (Tryd.prog.info? T).map (fun i => (i.zero, i.size, i.bytes)) = some (some z, 1, bytes)) (hzc : z.cells.size = 1) (hby : 1 ≤ bytes)
    (hgd : o.guard = none) (s x : Operand) (ho : o.op = .call { callee := .builtin .append, args := #[s, x], argTypes := #[TS, TS] })
    (base : Nat) (v : Value) (vs : List Value) (u : Value) (g : Nat) (W0 : World) (hs : a.eval s = v) (hx : a.eval x = .slice (some ⟨g, 0, none⟩) 1 1) (hown : OwnX T base w' v vs) (hc : w'.cell? ⟨g, 0, none⟩ = some u) (hu : u.oneCell' = true) (hn : (vs.length + 1) * bytes ≤ 140737488355328) (hbase : base ≤ w'.heap.size) (hB : Below base W0 w')
    (h : ∀ v' w1, OwnX T base w1 v' (vs ++ [u]) → Below base W0 w1 → w'.grownBy w1 v.ownBlock → (v'.ownBlock = v.ownBlock ∨ v'.ownBlock = some w'.heap.size) → K (a.put o.dst v') w1) :
    if Region.wanted o (yielded ops a.tmps) = true then Oper.wp Tryd.prog o a w' K Q else E := by
  obtain ⟨v', w1, hrun, h1, h2, h3, h4⟩ := run_append_x ht hinfo hzc hby o.type base v vs u g hown hc hu hn hbase hB
  rw [if_pos (by unfold Region.wanted; rw [hgd])]
  unfold Oper.wp
  simp [execOp, ho, resolve, invoke, builtin, hs, hx, hrun, Result.andThen]
  exact h v' w1 h1 h2 h3 h4
end

theorem infoStr : (Tryd.prog.info? 9).map (fun i => (i.zero, i.size, i.bytes)) = some (some (.string ByteArray.empty), 1, 16) := by kernel_rfl
theorem infoIntX : (Tryd.prog.info? 3).map (fun i => (i.zero, i.size, i.bytes)) = some (some (.int .i64 0), 1, 8) := by kernel_rfl
theorem infoWordX : (Tryd.prog.info? 29).map (fun i => (i.zero, i.size, i.bytes)) = some (some (.int .u64 0), 1, 8) := by kernel_rfl
end Go.Proofs.YtfcnnolpcnacoaaDoor.Fx
