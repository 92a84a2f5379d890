/- Lists of flags, lists of words and lists of lists of words that the program itself makes by append: what is known of them, and what one append more leaves. -/
import Derived.Test.YtfkalnehomgccaaAppsW
import Derived.Test.YtfkalnehomgccaaAppsGr
namespace Go.Proofs.Ytfkalnehomgccaa.Fx
open Go.RowKit

/-- The slice value v, made from block number base on, owns these values, each of one cell. -/
def OwnV (T : TypeId) (base : Nat) (w : World) (v : Value) (vs : List Value) : Prop := w.ownsRow base T 1 v vs.length vs
theorem OwnV.nil (T : TypeId) (base : Nat) (w : World) : OwnV T base w (.slice none 0 0) [] := World.ownsRow_nil _ _ _ _
theorem OwnV.below {T : TypeId} {base : Nat} {w w' : World} {v : Value} {vs : List Value} (h : OwnV T base w v vs) (hb : Below w.heap.size w w') : OwnV T base w' v vs := by
  refine ⟨h.1, ?_⟩
  rcases h.2 with h0 | ⟨g, cap, cur, hv, hg, hh, r⟩
  · exact .inl h0
  · exact .inr ⟨g, cap, cur, hv, hg, by rw [hb.block g (Array.getElem?_eq_some_iff.1 hh).1]; exact hh, r⟩
theorem OwnV.mono {T : TypeId} {base b2 : Nat} {w : World} {v : Value} {vs : List Value} (h : OwnV T base w v vs) (hb : b2 ≤ base) : OwnV T b2 w v vs :=
  ⟨h.1, h.2.imp id fun ⟨g, cap, cur, h1, h2, h3⟩ => ⟨g, cap, cur, h1, Nat.le_trans hb h2, h3⟩⟩
theorem OwnV.blk {T : TypeId} {base : Nat} {w : World} {y : Value} {vs : List Value} (h : OwnV T base w y vs) : y.ownBlock = none ∨ ∃ g, y.ownBlock = some g ∧ base ≤ g ∧ g < w.heap.size := by
  rcases h.2 with ⟨rfl, _⟩ | ⟨g, cap, cur, rfl, hg, hh, _⟩
  · exact .inl rfl
  · exact .inr ⟨g, rfl, hg, (Array.getElem?_eq_some_iff.1 hh).1⟩
theorem OwnV.kept {T : TypeId} {base : Nat} {w w1 : World} {y : Value} {vs : List Value} {row : Option Nat} (h : OwnV T base w y vs) (hg : w.grownBy w1 row) (hne : y.ownBlock = none ∨ y.ownBlock ≠ row) : OwnV T base w1 y vs := World.ownsRow.kept h hg hne
theorem OwnV.row {T : TypeId} {base : Nat} {w : World} {v : Value} {vs : List Value} (h : OwnV T base w v vs) (hn : 0 < vs.length) : ∃ g c, v = .slice (some ⟨g, 0, none⟩) vs.length c ∧ base ≤ g ∧ g < w.heap.size ∧ vs.length ≤ c ∧ ∀ k u, vs[k]? = some u → w.cell? ⟨g, k, none⟩ = some u := by
  rcases h.2 with ⟨_, h0⟩ | ⟨g, cap, cur, rfl, hg, hh, hle, _, hsz, hcur⟩
  · omega
  · refine ⟨g, cap, rfl, hg, (Array.getElem?_eq_some_iff.1 hh).1, hle, fun k u hk => ?_⟩
    have hk2 := (List.getElem?_eq_some_iff.1 hk).1
    have h3 : (cur.toList.take vs.length)[k]? = some u := by
      rw [Nat.mul_one] at hcur
      rw [hcur]; exact hk
    rw [List.getElem?_take_of_lt hk2] at h3
    simpa [World.cell?, hh] using h3
theorem OwnV.lit (T : TypeId) (w : World) (x : Value) : OwnV T w.heap.size (w.alloc (.cells #[x] T)) (.slice (some ⟨w.heap.size, 0, none⟩) 1 1) [x] :=
  ⟨by simp, .inr ⟨w.heap.size, 1, _, rfl, Nat.le_refl _, Go.Deep.blk_alloc_new _ _, Nat.le_refl _, by unfold maxLen; omega, by simp, by simp⟩⟩
theorem LstW.kept {w w' : World} {g off n c : Nat} {xs : List Int} {row : Option Nat} (h : LstW w (some ⟨g, off, none⟩) n c xs) (hg : w.grownBy w' row) (hne : row ≠ some g) : LstW w' (some ⟨g, off, none⟩) n c xs := by
  refine ⟨h.1, h.2.1, ?_⟩
  rcases h.2.2 with h0 | ⟨b', off', e, hs, hc⟩
  · exact .inl h0
  · simp only [Option.some.injEq, Addr.mk.injEq, and_true] at e
    obtain ⟨rfl, rfl⟩ := e
    exact .inr ⟨g, off, rfl, Nat.lt_of_lt_of_le hs hg.size, fun i hi => hg.cell (hc i hi) (fun e => hne e.symm)⟩

/-- An append of one value of one cell. -/
theorem run_append_v {w' W0 : World} {TS T : TypeId} {z : Value} {bytes : Nat} (ht : Try.prog.underlying TS = some (.slice T)) (hinfo : (Try.prog.info? T).map (fun i => (i.zero, i.size, i.bytes)) = some (some z, 1, bytes)) (hzc : z.cells.size = 1) (hby : bytes ≤ 24)
    (ty : TypeId) (base : Nat) (v : Value) (vs : List Value) (u : Value) (g : Nat) (hown : OwnV T base w' v vs) (hc : w'.cell? ⟨g, 0, none⟩ = some u) (hu : u.oneCell' = true) (hn : vs.length ≤ 1000) (hbase : base ≤ w'.heap.size) (hB : Below base W0 w') :
    ∃ v' w1, (Builtin.append_ #[TS, TS] ty #[v, .slice (some ⟨g, 0, none⟩) 1 1]).run Try.prog w' = .ok v' w1 ∧ OwnV T base w1 v' (vs ++ [u]) ∧ Below base W0 w1 ∧ w'.grownBy w1 v.ownBlock ∧ (v'.ownBlock = v.ownBlock ∨ v'.ownBlock = some w'.heap.size) := by
  obtain ⟨i0, hi, hz0, hz1, hz2⟩ := info_parts hinfo
  have hbb : (vs.length + 1) * bytes ≤ 140737488355328 := Nat.le_trans (Nat.mul_le_mul (show vs.length + 1 ≤ 1001 by omega) hby) (by decide)
  obtain ⟨v', w1, hrun, h1, h2, _, h3⟩ := run_append_own_at (P := Try.prog) w' base TS ty T i0 z 1 bytes ht hi hz0 hz1 hz2 hzc (by decide) v vs.length _ hown ⟨g, 0, none⟩ 1 1 [u] rfl
    (by intro j x hj
        match j, hj with
        | 0, hj => simp at hj; subst hj; simpa [Addr.add] using hc)
    (by intro x hx; simp at hx; subst hx; exact hu) (by unfold maxLen; omega) hbb hbase
  refine ⟨v', w1, hrun, by unfold OwnV; rw [List.length_append]; exact h1, hB.grown h2 hbase ?_, h2, h3⟩
  intro k hk
  rcases hown.2 with ⟨rfl, _⟩ | ⟨g', cap, cur, rfl, hg, _⟩
  · simp [Value.ownBlock] at hk
  · simp [Value.ownBlock] at hk; omega

/-- An append of a whole list of words. -/
theorem run_append_words {w' W0 : World} (ty : TypeId) (base : Nat) (v : Value) (xs zs : List Int) (b off m c : Nat) (hown : OwnW base w' v xs) (hz : LstW w' (some ⟨b, off, none⟩) m c zs) (hn : xs.length + m ≤ 1000) (hbase : base ≤ w'.heap.size) (hB : Below base W0 w') :
    ∃ v' w1, (Builtin.append_ #[26, 26] ty #[v, .slice (some ⟨b, off, none⟩) m c]).run Try.prog w' = .ok v' w1 ∧ OwnW base w1 v' (xs ++ zs) ∧ Below base W0 w1 ∧ w'.grownBy w1 v.ownBlock ∧ (v'.ownBlock = v.ownBlock ∨ v'.ownBlock = some w'.heap.size) := by
  obtain ⟨i0, hi, hz0, hz1, hz2⟩ := info_parts infoW
  have hzl := hz.len
  obtain ⟨v', w1, hrun, h1, h2, _, h3⟩ := run_append_own_at (P := Try.prog) w' base 26 ty 25 i0 (.int .u64 0) 1 8 Try.underlying26 hi hz0 hz1 hz2 rfl (by decide) v xs.length _ hown ⟨b, off, none⟩ m c (zs.map (Value.int .u64)) (by simp [hzl])
    (by intro j u hj
        have hjm : j < m := by
          have := (List.getElem?_eq_some_iff.1 hj).1
          simpa [hzl] using this
        obtain ⟨b1, o1, e, _, hc⟩ := hz.at (by omega)
        simp only [Option.some.injEq, Addr.mk.injEq, and_true] at e
        obtain ⟨rfl, rfl⟩ := e
        rw [Go.WideShapes.add_plain, hc j hjm]
        rw [List.getElem?_map, List.getElem?_eq_getElem (by omega)] at hj
        rw [List.getD_eq_getElem?_getD, List.getElem?_eq_getElem (by omega)]
        simpa using hj)
    (by intro u hu; simp at hu; obtain ⟨x, _, rfl⟩ := hu; rfl) (by unfold maxLen; omega) (by omega) hbase
  refine ⟨v', w1, hrun, by unfold OwnW; rw [List.length_append, List.map_append, hzl]; exact h1, hB.grown h2 hbase ?_, h2, h3⟩
  intro k hk
  rcases hown.2 with ⟨rfl, _⟩ | ⟨g', cap, cur, rfl, hg, _⟩
  · simp [Value.ownBlock] at hk
  · simp [Value.ownBlock] at hk; omega

section
variable {w' W0 : World} {ops : Array Oper} {o : Oper} {a : Act} {Q : Exit → Act → World → Prop}
theorem wpList_append_words {rest : List Oper} (hgd : o.guard = none) (s x : Operand) (ho : o.op = .call { callee := .builtin .append, args := #[s, x], argTypes := #[26, 26] })
    (base : Nat) (v : Value) (xs zs : List Int) (b off m c : Nat) (W0 : World) (hs : a.eval s = v) (hx : a.eval x = .slice (some ⟨b, off, none⟩) m c) (hown : OwnW base w' v xs) (hz : LstW w' (some ⟨b, off, none⟩) m c zs) (hn : xs.length + m ≤ 1000) (hbase : base ≤ w'.heap.size) (hB : Below base W0 w')
    (h : ∀ v' w1, OwnW base w1 v' (xs ++ zs) → Below base W0 w1 → w'.grownBy w1 v.ownBlock → (v'.ownBlock = v.ownBlock ∨ v'.ownBlock = some w'.heap.size) → wpList Try.prog ops Q rest (a.put o.dst v') w1) : wpList Try.prog ops Q (o :: rest) a w' := by
  obtain ⟨v', w1, hrun, h1, h2, h3, h4⟩ := run_append_words o.type base v xs zs b off m c hown hz hn hbase hB
  refine wpList_plain hgd fun K hK => ?_
  unfold Oper.wp
  simp [execOp, ho, resolve, invoke, builtin, hs, hx, hrun, Result.andThen]
  exact hK _ _ (h v' w1 h1 h2 h3 h4)
theorem wpList_append_v {rest : List Oper} {TS T : TypeId} {z : Value} {bytes : Nat} (ht : Try.prog.underlying TS = some (.slice T)) (hinfo : (Try.prog.info? T).map (fun i => (i.zero, i.size, i.bytes)) = some (some z, 1, bytes)) (hzc : z.cells.size = 1) (hby : bytes ≤ 24)
    (hgd : o.guard = none) (s x : Operand) (ho : o.op = .call { callee := .builtin .append, args := #[s, x], argTypes := #[TS, TS] })
    (base : Nat) (v : Value) (vs : List Value) (u : Value) (g : Nat) (W0 : World) (hs : a.eval s = v) (hx : a.eval x = .slice (some ⟨g, 0, none⟩) 1 1) (hown : OwnV T base w' v vs) (hc : w'.cell? ⟨g, 0, none⟩ = some u) (hu : u.oneCell' = true) (hn : vs.length ≤ 1000) (hbase : base ≤ w'.heap.size) (hB : Below base W0 w')
    (h : ∀ v' w1, OwnV T base w1 v' (vs ++ [u]) → Below base W0 w1 → w'.grownBy w1 v.ownBlock → (v'.ownBlock = v.ownBlock ∨ v'.ownBlock = some w'.heap.size) → wpList Try.prog ops Q rest (a.put o.dst v') w1) : wpList Try.prog ops Q (o :: rest) a w' := by
  obtain ⟨v', w1, hrun, h1, h2, h3, h4⟩ := run_append_v ht hinfo hzc hby o.type base v vs u g hown hc hu hn hbase hB
  refine wpList_plain hgd fun K hK => ?_
  unfold Oper.wp
  simp [execOp, ho, resolve, invoke, builtin, hs, hx, hrun, Result.andThen]
  exact hK _ _ (h v' w1 h1 h2 h3 h4)
end

theorem infoWL : (Try.prog.info? 26).map (fun i => (i.zero, i.size, i.bytes)) = some (some (.slice none 0 0), 1, 24) := by kernel_rfl

theorem infoBL : (Try.prog.info? 4).map (fun i => (i.zero, i.size, i.bytes)) = some (some (.bool false), 1, 1) := by kernel_rfl

/-- The slice value v owns lists of words; these lie in blocks of their own. -/
def OwnLL (base : Nat) (w : World) (v : Value) (fs : List (List Int)) : Prop :=
  ∃ vs, OwnV 26 base w v vs ∧ vs.length = fs.length ∧ ∀ k, k < fs.length → ∃ g c, vs[k]? = some (.slice (some ⟨g, 0, none⟩) (fs.getD k []).length c) ∧ LstW w (some ⟨g, 0, none⟩) (fs.getD k []).length c (fs.getD k []) ∧ base ≤ g ∧ g < w.heap.size ∧ v.ownBlock ≠ some g
theorem OwnLL.below {base : Nat} {w w' : World} {v : Value} {fs : List (List Int)} (h : OwnLL base w v fs) (hb : Below w.heap.size w w') : OwnLL base w' v fs := by
  obtain ⟨vs, h1, h2, h3⟩ := h
  refine ⟨vs, h1.below hb, h2, fun k hk => ?_⟩
  obtain ⟨g, c, q1, q2, q3, q4, q5⟩ := h3 k hk
  exact ⟨g, c, q1, q2.below hb (Nat.le_refl _), q3, Nat.lt_of_lt_of_le q4 hb.size, q5⟩
theorem OwnLL.mono {base b2 : Nat} {w : World} {v : Value} {fs : List (List Int)} (h : OwnLL base w v fs) (hb : b2 ≤ base) : OwnLL b2 w v fs := by
  obtain ⟨vs, h1, h2, h3⟩ := h
  refine ⟨vs, h1.mono hb, h2, fun k hk => ?_⟩
  obtain ⟨g, c, q1, q2, q3, q4, q5⟩ := h3 k hk
  exact ⟨g, c, q1, q2, Nat.le_trans hb q3, q4, q5⟩
theorem OwnLL.blk {base : Nat} {w : World} {y : Value} {fs : List (List Int)} (h : OwnLL base w y fs) : y.ownBlock = none ∨ ∃ g, y.ownBlock = some g ∧ base ≤ g ∧ g < w.heap.size := by
  obtain ⟨vs, h1, _⟩ := h
  exact h1.blk
theorem OwnLL.nil (base : Nat) (w : World) : OwnLL base w (.slice none 0 0) [] := ⟨[], OwnV.nil _ _ _, rfl, fun k hk => by cases hk⟩
theorem OwnLL.kept {base : Nat} {w w1 : World} {y : Value} {fs : List (List Int)} {row : Option Nat} (h : OwnLL base w y fs) (hg : w.grownBy w1 row) (hne : ∀ g, row = some g → w.heap.size ≤ g ∨ g < base) : OwnLL base w1 y fs := by
  obtain ⟨vs, h1, h2, h3⟩ := h
  refine ⟨vs, h1.kept hg ?_, h2, fun k hk => ?_⟩
  · rcases h1.blk with e | ⟨g, e, b1, b2⟩
    · exact .inl e
    · refine .inr (fun e2 => ?_)
      rcases hne g (by rw [← e2, e]) with h | h <;> omega
  · obtain ⟨g, c, q1, q2, q3, q4, q5⟩ := h3 k hk
    refine ⟨g, c, q1, q2.kept hg (fun e => ?_), q3, Nat.lt_of_lt_of_le q4 hg.size, q5⟩
    rcases hne g e with h | h <;> omega
/-- One list more. -/
theorem OwnLL.push {base : Nat} {w w1 : World} {v v' : Value} {fs : List (List Int)} {vs : List Value} {g n c : Nat} {l : List Int} (h2 : vs.length = fs.length)
    (h3 : ∀ k, k < fs.length → ∃ g c, vs[k]? = some (.slice (some ⟨g, 0, none⟩) (fs.getD k []).length c) ∧ LstW w (some ⟨g, 0, none⟩) (fs.getD k []).length c (fs.getD k []) ∧ base ≤ g ∧ g < w.heap.size ∧ v.ownBlock ≠ some g)
    (hl : LstW w (some ⟨g, 0, none⟩) n c l) (hb : base ≤ g) (hg : g < w.heap.size) (hne : v.ownBlock ≠ some g)
    (hown : OwnV 26 base w1 v' (vs ++ [.slice (some ⟨g, 0, none⟩) n c])) (hgr : w.grownBy w1 v.ownBlock) (hob : v'.ownBlock = v.ownBlock ∨ v'.ownBlock = some w.heap.size) : OwnLL base w1 v' (fs ++ [l]) := by
  have far : ∀ x, x < w.heap.size → v.ownBlock ≠ some x → v'.ownBlock ≠ some x := fun x hx h e => by
    rcases hob with h1 | h1
    · exact h (h1.symm.trans e)
    · rw [h1] at e; simp at e; omega
  refine ⟨_, hown, by simp [h2], fun k hk => ?_⟩
  rw [List.length_append, List.length_singleton] at hk
  by_cases hlt : k < fs.length
  · obtain ⟨g', c', q1, q2, q3, q4, q5⟩ := h3 k hlt
    have e : (fs ++ [l]).getD k [] = fs.getD k [] := by rw [List.getD_eq_getElem?_getD, List.getElem?_append_left hlt, ← List.getD_eq_getElem?_getD]
    rw [e]
    exact ⟨g', c', by rw [List.getElem?_append_left (by omega)]; exact q1, q2.kept hgr q5, q3, Nat.lt_of_lt_of_le q4 hgr.size, far g' q4 q5⟩
  · obtain rfl : k = fs.length := by omega
    have e : (fs ++ [l]).getD fs.length [] = l := by rw [List.getD_eq_getElem?_getD, List.getElem?_append_right (Nat.le_refl _)]; simp
    have hln := hl.len
    rw [e, hln]
    exact ⟨g, c, by rw [List.getElem?_append_right (by omega), h2]; simp, hl.kept hgr hne, hb, Nat.lt_of_lt_of_le hg hgr.size, far g hg hne⟩

section
variable {w' W0 : World} {ops : Array Oper} {o : Oper} {a : Act} {Q : Exit → Act → World → Prop}
theorem wpList_append_ll {rest : List Oper} (hgd : o.guard = none) (s x : Operand) (ho : o.op = .call { callee := .builtin .append, args := #[s, x], argTypes := #[43, 43] })
    (base : Nat) (v : Value) (fs : List (List Int)) (l : List Int) (b g n c : Nat) (W0 : World) (hs : a.eval s = v) (hx : a.eval x = .slice (some ⟨b, 0, none⟩) 1 1) (hown : OwnLL base w' v fs) (hc : w'.cell? ⟨b, 0, none⟩ = some (.slice (some ⟨g, 0, none⟩) n c)) (hl : LstW w' (some ⟨g, 0, none⟩) n c l) (hb : base ≤ g) (hg : g < w'.heap.size) (hne : v.ownBlock ≠ some g) (hn : fs.length ≤ 1000) (hbase : base ≤ w'.heap.size) (hB : Below base W0 w')
    (h : ∀ v' w1, OwnLL base w1 v' (fs ++ [l]) → Below base W0 w1 → w'.grownBy w1 v.ownBlock → (v'.ownBlock = v.ownBlock ∨ v'.ownBlock = some w'.heap.size) → wpList Try.prog ops Q rest (a.put o.dst v') w1) : wpList Try.prog ops Q (o :: rest) a w' := by
  obtain ⟨vs, h1, h2, h3⟩ := hown
  refine wpList_append_v (T := 26) Try.underlying43 infoWL rfl (by decide) hgd s x ho base v vs _ b W0 hs hx h1 hc rfl (by omega) hbase hB (fun v' w1 k1 k2 k3 k4 => h v' w1 (OwnLL.push h2 h3 hl hb hg hne k1 k3 k4) k2 k3 k4)
end
end Go.Proofs.Ytfkalnehomgccaa.Fx
