/- One append of an integer to a list that the program itself makes, beside blocks of its own that stay as they are. -/
import Derived.Test.YtfcnnolpcnacoaaGreatDoorJ04
import Derived.Test.YtfcnnolpcnacoaaGreatDoorJ11
import Derived.Lib.SliceRun
import Derived.Test.YtfcnnolpcnacoaaGreatDoorJ14
import Derived.Test.YtfcnnolpcnacoaaGreatDoorJ09
namespace Go.Proofs.YtfcnnolpcnacoaaGreatDoor.Fx
open Go.RowKit

section
variable {w' W0 : World} {ops : Array Oper} {o : Oper} {a : Act} {Q : Exit → Act → World → Prop}

theorem run_append_far (ty : TypeId) (base : Nat) (v : Value) (xs : List Int) (z : Int) (g : Nat) (hown : OwnI base w' v xs) (hc : w'.cell? ⟨g, 0, none⟩ = some (.int .i64 z)) (hn : (xs.length + 1) * 8 ≤ 140737488355328) (hbase : base ≤ w'.heap.size) (hB : Below base W0 w') :
    ∃ v' w1, (Builtin.append_ #[26, 26] ty #[v, .slice (some ⟨g, 0, none⟩) 1 1]).run Tryz.prog w' = .ok v' w1 ∧ OwnI base w1 v' (xs ++ [z]) ∧ Below base W0 w1 ∧ w'.grownBy w1 v.ownBlock ∧ (v'.ownBlock = v.ownBlock ∨ v'.ownBlock = some w'.heap.size) := by
  obtain ⟨i0, hi, hz0, hz1, hz2⟩ := info_parts info3
  obtain ⟨v', w1, hrun, h1, h2, _, h3⟩ := run_append_own_at (P := Tryz.prog) w' base 26 ty 3 i0 (.int .i64 0) 1 8 Tryz.underlying26 hi hz0 hz1 hz2 rfl (by decide) v xs.length _ hown ⟨g, 0, none⟩ 1 1 [.int .i64 z] rfl
    (by intro j u hj
        match j, hj with
        | 0, hj => simp at hj; subst hj; simpa [Addr.add] using hc)
    (by intro u hu; simp at hu; subst hu; rfl) (by unfold maxLen; omega) hn hbase
  refine ⟨v', w1, hrun, by unfold OwnI; rw [List.length_append, List.map_append]; exact h1, hB.grown h2 hbase ?_, h2, h3⟩
  intro k hk
  rcases hown.2 with ⟨rfl, _⟩ | ⟨g', cap, cur, rfl, hg, _⟩
  · simp [Value.ownBlock] at hk
  · simp [Value.ownBlock] at hk; omega

theorem wpList_append_far {rest : List Oper} (hgd : o.guard = none) (s x : Operand) (ho : o.op = .call { callee := .builtin .append, args := #[s, x], argTypes := #[26, 26] })
    (base : Nat) (v : Value) (xs : List Int) (z : Int) (g : Nat) (W0 : World) (hs : a.eval s = v) (hx : a.eval x = .slice (some ⟨g, 0, none⟩) 1 1) (hown : OwnI base w' v xs) (hc : w'.cell? ⟨g, 0, none⟩ = some (.int .i64 z)) (hn : (xs.length + 1) * 8 ≤ 140737488355328) (hbase : base ≤ w'.heap.size) (hB : Below base W0 w')
    (h : ∀ v' w1, OwnI base w1 v' (xs ++ [z]) → Below base W0 w1 → w'.grownBy w1 v.ownBlock → (v'.ownBlock = v.ownBlock ∨ v'.ownBlock = some w'.heap.size) → wpList Tryz.prog ops Q rest (a.put o.dst v') w1) : wpList Tryz.prog ops Q (o :: rest) a w' := by
  obtain ⟨v', w1, hrun, h1, h2, h3, h4⟩ := run_append_far o.type base v xs z g hown hc hn hbase hB
  refine wpList_plain hgd fun K hK => ?_
  unfold Oper.wp
  simp [execOp, ho, resolve, invoke, builtin, hs, hx, hrun, Result.andThen]
  exact hK _ _ (h v' w1 h1 h2 h3 h4)
end

theorem OwnI.new {base : Nat} {w : World} {y : Value} {xs : List Int} (h : OwnI base w y xs) {b : Nat} (hb : w.heap.size ≤ b) : some b ≠ y.ownBlock := by
  rcases h.blk with e | ⟨g, e, _, hg⟩
  · rw [e]; simp
  · rw [e]; simp; omega
theorem Arr.grown {w w1 : World} {b c n : Nat} {f : Nat → Int} {row : Option Nat} (h : Arr w b c n f) (hg : w.grownBy w1 row) (hne : some b ≠ row) : Arr w1 b c n f := by
  have hlt := h.lt
  obtain ⟨hc, F, hr, hf⟩ := h
  exact ⟨hc, F, hr.of_block (hg.block b hlt hne), hf⟩

/-- The order that was made last, and of which epoch; it lies apart from the list that is made. -/
def LastIs (seed : Int) (n : Nat) (out last v : Value) (w : World) : Prop :=
  ∃ L : Int, last = .int .i64 L ∧ ∀ d : Nat, L = (d : Int) → ∃ b c, v = .slice (some ⟨b, 0, none⟩) n c ∧ some b ≠ out.ownBlock ∧ Arr w b c n (shufF seed d n)
theorem LastIs.none (seed : Int) (n : Nat) (out v : Value) (w : World) : LastIs seed n out (.int .i64 (-1)) v w := ⟨-1, rfl, fun d h => by omega⟩
theorem LastIs.one {seed : Int} {n b c d : Nat} {out : Value} {w : World} (hne : some b ≠ out.ownBlock) (h : Arr w b c n (shufF seed d n)) : LastIs seed n out (.int .i64 (d : Int)) (.slice (some ⟨b, 0, Option.none⟩) n c) w :=
  ⟨d, rfl, fun d' e => by
    obtain rfl : d' = d := by omega
    exact ⟨b, c, rfl, hne, h⟩⟩
/-- Behind an append to the list beside it. -/
theorem LastIs.push {seed : Int} {n b c d : Nat} {out out1 : Value} {w w1 : World} (hne : some b ≠ out.ownBlock) (h : Arr w b c n (shufF seed d n)) (hg : w.grownBy w1 out.ownBlock) (h3 : out1.ownBlock = out.ownBlock ∨ out1.ownBlock = some w.heap.size) :
    LastIs seed n out1 (.int .i64 (d : Int)) (.slice (some ⟨b, 0, Option.none⟩) n c) w1 := by
  refine LastIs.one ?_ (h.grown hg hne)
  rcases h3 with e | e
  · rw [e]; exact hne
  · rw [e]
    have := h.lt
    simp
    omega

end Go.Proofs.YtfcnnolpcnacoaaGreatDoor.Fx

/- An append of a whole list of integers to one that the program itself makes; and what slices.Clone returns. -/
namespace Go.Proofs.YtfcnnolpcnacoaaGreatDoor.Fx
open Go.RowKit

section
variable {w' W0 : World} {ops : Array Oper} {o : Oper} {a : Act} {Q : Exit → Act → World → Prop}

theorem run_append_all (ty : TypeId) (base : Nat) (v : Value) (xs zs : List Int) (b off m c : Nat) (hown : OwnI base w' v xs) (hz : Lst w' (some ⟨b, off, none⟩) m c zs) (hn : (xs.length + m) * 8 ≤ 140737488355328) (hbase : base ≤ w'.heap.size) (hB : Below base W0 w') :
    ∃ v' w1, (Builtin.append_ #[26, 26] ty #[v, .slice (some ⟨b, off, none⟩) m c]).run Tryz.prog w' = .ok v' w1 ∧ OwnI base w1 v' (xs ++ zs) ∧ Below base W0 w1 := by
  obtain ⟨i0, hi, hz0, hz1, hz2⟩ := info_parts info3
  have hzl := hz.len
  obtain ⟨v', w1, hrun, h1, h2, _, _⟩ := run_append_own_at (P := Tryz.prog) w' base 26 ty 3 i0 (.int .i64 0) 1 8 Tryz.underlying26 hi hz0 hz1 hz2 rfl (by decide) v xs.length _ hown ⟨b, off, none⟩ m c (zs.map (Value.int .i64)) (by simp [hzl])
    (by intro j u hj
        have hjm : j < m := by
          have := (List.getElem?_eq_some_iff.1 hj).1
          simpa [hzl] using this
        obtain ⟨b1, o1, e, _, hc⟩ := hz.at (by omega)
        simp only [Option.some.injEq, Addr.mk.injEq, and_true] at e
        obtain ⟨rfl, rfl⟩ := e
        rw [getD_map_int zs j (by omega)] at hj
        rw [Go.WideShapes.add_plain, hc j hjm]
        exact hj)
    (by intro u hu; obtain ⟨x, _, rfl⟩ := List.mem_map.1 hu; rfl) (by unfold maxLen; omega) hn hbase
  refine ⟨v', w1, hrun, by unfold OwnI; rw [List.length_append, List.map_append, hzl]; exact h1, hB.grown h2 hbase ?_⟩
  intro k hk
  rcases hown.2 with ⟨rfl, _⟩ | ⟨g', cap, cur, rfl, hg, _⟩
  · simp [Value.ownBlock] at hk
  · simp [Value.ownBlock] at hk; omega

theorem wpList_append_all {rest : List Oper} (hgd : o.guard = none) (s x : Operand) (ho : o.op = .call { callee := .builtin .append, args := #[s, x], argTypes := #[26, 26] })
    (base : Nat) (v : Value) (xs zs : List Int) (b off m c : Nat) (W0 : World) (hs : a.eval s = v) (hx : a.eval x = .slice (some ⟨b, off, none⟩) m c) (hown : OwnI base w' v xs) (hz : Lst w' (some ⟨b, off, none⟩) m c zs) (hn : (xs.length + m) * 8 ≤ 140737488355328) (hbase : base ≤ w'.heap.size) (hB : Below base W0 w')
    (h : ∀ v' w1, OwnI base w1 v' (xs ++ zs) → Below base W0 w1 → wpList Tryz.prog ops Q rest (a.put o.dst v') w1) : wpList Tryz.prog ops Q (o :: rest) a w' := by
  obtain ⟨v', w1, hrun, h1, h2⟩ := run_append_all o.type base v xs zs b off m c hown hz hn hbase hB
  refine wpList_plain hgd fun K hK => ?_
  unfold Oper.wp
  simp [execOp, ho, resolve, invoke, builtin, hs, hx, hrun, Result.andThen]
  exact hK _ _ (h v' w1 h1 h2)
end

theorem OwnI.empty (w : World) : OwnI w.heap.size (w.alloc (.cells #[] 3)) (.slice (some ⟨w.heap.size, 0, none⟩) 0 0) [] :=
  ⟨rfl, .inr ⟨w.heap.size, 0, #[], rfl, Nat.le_refl _, Go.Deep.blk_alloc_new _ _, Nat.le_refl _, Nat.zero_le _, rfl, rfl⟩⟩

set_option maxRecDepth 100000 in
theorem clone_calls (b off n c : Nat) (f : Nat → Int) (w : World) (h : Lst w (some ⟨b, off, none⟩) n c ((List.range n).map f)) (h1 : 1 ≤ n) (h2 : n ≤ 16) :
    Calls Tryz.prog 100 #[.slice (some ⟨b, off, none⟩) n c] w fun e w' => ∃ b' c', e = .returned (.slice (some ⟨b', 0, none⟩) n c') ∧ w.heap.size ≤ b' ∧ Arr w' b' c' n f ∧ Below w.heap.size w w' := by
  have hb := (Below.refl w.heap.size w).alloc (Nat.le_refl _) (.cells #[] 3)
  have hl := h.below hb (Nat.le_refl _)
  have q22 : ∀ (w : World) (a : Option Addr) (n c n' c' : Nat), (binOp .eql 26 (.slice a n c) (.slice none n' c')).run Tryz.prog w = .ok (.bool a.isNone) w := fun w a n c n' c' => Lib.run_eql_slice_nil w _ _ a n c n' c' Tryz.underlying26
  go_enter Tryz.func100, Tryz.ntmps100
  go_wp2_with (at_builtin; refine wpList_append_all (by rfl) _ _ (by rfl) w.heap.size _ [] ((List.range n).map f) b off n c w (by rfl) (by rfl) (by exact OwnI.empty w) (by exact hl) (by simp; omega) (by simp) (by exact hb) ?_; intro v1 w1 hown1 hbel1)
  obtain ⟨b', c', rfl, hb', hA⟩ := OwnI.arr hown1 h1
  go_wp2
  go_ret
  exact ⟨_, _, rfl, hb', hA, hbel1⟩

end Go.Proofs.YtfcnnolpcnacoaaGreatDoor.Fx

/- What optim's isPupil returns, of a config that was checked, and slices.Clone of a list that is not empty. -/
namespace Go.Proofs.YtfcnnolpcnacoaaGreatDoor.Fx
open Go.RowKit

theorem shp_fit {c : Cfg} (h : cfgB c = true) (len : Nat) (xs : List Int) : shpI c.i c.h c.o len xs = if fitB c len xs = true then 0 else 5 := by
  obtain ⟨⟨i1, i2⟩, ⟨h1, h2⟩, ⟨o1, o2⟩, _⟩ := cfgB_is h
  unfold shpI
  rw [if_pos ⟨sideB_mk i1 i2, sideB_mk h1 h2, sideB_mk o1 o2⟩]
  have e : (fitB c len xs = true) = ((len : Int) = c.h * c.i + c.h + c.o * c.h + c.o ∧ rightB xs = true) := by
    unfold fitB sizeN
    rw [Bool.and_eq_true, decide_eq_true_eq]
  simp only [e]

set_option maxHeartbeats 800000 in
theorem isPup_calls (c : Cfg) (hc : cfgB c = true) (a : Option Addr) (len cap : Nat) (xs : List Int) (w : World) (ha : Lst w a len cap xs) :
    Calls Tryz.prog 98 #[c.val, .slice a len cap] w fun e w' => e = .returned (.bool (fitB c len xs)) ∧ Below w.heap.size w w' := by
  have hal := (Below.refl w.heap.size w).alloc (Nat.le_refl _) (.cells c.cells 24)
  have ha' := ha.below hal (Nat.le_refl _)
  have hs := shp_fit hc len xs
  cases hf : fitB c len xs with
  | false =>
    rw [if_neg (by rw [hf]; decide)] at hs
    have K := shape_bad c.i c.h c.o a len cap xs _ ha' (by rw [hs]; decide)
    rw [hs] at K
    have HK : Hid (Calls Tryz.prog 93 #[.int .i64 c.i, .int .i64 c.h, .int .i64 c.o, .slice a len cap] (w.alloc (.cells c.cells 24)) fun e w' => e = .returned (.tuple #[noPup.val, .int .i64 5]) ∧ Below (w.alloc (.cells c.cells 24)).heap.size (w.alloc (.cells c.cells 24)) w') := K
    clear K hs hf hc ha ha'
    obtain ⟨i, h, o, seed, batch, steps, rate, decay, how, keep, clip⟩ := c
    simp only [Cfg.val, Cfg.cells, noPup, Pup.val, Pup.cells] at *
    go_enter Tryz.func98, Tryz.ntmps98
    go_wp2_with fail
    refine HK.out.mono ?_
    rintro e w1 ⟨rfl, hw1⟩
    have hb := hal.trans (hw1.mono hal.size)
    clear hw1 hal HK
    have hz := hb.size
    go_wp2
    go_ret
    exact ⟨rfl, hb.alloc hz _⟩
  | true =>
    obtain ⟨⟨i1, i2⟩, ⟨h1, h2⟩, ⟨o1, o2⟩, _⟩ := cfgB_is hc
    have hfit := fit_len hc hf
    unfold sizeN at hfit
    obtain ⟨i, h, o, seed, batch, steps, rate, decay, how, keep, clip⟩ := c
    dsimp only at i1 i2 h1 h2 o1 o2 hfit
    obtain ⟨I, rfl⟩ := Int.eq_ofNat_of_zero_le (show 0 ≤ i by omega)
    obtain ⟨H, rfl⟩ := Int.eq_ofNat_of_zero_le (show 0 ≤ h by omega)
    obtain ⟨O, rfl⟩ := Int.eq_ofNat_of_zero_le (show 0 ≤ o by omega)
    have K := shape_good I H O a len cap xs _ ha' (by omega) (by omega) (by omega) (by omega) (by omega) (by omega) (by have := hfit.1; exact_mod_cast this) hfit.2.2.2
    have HK : Hid (Calls Tryz.prog 93 #[.int .i64 I, .int .i64 H, .int .i64 O, .slice a len cap] (w.alloc (.cells (Cfg.cells ⟨I, H, O, seed, batch, steps, rate, decay, how, keep, clip⟩) 24)) fun e w' => ∃ a1 a2 b1 b2, e = .returned (.tuple #[(rpup I H O a1 (H * I) a2 (O * H) b1 H b2 O).val, .int .i64 0]) ∧ Below (w.alloc (.cells (Cfg.cells ⟨I, H, O, seed, batch, steps, rate, decay, how, keep, clip⟩) 24)).heap.size (w.alloc (.cells (Cfg.cells ⟨I, H, O, seed, batch, steps, rate, decay, how, keep, clip⟩) 24)) w') := K.mono (by rintro e w' ⟨a1, a2, b1, b2, he, _, hb⟩; exact ⟨a1, a2, b1, b2, he, hb⟩)
    clear K hs hf hc ha ha' hfit i1 i2 h1 h2 o1 o2
    simp only [Cfg.val, Cfg.cells, rpup, Pup.val, Pup.cells] at *
    go_enter Tryz.func98, Tryz.ntmps98
    go_wp2_with fail
    refine HK.out.mono ?_
    rintro e w1 ⟨a1, a2, b1, b2, rfl, hw1⟩
    have hb := hal.trans (hw1.mono hal.size)
    clear hw1 hal HK
    have hz := hb.size
    go_wp2
    go_ret
    exact ⟨rfl, hb.alloc hz _⟩

theorem getD_self {xs : List Int} {n : Nat} (h : xs.length = n) : (List.range n).map (fun i => xs.getD i 0) = xs := by
  refine List.ext_getElem (by simp [h]) (fun i a b => ?_)
  simp only [List.getElem_map, List.getElem_range]
  rw [List.getD_eq_getElem?_getD, List.getElem?_eq_getElem b]
  rfl

theorem OwnI.capM {base : Nat} {w : World} {a : Option Addr} {n c : Nat} {xs : List Int} (h : OwnI base w (.slice a n c) xs) : c ≤ maxLen := by
  rcases h.2 with ⟨e, _⟩ | ⟨g, cap, cur, e, _, _, _, hm, _⟩
  · injection e with _ _ e3
    rw [e3]
    exact Nat.zero_le _
  · injection e with _ _ e3
    rw [e3]
    exact hm

set_option maxRecDepth 100000 in
theorem cloneL_own (b off n c : Nat) (xs : List Int) (w : World) (h : Lst w (some ⟨b, off, none⟩) n c xs) (h1 : 1 ≤ n) (h2 : n ≤ 1000) :
    Calls Tryz.prog 100 #[.slice (some ⟨b, off, none⟩) n c] w fun e w' => ∃ b' c', e = .returned (.slice (some ⟨b', 0, none⟩) n c') ∧ w.heap.size ≤ b' ∧ Arr w' b' c' n (fun i => xs.getD i 0) ∧ c' ≤ maxLen ∧ Below w.heap.size w w' := by
  have hb := (Below.refl w.heap.size w).alloc (Nat.le_refl _) (.cells #[] 3)
  have hl := h.below hb (Nat.le_refl _)
  have hn := h.len
  have q22 : ∀ (w : World) (a : Option Addr) (n c n' c' : Nat), (binOp .eql 26 (.slice a n c) (.slice none n' c')).run Tryz.prog w = .ok (.bool a.isNone) w := fun w a n c n' c' => Lib.run_eql_slice_nil w _ _ a n c n' c' Tryz.underlying26
  go_enter Tryz.func100, Tryz.ntmps100
  go_wp2_with (at_builtin; refine wpList_append_all (by rfl) _ _ (by rfl) w.heap.size _ [] xs b off n c w (by rfl) (by rfl) (by exact OwnI.empty w) (by exact hl) (by simp; omega) (by simp) (by exact hb) ?_; intro v1 w1 hown1 hbel1)
  have hown2 : OwnI w.heap.size w1 v1 ((List.range n).map (fun i => xs.getD i 0)) := by rw [getD_self hn]; simpa using hown1
  obtain ⟨b', c', rfl, hb', ha'⟩ := hown2.arr h1
  go_wp2
  go_ret
  exact ⟨_, _, rfl, hb', ha', hown2.capM, hbel1⟩

theorem cloneL_calls (b off n c : Nat) (xs : List Int) (w : World) (h : Lst w (some ⟨b, off, none⟩) n c xs) (h1 : 1 ≤ n) (h2 : n ≤ 1000) :
    Calls Tryz.prog 100 #[.slice (some ⟨b, off, none⟩) n c] w fun e w' => ∃ b' o' c', e = .returned (.slice (some ⟨b', o', none⟩) n c') ∧ w.heap.size ≤ b' ∧ Lst w' (some ⟨b', o', none⟩) n c' xs ∧ Below w.heap.size w w' := by
  refine (cloneL_own b off n c xs w h h1 h2).mono ?_
  rintro e w' ⟨b', c', he, hb', ha', _, hbel⟩
  have hl := ha'.lst
  rw [getD_self h.len] at hl
  exact ⟨b', 0, c', he, hb', hl, hbel⟩

theorem Lst.setFar {w : World} {b off n c : Nat} {xs : List Int} (h : Lst w (some ⟨b, off, none⟩) n c xs) {a : Addr} (ha : b ≠ a.block) (v : Value) : Lst (w.setCell a v) (some ⟨b, off, none⟩) n c xs := by
  refine ⟨h.1, h.2.1, ?_⟩
  rcases h.2.2 with h0 | ⟨b', off', e, hs, hc⟩
  · exact .inl h0
  · simp only [Option.some.injEq, Addr.mk.injEq, and_true] at e
    obtain ⟨rfl, rfl⟩ := e
    exact .inr ⟨b, off, rfl, by simpa using hs, fun i hi => (World.cell?_of_block (w := w) (a := ⟨b, off + i, none⟩) (Go.Deep.blk_setCell_other w a v b ha)).trans (hc i hi)⟩

end Go.Proofs.YtfcnnolpcnacoaaGreatDoor.Fx
