/- What spot.sameByP and spot.size return. -/
import Derived.Test.YtkikhfdkibekgaaGreatJ00
import Derived.Test.YtkikhfdkibekgaaGreatJ01
import Derived.Test.YtkikhfdkibekgaaGreatJ21
import Derived.Test.YtkikhfdkibekgaaGreatJ25
import Derived.Test.YtkikhfdkibekgaaGreatJ12
import Derived.Test.YtkikhfdkibekgaaGreatJ20
import Derived.Test.YtkikhfdkibekgaaGreatJ07
import Derived.Test.YtkikhfdkibekgaaGreatJ26
import Derived.Test.YtkikhfdkibekgaaGreatJ03
import Derived.Deep.DeepCutAuto
import Derived.Deep.CutBlock
import Derived.Deep.RegionHeld3
namespace Go.Proofs.YtkikhfdkibekgaaGreat.Fx
open Go.RowKit

theorem two_cells (w : World) (v0 v1 : Value) (t : TypeId) : (w.alloc (.cells #[v0, v1] t)).cell? ⟨w.heap.size, 0, none⟩ = some v0 ∧ (w.alloc (.cells #[v0, v1] t)).cell? ⟨w.heap.size, 1, none⟩ = some v1 := by
  have h := World.rowIs_alloc w #[v0, v1] t (fun i => if i = 0 then v0 else v1) (by
    intro i hi
    rcases (show i = 0 ∨ i = 1 from by have : i < 2 := hi
                                       omega) with rfl | rfl <;> rfl)
  exact ⟨h.cell (i := 0) (by simp), h.cell (i := 1) (by simp)⟩

theorem sameByP_calls (x y : Int) (hx : okW x) (hy : okW y) (w : World) :
    Calls Tryz.prog 24 #[.int .u64 x, .int .u64 y] w fun e w' => e = .returned (.bool (decide (x % 2305843009213693951 = y % 2305843009213693951))) ∧ w' = w := by
  obtain ⟨x0, x1⟩ := hx
  obtain ⟨y0, y1⟩ := hy
  obtain ⟨MX, HMX⟩ : ∃ t, Hid (x % 2305843009213693951 = t) := ⟨_, rfl⟩
  obtain ⟨MY, HMY⟩ : ∃ t, Hid (y % 2305843009213693951 = t) := ⟨_, rfl⟩
  have tx : x.tmod 2305843009213693951 = MX := by rw [← HMX.out, Int.tmod_eq_emod_of_nonneg x0]
  have ty : y.tmod 2305843009213693951 = MY := by rw [← HMY.out, Int.tmod_eq_emod_of_nonneg y0]
  have ex : x % 2305843009213693951 = MX := HMX.out
  have ey : y % 2305843009213693951 = MY := HMY.out
  rw [ex, ey]
  clear HMX HMY
  go_enter Tryz.func24, Tryz.ntmps24
  go_wp2
  go_ret
  exact ⟨by rfl, rfl⟩
end Go.Proofs.YtkikhfdkibekgaaGreat.Fx

/- What spot.Prove and spot.Holds return, whatever is handed in. -/
namespace Go.Proofs.YtkikhfdkibekgaaGreat.Fx
open Go.RowKit

set_option maxRecDepth 100000 in
set_option maxHeartbeats 1600000 in
theorem holds_says : HoldsSays := by
  intro c hs a n cap X DI DO a1 n1 k1 ws a2 n2 k2 ms step root x xs w hrt hx l1 l2 lx hn12 hxn
  have sp0 := SpBox.start w c (.slice a1 n1 k1) (.slice a2 n2 k2) x
  have JD := judge_calls c hs a n cap X DI DO a1 n1 k1 ws a2 n2 k2 ms step x x xs xs _ (hx.below sp0.bel (Nat.le_refl _)) (l1.below sp0.bel (Nat.le_refl _)) (l2.below sp0.bel (Nat.le_refl _)) (lx.below sp0.bel (Nat.le_refl _)) (lx.below sp0.bel (Nat.le_refl _)) hxn hxn
  have HRT : Hid (∀ q, Below w.heap.size w q → Calls Tryz.prog 10 #[.agg #[.slice a1 n1 k1, .slice a2 n2 k2]] q fun e w' => e = .returned (.tuple #[.int .u64 (rootV n1 ws n2 ms), .int .i64 (rootE n1 n2)]) ∧ Below q.heap.size q w') := fun q hq => jroot_calls a1 n1 k1 ws a2 n2 k2 ms q (l1.below hq (Nat.le_refl _)) (l2.below hq (Nat.le_refl _)) hn12
  have hvo : okW (rootV n1 ws n2 ms) ∧ rootV n1 ws n2 ms % 2305843009213693951 = rootV n1 ws n2 ms := by
    rw [rootV_is]
    unfold rootL
    split
    · exact ⟨⟨by omega, by omega⟩, by omega⟩
    · have h := ofP_ok 3 [((n1 + n2 : Nat) : Int), treeP (leavesP (ws ++ ms) (n1 + n2))]
      exact ⟨⟨h.1, by have := h.2; omega⟩, Int.emod_eq_of_lt h.1 h.2⟩
  have SB := fun q => sameByP_calls (rootV n1 ws n2 ms) root hvo.1 hrt q
  rw [hvo.2] at SB
  have HSB : Hid (∀ q, Calls Tryz.prog 24 #[.int .u64 (rootV n1 ws n2 ms), .int .u64 root] q fun e w' => e = .returned (.bool (decide (rootV n1 ws n2 ms = root % 2305843009213693951))) ∧ w' = q) := SB
  by_cases hz : nextE c n X DI DO n1 ws n2 ms step = 0
  · have HH : Hid (hoB c n X DI DO n1 ws n2 ms step root x xs = (decide (rootV n1 ws n2 ms = root % 2305843009213693951) && jgB c n X DI DO n1 ws n2 ms step x xs)) := by
      show _ = _
      unfold hoB
      rw [if_pos hz]
    rw [HH.out]
    rw [hz] at JD ⊢
    clear SB hvo HH
    generalize jgB c n X DI DO n1 ws n2 ms step x xs = Q at *
    generalize rootV n1 ws n2 ms = RV at *
    generalize rootE n1 n2 = RE at *
    generalize decide (RV = root % 2305843009213693951) = SV at *
    obtain ⟨JN, HJN⟩ : ∃ t, Hid (jdN 0 Q Q = t) := ⟨_, rfl⟩
    have hJ0 : Q = false → JN = 0 := fun h => by rw [← HJN.out, h]; rfl
    have hJ3 : Q = true → JN = 3 := fun h => by rw [← HJN.out, h]; rfl
    rw [HJN.out] at JD
    clear hx l1 l2 hz hs lx hxn hn12 HJN
    obtain ⟨i, h, o, seed, batch, steps, crate, decay, how, keep, clip⟩ := c
    obtain ⟨xs0, xa, xn, xk, xr, xroot, xchain⟩ := x
    simp only [Cfg.val, Cfg.cells, Rcm.val, Rcm.cells] at *
    obtain ⟨c0, c1, c2, c3, c4, c5, c6, c7, c8, c9, c10⟩ := sp0.cfg
    obtain ⟨s0, s1⟩ := fn2_cells sp0.st
    obtain ⟨x0, x1, x2, x3, x4⟩ := fn5_box sp0.ra
    dsimp only at c0 c1 c2 c3 c4 c5 c6 c7 c8 c9 c10
    go_enter Tryz.func11, Tryz.ntmps11
    go_wp2_with fail
    refine JD.mono ?_
    rintro e u1 ⟨rfl, hu1⟩
    have sp1 := sp0.below hu1
    clear JD c0 c1 c2 c3 c4 c5 c6 c7 c8 c9 c10 s0 s1 x0 x1 x2 x3 x4 sp0
    obtain ⟨s0, s1⟩ := fn2_cells sp1.st
    have RT := HRT.out _ sp1.bel
    have hb1 := sp1.bel
    clear HRT sp1
    go_wp2_with fail
    refine RT.mono ?_
    rintro e u2 ⟨rfl, hu2⟩
    have SB1 := HSB.out u2
    have hb2 := hb1.trans (hu2.mono hb1.size)
    clear RT HSB s0 s1
    cases SV with
    | false =>
      clear hJ0 hJ3
      go_wp2_with fail
      refine SB1.mono ?_
      rintro e u3 ⟨rfl, hu3⟩
      replace hu3 := hu3.symm
      subst hu3
      go_wp2_with fail
      go_ret2
      exact ⟨rfl, hb2⟩
    | true =>
      cases Q with
      | false =>
        obtain rfl := hJ0 rfl
        clear hJ0 hJ3
        go_wp2_with fail
        refine SB1.mono ?_
        rintro e u3 ⟨rfl, hu3⟩
        replace hu3 := hu3.symm
        subst hu3
        go_wp2_with fail
        go_ret2
        exact ⟨rfl, hb2⟩
      | true =>
        obtain rfl := hJ3 rfl
        clear hJ0 hJ3
        go_wp2_with fail
        refine SB1.mono ?_
        rintro e u3 ⟨rfl, hu3⟩
        replace hu3 := hu3.symm
        subst hu3
        go_wp2_with fail
        go_ret2
        exact ⟨rfl, hb2⟩
  · have HH : hoB c n X DI DO n1 ws n2 ms step root x xs = false := by
      unfold hoB
      rw [if_neg hz]
    have hJ : jdN (nextE c n X DI DO n1 ws n2 ms step) (jgB c n X DI DO n1 ws n2 ms step x xs) (jgB c n X DI DO n1 ws n2 ms step x xs) = 0 := if_neg hz
    rw [hJ] at JD
    rw [HH]
    have hb : (nextE c n X DI DO n1 ws n2 ms step != 0) = true := by rw [bne_iff_ne]; exact hz
    generalize nextE c n X DI DO n1 ws n2 ms step = E at *
    clear hx l1 l2 hs lx hxn hn12 hJ hz HRT HSB SB hvo HH
    obtain ⟨i, h, o, seed, batch, steps, crate, decay, how, keep, clip⟩ := c
    obtain ⟨xs0, xa, xn, xk, xr, xroot, xchain⟩ := x
    simp only [Cfg.val, Cfg.cells, Rcm.val, Rcm.cells] at *
    obtain ⟨c0, c1, c2, c3, c4, c5, c6, c7, c8, c9, c10⟩ := sp0.cfg
    obtain ⟨s0, s1⟩ := fn2_cells sp0.st
    obtain ⟨x0, x1, x2, x3, x4⟩ := fn5_box sp0.ra
    dsimp only at c0 c1 c2 c3 c4 c5 c6 c7 c8 c9 c10
    go_enter Tryz.func11, Tryz.ntmps11
    go_wp2_with fail
    refine JD.mono ?_
    rintro e u1 ⟨rfl, hu1⟩
    have hb1 := (sp0.below hu1).bel
    go_wp2_with fail
    go_ret2
    exact ⟨rfl, hb1⟩
end Go.Proofs.YtkikhfdkibekgaaGreat.Fx

/- Lists of flags, lists of words and lists of lists of words that the program itself makes by append: what is known of them, and what one append more leaves. -/
namespace Go.Proofs.YtkikhfdkibekgaaGreat.Fx
open Go.RowKit

/-- The slice value v, made from block number base on, owns these values, each of one cell. -/
def OwnV (T : TypeId) (base : Nat) (w : World) (v : Value) (vs : List Value) : Prop := w.ownsRow base T 1 v vs.length vs
theorem OwnV.nil (T : TypeId) (base : Nat) (w : World) : OwnV T base w (.slice none 0 0) [] := World.ownsRow_nil _ _ _ _
theorem OwnV.below {T : TypeId} {base : Nat} {w w' : World} {v : Value} {vs : List Value} (h : OwnV T base w v vs) (hb : Below w.heap.size w w') : OwnV T base w' v vs := by
  refine ⟨h.1, ?_⟩
  rcases h.2 with h0 | ⟨g, cap, cur, hv, hg, hh, r⟩
  · exact .inl h0
  · exact .inr ⟨g, cap, cur, hv, hg, by rw [hb.block g (Array.getElem?_eq_some_iff.1 hh).1]; exact hh, r⟩
theorem OwnV.mono {T : TypeId} {base b2 : Nat} {w : World} {v : Value} {vs : List Value} (h : OwnV T base w v vs) (hb : b2 ≤ base) : OwnV T b2 w v vs :=
  ⟨h.1, h.2.imp id fun ⟨g, cap, cur, h1, h2, h3⟩ => ⟨g, cap, cur, h1, Nat.le_trans hb h2, h3⟩⟩
theorem OwnV.blk {T : TypeId} {base : Nat} {w : World} {y : Value} {vs : List Value} (h : OwnV T base w y vs) : y.ownBlock = none ∨ ∃ g, y.ownBlock = some g ∧ base ≤ g ∧ g < w.heap.size := by
  rcases h.2 with ⟨rfl, _⟩ | ⟨g, cap, cur, rfl, hg, hh, _⟩
  · exact .inl rfl
  · exact .inr ⟨g, rfl, hg, (Array.getElem?_eq_some_iff.1 hh).1⟩
theorem OwnV.kept {T : TypeId} {base : Nat} {w w1 : World} {y : Value} {vs : List Value} {row : Option Nat} (h : OwnV T base w y vs) (hg : w.grownBy w1 row) (hne : y.ownBlock = none ∨ y.ownBlock ≠ row) : OwnV T base w1 y vs := World.ownsRow.kept h hg hne
theorem OwnV.row {T : TypeId} {base : Nat} {w : World} {v : Value} {vs : List Value} (h : OwnV T base w v vs) (hn : 0 < vs.length) : ∃ g c, v = .slice (some ⟨g, 0, none⟩) vs.length c ∧ base ≤ g ∧ g < w.heap.size ∧ vs.length ≤ c ∧ ∀ k u, vs[k]? = some u → w.cell? ⟨g, k, none⟩ = some u := by
  rcases h.2 with ⟨_, h0⟩ | ⟨g, cap, cur, rfl, hg, hh, hle, _, hsz, hcur⟩
  · omega
  · refine ⟨g, cap, rfl, hg, (Array.getElem?_eq_some_iff.1 hh).1, hle, fun k u hk => ?_⟩
    have hk2 := (List.getElem?_eq_some_iff.1 hk).1
    have h3 : (cur.toList.take vs.length)[k]? = some u := by
      rw [Nat.mul_one] at hcur
      rw [hcur]; exact hk
    rw [List.getElem?_take_of_lt hk2] at h3
    simpa [World.cell?, hh] using h3
theorem OwnV.lit (T : TypeId) (w : World) (x : Value) : OwnV T w.heap.size (w.alloc (.cells #[x] T)) (.slice (some ⟨w.heap.size, 0, none⟩) 1 1) [x] :=
  ⟨by simp, .inr ⟨w.heap.size, 1, _, rfl, Nat.le_refl _, Go.Deep.blk_alloc_new _ _, Nat.le_refl _, by unfold maxLen; omega, by simp, by simp⟩⟩
theorem LstW.kept {w w' : World} {g off n c : Nat} {xs : List Int} {row : Option Nat} (h : LstW w (some ⟨g, off, none⟩) n c xs) (hg : w.grownBy w' row) (hne : row ≠ some g) : LstW w' (some ⟨g, off, none⟩) n c xs := by
  refine ⟨h.1, h.2.1, ?_⟩
  rcases h.2.2 with h0 | ⟨b', off', e, hs, hc⟩
  · exact .inl h0
  · simp only [Option.some.injEq, Addr.mk.injEq, and_true] at e
    obtain ⟨rfl, rfl⟩ := e
    exact .inr ⟨g, off, rfl, Nat.lt_of_lt_of_le hs hg.size, fun i hi => hg.cell (hc i hi) (fun e => hne e.symm)⟩

/-- An append of one value of one cell. -/
theorem run_append_v {w' W0 : World} {TS T : TypeId} {z : Value} {bytes : Nat} (ht : Tryz.prog.underlying TS = some (.slice T)) (hinfo : (Tryz.prog.info? T).map (fun i => (i.zero, i.size, i.bytes)) = some (some z, 1, bytes)) (hzc : z.cells.size = 1) (hby : bytes ≤ 24)
    (ty : TypeId) (base : Nat) (v : Value) (vs : List Value) (u : Value) (g : Nat) (hown : OwnV T base w' v vs) (hc : w'.cell? ⟨g, 0, none⟩ = some u) (hu : u.oneCell' = true) (hn : vs.length ≤ 1000) (hbase : base ≤ w'.heap.size) (hB : Below base W0 w') :
    ∃ v' w1, (Builtin.append_ #[TS, TS] ty #[v, .slice (some ⟨g, 0, none⟩) 1 1]).run Tryz.prog w' = .ok v' w1 ∧ OwnV T base w1 v' (vs ++ [u]) ∧ Below base W0 w1 ∧ w'.grownBy w1 v.ownBlock ∧ (v'.ownBlock = v.ownBlock ∨ v'.ownBlock = some w'.heap.size) := by
  obtain ⟨i0, hi, hz0, hz1, hz2⟩ := info_parts hinfo
  have hbb : (vs.length + 1) * bytes ≤ 140737488355328 := Nat.le_trans (Nat.mul_le_mul (show vs.length + 1 ≤ 1001 by omega) hby) (by decide)
  obtain ⟨v', w1, hrun, h1, h2, _, h3⟩ := run_append_own_at (P := Tryz.prog) w' base TS ty T i0 z 1 bytes ht hi hz0 hz1 hz2 hzc (by decide) v vs.length _ hown ⟨g, 0, none⟩ 1 1 [u] rfl
    (by intro j x hj
        match j, hj with
        | 0, hj => simp at hj; subst hj; simpa [Addr.add] using hc)
    (by intro x hx; simp at hx; subst hx; exact hu) (by unfold maxLen; omega) hbb hbase
  refine ⟨v', w1, hrun, by unfold OwnV; rw [List.length_append]; exact h1, hB.grown h2 hbase ?_, h2, h3⟩
  intro k hk
  rcases hown.2 with ⟨rfl, _⟩ | ⟨g', cap, cur, rfl, hg, _⟩
  · simp [Value.ownBlock] at hk
  · simp [Value.ownBlock] at hk; omega

/-- An append of a whole list of words. -/
theorem run_append_words {w' W0 : World} (ty : TypeId) (base : Nat) (v : Value) (xs zs : List Int) (b off m c : Nat) (hown : OwnW base w' v xs) (hz : LstW w' (some ⟨b, off, none⟩) m c zs) (hn : xs.length + m ≤ 1000) (hbase : base ≤ w'.heap.size) (hB : Below base W0 w') :
    ∃ v' w1, (Builtin.append_ #[67, 67] ty #[v, .slice (some ⟨b, off, none⟩) m c]).run Tryz.prog w' = .ok v' w1 ∧ OwnW base w1 v' (xs ++ zs) ∧ Below base W0 w1 ∧ w'.grownBy w1 v.ownBlock ∧ (v'.ownBlock = v.ownBlock ∨ v'.ownBlock = some w'.heap.size) := by
  obtain ⟨i0, hi, hz0, hz1, hz2⟩ := info_parts infoW
  have hzl := hz.len
  obtain ⟨v', w1, hrun, h1, h2, _, h3⟩ := run_append_own_at (P := Tryz.prog) w' base 67 ty 22 i0 (.int .u64 0) 1 8 Tryz.underlying67 hi hz0 hz1 hz2 rfl (by decide) v xs.length _ hown ⟨b, off, none⟩ m c (zs.map (Value.int .u64)) (by simp [hzl])
    (by intro j u hj
        have hjm : j < m := by
          have := (List.getElem?_eq_some_iff.1 hj).1
          simpa [hzl] using this
        obtain ⟨b1, o1, e, _, hc⟩ := hz.at (by omega)
        simp only [Option.some.injEq, Addr.mk.injEq, and_true] at e
        obtain ⟨rfl, rfl⟩ := e
        rw [Go.WideShapes.add_plain, hc j hjm]
        rw [List.getElem?_map, List.getElem?_eq_getElem (by omega)] at hj
        rw [List.getD_eq_getElem?_getD, List.getElem?_eq_getElem (by omega)]
        simpa using hj)
    (by intro u hu; simp at hu; obtain ⟨x, _, rfl⟩ := hu; rfl) (by unfold maxLen; omega) (by omega) hbase
  refine ⟨v', w1, hrun, by unfold OwnW; rw [List.length_append, List.map_append, hzl]; exact h1, hB.grown h2 hbase ?_, h2, h3⟩
  intro k hk
  rcases hown.2 with ⟨rfl, _⟩ | ⟨g', cap, cur, rfl, hg, _⟩
  · simp [Value.ownBlock] at hk
  · simp [Value.ownBlock] at hk; omega

section
variable {w' W0 : World} {ops : Array Oper} {o : Oper} {a : Act} {Q : Exit → Act → World → Prop}
theorem wpList_append_words {rest : List Oper} (hgd : o.guard = none) (s x : Operand) (ho : o.op = .call { callee := .builtin .append, args := #[s, x], argTypes := #[67, 67] })
    (base : Nat) (v : Value) (xs zs : List Int) (b off m c : Nat) (W0 : World) (hs : a.eval s = v) (hx : a.eval x = .slice (some ⟨b, off, none⟩) m c) (hown : OwnW base w' v xs) (hz : LstW w' (some ⟨b, off, none⟩) m c zs) (hn : xs.length + m ≤ 1000) (hbase : base ≤ w'.heap.size) (hB : Below base W0 w')
    (h : ∀ v' w1, OwnW base w1 v' (xs ++ zs) → Below base W0 w1 → w'.grownBy w1 v.ownBlock → (v'.ownBlock = v.ownBlock ∨ v'.ownBlock = some w'.heap.size) → wpList Tryz.prog ops Q rest (a.put o.dst v') w1) : wpList Tryz.prog ops Q (o :: rest) a w' := by
  obtain ⟨v', w1, hrun, h1, h2, h3, h4⟩ := run_append_words o.type base v xs zs b off m c hown hz hn hbase hB
  refine wpList_plain hgd fun K hK => ?_
  unfold Oper.wp
  simp [execOp, ho, resolve, invoke, builtin, hs, hx, hrun, Result.andThen]
  exact hK _ _ (h v' w1 h1 h2 h3 h4)
theorem wpList_append_v {rest : List Oper} {TS T : TypeId} {z : Value} {bytes : Nat} (ht : Tryz.prog.underlying TS = some (.slice T)) (hinfo : (Tryz.prog.info? T).map (fun i => (i.zero, i.size, i.bytes)) = some (some z, 1, bytes)) (hzc : z.cells.size = 1) (hby : bytes ≤ 24)
    (hgd : o.guard = none) (s x : Operand) (ho : o.op = .call { callee := .builtin .append, args := #[s, x], argTypes := #[TS, TS] })
    (base : Nat) (v : Value) (vs : List Value) (u : Value) (g : Nat) (W0 : World) (hs : a.eval s = v) (hx : a.eval x = .slice (some ⟨g, 0, none⟩) 1 1) (hown : OwnV T base w' v vs) (hc : w'.cell? ⟨g, 0, none⟩ = some u) (hu : u.oneCell' = true) (hn : vs.length ≤ 1000) (hbase : base ≤ w'.heap.size) (hB : Below base W0 w')
    (h : ∀ v' w1, OwnV T base w1 v' (vs ++ [u]) → Below base W0 w1 → w'.grownBy w1 v.ownBlock → (v'.ownBlock = v.ownBlock ∨ v'.ownBlock = some w'.heap.size) → wpList Tryz.prog ops Q rest (a.put o.dst v') w1) : wpList Tryz.prog ops Q (o :: rest) a w' := by
  obtain ⟨v', w1, hrun, h1, h2, h3, h4⟩ := run_append_v ht hinfo hzc hby o.type base v vs u g hown hc hu hn hbase hB
  refine wpList_plain hgd fun K hK => ?_
  unfold Oper.wp
  simp [execOp, ho, resolve, invoke, builtin, hs, hx, hrun, Result.andThen]
  exact hK _ _ (h v' w1 h1 h2 h3 h4)
end

theorem infoWL : (Tryz.prog.info? 67).map (fun i => (i.zero, i.size, i.bytes)) = some (some (.slice none 0 0), 1, 24) := by kernel_rfl

theorem infoBL : (Tryz.prog.info? 4).map (fun i => (i.zero, i.size, i.bytes)) = some (some (.bool false), 1, 1) := by kernel_rfl

/-- The slice value v owns lists of words; these lie in blocks of their own. -/
def OwnLL (base : Nat) (w : World) (v : Value) (fs : List (List Int)) : Prop :=
  ∃ vs, OwnV 67 base w v vs ∧ vs.length = fs.length ∧ ∀ k, k < fs.length → ∃ g c, vs[k]? = some (.slice (some ⟨g, 0, none⟩) (fs.getD k []).length c) ∧ LstW w (some ⟨g, 0, none⟩) (fs.getD k []).length c (fs.getD k []) ∧ base ≤ g ∧ g < w.heap.size ∧ v.ownBlock ≠ some g
theorem OwnLL.below {base : Nat} {w w' : World} {v : Value} {fs : List (List Int)} (h : OwnLL base w v fs) (hb : Below w.heap.size w w') : OwnLL base w' v fs := by
  obtain ⟨vs, h1, h2, h3⟩ := h
  refine ⟨vs, h1.below hb, h2, fun k hk => ?_⟩
  obtain ⟨g, c, q1, q2, q3, q4, q5⟩ := h3 k hk
  exact ⟨g, c, q1, q2.below hb (Nat.le_refl _), q3, Nat.lt_of_lt_of_le q4 hb.size, q5⟩
theorem OwnLL.mono {base b2 : Nat} {w : World} {v : Value} {fs : List (List Int)} (h : OwnLL base w v fs) (hb : b2 ≤ base) : OwnLL b2 w v fs := by
  obtain ⟨vs, h1, h2, h3⟩ := h
  refine ⟨vs, h1.mono hb, h2, fun k hk => ?_⟩
  obtain ⟨g, c, q1, q2, q3, q4, q5⟩ := h3 k hk
  exact ⟨g, c, q1, q2, Nat.le_trans hb q3, q4, q5⟩
theorem OwnLL.blk {base : Nat} {w : World} {y : Value} {fs : List (List Int)} (h : OwnLL base w y fs) : y.ownBlock = none ∨ ∃ g, y.ownBlock = some g ∧ base ≤ g ∧ g < w.heap.size := by
  obtain ⟨vs, h1, _⟩ := h
  exact h1.blk
theorem OwnLL.nil (base : Nat) (w : World) : OwnLL base w (.slice none 0 0) [] := ⟨[], OwnV.nil _ _ _, rfl, fun k hk => by cases hk⟩
theorem OwnLL.kept {base : Nat} {w w1 : World} {y : Value} {fs : List (List Int)} {row : Option Nat} (h : OwnLL base w y fs) (hg : w.grownBy w1 row) (hne : ∀ g, row = some g → w.heap.size ≤ g ∨ g < base) : OwnLL base w1 y fs := by
  obtain ⟨vs, h1, h2, h3⟩ := h
  refine ⟨vs, h1.kept hg ?_, h2, fun k hk => ?_⟩
  · rcases h1.blk with e | ⟨g, e, b1, b2⟩
    · exact .inl e
    · refine .inr (fun e2 => ?_)
      rcases hne g (by rw [← e2, e]) with h | h <;> omega
  · obtain ⟨g, c, q1, q2, q3, q4, q5⟩ := h3 k hk
    refine ⟨g, c, q1, q2.kept hg (fun e => ?_), q3, Nat.lt_of_lt_of_le q4 hg.size, q5⟩
    rcases hne g e with h | h <;> omega
/-- One list more. -/
theorem OwnLL.push {base : Nat} {w w1 : World} {v v' : Value} {fs : List (List Int)} {vs : List Value} {g n c : Nat} {l : List Int} (h2 : vs.length = fs.length)
    (h3 : ∀ k, k < fs.length → ∃ g c, vs[k]? = some (.slice (some ⟨g, 0, none⟩) (fs.getD k []).length c) ∧ LstW w (some ⟨g, 0, none⟩) (fs.getD k []).length c (fs.getD k []) ∧ base ≤ g ∧ g < w.heap.size ∧ v.ownBlock ≠ some g)
    (hl : LstW w (some ⟨g, 0, none⟩) n c l) (hb : base ≤ g) (hg : g < w.heap.size) (hne : v.ownBlock ≠ some g)
    (hown : OwnV 67 base w1 v' (vs ++ [.slice (some ⟨g, 0, none⟩) n c])) (hgr : w.grownBy w1 v.ownBlock) (hob : v'.ownBlock = v.ownBlock ∨ v'.ownBlock = some w.heap.size) : OwnLL base w1 v' (fs ++ [l]) := by
  have far : ∀ x, x < w.heap.size → v.ownBlock ≠ some x → v'.ownBlock ≠ some x := fun x hx h e => by
    rcases hob with h1 | h1
    · exact h (h1.symm.trans e)
    · rw [h1] at e; simp at e; omega
  refine ⟨_, hown, by simp [h2], fun k hk => ?_⟩
  rw [List.length_append, List.length_singleton] at hk
  by_cases hlt : k < fs.length
  · obtain ⟨g', c', q1, q2, q3, q4, q5⟩ := h3 k hlt
    have e : (fs ++ [l]).getD k [] = fs.getD k [] := by rw [List.getD_eq_getElem?_getD, List.getElem?_append_left hlt, ← List.getD_eq_getElem?_getD]
    rw [e]
    exact ⟨g', c', by rw [List.getElem?_append_left (by omega)]; exact q1, q2.kept hgr q5, q3, Nat.lt_of_lt_of_le q4 hgr.size, far g' q4 q5⟩
  · obtain rfl : k = fs.length := by omega
    have e : (fs ++ [l]).getD fs.length [] = l := by rw [List.getD_eq_getElem?_getD, List.getElem?_append_right (Nat.le_refl _)]; simp
    have hln := hl.len
    rw [e, hln]
    exact ⟨g, c, by rw [List.getElem?_append_right (by omega), h2]; simp, hl.kept hgr hne, hb, Nat.lt_of_lt_of_le hg hgr.size, far g hg hne⟩

section
variable {w' W0 : World} {ops : Array Oper} {o : Oper} {a : Act} {Q : Exit → Act → World → Prop}
theorem wpList_append_ll {rest : List Oper} (hgd : o.guard = none) (s x : Operand) (ho : o.op = .call { callee := .builtin .append, args := #[s, x], argTypes := #[63, 63] })
    (base : Nat) (v : Value) (fs : List (List Int)) (l : List Int) (b g n c : Nat) (W0 : World) (hs : a.eval s = v) (hx : a.eval x = .slice (some ⟨b, 0, none⟩) 1 1) (hown : OwnLL base w' v fs) (hc : w'.cell? ⟨b, 0, none⟩ = some (.slice (some ⟨g, 0, none⟩) n c)) (hl : LstW w' (some ⟨g, 0, none⟩) n c l) (hb : base ≤ g) (hg : g < w'.heap.size) (hne : v.ownBlock ≠ some g) (hn : fs.length ≤ 1000) (hbase : base ≤ w'.heap.size) (hB : Below base W0 w')
    (h : ∀ v' w1, OwnLL base w1 v' (fs ++ [l]) → Below base W0 w1 → w'.grownBy w1 v.ownBlock → (v'.ownBlock = v.ownBlock ∨ v'.ownBlock = some w'.heap.size) → wpList Tryz.prog ops Q rest (a.put o.dst v') w1) : wpList Tryz.prog ops Q (o :: rest) a w' := by
  obtain ⟨vs, h1, h2, h3⟩ := hown
  refine wpList_append_v (T := 67) Tryz.underlying63 infoWL rfl (by decide) hgd s x ho base v vs _ b W0 hs hx h1 hc rfl (by omega) hbase hB (fun v' w1 k1 k2 k3 k4 => h v' w1 (OwnLL.push h2 h3 hl hb hg hne k1 k3 k4) k2 k3 k4)
end
end Go.Proofs.YtkikhfdkibekgaaGreat.Fx

/- All that is digested for a list's root, in order; that two lists of one root are the same, or somewhere unlike lists make the same (Merkle); no function of the program is spoken of. -/
namespace Go.Proofs.YtkikhfdkibekgaaGreat.Fx
open Go.RowKit

/-- What is digested above the leaves. -/
def growF : Nat → List Int → List (List Int)
  | 0, _ => []
  | f + 1, l => if l.length ≤ 1 then [] else growF f (l.take (cutN l.length)) ++ growF f (l.drop (cutN l.length)) ++ [[3, treeP (l.take (cutN l.length)), treeP (l.drop (cutN l.length))]]
theorem growF_same : ∀ (f g : Nat) (l : List Int), l.length ≤ f → l.length ≤ g → growF f l = growF g l
  | 0, 0, _, _, _ => rfl
  | 0, g + 1, l, h, _ => by unfold growF; rw [if_pos (by omega)]
  | f + 1, 0, l, _, h => by unfold growF; rw [if_pos (by omega)]
  | f + 1, g + 1, l, h1, h2 => by
    unfold growF
    by_cases h : l.length ≤ 1
    · rw [if_pos h, if_pos h]
    · obtain ⟨c1, c2, c3⟩ := cutN_lt (show 2 ≤ l.length by omega)
      rw [if_neg h, if_neg h, growF_same f g (l.take (cutN l.length)) (by rw [List.length_take]; omega) (by rw [List.length_take]; omega), growF_same f g (l.drop (cutN l.length)) (by rw [List.length_drop]; omega) (by rw [List.length_drop]; omega)]
def growL (l : List Int) : List (List Int) := growF l.length l
theorem growL_one {l : List Int} (h : l.length ≤ 1) : growL l = [] := by
  unfold growL
  cases e : l.length with
  | zero => rfl
  | succ m => unfold growF; rw [if_pos h]
theorem growL_two {l : List Int} (h : 2 ≤ l.length) : growL l = growL (l.take (cutN l.length)) ++ growL (l.drop (cutN l.length)) ++ [[3, treeP (l.take (cutN l.length)), treeP (l.drop (cutN l.length))]] := by
  obtain ⟨c1, c2, c3⟩ := cutN_lt h
  unfold growL
  cases e : l.length with
  | zero => omega
  | succ m =>
    rw [growF, if_neg (by omega), e]
    rw [e] at c1 c2 c3
    rw [growF_same m _ (l.take (cutN (m + 1))) (by rw [List.length_take]; omega) (Nat.le_refl _), growF_same m _ (l.drop (cutN (m + 1))) (by rw [List.length_drop]; omega) (Nat.le_refl _)]
theorem growL_len : ∀ (f : Nat) (l : List Int), l.length ≤ f → (growL l).length = l.length - 1
  | 0, l, h => by rw [growL_one (by omega)]; simp; omega
  | f + 1, l, h => by
    by_cases h1 : l.length ≤ 1
    · rw [growL_one h1]; simp; omega
    · obtain ⟨c1, c2, c3⟩ := cutN_lt (show 2 ≤ l.length by omega)
      have e1 : (l.take (cutN l.length)).length = cutN l.length := by rw [List.length_take]; omega
      have e2 : (l.drop (cutN l.length)).length = l.length - cutN l.length := by rw [List.length_drop]
      rw [growL_two (by omega), List.length_append, List.length_append, growL_len f _ (by omega), growL_len f _ (by omega), e1, e2]
      simp
      omega
/-- No two unlike lists at one place make the same. -/
def NoColl (u v : List (List Int)) : Prop := ∀ k, k < u.length → u.getD k [] = v.getD k [] ∨ madeP (u.getD k []) ≠ madeP (v.getD k [])
theorem getD_left {u v : List (List Int)} {k : Nat} (h : k < u.length) : (u ++ v).getD k [] = u.getD k [] := by
  rw [List.getD_eq_getElem?_getD, List.getElem?_append_left h, ← List.getD_eq_getElem?_getD]
theorem getD_right {u v : List (List Int)} {k : Nat} : (u ++ v).getD (u.length + k) [] = v.getD k [] := by
  rw [List.getD_eq_getElem?_getD, List.getElem?_append_right (by omega), ← List.getD_eq_getElem?_getD, Nat.add_sub_cancel_left]
theorem NoColl.left {u1 u2 v1 v2 : List (List Int)} (h : NoColl (u1 ++ u2) (v1 ++ v2)) (hl : u1.length = v1.length) : NoColl u1 v1 := fun k hk => by
  have := h k (by rw [List.length_append]; omega)
  rw [getD_left hk, getD_left (by omega)] at this
  exact this
theorem NoColl.right {u1 u2 v1 v2 : List (List Int)} (h : NoColl (u1 ++ u2) (v1 ++ v2)) (hl : u1.length = v1.length) : NoColl u2 v2 := fun k hk => by
  have := h (u1.length + k) (by rw [List.length_append]; omega)
  rw [getD_right, hl, getD_right] at this
  exact this
/-- Trees that come to one are of the same leaves. -/
theorem tree_bind : ∀ (f : Nat) (l1 l2 : List Int), l1.length ≤ f → l1.length = l2.length → 1 ≤ l1.length → treeP l1 = treeP l2 → NoColl (growL l1) (growL l2) → l1 = l2
  | 0, l1, l2, h, _, h1, _, _ => by omega
  | f + 1, l1, l2, h, hl, h1, ht, hn => by
    by_cases h2 : l1.length ≤ 1
    · obtain ⟨x, rfl⟩ : ∃ x, l1 = [x] := List.length_eq_one_iff.1 (by omega)
      obtain ⟨y, rfl⟩ : ∃ y, l2 = [y] := List.length_eq_one_iff.1 (by rw [← hl]; rfl)
      have e1 : treeP [x] = x := by unfold treeP; rfl
      have e2 : treeP [y] = y := by unfold treeP; rfl
      rw [e1, e2] at ht
      rw [ht]
    · obtain ⟨c1, c2, c3⟩ := cutN_lt (show 2 ≤ l1.length by omega)
      rw [growL_two (by omega), growL_two (l := l2) (by omega)] at hn
      rw [← hl] at hn
      have t1 : (l1.take (cutN l1.length)).length = cutN l1.length := by rw [List.length_take]; omega
      have t2 : (l2.take (cutN l1.length)).length = cutN l1.length := by rw [List.length_take]; omega
      have t3 : (l1.drop (cutN l1.length)).length = l1.length - cutN l1.length := by rw [List.length_drop]
      have t4 : (l2.drop (cutN l1.length)).length = l1.length - cutN l1.length := by rw [List.length_drop, ← hl]
      have g1 : (growL (l1.take (cutN l1.length))).length = (growL (l2.take (cutN l1.length))).length := by rw [growL_len _ _ (Nat.le_refl _), growL_len _ _ (Nat.le_refl _), t1, t2]
      have g2 : (growL (l1.drop (cutN l1.length))).length = (growL (l2.drop (cutN l1.length))).length := by rw [growL_len _ _ (Nat.le_refl _), growL_len _ _ (Nat.le_refl _), t3, t4]
      have hab := hn.left (by rw [List.length_append, List.length_append, g1, g2])
      have hc := hn.right (by rw [List.length_append, List.length_append, g1, g2]) 0 (by simp)
      rw [treeP_two (by omega), treeP_two (l := l2) (by omega), ← hl] at ht
      have hc2 : [3, treeP (l1.take (cutN l1.length)), treeP (l1.drop (cutN l1.length))] = [3, treeP (l2.take (cutN l1.length)), treeP (l2.drop (cutN l1.length))] := by
        rcases hc with hc | hc
        · exact hc
        · exact absurd ht hc
      simp only [List.cons.injEq, true_and, and_true] at hc2
      have b1 := tree_bind f _ _ (by omega) (by rw [t1, t2]) (by omega) hc2.1 (hab.left g1)
      have b2 := tree_bind f _ _ (by omega) (by rw [t3, t4]) (by omega) hc2.2 (hab.right g1)
      rw [← List.take_append_drop (cutN l1.length) l1, ← List.take_append_drop (cutN l1.length) l2, b1, b2]
/-- Chunk i of n numbers. -/
def chnkL (xs : List Int) (n i : Nat) : List Int := (xs.drop (i * 4)).take (hiN n i - i * 4)
/-- All that is digested for a list's root, in order. -/
def toldL (xs : List Int) (n : Nat) : List (List Int) := (List.range ((n + 3) / 4)).map (fun i => 4 :: numL (chnkL xs n i) (hiN n i - i * 4)) ++ growL (leavesP xs n) ++ [[3, (n : Int), treeP (leavesP xs n)]]
theorem leaf_made (xs : List Int) (n i : Nat) : leafG xs n i = madeP (4 :: numL (chnkL xs n i) (hiN n i - i * 4)) := rfl
theorem toldL_len (xs : List Int) (n : Nat) : (toldL xs n).length = (n + 3) / 4 + ((n + 3) / 4 - 1) + 1 := by
  unfold toldL
  rw [List.length_append, List.length_append, List.length_map, List.length_range, growL_len _ _ (Nat.le_refl _), leavesP_len]
  rfl
theorem told_chunks {xs ys : List Int} {n : Nat} (h1 : 1 ≤ n) (hr : ofP 3 [(n : Int), treeP (leavesP xs n)] = ofP 3 [(n : Int), treeP (leavesP ys n)]) (hn : NoColl (toldL xs n) (toldL ys n)) : ∀ i, i < (n + 3) / 4 → numL (chnkL xs n i) (hiN n i - i * 4) = numL (chnkL ys n i) (hiN n i - i * 4) := by
  unfold toldL at hn
  have g : (growL (leavesP xs n)).length = (growL (leavesP ys n)).length := by rw [growL_len _ _ (Nat.le_refl _), growL_len _ _ (Nat.le_refl _), leavesP_len, leavesP_len]
  have hab := hn.left (by simp [g])
  have hc := hn.right (by simp [g]) 0 (by simp)
  have ht : treeP (leavesP xs n) = treeP (leavesP ys n) := by
    have hc2 : [3, (n : Int), treeP (leavesP xs n)] = [3, (n : Int), treeP (leavesP ys n)] := by
      rcases hc with hc | hc
      · exact hc
      · exact absurd hr hc
    simp only [List.cons.injEq, true_and, and_true] at hc2
    exact hc2
  have hl := tree_bind _ _ _ (Nat.le_refl _) (by rw [leavesP_len, leavesP_len]) (by rw [leavesP_len]; omega) ht (hab.right (by simp))
  have ha := hab.left (by simp)
  intro i hi
  have hleaf : leafG xs n i = leafG ys n i := by
    have e := congrArg (fun l => l.getD i 0) hl
    unfold leavesP at e
    simpa [hi] using e
  have hai := ha i (by simpa using hi)
  have e1 : ∀ zs : List Int, ((List.range ((n + 3) / 4)).map (fun i => 4 :: numL (chnkL zs n i) (hiN n i - i * 4))).getD i [] = 4 :: numL (chnkL zs n i) (hiN n i - i * 4) := fun zs => by
    rw [List.getD_eq_getElem?_getD, List.getElem?_map, List.getElem?_range hi]
    rfl
  rw [e1, e1] at hai
  rcases hai with h | h
  · simpa using h
  · exact absurd (by rw [← leaf_made, ← leaf_made]; exact hleaf) h
theorem bound_inj {x y : Int} (hx : x = clampI x) (hy : y = clampI y) (h : boundP x = boundP y) : x = y := by
  have bx := clampI_bd x
  have bY := clampI_bd y
  rw [← hx] at bx
  rw [← hy] at bY
  unfold boundP at h
  rw [if_neg (by omega), if_neg (by omega), if_neg (by omega), if_neg (by omega)] at h
  omega
/-- Lists of right numbers and of one root are the same, where no two unlike lists make the same. -/
theorem told_bind {xs ys : List Int} {n : Nat} (h1 : 1 ≤ n) (lx : xs.length = n) (ly : ys.length = n) (rx : rightB xs = true) (ry : rightB ys = true) (hr : ofP 3 [(n : Int), treeP (leavesP xs n)] = ofP 3 [(n : Int), treeP (leavesP ys n)]) (hn : NoColl (toldL xs n) (toldL ys n)) : xs = ys := by
  have hc := told_chunks h1 hr hn
  apply List.ext_getElem (by rw [lx, ly])
  intro t t1 t2
  have hk : t / 4 < (n + 3) / 4 := by omega
  have e := hc (t / 4) hk
  have hlen : t % 4 < hiN n (t / 4) - t / 4 * 4 := by unfold hiN; omega
  have hle : hiN n (t / 4) - t / 4 * 4 ≤ 200 := by unfold hiN; omega
  unfold numL at e
  rw [if_neg (by omega), if_neg (by omega)] at e
  have e2 := congrArg (fun l => l.getD (t % 4) 0) e
  simp only [getD_range _ hlen] at e2
  have g : ∀ zs : List Int, zs.length = n → (chnkL zs n (t / 4)).getD (t % 4) 0 = zs.getD t 0 := fun zs hz => by
    unfold chnkL
    rw [List.getD_eq_getElem?_getD, List.getElem?_take_of_lt hlen, List.getElem?_drop, ← List.getD_eq_getElem?_getD]
    rw [show t / 4 * 4 + t % 4 = t by omega]
  unfold numG at e2
  rw [g xs lx, g ys ly] at e2
  have e3 := bound_inj (rightB_get rx t) (rightB_get ry t) e2
  rw [List.getD_eq_getElem?_getD, List.getD_eq_getElem?_getD, List.getElem?_eq_getElem t1, List.getElem?_eq_getElem t2] at e3
  simpa using e3
end Go.Proofs.YtkikhfdkibekgaaGreat.Fx

/- What coachtop.made and coachtop.grown return: what is digested above the leaves is told through a pointer. -/
namespace Go.Proofs.YtkikhfdkibekgaaGreat.Fx
open Go.RowKit

set_option maxRecDepth 100000 in
theorem tmade_calls (a : Option Addr) (n c : Nat) (l : List Int) (w : World) (h : LstW w a n c l) (h2 : 2 ≤ n) (hn : n ≤ 201) (hok : okL l) :
    Calls Tryz.prog 29 #[.slice a n c] w fun e w' => e = .returned (.int .u64 (madeP l)) ∧ Below w.heap.size w w' := by
  have hlen := h.len
  have hcap := h.cap
  obtain ⟨b, off, x, rfl, hbl, hc, HX⟩ := h.at1 (k := 0) (by omega)
  have ht := h.tail (by omega) (k := 1) (by omega)
  have hx : okW x := by rw [← HX.out]; exact hok 0 (by omega)
  have hokt : okL (l.drop 1) := fun i hi => by
    rw [List.length_drop] at hi
    have e : (l.drop 1).getD i 0 = l.getD (1 + i) 0 := by rw [List.getD_eq_getElem?_getD, List.getElem?_drop, ← List.getD_eq_getElem?_getD]
    rw [e]
    exact hok _ (by omega)
  have HM : Hid (ofA x (l.drop 1) (n - 1) = madeP l) := by
    show ofA x (l.drop 1) (n - 1) = madeP l
    unfold ofA madeP
    rw [if_neg (by omega)]
    cases l with
    | nil => simp at hlen; omega
    | cons y r =>
      have e := HX.out
      simp at e
      rw [← e]
      rfl
  have HB : Hid (bigI (n - 1) = 0) := by show _ = _; unfold bigI; rw [if_neg (by omega)]
  have hBd : Below w.heap.size w w.drew := below_drewN (Below.refl _ _) 1
  have OF := dOf_calls x hx _ _ _ _ w.drew (ht.below hBd (Nat.le_refl _)) hokt
  rw [HM.out, HB.out] at OF
  rw [Nat.add_zero] at hc
  have S0 : w.drew.cell? ⟨b, off, none⟩ = some (.int .u64 x) := hc
  have k1 : (1 : Int) ≤ (n : Int) := by omega
  have k2 : (n : Int) ≤ (c : Int) := by omega
  have k3 : ¬ c = 1 := by omega
  have k4 : ¬ c - 1 = 0 := by omega
  have k5 : (0 : Int) < (n : Int) := by omega
  have k6 : 0 < n := by omega
  have k7 : ¬ n ≤ 0 := by omega
  have HS : Hid (∀ q, Below w.heap.size w q → q.cell? ⟨b, off, none⟩ = some (.int .u64 x)) := fun q hq => (hq.cell (p := ⟨b, off, none⟩) hbl).trans hc
  clear hokt hx hok h ht HX HM HB
  go_enter Tryz.func29, Tryz.ntmps29
  go_wp2_with fail
  go_region_held3 (fun q => q.cell? ⟨b, off, none⟩ = some (.int .u64 x)) (first | with_reducible exact S1 | with_reducible exact S0) ((go_at_call 51; refine OF.mono ?_; rintro e w1 ⟨rfl, hw1⟩; have S1 := HS.out _ (hBd.trans hw1)))
  all_goals
    go_wp2_with fail
    go_ret
    exact ⟨rfl, hBd.trans hw1⟩

/-- What is kept of other blocks while a pointer's list of lists grows. -/
structure GrowR (po : Nat) (w : World) (v : Value) (w' : World) (v' : Value) : Prop where
  os : w'.os = w.os
  tape : w'.tape = w.tape
  output : w'.output = w.output
  size : w.heap.size ≤ w'.heap.size
  block : ∀ b, b < w.heap.size → b ≠ po → v.ownBlock ≠ some b → w'.heap[b]? = w.heap[b]?
  own : v'.ownBlock = v.ownBlock ∨ ∃ g, v'.ownBlock = some g ∧ w.heap.size ≤ g
theorem GrowR.refl (po : Nat) (w : World) (v : Value) : GrowR po w v w v := ⟨rfl, rfl, rfl, Nat.le_refl _, fun _ _ _ _ => rfl, .inl rfl⟩
theorem GrowR.trans {po : Nat} {w w1 w2 : World} {v v1 v2 : Value} (h1 : GrowR po w v w1 v1) (h2 : GrowR po w1 v1 w2 v2) : GrowR po w v w2 v2 := by
  refine ⟨h2.os.trans h1.os, h2.tape.trans h1.tape, h2.output.trans h1.output, Nat.le_trans h1.size h2.size, fun b hb hp hv => ?_, ?_⟩
  · refine (h2.block b (Nat.lt_of_lt_of_le hb h1.size) hp (fun e => ?_)).trans (h1.block b hb hp hv)
    rcases h1.own with h | ⟨g, h, hg⟩
    · exact hv (h.symm.trans e)
    · rw [h] at e; simp at e; omega
  · rcases h2.own with h | ⟨g, h, hg⟩
    · rcases h1.own with k | ⟨g, k, hg⟩
      · exact .inl (h.trans k)
      · exact .inr ⟨g, h.trans k, hg⟩
    · exact .inr ⟨g, h, Nat.le_trans h1.size hg⟩
theorem GrowR.ofBelow {po : Nat} {w w' : World} (v : Value) (h : Below w.heap.size w w') : GrowR po w v w' v := ⟨h.os, h.tape, h.output, h.size, fun b hb _ _ => h.block b hb, .inl rfl⟩
theorem GrowR.below {po : Nat} {w w' : World} {v v' : Value} (h : GrowR po w v w' v') {B : Nat} {W : World} (hb : Below B W w) (hB : B ≤ w.heap.size) (hp : B ≤ po) (hv : ∀ g, v.ownBlock = some g → B ≤ g) : Below B W w' :=
  ⟨h.os.trans hb.os, h.tape.trans hb.tape, h.output.trans hb.output, Nat.le_trans hb.size h.size, fun b hlt => (h.block b (by omega) (by omega) (fun e => by have := hv b e; omega)).trans (hb.block b hlt)⟩
theorem GrowR.lstW {po : Nat} {w w' : World} {v v' : Value} (h : GrowR po w v w' v') {a : Option Addr} {n c : Nat} {xs : List Int} (hl : LstW w a n c xs) (hp : ∀ b o, a = some ⟨b, o, none⟩ → b ≠ po ∧ v.ownBlock ≠ some b) : LstW w' a n c xs := by
  refine ⟨hl.1, hl.2.1, ?_⟩
  rcases hl.2.2 with h0 | ⟨b, off, e, hs, hc⟩
  · exact .inl h0
  · refine .inr ⟨b, off, e, Nat.lt_of_lt_of_le hs h.size, fun i hi => ?_⟩
    rw [← hc i hi]
    simp only [World.cell?]
    rw [h.block b hs (hp b off e).1 (hp b off e).2]
end Go.Proofs.YtkikhfdkibekgaaGreat.Fx

/- The walk of TreePaths: it returns true, whatever integers lie there, and nothing that was there is written. -/
namespace Go.Proofs.YtkikhfdkibekgaaGreat.Fx
open Go.RowKit

theorem Lst.one (w : World) (x : Int) (t : TypeId) : Lst (w.alloc (.cells #[.int .i64 x] t)) (some ⟨w.heap.size, 0, none⟩) 1 1 [x] := by
  refine ⟨rfl, Nat.le_refl _, .inr ⟨w.heap.size, 0, rfl, by simp, fun i hi => ?_⟩⟩
  obtain rfl : i = 0 := by omega
  exact cell_new _ _ _

theorem grown_tree : treeP (leavesP [5] 1) = ofA 4 (numL [5] 1) 1 := by decide +kernel
theorem grown_not : (ofP 3 [((1 : Nat) : Int), ofA 4 (numL [5] 1) 1] != 0) = true := by decide +kernel
theorem ofA_ok (kind : Int) (xs : List Int) (n : Nat) : okW (ofA kind xs n) := by
  unfold ofA
  by_cases h : 200 < n
  · rw [if_pos h]; exact ⟨by omega, by omega⟩
  · rw [if_neg h]; exact okW_of_P (ofP_ok _ _)

theorem rest_calls (n : Int) (m : Nat) (h1 : 1 ≤ m) (h2 : m ≤ 200) (w : World) :
    Calls Tryz.prog 6 #[.int .i64 n, .int .i64 m] w fun e w' => (∃ k : Nat, k < m ∧ e = .returned (.int .i64 k)) ∧ w' = w := by
  obtain ⟨r, hr⟩ : ∃ r, n.tmod (m : Int) = r := ⟨_, rfl⟩
  have r1 : r < (m : Int) := by rw [← hr]; exact Int.tmod_lt_of_pos _ (by omega)
  have r2 : -(m : Int) < r := by
    rw [← hr]
    have := Int.tmod_lt_of_pos (-n) (b := (m : Int)) (by omega)
    rw [Int.neg_tmod] at this
    omega
  by_cases h : r < 0
  · go_enter Tryz.func6, Tryz.ntmps6
    go_wp2
    go_ret
    exact ⟨⟨(r + m).toNat, by omega, ret_word (by omega)⟩, rfl⟩
  · go_enter Tryz.func6, Tryz.ntmps6
    go_wp2
    go_ret
    exact ⟨⟨r.toNat, by omega, ret_word (by omega)⟩, rfl⟩

/-- Merkle's law in the program's terms: by a leaf's own way one comes to the root. -/
theorem climb_root (xs : List Int) (n k : Nat) (h1 : 1 ≤ n) (h2 : n ≤ 200) (hk : k < (n + 3) / 4) :
    upL k n ((leavesP xs n).getD k 0) (wayP (leavesP xs n) k) (deepP k ((n + 3) / 4)) = ofP 3 [(n : Int), treeP (leavesP xs n)] ∧ errC k n (deepP k ((n + 3) / 4)) = 0 := by
  have hc : okC k n := ⟨by omega, by omega, by omega, by omega⟩
  have hd : deepP k ((n + 3) / 4) = dpC k n := by unfold dpC; simp
  have hw := way_up _ (leavesP xs n) k (Nat.le_refl _) (by rw [leavesP_len]; exact hk)
  rw [leavesP_len] at hw
  refine ⟨?_, ?_⟩
  · unfold upL
    rw [if_pos (And.intro hc hd)]
    simp only [Int.toNat_natCast]
    rw [hw]
  · unfold errC
    rw [if_pos hc, if_pos hd]

end Go.Proofs.YtkikhfdkibekgaaGreat.Fx

/- What coachkeep.made returns. -/
namespace Go.Proofs.YtkikhfdkibekgaaGreat.Fx
open Go.RowKit
end Go.Proofs.YtkikhfdkibekgaaGreat.Fx

/- What coachkeep.pairs returns: all that is digested, from the chunk to the root. -/
namespace Go.Proofs.YtkikhfdkibekgaaGreat.Fx
open Go.RowKit

theorem OwnW.at0 {base : Nat} {w : World} {v : Value} {xs : List Int} {n : Nat} (h : OwnW base w v xs) (hl : xs.length = n) (hn : 0 < n) : ∃ g c, v = .slice (some ⟨g, 0, none⟩) n c ∧ base ≤ g ∧ g < w.heap.size ∧ LstW w (some ⟨g, 0, none⟩) n c xs := by
  obtain ⟨a', c', e, hL⟩ := h.lst' hl
  rcases h.2 with ⟨hv, _⟩ | ⟨g, cap, cur, hv, hg, hh, _⟩
  · rw [e] at hv
    simp only [Value.slice.injEq] at hv
    omega
  · rw [e] at hv
    simp only [Value.slice.injEq] at hv
    obtain ⟨rfl, _, _⟩ := hv
    exact ⟨g, c', e, hg, (Array.getElem?_eq_some_iff.1 hh).1, hL⟩
theorem OwnW.one (w : World) (x : Int) : OwnW w.heap.size (w.alloc (.cells #[.int .u64 x] 22)) (.slice (some ⟨w.heap.size, 0, none⟩) 1 1) [x] := OwnV.lit 22 w (.int .u64 x)
theorem LstW.three (w : World) (x y z : Int) (t : TypeId) : LstW (w.alloc (.cells #[.int .u64 x, .int .u64 y, .int .u64 z] t)) (some ⟨w.heap.size, 0, none⟩) 3 3 [x, y, z] :=
  LstW.row (World.rowIs_alloc w #[.int .u64 x, .int .u64 y, .int .u64 z] t (fun i => .int .u64 ([x, y, z].getD i 0)) (by
    intro i hi
    rcases (show i = 0 ∨ i = 1 ∨ i = 2 from by have : i < 3 := hi
                                               omega) with rfl | rfl | rfl <;> rfl)) rfl (fun _ _ => rfl)
theorem OwnLL.one {base : Nat} {w : World} {g n c : Nat} {l : List Int} (hl : LstW w (some ⟨g, 0, none⟩) n c l) (hb : base ≤ g) (hg : g < w.heap.size) (hbw : base ≤ w.heap.size) : OwnLL base (w.alloc (.cells #[.slice (some ⟨g, 0, none⟩) n c] 67)) (.slice (some ⟨w.heap.size, 0, none⟩) 1 1) [l] := by
  refine ⟨_, (OwnV.lit 67 w (.slice (some ⟨g, 0, none⟩) n c)).mono hbw, rfl, fun k hk => ?_⟩
  obtain rfl : k = 0 := by simp at hk; omega
  have hln := hl.len
  refine ⟨g, c, by simp [hln], ?_, hb, by simp; omega, fun e => ?_⟩
  · have := hl.below (low_alloc w (.cells #[.slice (some ⟨g, 0, none⟩) n c] 67)) (Nat.le_refl _)
    simpa [hln] using this
  · simp [Value.ownBlock] at e
    omega
theorem ovfar {base : Nat} {w : World} {y : Value} {fs : List (List Int)} (h : OwnLL base w y fs) {g : Nat} (hg : w.heap.size ≤ g) : y.ownBlock ≠ some g := fun e => by
  rcases h.blk with e1 | ⟨g1, e1, _, b2⟩
  · rw [e1] at e; cases e
  · rw [e1] at e; simp at e; omega
theorem fs_snoc (f : Nat → List Int) (k : Nat) (l : List Int) (h : f k = l) : (List.range k).map f ++ [l] = (List.range (k + 1)).map f := by
  rw [List.range_succ, List.map_append, List.map_singleton, h]
end Go.Proofs.YtkikhfdkibekgaaGreat.Fx
