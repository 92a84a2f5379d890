/- What train's isList, count, first return, and vec.Sum of two lists as long. -/
import Derived.Test.YtnlcheebdkjpbabGreatJ10
import Derived.Test.YtnlcheebdkjpbabGreatJ16
import Derived.Test.YtnlcheebdkjpbabGreatJ19
import Derived.Test.YtnlcheebdkjpbabGreatJ20
import Derived.Test.YtnlcheebdkjpbabGreatJ02
import Derived.Test.YtnlcheebdkjpbabGreatJ30
import Derived.Test.YtnlcheebdkjpbabGreatJ11
namespace Go.Proofs.YtnlcheebdkjpbabGreat.Fx
open Go.RowKit

theorem isList_calls (a : Option Addr) (la ca : Nat) (xs : List Int) (n : Int) (w : World) (ha : Lst w a la ca xs) (hn : n ≤ 1000) :
    Calls Tryz.prog 43 #[.slice a la ca, .int .i64 n] w fun e w' => e = .returned (.bool (decide ((la : Int) = n) && rightB xs)) ∧ w' = w := by
  by_cases hl : (la : Int) = n
  · have hne : ((la : Int) != n) = false := by rw [bne_eq_false_iff_eq]; exact hl
    have h1000 : la ≤ 1000 := by omega
    rw [decide_eq_true hl, Bool.true_and]
    clear hl
    go_enter Tryz.func43, Tryz.ntmps43
    go_wp2
    go_loopw [13] (fun i wr => ∃ k : Nat, k ≤ la ∧ i = .int .i64 k ∧ Hid (∀ j, j < k → xs.getD j 0 = clampI (xs.getD j 0)) ∧ wr = w) (fun i _ => la - (intOf i).toNat)
    case atStart => exact ⟨0, Nat.zero_le _, rfl, fun j hj => by omega, rfl⟩
    case round =>
      obtain ⟨k, hk, rfl, hg, hw⟩ := hrel
      replace hw := hw.symm
      subst hw
      by_cases hlt : k < la
      · obtain ⟨b1, o1, x, rfl, s1, c1, HX⟩ := ha.at1 hlt
        by_cases hx : x = clampI x
        · have hx' : (x != clampI x) = false := by rw [bne_eq_false_iff_eq]; exact hx
          have HC : Hid (x = clampI x) := hx
          clear hx
          go_wp2_with (go_at_call 66; refine (clamp_calls _ _).mono ?_; rintro e w' ⟨rfl, hw'⟩; replace hw' := hw'.symm; subst hw')
          go_roundw
          case rel => exact ⟨k + 1, by omega, by go_num, fun j hj => by
            by_cases e : j = k
            · subst e; rw [HX.out]; exact HC.out
            · exact hg.out j (by omega), by trivial⟩
          case measure => simp [intOf]; omega
        · have hx' : (x != clampI x) = true := by rw [bne_iff_ne]; exact hx
          go_wp2_with (go_at_call 66; refine (clamp_calls _ _).mono ?_; rintro e w' ⟨rfl, hw'⟩; replace hw' := hw'.symm; subst hw')
          go_ret
          exact ⟨ret_bool (rightB_false (k := k) (by rw [HX.out]; exact hx)).symm, rfl⟩
      · go_wp2
        go_ret
        exact ⟨ret_bool (rightB_true (fun j hj => hg.out j (by have := ha.len; omega))).symm, rfl⟩
  · have hne : ((la : Int) != n) = true := by rw [bne_iff_ne]; exact hl
    rw [decide_eq_false hl, Bool.false_and]
    clear hl
    go_enter Tryz.func43, Tryz.ntmps43
    go_wp2
    go_ret
    exact ⟨rfl, rfl⟩

set_option maxHeartbeats 800000 in
theorem tcount_calls (c : Cfg) (hc : cfgB c = true) (w : World) :
    Calls Tryz.prog 44 #[c.val] w fun e w' => e = .returned (.int .i64 (sizeN c)) ∧ w' = w.alloc (.cells c.cells 24) := by
  obtain ⟨⟨i1, i2⟩, ⟨h1, h2⟩, ⟨o1, o2⟩, _⟩ := cfgB_is hc
  clear hc
  obtain ⟨i, h, o, seed, batch, steps, rate, decay, how, keep, clip⟩ := c
  unfold sizeN
  dsimp only at i1 i2 h1 h2 o1 o2 ⊢
  have s1 : h * (i + 1) = h * i + h := by rw [Int.mul_add, Int.mul_one]
  have s2 : o * (h + 1) = o * h + o := by rw [Int.mul_add, Int.mul_one]
  have a1 := Int.mul_le_mul_of_nonneg_right (c := i) h2 (by omega)
  have a2 := Int.mul_le_mul_of_nonneg_right (c := i) h1 (by omega)
  have b1 := Int.mul_le_mul_of_nonneg_right (c := h) o2 (by omega)
  have b2 := Int.mul_le_mul_of_nonneg_right (c := h) o1 (by omega)
  have c1 : 0 ≤ h * i := by omega
  have c2 : h * i ≤ 16 := by omega
  have c3 : 0 ≤ o * h := by omega
  have c4 : o * h ≤ 16 := by omega
  clear a1 a2 b1 b2
  simp only [Cfg.val, Cfg.cells] at *
  go_enter Tryz.func44, Tryz.ntmps44
  go_wp2
  go_ret
  exact ⟨ret_int (by omega), rfl⟩

theorem tfirst_calls (seed : Int) (hs : okW seed) (k : Nat) (hk : k ≤ 100) (w : World) :
    Calls Tryz.prog 65 #[.int .u64 seed, .int .i64 k] w fun e w' => e = .returned (.int .i64 (startG seed k)) ∧ Below w.heap.size w w' := by
  obtain ⟨T, HT⟩ : ∃ T, Hid (ofP 2 [seed, 1000 + (k : Int)] = T) := ⟨_, rfl⟩
  have hT0 : 0 ≤ T := by rw [← HT.out]; exact (ofP_ok 2 _).1
  have HS : Hid (startG seed k = T % 131073 - 65536) := by
    show startG seed k = _
    unfold startG
    rw [HT.out]
  have r0 : 0 ≤ T % 131073 := Int.emod_nonneg _ (by omega)
  have r1 : T % 131073 < 131073 := Int.emod_lt_of_pos _ (by omega)
  have hw2 : okW (1000 + (k : Int)) := ⟨by omega, by omega⟩
  go_enter Tryz.func65, Tryz.ntmps65
  go_wp2_with (go_at_call 80; refine (dWord_calls _ _ hs hw2 _).mono ?_; rintro e w1 ⟨rfl, hw1⟩; rw [HT.out])
  go_ret
  exact ⟨ret_int (by rw [HS.out]), hw1⟩

set_option maxHeartbeats 1600000 in
theorem vSum_at (a b : Option Addr) (la ca cb : Nat) (xs ys : List Int) (w : World) (ha : Lst w a la ca xs) (hb : Lst w b la cb ys) (hl : la ≤ 200) :
    Calls Tryz.prog 91 #[.slice a la ca, .slice b la cb] w fun e w' => ∃ g, e = .returned (.tuple #[.slice (some ⟨g, 0, none⟩) la la, .int .i64 0]) ∧ w.heap.size ≤ g ∧ w'.rowIs g 3 la (rowTo (sumG xs ys) la) ∧ Below w.heap.size w w' := by
  have H0 : Hid (twoI la la = 0) := by
    rcases twoI_cases la la with ⟨h0, _, _⟩ | ⟨h0, h1⟩
    · exact h0
    · exfalso; apply h0; unfold twoI; rw [if_neg (by omega), if_pos rfl]
  have hmk := run_make_row' (P := Tryz.prog) 26 3 (.int .i64 0) 8 Tryz.underlying26 info3 rfl .i64 .i64 la (by omega) (by omega)
  go_enter Tryz.func91, Tryz.ntmps91
  go_wp2_with (go_at_call 118; refine (two_calls _ _ _ _ _ _ _).mono ?_; rintro e w1 ⟨rfl, hw⟩; rw [H0.out])
  go_loopw [20] (fun i wr => ∃ k : Nat, k ≤ la ∧ i = .int .i64 k ∧ wr.rowIs w1.heap.size 3 la (rowTo (sumG xs ys) k) ∧ Below w.heap.size w wr) (fun i _ => la - (intOf i).toNat)
  case atStart => exact ⟨0, Nat.zero_le _, rfl, rowTo_made (World.rowIs_made _ _ _ _), hw.alloc hw.size _⟩
  case round =>
    obtain ⟨k, hk, rfl, hrow, hbel⟩ := hrel
    have ha' := ha.below hbel (Nat.le_refl _)
    have hb' := hb.below hbel (Nat.le_refl _)
    have hsz := hw.size
    clear ha hb hw hmk
    by_cases hlt : k < la
    · obtain ⟨b1, o1, x, rfl, _, c1, HX⟩ := ha'.at1 hlt
      obtain ⟨b2, o2, y, rfl, _, c2, HY⟩ := hb'.at1 hlt
      have c3 := rowTo_cell hrow hlt
      have f3 := hrow.frozen k
      go_wp2
      go_region_with ((go_at_call 119; refine (add_calls _ _ _).mono ?_; rintro e w' ⟨rfl, rfl⟩))
      all_goals go_wp2
      all_goals
        go_roundw
        case rel =>
          have st := rowTo_step (g := sumG xs ys) hrow
          simp only [sumG, HX.out, HY.out] at st
          exact ⟨k + 1, by omega, by go_num, st, (hbel.setCell (by omega) _).drew⟩
        case measure => simp [intOf]; omega
    · go_wp2
      go_ret2
      obtain rfl : k = la := by omega
      exact ⟨_, rfl, hsz, hrow, hbel⟩

/-- A list of integers stands where a cell that is no integer is written. -/
theorem Lst.setOff {w : World} {a : Option Addr} {n c : Nat} {xs : List Int} (h : Lst w a n c xs) {p : Addr} {x : Option Addr} {y z : Nat} (hp : w.cell? p = some (.slice x y z)) (v : Value) : Lst (w.setCell p v) a n c xs := by
  refine ⟨h.1, h.2.1, ?_⟩
  rcases h.2.2 with h0 | ⟨b, off, e, hs, hc⟩
  · exact .inl h0
  · refine .inr ⟨b, off, e, by simpa using hs, fun i hi => ?_⟩
    have hne : p ≠ ⟨b, off + i, none⟩ := fun g => by
      have h1 := hc i hi
      rw [← g, hp] at h1
      simp at h1
    rw [World.cell?_setCell_other w _ _ _ hne]
    exact hc i hi
end Go.Proofs.YtnlcheebdkjpbabGreat.Fx

/- What TrainSays holds in memory on its way: the document's start, next state, record and states; no function of the program is spoken of. -/
namespace Go.Proofs.YtnlcheebdkjpbabGreat.Fx
open Go.RowKit

/-- A list does not lie in block b. -/
def FarB (a : Option Addr) (b : Nat) : Prop := ∀ bg o, a = some ⟨bg, o, none⟩ → bg ≠ b
theorem FarB.none (b : Nat) : FarB Option.none b := fun _ _ h => by cases h
theorem FarB.some {g b : Nat} (h : g ≠ b) {o : Nat} : FarB (Option.some ⟨g, o, Option.none⟩) b := fun bg o' e => by
  simp only [Option.some.injEq, Addr.mk.injEq, and_true] at e
  omega
theorem Lst.offB {w : World} {a : Option Addr} {n c : Nat} {xs : List Int} (h : Lst w a n c xs) {b : Nat} (hf : FarB a b) (i : Nat) (v : Value) : Lst (w.setCell ⟨b, i, none⟩ v) a n c xs := by
  rcases h.2.2 with h0 | ⟨g, off, rfl, hs, hc⟩
  · exact ⟨h.1, h.2.1, .inl h0⟩
  · exact h.setFar (a := ⟨b, i, none⟩) (hf g off rfl) v
theorem InEx.offB {w : World} {x : Exm} {I O : List Int} (h : InEx w x I O) {b : Nat} (h1 : FarB x.a b) (h2 : FarB x.b b) (i : Nat) (v : Value) : InEx (w.setCell ⟨b, i, none⟩ v) x I O := ⟨h.i.offB h1 i v, h.o.offB h2 i v⟩
theorem InEx.offS {w : World} {x : Exm} {I O : List Int} (h : InEx w x I O) {p : Addr} {u : Option Addr} {y z : Nat} (hp : w.cell? p = some (.slice u y z)) (v : Value) : InEx (w.setCell p v) x I O := ⟨h.i.setOff hp v, h.o.setOff hp v⟩

/-- Behind the start: it lies there; the next state and the record are empty yet. -/
structure Cut1M (w1 : World) (SW SM : List Int) (x0 : Exm) (q : World) : Prop where
  r0 : q.rowIs w1.heap.size 28 2 (fn2 (.slice x0.a x0.n x0.k) (.slice x0.b x0.m x0.t))
  l0 : InEx q x0 SW SM
  fa : FarB x0.a (w1.heap.size + 1 + 1)
  fb : FarB x0.b (w1.heap.size + 1 + 1)
  r1 : q.rowIs (w1.heap.size + 1) 28 2 (fn2 (.slice none 0 0) (.slice none 0 0))
  r2 : q.rowIs (w1.heap.size + 1 + 1) 33 5 (fn5 (.int .i64 0) (.slice none 0 0) (.int .i64 0) (.int .u64 0) (.int .u64 0))
  bel : Below w1.heap.size w1 q
theorem Cut1M.below {w1 : World} {SW SM : List Int} {x0 : Exm} {q q2 : World} (h : Cut1M w1 SW SM x0 q) (hb : Below q.heap.size q q2) : Cut1M w1 SW SM x0 q2 :=
  ⟨h.r0.of_block (hb.block _ h.r0.lt), h.l0.below hb (Nat.le_refl _), h.fa, h.fb, h.r1.of_block (hb.block _ h.r1.lt), h.r2.of_block (hb.block _ h.r2.lt), h.bel.trans (hb.mono h.bel.size)⟩

/-- Behind the switch: the start, the next state and the record lie there. -/
structure SwM (w1 : World) (SW SM NW NM NB : List Int) (NR : Int) (x0 x1 : Exm) (v0 : Value) (a3 : Option Addr) (m3 d3 : Nat) (v3 v4 : Value) (q : World) : Prop where
  r0 : q.rowIs w1.heap.size 28 2 (fn2 (.slice x0.a x0.n x0.k) (.slice x0.b x0.m x0.t))
  l0 : InEx q x0 SW SM
  r1 : q.rowIs (w1.heap.size + 1) 28 2 (fn2 (.slice x1.a x1.n x1.k) (.slice x1.b x1.m x1.t))
  l1 : InEx q x1 NW NM
  r2 : q.rowIs (w1.heap.size + 1 + 1) 33 5 (fn5 v0 (.slice a3 m3 d3) (.int .i64 NR) v3 v4)
  l2 : Lst q a3 m3 d3 NB
  bel : Below w1.heap.size w1 q
theorem SwM.below {w1 : World} {SW SM NW NM NB : List Int} {NR : Int} {x0 x1 : Exm} {v0 : Value} {a3 : Option Addr} {m3 d3 : Nat} {v3 v4 : Value} {q q2 : World} (h : SwM w1 SW SM NW NM NB NR x0 x1 v0 a3 m3 d3 v3 v4 q) (hb : Below q.heap.size q q2) : SwM w1 SW SM NW NM NB NR x0 x1 v0 a3 m3 d3 v3 v4 q2 :=
  ⟨h.r0.of_block (hb.block _ h.r0.lt), h.l0.below hb (Nat.le_refl _), h.r1.of_block (hb.block _ h.r1.lt), h.l1.below hb (Nat.le_refl _), h.r2.of_block (hb.block _ h.r2.lt), h.l2.below hb (Nat.le_refl _), h.bel.trans (hb.mono h.bel.size)⟩
def zeroX : Exm := ⟨none, 0, 0, none, 0, 0⟩
theorem Cut1M.sw {w1 : World} {SW SM : List Int} {x0 : Exm} {q : World} (h : Cut1M w1 SW SM x0 q) : SwM w1 SW SM [] [] [] 0 x0 zeroX (.int .i64 0) none 0 0 (.int .u64 0) (.int .u64 0) q :=
  ⟨h.r0, h.l0, h.r1, ⟨Lst.nil _ _ _, Lst.nil _ _ _⟩, h.r2, Lst.nil _ _ _, h.bel⟩
theorem Cut1M.put {w1 : World} {SW SM NW NM NB : List Int} {x0 x1 : Exm} {u : World} {a3 : Option Addr} {m3 d3 : Nat} (h : Cut1M w1 SW SM x0 u) (l1 : InEx u x1 NW NM) (l3 : Lst u a3 m3 d3 NB) (h1 : FarB x1.a (w1.heap.size + 1 + 1)) (h2 : FarB x1.b (w1.heap.size + 1 + 1)) (h3 : FarB a3 (w1.heap.size + 1 + 1)) (v0 v3 v4 : Value) (NR : Int) :
    SwM w1 SW SM NW NM NB NR x0 x1 v0 a3 m3 d3 v3 v4 (((((((u.setCell ⟨w1.heap.size + 1, 0, none⟩ (.slice x1.a x1.n x1.k)).setCell ⟨w1.heap.size + 1, 1, none⟩ (.slice x1.b x1.m x1.t)).setCell ⟨w1.heap.size + 1 + 1, 0, none⟩ v0).setCell ⟨w1.heap.size + 1 + 1, 1, none⟩ (.slice a3 m3 d3)).setCell ⟨w1.heap.size + 1 + 1, 2, none⟩ (.int .i64 NR)).setCell ⟨w1.heap.size + 1 + 1, 3, none⟩ v3).setCell ⟨w1.heap.size + 1 + 1, 4, none⟩ v4) := by
  have c0 := (fn2_cells h.r1).1
  have c1 : (u.setCell ⟨w1.heap.size + 1, 0, none⟩ (.slice x1.a x1.n x1.k)).cell? ⟨w1.heap.size + 1, 1, none⟩ = some (.slice none 0 0) := (h.r1.set 0 _).cell (i := 1) (by omega)
  have n0 : ∀ k, w1.heap.size ≠ (⟨w1.heap.size + 1, k, none⟩ : Addr).block := fun k => by show w1.heap.size ≠ w1.heap.size + 1; omega
  have n1 : ∀ k, w1.heap.size ≠ (⟨w1.heap.size + 1 + 1, k, none⟩ : Addr).block := fun k => by show w1.heap.size ≠ w1.heap.size + 1 + 1; omega
  have n2 : ∀ k, w1.heap.size + 1 ≠ (⟨w1.heap.size + 1 + 1, k, none⟩ : Addr).block := fun k => by show w1.heap.size + 1 ≠ w1.heap.size + 1 + 1; omega
  have n3 : ∀ k, w1.heap.size + 1 + 1 ≠ (⟨w1.heap.size + 1, k, none⟩ : Addr).block := fun k => by show w1.heap.size + 1 + 1 ≠ w1.heap.size + 1; omega
  refine ⟨?_, ?_, ?_, ?_, ?_, ?_, ?_⟩
  · exact ((((((h.r0.setOther (n0 0) _).setOther (n0 1) _).setOther (n1 0) _).setOther (n1 1) _).setOther (n1 2) _).setOther (n1 3) _).setOther (n1 4) _
  · exact ((((((h.l0.offS c0 _).offS c1 _).offB h.fa h.fb 0 _).offB h.fa h.fb 1 _).offB h.fa h.fb 2 _).offB h.fa h.fb 3 _).offB h.fa h.fb 4 _
  · exact (((((fn2_set h.r1 (.slice x1.a x1.n x1.k) (.slice x1.b x1.m x1.t)).setOther (n2 0) _).setOther (n2 1) _).setOther (n2 2) _).setOther (n2 3) _).setOther (n2 4) _
  · exact ((((((l1.offS c0 _).offS c1 _).offB h1 h2 0 _).offB h1 h2 1 _).offB h1 h2 2 _).offB h1 h2 3 _).offB h1 h2 4 _
  · exact fn5_set ((h.r2.setOther (n3 0) _).setOther (n3 1) _) v0 (.slice a3 m3 d3) (.int .i64 NR) v3 v4
  · exact ((((((l3.setOff c0 _).setOff c1 _).offB h3 0 _).offB h3 1 _).offB h3 2 _).offB h3 3 _).offB h3 4 _
  · exact below_set5 (below_set2 h.bel (show w1.heap.size ≤ w1.heap.size + 1 by omega) _ _) (show w1.heap.size ≤ w1.heap.size + 1 + 1 by omega) _ _ _ _ _
theorem Cut1M.start (w1 : World) : Cut1M w1 [] [] zeroX (((w1.alloc (.cells #[.slice none 0 0, .slice none 0 0] 28)).alloc (.cells #[.slice none 0 0, .slice none 0 0] 28)).alloc (.cells #[.int .i64 0, .slice none 0 0, .int .i64 0, .int .u64 0, .int .u64 0] 33)) := by
  refine ⟨((fn2_alloc w1 _ _ _).alloc _).alloc _, ⟨Lst.nil _ _ _, Lst.nil _ _ _⟩, FarB.none _, FarB.none _, ?_, ?_, (((Below.refl w1.heap.size w1).alloc (Nat.le_refl _) _).alloc (by simp) _).alloc (by simp; omega) _⟩
  · have h := (fn2_alloc (w1.alloc (.cells #[.slice none 0 0, .slice none 0 0] 28)) (.slice none 0 0) (.slice none 0 0) 28).alloc (.cells #[.int .i64 0, .slice none 0 0, .int .i64 0, .int .u64 0, .int .u64 0] 33)
    simpa using h
  · have h := fn5_alloc ((w1.alloc (.cells #[.slice none 0 0, .slice none 0 0] 28)).alloc (.cells #[.slice none 0 0, .slice none 0 0] 28)) (.int .i64 0) (.slice none 0 0) (.int .i64 0) (.int .u64 0) (.int .u64 0) 33
    simpa using h
theorem Cut1M.first {w1 u : World} (h : Cut1M w1 [] [] zeroX u) {SW SM : List Int} {x0 : Exm} (l : InEx u x0 SW SM) (h1 : FarB x0.a (w1.heap.size + 1 + 1)) (h2 : FarB x0.b (w1.heap.size + 1 + 1)) : Cut1M w1 SW SM x0 ((u.setCell ⟨w1.heap.size, 0, none⟩ (.slice x0.a x0.n x0.k)).setCell ⟨w1.heap.size, 1, none⟩ (.slice x0.b x0.m x0.t)) := by
  have c0 : u.cell? ⟨w1.heap.size, 0, none⟩ = some (.slice none 0 0) := (fn2_cells h.r0).1
  have c1 : (u.setCell ⟨w1.heap.size, 0, none⟩ (.slice x0.a x0.n x0.k)).cell? ⟨w1.heap.size, 1, none⟩ = some (.slice none 0 0) := (h.r0.set 0 _).cell (i := 1) (by omega)
  refine ⟨fn2_set h.r0 _ _, (l.offS c0 _).offS c1 _, h1, h2, ?_, ?_, (h.bel.setCell (Nat.le_refl _) _).setCell (Nat.le_refl _) _⟩
  · exact (h.r1.setOther (a := ⟨w1.heap.size, 0, none⟩) (show w1.heap.size + 1 ≠ w1.heap.size by omega) _).setOther (a := ⟨w1.heap.size, 1, none⟩) (show w1.heap.size + 1 ≠ w1.heap.size by omega) _
  · exact (h.r2.setOther (a := ⟨w1.heap.size, 0, none⟩) (show w1.heap.size + 1 + 1 ≠ w1.heap.size by omega) _).setOther (a := ⟨w1.heap.size, 1, none⟩) (show w1.heap.size + 1 + 1 ≠ w1.heap.size by omega) _
end Go.Proofs.YtnlcheebdkjpbabGreat.Fx

/- The cells of a list of records, written one after another; lists of numbers lie apart from them. No function of the program is spoken of. -/
namespace Go.Proofs.YtnlcheebdkjpbabGreat.Fx
open Go.RowKit

/-- The cells of a record. -/
def recC (x : Rcm) (t : Nat) : Value := fn5 (.int .i64 x.s) (.slice x.a x.n x.k) (.int .i64 x.r) (.int .u64 x.root) (.int .u64 x.chain) t
def zeroRc : Rcm := ⟨0, none, 0, 0, 0, 0, 0⟩
/-- The cells of a list of records, of which the first K are R's. -/
def rcsR (R : Nat → Rcm) (K i : Nat) : Value := if i < K * 5 then recC (R (i / 5)) (i % 5) else recC zeroRc (i % 5)
theorem made5 (w : World) (z0 z1 z2 z3 z4 : Value) (m : Nat) (t : TypeId) : (w.alloc (.cells (madeCells #[z0, z1, z2, z3, z4] m) t)).rowIs w.heap.size t m (fun i => fn5 z0 z1 z2 z3 z4 (i % 5)) := by
  refine ⟨_, Go.Deep.blk_alloc_new _ _, size_madeCells _ _, fun i hi => ?_⟩
  rcases lt5 (Nat.mod_lt i (show 0 < 5 by omega)) with h | h | h | h | h <;> simp [madeCells, hi, h, fn5]
theorem rcsR_zero {w : World} {b t n : Nat} {R : Nat → Rcm} (h : w.rowIs b t n (fun i => fn5 (.int .i64 0) (.slice none 0 0) (.int .i64 0) (.int .u64 0) (.int .u64 0) (i % 5))) : w.rowIs b t n (rcsR R 0) := h.congr (fun i _ => by unfold rcsR; rw [if_neg (by omega)]; rfl)
theorem rcsR_cell {w : World} {b t n K j : Nat} {R : Nat → Rcm} (h : w.rowIs b t n (rcsR R K)) (hj : j < K) (hn : K * 5 ≤ n) {i : Nat} (hi : i < 5) : w.cell? ⟨b, j * 5 + i, none⟩ = some (recC (R j) i) := by
  rw [h.cell (by omega)]
  unfold rcsR
  rw [if_pos (by omega), show (j * 5 + i) / 5 = j by omega, show (j * 5 + i) % 5 = i by omega]
theorem rcsR_new {w : World} {b t n K j : Nat} {R : Nat → Rcm} (h : w.rowIs b t n (rcsR R K)) (hj : K ≤ j) (hn : j * 5 + 5 ≤ n) {i : Nat} (hi : i < 5) : w.cell? ⟨b, j * 5 + i, none⟩ = some (recC zeroRc i) := by
  rw [h.cell (by omega)]
  unfold rcsR
  rw [if_neg (by omega), show (j * 5 + i) % 5 = i by omega]
theorem rcsR_push {w : World} {b t n K : Nat} {R R2 : Nat → Rcm} (h : w.rowIs b t n (rcsR R K)) (x : Rcm) (h2 : R2 K = x) (h3 : ∀ j, j < K → R2 j = R j) :
    (((((w.setCell ⟨b, K * 5, none⟩ (.int .i64 x.s)).setCell ⟨b, K * 5 + 1, none⟩ (.slice x.a x.n x.k)).setCell ⟨b, K * 5 + 2, none⟩ (.int .i64 x.r)).setCell ⟨b, K * 5 + 3, none⟩ (.int .u64 x.root)).setCell ⟨b, K * 5 + 4, none⟩ (.int .u64 x.chain)).rowIs b t n (rcsR R2 (K + 1)) := by
  refine (((((h.set _ _).set _ _).set _ _).set _ _).set _ _).congr (fun i hi => ?_)
  have e5 : i = K * 5 + 4 ∨ i = K * 5 + 3 ∨ i = K * 5 + 2 ∨ i = K * 5 + 1 ∨ i = K * 5 ∨ i < K * 5 ∨ K * 5 + 5 ≤ i := by omega
  unfold rcsR
  rcases e5 with e | e | e | e | e | e | e
  · rw [if_pos e, if_pos (by omega), show i / 5 = K by omega, show i % 5 = 4 by omega, h2]; rfl
  · rw [if_neg (by omega), if_pos e, if_pos (by omega), show i / 5 = K by omega, show i % 5 = 3 by omega, h2]; rfl
  · rw [if_neg (by omega), if_neg (by omega), if_pos e, if_pos (by omega), show i / 5 = K by omega, show i % 5 = 2 by omega, h2]; rfl
  · rw [if_neg (by omega), if_neg (by omega), if_neg (by omega), if_pos e, if_pos (by omega), show i / 5 = K by omega, show i % 5 = 1 by omega, h2]; rfl
  · rw [if_neg (by omega), if_neg (by omega), if_neg (by omega), if_neg (by omega), if_pos e, if_pos (by omega), show i / 5 = K by omega, show i % 5 = 0 by omega, h2]; rfl
  · rw [if_neg (by omega), if_neg (by omega), if_neg (by omega), if_neg (by omega), if_neg (by omega), if_pos e, if_pos (by omega), h3 (i / 5) (by omega)]
  · rw [if_neg (by omega), if_neg (by omega), if_neg (by omega), if_neg (by omega), if_neg (by omega), if_neg (by omega), if_neg (by omega)]
theorem recC_int {x : Rcm} {t : Nat} {y : Int} (h : recC x t = .int .i64 y) (ht : t < 5) : t = 0 ∨ t = 2 := by
  rcases lt5 ht with rfl | rfl | rfl | rfl | rfl
  · exact .inl rfl
  · cases h
  · exact .inr rfl
  · cases h
  · cases h
theorem row_lt {w : World} {b t n i : Nat} {f : Nat → Value} {v : Value} (h : w.rowIs b t n f) (hc : w.cell? ⟨b, i, none⟩ = some v) : i < n ∧ f i = v := by
  by_cases hi : i < n
  · rw [h.cell hi] at hc
    exact ⟨hi, by simpa using hc⟩
  · obtain ⟨cs, hb, hsz, _⟩ := h
    simp only [World.cell?, hb] at hc
    rw [Array.getElem?_eq_none (by omega)] at hc
    cases hc
/-- A list of two numbers and more does not lie among cells of which no two in a row are numbers. -/
theorem Lst.apart {w : World} {b t n len c : Nat} {f : Nat → Value} {a : Option Addr} {xs : List Int} (hl : Lst w a len c xs) (h2 : 2 ≤ len) (h : w.rowIs b t n f) (hf : ∀ i x y, f i = .int .i64 x → f (i + 1) = .int .i64 y → False) : FarB a b := fun bg o e hb => by
  obtain ⟨b', off, e', hs, hc⟩ := hl.at (by omega)
  rw [e] at e'
  simp only [Option.some.injEq, Addr.mk.injEq, and_true] at e'
  obtain ⟨rfl, rfl⟩ := e'
  subst hb
  exact hf _ _ _ (row_lt h (hc 0 (by omega))).2 (row_lt h (hc 1 (by omega))).2
theorem recC_apart (x : Rcm) (i : Nat) (hi : i + 1 < 5) (u v : Int) (h1 : recC x i = .int .i64 u) (h2 : recC x (i + 1) = .int .i64 v) : False := by
  have := recC_int h1 (by omega)
  have := recC_int h2 hi
  omega
theorem rcsR_apart (R : Nat → Rcm) (K i : Nat) (u v : Int) (h1 : rcsR R K i = .int .i64 u) (h2 : rcsR R K (i + 1) = .int .i64 v) : False := by
  have k : ∀ j w, rcsR R K j = .int .i64 w → j % 5 = 0 ∨ j % 5 = 2 := fun j w h => by
    unfold rcsR at h
    by_cases e : j < K * 5
    · rw [if_pos e] at h; exact recC_int h (Nat.mod_lt _ (by omega))
    · rw [if_neg e] at h; exact recC_int h (Nat.mod_lt _ (by omega))
  have := k _ _ h1
  have := k _ _ h2
  omega
theorem Lst.apart5 {w : World} {b t len c : Nat} {x : Rcm} {a : Option Addr} {xs : List Int} (hl : Lst w a len c xs) (h2 : 2 ≤ len) (h : w.rowIs b t 5 (recC x)) : FarB a b := fun bg o e hb => by
  obtain ⟨b', off, e', hs, hc⟩ := hl.at (by omega)
  rw [e] at e'
  simp only [Option.some.injEq, Addr.mk.injEq, and_true] at e'
  obtain ⟨rfl, rfl⟩ := e'
  subst hb
  have k1 := row_lt h (hc 0 (by omega))
  have k2 := row_lt h (hc 1 (by omega))
  exact recC_apart x o k2.1 _ _ k1.2 k2.2

theorem infoR : (Tryz.prog.info? 33).map (fun i => (i.zero, i.size, i.bytes)) = some (some (.agg #[.int .i64 0, .slice none 0 0, .int .i64 0, .int .u64 0, .int .u64 0]), 5, 56) := by kernel_rfl
/-- The batches of records that were made: each lies in a block of its own, apart from the records. -/
def JrIn (w : World) (OB base B k : Nat) (R : Nat → Rcm) (DB : Nat → List Int) : Prop := ∀ j, j < k → (R j).n = B ∧ (R j).k = B ∧ ∃ bg, (R j).a = some ⟨bg, 0, none⟩ ∧ base ≤ bg ∧ bg ≠ OB ∧ Lst w (some ⟨bg, 0, none⟩) B B (DB j)
theorem JrIn.below {w w' : World} {OB base B k : Nat} {R : Nat → Rcm} {DB : Nat → List Int} (h : JrIn w OB base B k R DB) (hb : Below w.heap.size w w') : JrIn w' OB base B k R DB := fun j hj => by
  obtain ⟨h1, h2, bg, h3, h4, h5, hl⟩ := h j hj
  exact ⟨h1, h2, bg, h3, h4, h5, hl.below hb (Nat.le_refl _)⟩
theorem JrIn.setS {w : World} {OB base B k : Nat} {R : Nat → Rcm} {DB : Nat → List Int} (h : JrIn w OB base B k R DB) {p : Addr} {x : Option Addr} {y z : Nat} (hp : w.cell? p = some (.slice x y z)) (u : Value) : JrIn (w.setCell p u) OB base B k R DB := fun j hj => by
  obtain ⟨h1, h2, bg, h3, h4, h5, hl⟩ := h j hj
  exact ⟨h1, h2, bg, h3, h4, h5, hl.setOff hp u⟩
theorem JrIn.setO {w : World} {OB base B k : Nat} {R : Nat → Rcm} {DB : Nat → List Int} (h : JrIn w OB base B k R DB) (i : Nat) (u : Value) : JrIn (w.setCell ⟨OB, i, none⟩ u) OB base B k R DB := fun j hj => by
  obtain ⟨h1, h2, bg, h3, h4, h5, hl⟩ := h j hj
  exact ⟨h1, h2, bg, h3, h4, h5, hl.offB (FarB.some h5) i u⟩
/-- None of them lies in that block. -/
def JrNo (k b : Nat) (R : Nat → Rcm) : Prop := ∀ j, j < k → FarB (R j).a b
theorem JrIn.no {w : World} {OB base B k : Nat} {R : Nat → Rcm} {DB : Nat → List Int} (h : JrIn w OB base B k R DB) (hB : 1 ≤ B) {b : Nat} (hb : w.heap.size ≤ b) : JrNo k b R := fun j hj => by
  obtain ⟨h1, h2, bg, h3, h4, h5, hl⟩ := h j hj
  obtain ⟨_, _, e, hs, _⟩ := hl.at (by omega)
  simp only [Option.some.injEq, Addr.mk.injEq, and_true] at e
  rw [h3]
  exact FarB.some (by omega)
theorem JrIn.setN {w : World} {OB base B k : Nat} {R : Nat → Rcm} {DB : Nat → List Int} (h : JrIn w OB base B k R DB) {b : Nat} (hb : JrNo k b R) (i : Nat) (u : Value) : JrIn (w.setCell ⟨b, i, none⟩ u) OB base B k R DB := fun j hj => by
  obtain ⟨h1, h2, bg, h3, h4, h5, hl⟩ := h j hj
  have := hb j hj
  rw [h3] at this
  exact ⟨h1, h2, bg, h3, h4, h5, hl.offB this i u⟩
theorem JrIn.push {w : World} {OB base B k : Nat} {R R2 : Nat → Rcm} {DB : Nat → List Int} (h : JrIn w OB base B k R DB) (hR : ∀ j, j < k → R2 j = R j) {s r root chain : Int} {bg : Nat} (h2 : R2 k = ⟨s, some ⟨bg, 0, none⟩, B, B, r, root, chain⟩) (h4 : base ≤ bg) (h5 : bg ≠ OB) (hl : Lst w (some ⟨bg, 0, none⟩) B B (DB k)) : JrIn w OB base B (k + 1) R2 DB := fun j hj => by
  by_cases e : j = k
  · subst e; rw [h2]; exact ⟨rfl, rfl, bg, rfl, h4, h5, hl⟩
  · rw [hR j (by omega)]; exact h j (by omega)
end Go.Proofs.YtnlcheebdkjpbabGreat.Fx

/- A list of records that the program itself makes by append: what is known of it, and what one append more leaves. -/
namespace Go.Proofs.YtnlcheebdkjpbabGreat.Fx
open Go.RowKit

def rcCells (R : Nat → Rcm) : Nat → List Value
  | 0 => []
  | n + 1 => rcCells R n ++ [.int .i64 (R n).s, .slice (R n).a (R n).n (R n).k, .int .i64 (R n).r, .int .u64 (R n).root, .int .u64 (R n).chain]
theorem rcCells_len (R : Nat → Rcm) (n : Nat) : (rcCells R n).length = n * 5 := by
  induction n with
  | zero => rfl
  | succ k ih => simp [rcCells, ih]; omega
theorem rcCells_congr {X Y : Nat → Rcm} {n : Nat} (h : ∀ i, i < n → X i = Y i) : rcCells X n = rcCells Y n := by
  induction n with
  | zero => rfl
  | succ k ih => simp only [rcCells]; rw [ih (fun i hi => h i (by omega)), h k (by omega)]
theorem rcCells_at (R : Nat → Rcm) {n i : Nat} (h : i < n) : (rcCells R n)[i * 5]? = some (.int .i64 (R i).s) ∧ (rcCells R n)[i * 5 + 1]? = some (.slice (R i).a (R i).n (R i).k) ∧ (rcCells R n)[i * 5 + 2]? = some (.int .i64 (R i).r) ∧ (rcCells R n)[i * 5 + 3]? = some (.int .u64 (R i).root) ∧ (rcCells R n)[i * 5 + 4]? = some (.int .u64 (R i).chain) := by
  induction n with
  | zero => omega
  | succ k ih =>
    have hl := rcCells_len R k
    simp only [rcCells]
    by_cases e : i = k
    · subst e
      rw [List.getElem?_append_right (by omega), List.getElem?_append_right (by omega), List.getElem?_append_right (by omega), List.getElem?_append_right (by omega), List.getElem?_append_right (by omega), hl]
      simp
    · have g := ih (by omega)
      rw [List.getElem?_append_left (by omega), List.getElem?_append_left (by omega), List.getElem?_append_left (by omega), List.getElem?_append_left (by omega), List.getElem?_append_left (by omega)]
      exact g
/-- The slice value v, made from block number base on, owns the records R. -/
def OwnR (base : Nat) (w : World) (v : Value) (n : Nat) (R : Nat → Rcm) : Prop := w.ownsRow base 33 5 v n (rcCells R n)
theorem OwnR.nil (base : Nat) (w : World) (R : Nat → Rcm) : OwnR base w (.slice none 0 0) 0 R := World.ownsRow_nil _ _ _ _
theorem OwnR.below {base : Nat} {w w' : World} {v : Value} {n : Nat} {R : Nat → Rcm} (h : OwnR base w v n R) (hb : Below w.heap.size w w') : OwnR base w' v n R := by
  refine ⟨h.1, ?_⟩
  rcases h.2 with h0 | ⟨g, cap, cur, hv, hg, hh, r⟩
  · exact .inl h0
  · exact .inr ⟨g, cap, cur, hv, hg, by rw [hb.block g (Array.getElem?_eq_some_iff.1 hh).1]; exact hh, r⟩
theorem OwnR.congr {base : Nat} {w : World} {v : Value} {n : Nat} {X Y : Nat → Rcm} (h : OwnR base w v n X) (e : ∀ i, i < n → X i = Y i) : OwnR base w v n Y := by
  unfold OwnR at *
  rw [← rcCells_congr e]
  exact h
theorem OwnR.blk {base : Nat} {w : World} {v : Value} {n : Nat} {R : Nat → Rcm} (h : OwnR base w v n R) : v.ownBlock = none ∨ ∃ g, v.ownBlock = some g ∧ base ≤ g ∧ g < w.heap.size := by
  rcases h.2 with ⟨rfl, _⟩ | ⟨g, cap, cur, rfl, hg, hh, _⟩
  · exact .inl rfl
  · exact .inr ⟨g, rfl, hg, (Array.getElem?_eq_some_iff.1 hh).1⟩
theorem OwnR.recs {base : Nat} {w : World} {v : Value} {n : Nat} {R : Nat → Rcm} {D : Nat → List Int} (h : OwnR base w v n R) (hin : ∀ i, i < n → Lst w (R i).a (R i).n (R i).k (D i)) : ∃ a c, v = .slice a n c ∧ Recs w a n c R D := by
  obtain ⟨hl, h2⟩ := h
  rcases h2 with ⟨rfl, rfl⟩ | ⟨g, cap, cur, rfl, _, hh, hle, _, hsz, hcur⟩
  · exact ⟨none, 0, rfl, Recs.nil _ _ _ _ _⟩
  · refine ⟨_, cap, rfl, hle, .inr ⟨g, 0, rfl, (Array.getElem?_eq_some_iff.1 hh).1, fun i hi => ?_⟩⟩
    have hc : ∀ j, j < n * 5 → w.cell? ⟨g, j, none⟩ = (rcCells R n)[j]? := fun j hj => by
      rw [← hcur, List.getElem?_take_of_lt hj]
      simp [World.cell?, hh]
    have g2 := rcCells_at R hi
    simp only [Nat.zero_add]
    exact ⟨(hc _ (by omega)).trans g2.1, (hc _ (by omega)).trans g2.2.1, (hc _ (by omega)).trans g2.2.2.1, (hc _ (by omega)).trans g2.2.2.2.1, (hc _ (by omega)).trans g2.2.2.2.2, hin i hi⟩


section
variable {w' W0 : World} {ops : Array Oper} {o : Oper} {a : Act} {Q : Exit → Act → World → Prop}
theorem run_append_rc (ty : TypeId) (base : Nat) (v : Value) (n : Nat) (R : Nat → Rcm) (g : Nat) (hown : OwnR base w' v n R) (hrow : w'.rowIs g 33 5 (fn5 (.int .i64 (R n).s) (.slice (R n).a (R n).n (R n).k) (.int .i64 (R n).r) (.int .u64 (R n).root) (.int .u64 (R n).chain))) (hn : (n + 1) * 56 ≤ 140737488355328) (hbase : base ≤ w'.heap.size) :
    ∃ v' w1, (Builtin.append_ #[51, 51] ty #[v, .slice (some ⟨g, 0, none⟩) 1 1]).run Tryz.prog w' = .ok v' w1 ∧ OwnR base w1 v' (n + 1) R ∧ w'.grownBy w1 v.ownBlock ∧ (v'.ownBlock = v.ownBlock ∨ v'.ownBlock = some w'.heap.size) := by
  obtain ⟨i0, hi, hz0, hz1, hz2⟩ := info_parts infoR
  obtain ⟨b0, b1, b2, b3, b4⟩ := fn5_box hrow
  obtain ⟨v', w1, hrun, h1, h2, _, h3⟩ := run_append_own_at (P := Tryz.prog) w' base 51 ty 33 i0 (.agg #[.int .i64 0, .slice none 0 0, .int .i64 0, .int .u64 0, .int .u64 0]) 5 56 Tryz.underlying51 hi hz0 hz1 hz2 rfl (by decide) v n _ hown ⟨g, 0, none⟩ 1 1 [.int .i64 (R n).s, .slice (R n).a (R n).n (R n).k, .int .i64 (R n).r, .int .u64 (R n).root, .int .u64 (R n).chain] rfl
    (by intro j u hj
        match j, hj with
        | 0, hj => simp at hj; subst hj; simpa [Addr.add] using b0
        | 1, hj => simp at hj; subst hj; simpa [Addr.add] using b1
        | 2, hj => simp at hj; subst hj; simpa [Addr.add] using b2
        | 3, hj => simp at hj; subst hj; simpa [Addr.add] using b3
        | 4, hj => simp at hj; subst hj; simpa [Addr.add] using b4)
    (by intro u hu
        simp at hu
        rcases hu with rfl | rfl | rfl | rfl | rfl <;> rfl) (by unfold maxLen; omega) hn hbase
  exact ⟨v', w1, hrun, h1, h2, h3⟩

theorem wpList_append_rc {rest : List Oper} (hgd : o.guard = none) (s x : Operand) (ho : o.op = .call { callee := .builtin .append, args := #[s, x], argTypes := #[51, 51] })
    (base : Nat) (v : Value) (n : Nat) (R : Nat → Rcm) (g : Nat) (hs : a.eval s = v) (hx : a.eval x = .slice (some ⟨g, 0, none⟩) 1 1) (hown : OwnR base w' v n R) (hrow : w'.rowIs g 33 5 (fn5 (.int .i64 (R n).s) (.slice (R n).a (R n).n (R n).k) (.int .i64 (R n).r) (.int .u64 (R n).root) (.int .u64 (R n).chain))) (hn : (n + 1) * 56 ≤ 140737488355328) (hbase : base ≤ w'.heap.size)
    (h : ∀ v' w1, OwnR base w1 v' (n + 1) R → w'.grownBy w1 v.ownBlock → (v'.ownBlock = v.ownBlock ∨ v'.ownBlock = some w'.heap.size) → wpList Tryz.prog ops Q rest (a.put o.dst v') w1) : wpList Tryz.prog ops Q (o :: rest) a w' := by
  obtain ⟨v', w1, hrun, h1, h2, h3⟩ := run_append_rc o.type base v n R g hown hrow hn hbase
  refine wpList_plain hgd fun K hK => ?_
  unfold Oper.wp
  simp [execOp, ho, resolve, invoke, builtin, hs, hx, hrun, Result.andThen]
  exact hK _ _ (h v' w1 h1 h2 h3)
end

end Go.Proofs.YtnlcheebdkjpbabGreat.Fx
