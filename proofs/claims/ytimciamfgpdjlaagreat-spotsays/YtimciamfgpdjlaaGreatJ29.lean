/- How a state by value is opened, with what the form says of its sizes. -/
import Derived.Test.YtimciamfgpdjlaaGreatJ00
import Derived.Test.YtimciamfgpdjlaaGreatJ10
import Derived.Test.YtimciamfgpdjlaaGreatJ05
import Derived.Test.YtimciamfgpdjlaaGreatJ12
import Derived.Test.YtimciamfgpdjlaaGreatJ01
import Derived.Deep.RegionHeld3
import Derived.Test.YtimciamfgpdjlaaGreatJ17
import Derived.BigRegion
import Derived.Deep.RegionWith
namespace Go.Proofs.YtimciamfgpdjlaaGreat.Fx
open Go.ChangeShapes Go.WideShapes Go.ChangeAt Go.RowKit

/-- The datum of a list that came in tells its length. -/
def DLen {H : Type} (d : DataW H) (len : Nat) : Prop := len = 0 ∨ ∃ elems spare, d = .slice elems spare ∧ len ≤ elems.length + spare.length
set_option maxRecDepth 100000 in
theorem came_trodD {H : Type} {enc : TypeId × Value → H} {W : World} {fuel : Nat} {cs : List Value} {x : DataW H × List MemPlace} (hf : DataW.trod enc Tryz.prog W 0 (fun _ => true) true fuel 26 cs = some x) :
    ∃ a len cap xs, cs = [.slice a len cap] ∧ Came W a len cap xs ∧ DLen x.1 len := by
  rcases open_ints Tryz.underlying26 Tryz.underlying3 (by kernel_rfl) hf with ⟨hcs, _⟩ | ⟨y, l, c, zs, hcs, _, hl, hm, hz, hx, hcell, hwz⟩
  · exact ⟨none, 0, 0, [], hcs, ⟨Lst.nil _ _ _, Nat.zero_le _, fun n h => by cases h⟩, .inl rfl⟩
  · have hz' : zs.length = c := by simpa using hz
    refine ⟨some y, l, c, zs.take l, hcs, ⟨Lst.came hl hz' hcell, hm, fun n h => hwz n (List.mem_of_mem_take h)⟩, .inr ⟨_, _, by rw [hx], ?_⟩⟩
    simp only [lits, List.length_map, List.length_take, List.length_drop]
    omega
set_option maxRecDepth 100000 in
theorem openStateD {H : Type} {enc : TypeId × Value → H} {W : World} {b0 : Nat} {v : Value} {d : DataW H} {p : List MemPlace} (hv : Value.okWide Tryz.prog W .any b0 28 v) (h : DataW.Trod enc Tryz.prog W 0 (fun _ => true) true 28 v d p) :
    ∃ (x : Exm) (I O : List Int), v = x.val ∧ InEx W x I O ∧ ∃ y0 y1 : DataW H, d = .agg [y0, y1] ∧ DLen y0 x.n ∧ DLen y1 x.m := by
  obtain ⟨c0, c1, y0, y1, m, rfl, hd, _, hy0, hy1⟩ := Go.Joins.open_agg2 Tryz.underlying28 (by kernel_rfl) cellsState hv h
  obtain ⟨a3, l3, k3, B1, e3, g3, d3⟩ := came_trodD hy0
  obtain ⟨a4, l4, k4, B2, e4, g4, d4⟩ := came_trodD hy1
  simp at e3 e4
  subst e3 e4
  exact ⟨⟨a3, l3, k3, a4, l4, k4⟩, B1, B2, rfl, ⟨g3.1, g4.1⟩, y0.1, y1.1, hd, d3, d4⟩
theorem bytesIntS : Tryz.prog.bytesOf 3 = 8 := by kernel_rfl
theorem dlen_le {H : Type} {ts : List TypeId} {ds : List (DataW H)} {j : Nat} {d : DataW H} {len : Nat} (h : ∀ n ∈ DataW.weightsEach Tryz.prog ts ds, n ≤ reachBytes) (ht : ts[j]? = some 26) (hd : ds[j]? = some d) (hl : DLen d len) : len * 8 ≤ 140737488351232 := by
  rcases hl with rfl | ⟨elems, spare, rfl, hle⟩
  · omega
  · have := h _ (DataW.weights_mem_each ht hd ((elems.length + spare.length) * Tryz.prog.bytesOf 3) (by simp [DataW.weights, Tryz.underlying26]))
    rw [bytesIntS] at this
    simp only [reachBytes] at this
    omega
set_option maxRecDepth 100000 in
theorem sizedState {H : Type} {ts : List TypeId} {ds : List (DataW H)} (h : (DataW.weightsEach Tryz.prog ts ds).all (· ≤ reachBytes) = true) {j n m : Nat} {d : DataW H} (ht : ts[j]? = some 28) (hd : ds[j]? = some d)
    (hl : ∃ y0 y1 : DataW H, d = .agg [y0, y1] ∧ DLen y0 n ∧ DLen y1 m) : n * 8 ≤ 140737488351232 ∧ m * 8 ≤ 140737488351232 := by
  obtain ⟨y0, y1, rfl, h0, h1⟩ := hl
  have key : ∀ t ∈ DataW.weightsEach Tryz.prog [26, 26] [y0, y1], t ≤ reachBytes := fun t hm => by
    have := List.all_eq_true.1 h _ (DataW.weights_mem_each ht hd t (by simp only [DataW.weights, Tryz.underlying28]; exact hm))
    simpa using this
  exact ⟨dlen_le (j := 0) key rfl rfl h0, dlen_le (j := 1) key rfl rfl h1⟩
end Go.Proofs.YtimciamfgpdjlaaGreat.Fx

/- Two lists of integers that are made by append side by side, each held in a field of a state: an append to one leaves the other. -/
namespace Go.Proofs.YtimciamfgpdjlaaGreat.Fx
open Go.RowKit

/-- Two growing lists x and y, and the state at block G that holds them. -/
structure Two (wm : World) (G : Nat) (x y : Value) (Lx Ly : List Int) (wr : World) : Prop where
  row : wr.rowIs G 28 2 (fn2 x y)
  ox : OwnI wm.heap.size wr x Lx
  oy : OwnI wm.heap.size wr y Ly
  ap : Apart x y
  gr : wm.grownBy wr (some G)
theorem Two.below {wm : World} {G : Nat} {x y : Value} {Lx Ly : List Int} {wr w2 : World} (h : Two wm G x y Lx Ly wr) (hb : Below wr.heap.size wr w2) : Two wm G x y Lx Ly w2 :=
  ⟨h.row.of_block (hb.block _ h.row.lt), OwnI.below h.ox hb, OwnI.below h.oy hb, h.ap, grown_below h.gr hb⟩
theorem own_min {base : Nat} {w : World} {x : Value} {L : List Int} (h : OwnI base w x L) : ∀ k, x.ownBlock = some k → base ≤ k := by
  intro k hk
  rcases h.blk with e | ⟨g, e, hg, _⟩
  · rw [e] at hk; cases hk
  · rw [e] at hk; cases hk; exact hg
/-- Behind an append to x: the state still holds the two old ones. -/
theorem Two.still {wm : World} {G : Nat} {x y : Value} {Lx Ly : List Int} {w2 w3 : World} (h : Two wm G x y Lx Ly w2) (hG : G < wm.heap.size) (h2 : w2.grownBy w3 x.ownBlock) : w3.rowIs G 28 2 (fn2 x y) :=
  h.row.of_block (h2.block G h.row.lt (fun e => by have := own_min h.ox G e.symm; omega))
theorem Two.still' {wm : World} {G : Nat} {x y : Value} {Lx Ly : List Int} {w2 w3 : World} (h : Two wm G x y Lx Ly w2) (hG : G < wm.heap.size) (h2 : w2.grownBy w3 y.ownBlock) : w3.rowIs G 28 2 (fn2 x y) :=
  h.row.of_block (h2.block G h.row.lt (fun e => by have := own_min h.oy G e.symm; omega))
theorem apart_new {wm : World} {x y x1 : Value} {Ly : List Int} {w2 : World} (hap : Apart x y) (hoy : OwnI wm.heap.size w2 y Ly) (h3 : x1.ownBlock = x.ownBlock ∨ x1.ownBlock = some w2.heap.size) : Apart x1 y := by
  rcases h3 with e | e
  · unfold Apart; rw [e]; exact hap
  · unfold Apart
    rw [e]
    rcases hoy.blk with e2 | ⟨g, e2, _, hg⟩
    · exact .inl e2
    · right; rw [e2]; simp; omega
/-- x has one more, and the field that holds it is written. -/
theorem Two.push {wm : World} {G : Nat} {x y x1 : Value} {Lx Ly : List Int} {z : Int} {w2 w3 : World} (h : Two wm G x y Lx Ly w2) (hG : G < wm.heap.size) (h1 : OwnI wm.heap.size w3 x1 (Lx ++ [z])) (h2 : w2.grownBy w3 x.ownBlock) (h3 : x1.ownBlock = x.ownBlock ∨ x1.ownBlock = some w2.heap.size) :
    Two wm G x1 y (Lx ++ [z]) Ly (w3.setCell ⟨G, 0, none⟩ x1) := by
  refine ⟨((h.still hG h2).set 0 x1).congr (fun i hi => ?_), ownsRow_setCell_below h1 hG _, ownsRow_setCell_below (h.oy.kept h2 h.ap) hG _, apart_new h.ap h.oy h3, grown1 (grown_trans h.gr h2 (fun k hk => .inl (own_min h.ox k hk))) 0 x1⟩
  rcases (show i = 0 ∨ i = 1 from by omega) with rfl | rfl <;> rfl
theorem Two.push' {wm : World} {G : Nat} {x y y1 : Value} {Lx Ly : List Int} {z : Int} {w2 w3 : World} (h : Two wm G x y Lx Ly w2) (hG : G < wm.heap.size) (h1 : OwnI wm.heap.size w3 y1 (Ly ++ [z])) (h2 : w2.grownBy w3 y.ownBlock) (h3 : y1.ownBlock = y.ownBlock ∨ y1.ownBlock = some w2.heap.size) :
    Two wm G x y1 Lx (Ly ++ [z]) (w3.setCell ⟨G, 1, none⟩ y1) := by
  refine ⟨((h.still' hG h2).set 1 y1).congr (fun i hi => ?_), ownsRow_setCell_below (h.ox.kept h2 h.ap.symm) hG _, ownsRow_setCell_below h1 hG _, (apart_new h.ap.symm h.ox h3).symm, grown1 (grown_trans h.gr h2 (fun k hk => .inl (own_min h.oy k hk))) 1 y1⟩
  rcases (show i = 0 ∨ i = 1 from by omega) with rfl | rfl <;> rfl
theorem Two.congr {wm : World} {G : Nat} {x y : Value} {Lx Ly Lx' Ly' : List Int} {wr : World} (h : Two wm G x y Lx Ly wr) (e1 : Lx = Lx') (e2 : Ly = Ly') : Two wm G x y Lx' Ly' wr := by
  subst e1 e2
  exact h
end Go.Proofs.YtimciamfgpdjlaaGreat.Fx

/- What coachref's Size, StateFits and SameState return. -/
namespace Go.Proofs.YtimciamfgpdjlaaGreat.Fx
open Go.RowKit

theorem rsizeI_calls (i h o : Int) (w : World) (i1 : 1 ≤ i) (i2 : i ≤ 4) (h1 : 1 ≤ h) (h2 : h ≤ 4) (o1 : 1 ≤ o) (o2 : o ≤ 4) :
    Calls Tryz.prog 110 #[.int .i64 i, .int .i64 h, .int .i64 o] w fun e w' => e = .returned (.int .i64 (h * i + h + o * h + o)) ∧ w' = w := by
  have s1 : h * (i + 1) = h * i + h := by rw [Int.mul_add, Int.mul_one]
  have s2 : o * (h + 1) = o * h + o := by rw [Int.mul_add, Int.mul_one]
  have a1 := Int.mul_le_mul_of_nonneg_right (c := i) h2 (by omega)
  have a2 := Int.mul_le_mul_of_nonneg_right (c := i) h1 (by omega)
  have b1 := Int.mul_le_mul_of_nonneg_right (c := h) o2 (by omega)
  have b2 := Int.mul_le_mul_of_nonneg_right (c := h) o1 (by omega)
  have c1 : 0 ≤ h * i := by omega
  have c2 : h * i ≤ 16 := by omega
  have c3 : 0 ≤ o * h := by omega
  have c4 : o * h ≤ 16 := by omega
  clear a1 a2 b1 b2
  go_enter Tryz.func110, Tryz.ntmps110
  go_wp2
  go_ret
  exact ⟨ret_int (by omega), rfl⟩

theorem fit_two {c : Cfg} {n1 n2 : Nat} {ws ms : List Int} {S : Int} {p q r s : Bool} (hS : sizeN c = S) (hp : decide ((n1 : Int) = S) = p) (hq : decide ((n2 : Int) = S) = q) (hr : rightB ws = r) (hs : rightB ms = s) : (fitB c n1 ws && fitB c n2 ms) = (p && q && r && s) := by
  unfold fitB
  rw [hS, hp, hq, hr, hs]
  cases p <;> cases q <;> cases r <;> cases s <;> rfl

set_option maxHeartbeats 1600000 in
theorem rstfits_calls (c : Cfg) (hc : cfgB c = true) (a1 : Option Addr) (n1 k1 : Nat) (a2 : Option Addr) (n2 k2 : Nat) (ws ms : List Int) (w : World) (l1 : Lst w a1 n1 k1 ws) (l2 : Lst w a2 n2 k2 ms) :
    Calls Tryz.prog 55 #[c.val, .agg #[.slice a1 n1 k1, .slice a2 n2 k2]] w fun e w' => e = .returned (.bool (fitB c n1 ws && fitB c n2 ms)) ∧ Below w.heap.size w w' := by
  have hal := ((Below.refl w.heap.size w).alloc (Nat.le_refl _) (.cells c.cells 24)).alloc (by simp) (.cells #[.slice a1 n1 k1, .slice a2 n2 k2] 28)
  have l1 := l1.below hal (Nat.le_refl _)
  have l2 := l2.below hal (Nat.le_refl _)
  obtain ⟨⟨i1, i2⟩, ⟨h1, h2⟩, ⟨o1, o2⟩, _⟩ := cfgB_is hc
  have hz := sizeN_bd hc
  have RS : ∀ q, Calls Tryz.prog 110 #[.int .i64 c.i, .int .i64 c.h, .int .i64 c.o] q fun e w' => e = .returned (.int .i64 (sizeN c)) ∧ w' = q := fun q => rsizeI_calls c.i c.h c.o q i1 i2 h1 h2 o1 o2
  have FT := @fit_two c n1 n2 ws ms
  generalize (fitB c n1 ws && fitB c n2 ms) = F at *
  generalize sizeN c = S at *
  have HRS : Hid (∀ q, Calls Tryz.prog 110 #[.int .i64 c.i, .int .i64 c.h, .int .i64 c.o] q fun e w' => e = .returned (.int .i64 S) ∧ w' = q) := RS
  clear RS i1 i2 h1 h2 o1 o2 hc
  by_cases e1 : (n1 : Int) = S
  · have b1 : ((n1 : Int) == S) = true := by simpa using e1
    by_cases e2 : (n2 : Int) = S
    · have b2 : ((n2 : Int) == S) = true := by simpa using e2
      cases e3 : rightB ws with
      | true =>
        have hF := FT rfl (decide_eq_true e1) (decide_eq_true e2) e3 rfl
        rw [show (true && true && true && rightB ms) = rightB ms from by cases rightB ms <;> rfl] at hF
        subst hF
        have h1000 : n1 ≤ 1000 := by omega
        have h2000 : n2 ≤ 1000 := by omega
        have HE : Hid (rightB ws = true) := e3
        clear e1 e2 e3 FT
        obtain ⟨i, h, o, seed, batch, steps, rate, decay, how, keep, clip⟩ := c
        simp only [Cfg.val, Cfg.cells] at *
        go_enter Tryz.func55, Tryz.ntmps55
        go_wp2_with (go_at_call 110; refine (HRS.out _).mono ?_; rintro e w' ⟨rfl, hw'⟩; replace hw' := hw'.symm; subst hw')
        refine (rright_calls _ _ _ ws _ l1 (by omega)).mono ?_
        rintro e w1 ⟨rfl, kk, hw'⟩
        subst hw'
        rw [HE.out]
        go_wp2_with fail
        refine (rright_calls _ _ _ ms _ (l2.drewN _) (by omega)).mono ?_
        rintro e w1 ⟨rfl, kk2, hw'⟩
        subst hw'
        go_wp2
        go_ret
        exact ⟨rfl, below_drewN hal _⟩
      | false =>
        have hF := FT rfl (decide_eq_true e1) (decide_eq_true e2) e3 rfl
        rw [show (true && true && false && rightB ms) = false from by cases rightB ms <;> rfl] at hF
        subst hF
        have h1000 : n1 ≤ 1000 := by omega
        have HE : Hid (rightB ws = false) := e3
        clear e1 e2 e3 FT
        obtain ⟨i, h, o, seed, batch, steps, rate, decay, how, keep, clip⟩ := c
        simp only [Cfg.val, Cfg.cells] at *
        go_enter Tryz.func55, Tryz.ntmps55
        go_wp2_with (go_at_call 110; refine (HRS.out _).mono ?_; rintro e w' ⟨rfl, hw'⟩; replace hw' := hw'.symm; subst hw')
        refine (rright_calls _ _ _ ws _ l1 (by omega)).mono ?_
        rintro e w1 ⟨rfl, kk, hw'⟩
        subst hw'
        rw [HE.out]
        go_wp2
        go_ret
        exact ⟨rfl, below_drewN hal _⟩
    · have b2 : ((n2 : Int) == S) = false := by simpa using e2
      have hF := FT rfl (decide_eq_true e1) (decide_eq_false e2) rfl rfl
      rw [show (true && false && rightB ws && rightB ms) = false from by cases rightB ws <;> cases rightB ms <;> rfl] at hF
      subst hF
      clear e1 e2 FT
      obtain ⟨i, h, o, seed, batch, steps, rate, decay, how, keep, clip⟩ := c
      simp only [Cfg.val, Cfg.cells] at *
      go_enter Tryz.func55, Tryz.ntmps55
      go_wp2_with (go_at_call 110; refine (HRS.out _).mono ?_; rintro e w' ⟨rfl, hw'⟩; replace hw' := hw'.symm; subst hw')
      go_ret
      exact ⟨rfl, hal⟩
  · have b1 : ((n1 : Int) == S) = false := by simpa using e1
    have hF := FT rfl (decide_eq_false e1) rfl rfl rfl
    rw [show (false && decide ((n2 : Int) = S) && rightB ws && rightB ms) = false from rfl] at hF
    subst hF
    clear e1 FT
    obtain ⟨i, h, o, seed, batch, steps, rate, decay, how, keep, clip⟩ := c
    simp only [Cfg.val, Cfg.cells] at *
    go_enter Tryz.func55, Tryz.ntmps55
    go_wp2_with (go_at_call 110; refine (HRS.out _).mono ?_; rintro e w' ⟨rfl, hw'⟩; replace hw' := hw'.symm; subst hw')
    go_ret
    exact ⟨rfl, hal⟩

set_option maxHeartbeats 800000 in
theorem rsameS_calls (a1 : Option Addr) (n1 k1 : Nat) (a2 : Option Addr) (n2 k2 : Nat) (b1 : Option Addr) (m1 d1 : Nat) (b2 : Option Addr) (m2 d2 : Nat) (XS YS : List Int) (w : World) (l1 : Lst w a1 n1 k1 XS) (l2 : Lst w a2 n2 k2 YS) (l3 : Lst w b1 m1 d1 XS) (l4 : Lst w b2 m2 d2 YS) (h1 : n1 ≤ 200) (h2 : n2 ≤ 200) :
    Calls Tryz.prog 13 #[.agg #[.slice a1 n1 k1, .slice a2 n2 k2], .agg #[.slice b1 m1 d1, .slice b2 m2 d2]] w fun e w' => e = .returned (.bool true) ∧ Below w.heap.size w w' := by
  have hal := ((Below.refl w.heap.size w).alloc (Nat.le_refl _) (.cells #[.slice a1 n1 k1, .slice a2 n2 k2] 28)).alloc (by simp) (.cells #[.slice b1 m1 d1, .slice b2 m2 d2] 28)
  have l1 := l1.below hal (Nat.le_refl _)
  have l2 := l2.below hal (Nat.le_refl _)
  have l3 := l3.below hal (Nat.le_refl _)
  have l4 := l4.below hal (Nat.le_refl _)
  go_enter Tryz.func13, Tryz.ntmps13
  go_wp2_with fail
  refine (eq_calls _ _ _ _ _ _ XS XS _ l1 l3 (by omega)).mono ?_
  rintro e w1 ⟨rfl, k5, hw5⟩
  subst hw5
  rw [decide_eq_true (Eq.refl XS)]
  go_wp2_with fail
  refine (eq_calls _ _ _ _ _ _ YS YS _ (l2.drewN _) (l4.drewN _) (by omega)).mono ?_
  rintro e w1 ⟨rfl, k6, hw6⟩
  subst hw6
  rw [decide_eq_true (Eq.refl YS)]
  go_wp2
  go_ret
  exact ⟨rfl, below_drewN hal _⟩

end Go.Proofs.YtimciamfgpdjlaaGreat.Fx

/- What coachref.plus and times return: sums and products by P. -/
namespace Go.Proofs.YtimciamfgpdjlaaGreat.Fx
open Go.RowKit

theorem rplus_calls (a b : Int) (ha : okW a) (hb : okW b) (w : World) : Calls Tryz.prog 172 #[.int .u64 a, .int .u64 b] w fun e w' => e = .returned (.int .u64 (addP a b)) ∧ w' = w := by
  obtain ⟨a0, a1⟩ := ha
  obtain ⟨b0, b1⟩ := hb
  go_enter Tryz.func172, Tryz.ntmps172
  go_wp2
  go_ret
  exact ⟨ret_word (rest_add a b), rfl⟩

set_option maxHeartbeats 1600000 in
theorem rtimes_calls (a b : Int) (ha : okP a) (hb : okP b) (w : World) : Calls Tryz.prog 177 #[.int .u64 a, .int .u64 b] w fun e w' => e = .returned (.int .u64 (mulP a b)) ∧ w' = w := by
  have HB : Hid (okP b) := hb
  obtain ⟨a0, a1⟩ := ha
  obtain ⟨b0, b1⟩ := hb
  have am : a % 2305843009213693951 = a := by omega
  have bm : b % 2305843009213693951 = b := by omega
  go_enter Tryz.func177, Tryz.ntmps177
  go_wp2
  go_loop [5, 6] (fun s i => ∃ (k : Nat) (x : Int), k ≤ 61 ∧ i = .int .i64 ((k : Int) - 1) ∧ s = .int .u64 x ∧ Hid (x = dblTo a b k)) (fun _ i => ((intOf i) + 1).toNat)
  case atStart => exact ⟨61, 0, by omega, rfl, rfl, (dbl_top a b HB.out).symm⟩
  case round =>
    obtain ⟨k, x, hk, rfl, rfl, HX⟩ := hrel
    have hx : okP x := by rw [HX.out]; exact dbl_ok _ _ _
    obtain ⟨x0, x1⟩ := hx
    cases k with
    | zero =>
      go_wp2
      go_ret
      exact ⟨ret_word (by rw [HX.out, dbl_end]), rfl⟩
    | succ j =>
      go_wp2
      all_goals
        rename_i hc
        have q0 : 0 ≤ b / 2 ^ j := Int.ediv_nonneg b0 (Int.pow_nonneg (by omega))
        rw [Int.tmod_eq_emod_of_nonneg q0] at hc
        simp only [beq_iff_eq, beq_eq_false_iff_ne, ne_eq] at hc
        go_round
        case measure => simp [intOf]
      · exact ⟨j, _, by omega, rfl, rfl, by rw [HX.out]; exact dbl_step1 _ _ _ hc⟩
      · exact ⟨j, _, by omega, rfl, rfl, by rw [HX.out]; exact dbl_step0 _ _ _ (by omega)⟩

end Go.Proofs.YtimciamfgpdjlaaGreat.Fx

/- What coachref.mixed returns, called with three numbers below P. -/
namespace Go.Proofs.YtimciamfgpdjlaaGreat.Fx
open Go.RowKit

theorem Tri.at_ok {s : Tri} (h : s.ok) (k : Nat) : okP (s.at k) := by
  unfold Tri.at
  split
  · exact h.1
  · split
    · exact h.2.1
    · exact h.2.2

/-- The part of a turn in which the powers are laid: j of them are there. -/
structure PowRel (t : Nat) (w : World) (s p : Tri) (b j : Nat) (wr : World) : Prop where
  mix : MixRel t w s wr
  row : wr.rowIs b t 3 (rowToW p.at j)
  ge : w.heap.size + 1 < b
theorem PowRel.start {t : Nat} {w wr : World} {s : Tri} (h : MixRel t w s wr) (p : Tri) : PowRel t w s p wr.heap.size 0 (wr.alloc (.cells #[.int .u64 0, .int .u64 0, .int .u64 0] t)) := by
  have h1 := h.res.lt
  refine ⟨⟨h.box.alloc _, h.res.alloc _, h.old.alloc h.old.size _⟩, rowToW_made ((fnT_alloc wr 0 0 0 t).congr (fun i hi => ?_)), h1⟩
  rcases lt3 hi with rfl | rfl | rfl <;> rfl
theorem PowRel.step {t : Nat} {w wr : World} {s p : Tri} {b j : Nat} (h : PowRel t w s p b j wr) {x : Int} (hx : p.at j = x) : PowRel t w s p b (j + 1) (wr.setCell ⟨b, j, none⟩ (.int .u64 x)) := by
  have hge := h.ge
  subst hx
  exact ⟨⟨h.mix.box.setOther (by simp; omega) _, h.mix.res.setOther (by simp; omega) _, h.mix.old.setCell (by simp; omega) _⟩, rowToW_step h.row, hge⟩
/-- The part in which the sums are laid. -/
def half (s q : Tri) (j i : Nat) : Value := if i < j then .int .u64 (q.at i) else .int .u64 (s.at i)
structure SumRel (t : Nat) (w : World) (s p q : Tri) (b j : Nat) (wr : World) : Prop where
  box : wr.rowIs w.heap.size t 3 (half s q j)
  res : wr.rowIs (w.heap.size + 1) t 3 (fnT ⟨0, 0, 0⟩)
  row : wr.rowIs b t 3 (fnT p)
  ge : w.heap.size + 1 < b
  old : Below w.heap.size w wr
theorem SumRel.start {t : Nat} {w wr : World} {s p : Tri} {b : Nat} (h : PowRel t w s p b 3 wr) (q : Tri) : SumRel t w s p q b 0 wr := by
  refine ⟨h.mix.box.congr (fun i hi => ?_), h.mix.res, h.row.congr (fun i hi => ?_), h.ge, h.mix.old⟩
  · rcases lt3 hi with rfl | rfl | rfl <;> rfl
  · rcases lt3 hi with rfl | rfl | rfl <;> rfl
theorem SumRel.step {t : Nat} {w wr : World} {s p q : Tri} {b j : Nat} (h : SumRel t w s p q b j wr) {x : Int} (hx : q.at j = x) (d : Nat) : SumRel t w s p q b (j + 1) ((wr.setCell ⟨w.heap.size, j, none⟩ (.int .u64 x)).drewN d) := by
  have hge := h.ge
  subst hx
  refine ⟨rowIs_drewN ((h.box.set j _).congr (fun i hi => ?_)) d, rowIs_drewN (h.res.setOther (by simp) _) d, rowIs_drewN (h.row.setOther (by simp; omega) _) d, hge, below_drewN (h.old.setCell (Nat.le_refl _) _) d⟩
  unfold half
  by_cases e : i = j
  · subst e; rw [if_pos rfl, if_pos (by omega)]
  · rw [if_neg e]
    by_cases e2 : i < j
    · rw [if_pos e2, if_pos (by omega)]
    · rw [if_neg e2, if_neg (by omega)]
theorem SumRel.end {t : Nat} {w wr : World} {s p q : Tri} {b : Nat} (h : SumRel t w s p q b 3 wr) : MixRel t w q wr := by
  refine ⟨h.box.congr (fun i hi => ?_), h.res, h.old⟩
  rcases lt3 hi with rfl | rfl | rfl <;> rfl
theorem half_cell {t : Nat} {w wr : World} {s p q : Tri} {b j : Nat} (h : SumRel t w s p q b j wr) (hj : j < 3) : wr.cell? ⟨w.heap.size, j, none⟩ = some (.int .u64 (s.at j)) := by
  rw [h.box.cell hj]; unfold half; rw [if_neg (by omega)]
theorem pows_at (n : Int) (s : Tri) {j : Nat} (h : j < 3) {m : Int} (hm : m = n * ((j : Int) + 1)) : (pows n s).at j = powP (addP (s.at j) m) := by
  subst hm
  rcases lt3 h with rfl | rfl | rfl
  · show powP (addP s.x n) = powP (addP s.x (n * (((0 : Nat) : Int) + 1)))
    rw [show n * (((0 : Nat) : Int) + 1) = n from by omega]
  · show powP (addP s.y (2 * n)) = powP (addP s.y (n * (((1 : Nat) : Int) + 1)))
    rw [show n * (((1 : Nat) : Int) + 1) = 2 * n from by omega]
  · show powP (addP s.z (3 * n)) = powP (addP s.z (n * (((2 : Nat) : Int) + 1)))
    rw [show n * (((2 : Nat) : Int) + 1) = 3 * n from by omega]
theorem sums_at (t : Tri) {j : Nat} (h : j < 3) : (sums t).at j = addP (addP t.x t.y) (addP t.z (t.at j)) := by
  rw [four_add]
  rcases lt3 h with rfl | rfl | rfl <;> rfl

set_option maxHeartbeats 3200000 in
theorem rmixed_calls (s : Tri) (hs : s.ok) (w : World) : Calls Tryz.prog 171 #[.agg #[.int .u64 s.x, .int .u64 s.y, .int .u64 s.z]] w fun e w' => e = .returned (aggT (mixP s)) ∧ Below w.heap.size w w' := by
  have HS : Hid s.ok := hs
  clear hs
  go_enter Tryz.func171, Tryz.ntmps171
  go_wp2
  go_loopw [3] (fun i wr => ∃ (k : Nat) (n : Int) (t : Tri), k ≤ 6 ∧ i = .int .i64 n ∧ n = (k : Int) + 1 ∧ Hid (t = mixTo s k) ∧ MixRel 185 w t wr) (fun i _ => 7 - (intOf i).toNat)
  case atStart => exact ⟨0, 1, s, by omega, rfl, rfl, rfl, MixRel.start _ _ _ _ _⟩
  case round =>
    obtain ⟨k, n, t, hk, rfl, hn, HT, R⟩ := hrel
    have HN : Hid (n = (k : Int) + 1) := hn
    by_cases hlt : n ≤ 6
    · have ht : t.ok := by rw [HT.out]; exact mixTo_ok HS.out k
      have HO : Hid t.ok := ht
      have m0 : 1 ≤ n := by omega
      have HM : Hid (sums (pows n t) = mixTo s (k + 1)) := by rw [hn, HT.out]; rfl
      clear hn ht
      go_wp2
      generalize hwr : wr = w1 at *
      clear hwr
      go_loopw [5] (fun i wr => ∃ j : Nat, j ≤ 3 ∧ i = .int .i64 j ∧ PowRel 185 w t (pows n t) w1.heap.size j wr) (fun i _ => 3 - (intOf i).toNat)
      case atStart => exact ⟨0, by omega, rfl, PowRel.start R _⟩
      case round =>
        clear R
        obtain ⟨j, hj, rfl, R⟩ := hrel
        by_cases hj3 : j < 3
        · have c1 : wr.cell? ⟨w.heap.size, j, none⟩ = some (.int .u64 (t.at j)) := by rw [R.mix.box.cell hj3, fnT_at hj3]
          obtain ⟨m, hm⟩ : ∃ m, n * ((j : Int) + 1) = m := ⟨_, rfl⟩
          have HP : Hid ((pows n t).at j = powP (addP (t.at j) m)) := pows_at n t hj3 hm.symm
          have bm : 0 ≤ m ∧ m ≤ 18 := by
            rcases lt3 hj3 with rfl | rfl | rfl <;> omega
          obtain ⟨bm0, bm1⟩ := bm
          have o1 : okW (t.at j) := okP_W (Tri.at_ok HO.out j)
          have o2 : okW m := ⟨by omega, by omega⟩
          have c3 := rowToW_cell R.row hj3
          have f3 := R.row.frozen j
          go_wp2_with (go_at_call 172; refine (rplus_calls _ _ o1 o2 _).mono ?_; rintro e w' ⟨rfl, hw'⟩; replace hw' := hw'.symm; subst hw')
          have oX := addP_ok (t.at j) m
          have HQ := HP.out
          generalize addP (t.at j) m = X at *
          replace HQ : Hid ((pows n t).at j = powP X) := HQ
          clear HP hm
          go_loop [7, 8] (fun y i => ∃ (q : Nat) (x : Int), q ≤ 4 ∧ i = .int .i64 q ∧ y = .int .u64 x ∧ Hid (x = sqTo X q)) (fun _ i => 4 - (intOf i).toNat)
          case atStart => exact ⟨0, X, by omega, rfl, rfl, rfl⟩
          case round =>
            obtain ⟨q, x, hq, rfl, rfl, HX⟩ := hrel
            have ox : okP x := by rw [HX.out]; exact sqTo_ok oX q
            by_cases hq4 : q < 4
            · go_wp2_with (go_at_call 177; refine (rtimes_calls _ _ ox ox _).mono ?_; rintro e w' ⟨rfl, hw'⟩; replace hw' := hw'.symm; subst hw')
              go_round
              case rel => exact ⟨q + 1, _, by omega, by go_num, rfl, by rw [HX.out]; rfl⟩
              case measure => simp [intOf]; omega
            · obtain rfl : q = 4 := by omega
              go_wp2_with (go_at_call 177; refine (rtimes_calls _ _ ox oX _).mono ?_; rintro e w' ⟨rfl, hw'⟩; replace hw' := hw'.symm; subst hw')
              go_roundw
              case rel => exact ⟨j + 1, by omega, by go_num, R.step (by rw [HQ.out, HX.out]; rfl)⟩
              case measure => simp [intOf]; omega
        · have e3 : j = 3 := by omega
          have S := SumRel.start (e3 ▸ R) (sums (pows n t))
          clear e3
          have hp := pows_ok n t
          have HQ : Hid (∀ i, i < 3 → (sums (pows n t)).at i = addP (addP (pows n t).x (pows n t).y) (addP (pows n t).z ((pows n t).at i))) := fun i hi => sums_at _ hi
          clear R
          generalize pows n t = p at *
          generalize hwr : wr = w2 at *
          clear hwr
          go_wp2
          go_loopw [9] (fun i wr => ∃ j : Nat, j ≤ 3 ∧ i = .int .i64 j ∧ SumRel 185 w t p (sums p) w1.heap.size j wr) (fun i _ => 3 - (intOf i).toNat)
          case atStart => exact ⟨0, by omega, rfl, S⟩
          case round =>
            clear S
            obtain ⟨j, hj, rfl, S⟩ := hrel
            by_cases hj3 : j < 3
            · have c1 := half_cell S hj3
              have f1 := S.box.frozen j
              obtain ⟨r0, r1, r2⟩ := fnT_cells S.row
              have r3 : wr.cell? ⟨w1.heap.size, j, none⟩ = some (.int .u64 (p.at j)) := by rw [S.row.cell hj3, fnT_at hj3]
              have o0 := okP_W hp.1
              have o1 := okP_W hp.2.1
              have o2 := okP_W hp.2.2
              have o3 := okP_W (Tri.at_ok hp j)
              have o4 := okP_W (addP_ok p.x p.y)
              have o5 := okP_W (addP_ok p.z (p.at j))
              have HR : Hid ((sums p).at j = addP (addP p.x p.y) (addP p.z (p.at j))) := HQ.out j hj3
              have T1 : ∀ v : Value, (wr.setCell ⟨w.heap.size, j, none⟩ v).drew.cell? ⟨w1.heap.size, 0, none⟩ = some (.int .u64 p.x) ∧ (wr.setCell ⟨w.heap.size, j, none⟩ v).drew.cell? ⟨w1.heap.size, 1, none⟩ = some (.int .u64 p.y) ∧ (wr.setCell ⟨w.heap.size, j, none⟩ v).drew.cell? ⟨w1.heap.size, 2, none⟩ = some (.int .u64 p.z) ∧ (wr.setCell ⟨w.heap.size, j, none⟩ v).drew.cell? ⟨w1.heap.size, j, none⟩ = some (.int .u64 (p.at j)) := by
                intro v
                have hge := S.ge
                have h : (wr.setCell ⟨w.heap.size, j, none⟩ v).drew.rowIs w1.heap.size 185 3 (fnT p) := rowIs_drewN (S.row.setOther (by simp; omega) v) 1
                obtain ⟨z0, z1, z2⟩ := fnT_cells h
                exact ⟨z0, z1, z2, by rw [h.cell hj3, fnT_at hj3]⟩
              go_wp2
              go_region_held3 (fun q => q.cell? ⟨w1.heap.size, 0, none⟩ = some (.int .u64 p.x) ∧ q.cell? ⟨w1.heap.size, 1, none⟩ = some (.int .u64 p.y) ∧ q.cell? ⟨w1.heap.size, 2, none⟩ = some (.int .u64 p.z) ∧ q.cell? ⟨w1.heap.size, j, none⟩ = some (.int .u64 (p.at j))) (first | go_keep | with_reducible exact T1 _)
                (first | (go_at_call 172; refine (rplus_calls _ _ (by with_reducible assumption) (by with_reducible assumption) _).mono ?_; rintro e w' ⟨rfl, rfl⟩))
              go_wp2
              go_roundw
              case rel => exact ⟨j + 1, by omega, by go_num, S.step HR.out 1⟩
              case measure => simp [intOf]; omega
            · obtain rfl : j = 3 := by omega
              go_wp2
              go_roundw
              case rel =>
                have hn := HN.out
                exact ⟨k + 1, _, _, by omega, rfl, by omega, HM.out, S.end⟩
              case measure => simp [intOf]; omega
    · have e7 : n = 7 := by omega
      subst e7
      obtain rfl : k = 6 := by omega
      obtain ⟨c0, c1, c2⟩ := fnT_cells R.box
      obtain ⟨r0, r1, r2⟩ := fnT_cells R.res
      have f0 := R.res.frozen 0
      have f1 := R.res.frozen 1
      have f2 := R.res.frozen 2
      go_wp2
      have hq := fnT_set3 R.res t.x t.y t.z
      obtain ⟨q0, q1, q2⟩ := fnT_cells hq
      refine bodyPost_ret (v := aggT t) (by simp [results, Tryz.results171, go_sem, q0, q1, q2, aggT]) rfl ⟨by rw [HT.out]; rfl, ?_⟩
      exact ((R.old.setCell (Nat.le_succ _) _).setCell (Nat.le_succ _) _).setCell (Nat.le_succ _) _

theorem rmixed3 (x y z : Int) (hx : okP x) (hy : okP y) (hz : okP z) (w : World) : Calls Tryz.prog 171 #[.agg #[.int .u64 x, .int .u64 y, .int .u64 z]] w fun e w' =>
    ∃ m : Tri, Hid (m = mixP ⟨x, y, z⟩) ∧ e = .returned (.agg #[.int .u64 m.x, .int .u64 m.y, .int .u64 m.z]) ∧ Below w.heap.size w w' := by
  refine (rmixed_calls ⟨x, y, z⟩ ⟨hx, hy, hz⟩ w).mono ?_
  rintro e w' ⟨rfl, h⟩
  exact ⟨_, rfl, rfl, h⟩

end Go.Proofs.YtimciamfgpdjlaaGreat.Fx

/- What coachref.Of, Pair, Word and Numbers return, whatever words or integers lie there. -/
namespace Go.Proofs.YtimciamfgpdjlaaGreat.Fx
open Go.RowKit

set_option maxHeartbeats 1600000 in
theorem rof_calls (kind : Int) (hk : okW kind) (a : Option Addr) (len cap : Nat) (xs : List Int) (w : World) (ha : LstW w a len cap xs) (hx : okL xs) (hlen : len ≤ 200) :
    Calls Tryz.prog 156 #[.int .u64 kind, .slice a len cap] w fun e w' => e = .returned (.int .u64 (ofP kind xs)) ∧ Below w.heap.size w w' := by
  obtain ⟨k0, k1⟩ := hk
  have p0 : okP (kind % 2305843009213693951) := ⟨by omega, by omega⟩
  have p1 : okP (len : Int) := ⟨by omega, by omega⟩
  have p2 : okP 1 := ⟨by omega, by omega⟩
  have HX : Hid (okL xs) := hx
  have HL : Hid (xs.length = len) := ha.len
  clear hx
  go_enter Tryz.func156, Tryz.ntmps156
  go_wp2_with (go_at_call 171; refine (rmixed3 _ _ _ p0 p1 p2 _).mono ?_; rintro e w1 ⟨m, HM, rfl, hw1⟩)
  go_loopw [6] (fun i wr => ∃ (k : Nat) (t : Tri), k ≤ len ∧ i = .int .i64 k ∧ Hid (t = ofTo kind xs k) ∧ OfRel 185 w w1.heap.size t wr) (fun i _ => len - (intOf i).toNat)
  case atStart => exact ⟨0, m, Nat.zero_le _, rfl, by rw [HM.out, ← HL.out]; rfl, OfRel.start hw1 _ _ _⟩
  case round =>
    obtain ⟨k, t, hk, rfl, HT, R⟩ := hrel
    obtain ⟨c0, c1, c2⟩ := fnT_cells R.box
    by_cases hlt : k < len
    · obtain ⟨b1, o1, y, rfl, s1, g1, HY⟩ := ha.at1b R.old (Nat.le_refl _) hlt
      have ht : t.ok := by rw [HT.out]; exact ofTo_ok _ _ _
      obtain ⟨t0, t1, t2⟩ := ht
      have hy : okW y := by rw [← HY.out]; exact HX.out k (by rw [HL.out]; exact hlt)
      have t0' := okP_W t0
      have f0 := R.box.frozen 0
      have hne : b1 ≠ w1.heap.size := by have := R.ge; omega
      clear ha
      go_wp2
      go_region_with ((go_at_call 172; refine (rplus_calls _ _ t0' hy _).mono ?_; rintro e w' ⟨rfl, rfl⟩))
      all_goals
        have R1 : OfRel 185 w w1.heap.size ⟨addP t.x y, t.y, t.z⟩ (wr.setCell ⟨w1.heap.size, 0, none⟩ (.int .u64 (addP t.x y))).drew := (R.set0 _).drewN 1
        generalize hq : (wr.setCell ⟨w1.heap.size, 0, none⟩ (.int .u64 (addP t.x y))).drew = wq at *
        clear hq c0 c1 c2 f0 g1 R
        obtain ⟨d0, d1, d2⟩ := fnT_cells R1.box
        go_wp2_with (go_at_call 171; refine (rmixed3 _ _ _ (addP_ok _ _) t1 t2 _).mono ?_; rintro e w2 ⟨m2, HM2, rfl, hw2⟩; have R2 := R1.below hw2; obtain ⟨e0, e1, e2⟩ := fnT_cells R2.box; have z0 := R2.box.frozen 0; have z1 := R2.box.frozen 1; have z2 := R2.box.frozen 2)
        go_roundw
        case rel => exact ⟨k + 1, _, by omega, by go_num, by rw [HM2.out, HT.out, ← HY.out]; rfl, R2.set _ _ _⟩
        case measure => simp [intOf]; omega
    · obtain rfl : k = len := by omega
      go_wp2
      go_ret
      exact ⟨ret_word (by rw [HT.out]; unfold ofP; rw [HL.out]), R.old⟩

theorem rPair_calls (a b : Int) (ha : okW a) (hb : okW b) (w : World) : Calls Tryz.prog 121 #[.int .u64 a, .int .u64 b] w fun e w' => e = .returned (.int .u64 (ofP 3 [a, b])) ∧ Below w.heap.size w w' := by
  go_enter Tryz.func121, Tryz.ntmps121
  go_wp2_with (go_at_call 156; refine (rof_calls _ ⟨by omega, by omega⟩ _ _ _ [a, b] _ (LstW.two _ _ _ _) (okL_two ha hb) (by omega)).mono ?_; rintro e w' ⟨rfl, hw⟩)
  go_ret
  exact ⟨rfl, ((Below.refl _ _).alloc (Nat.le_refl _) _).trans (hw.mono (by simp))⟩

theorem rWord_calls (a b : Int) (ha : okW a) (hb : okW b) (w : World) : Calls Tryz.prog 111 #[.int .u64 a, .int .u64 b] w fun e w' => e = .returned (.int .u64 (ofP 2 [a, b])) ∧ Below w.heap.size w w' := by
  go_enter Tryz.func111, Tryz.ntmps111
  go_wp2_with (go_at_call 156; refine (rof_calls _ ⟨by omega, by omega⟩ _ _ _ [a, b] _ (LstW.two _ _ _ _) (okL_two ha hb) (by omega)).mono ?_; rintro e w' ⟨rfl, hw⟩)
  go_ret
  exact ⟨rfl, ((Below.refl _ _).alloc (Nat.le_refl _) _).trans (hw.mono (by simp))⟩

theorem bound_hi {x : Int} (h : 4294967296 < x) : boundP x = 8589934592 := by unfold boundP; rw [if_neg (by omega), if_pos h]; rfl
theorem bound_lo {x : Int} (h : x < -4294967296) : boundP x = 0 := by unfold boundP; rw [if_pos h]; rfl
theorem bound_in {x : Int} (h : ¬ 4294967296 < x) (h2 : ¬ x < -4294967296) : boundP x = x + 4294967296 := by unfold boundP; rw [if_neg h2, if_neg h]

set_option maxHeartbeats 1600000 in
theorem rNumbers_calls (a : Option Addr) (la ca : Nat) (xs : List Int) (w : World) (ha : Lst w a la ca xs) (hl : la ≤ 200) :
    Calls Tryz.prog 159 #[.slice a la ca] w fun e w' => ∃ a' c', e = .returned (.slice a' la c') ∧ LstW w' a' la c' ((List.range la).map (numG xs)) ∧ Below w.heap.size w w' := by
  go_enter Tryz.func159, Tryz.ntmps159
  go_wp2
  go_loopw [3, 4] (fun v i wr => ∃ k : Nat, k ≤ la ∧ i = .int .i64 k ∧ OwnW w.heap.size wr v ((List.range k).map (numG xs)) ∧ Below w.heap.size w wr) (fun _ i _ => la - (intOf i).toNat)
  case atStart => exact ⟨0, Nat.zero_le _, rfl, OwnW.nil _ _, Below.refl _ _⟩
  case round =>
    obtain ⟨k, hk, rfl, hown, hbel⟩ := hrel
    have hsz := hbel.size
    by_cases hlt : k < la
    · obtain ⟨b1, o1, x, rfl, s1, c1, HX⟩ := ha.at1b hbel (Nat.le_refl _) hlt
      clear ha
      by_cases h1 : 4294967296 < x
      · have HB : Hid (numG xs k = 8589934592) := by unfold numG; rw [HX.out]; exact bound_hi h1
        go_wp2_with (at_builtin; refine wpList_append_word (by rfl) _ _ (by rfl) w.heap.size _ ((List.range k).map (numG xs)) 8589934592 wr.heap.size wr (by rfl) (by rfl) (by exact hown.alloc _) (by exact cell_new _ _ _) (by simp; omega) (by simp; omega) (by exact (Below.refl _ _).alloc (by omega) _) ?_; intro v1 w3 hown1 hbel1)
        go_roundw
        case rel => exact ⟨k + 1, by omega, by go_num, hown1.congr (range_snocW _ _ _ HB.out), hbel.trans hbel1⟩
        case measure => simp [intOf]; omega
      · by_cases h2 : x < -4294967296
        · have HB : Hid (numG xs k = 0) := by unfold numG; rw [HX.out]; exact bound_lo h2
          go_wp2_with (at_builtin; refine wpList_append_word (by rfl) _ _ (by rfl) w.heap.size _ ((List.range k).map (numG xs)) 0 wr.heap.size wr (by rfl) (by rfl) (by exact hown.alloc _) (by exact cell_new _ _ _) (by simp; omega) (by simp; omega) (by exact (Below.refl _ _).alloc (by omega) _) ?_; intro v1 w3 hown1 hbel1)
          go_roundw
          case rel => exact ⟨k + 1, by omega, by go_num, hown1.congr (range_snocW _ _ _ HB.out), hbel.trans hbel1⟩
          case measure => simp [intOf]; omega
        · have HB : Hid (numG xs k = x + 4294967296) := by unfold numG; rw [HX.out]; exact bound_in h1 h2
          go_wp2_with (at_builtin; refine wpList_append_word (by rfl) _ _ (by rfl) w.heap.size _ ((List.range k).map (numG xs)) (x + 4294967296) wr.heap.size wr (by rfl) (by rfl) (by exact hown.alloc _) (by exact cell_new _ _ _) (by simp; omega) (by simp; omega) (by exact (Below.refl _ _).alloc (by omega) _) ?_; intro v1 w3 hown1 hbel1)
          go_roundw
          case rel => exact ⟨k + 1, by omega, by go_num, hown1.congr (range_snocW _ _ _ HB.out), hbel.trans hbel1⟩
          case measure => simp [intOf]; omega
    · obtain rfl : k = la := by omega
      obtain ⟨a1, c1, rfl, hl1⟩ := hown.lst' (n := k) (by simp)
      go_wp2
      go_ret
      exact ⟨_, _, rfl, hl1, hbel⟩

end Go.Proofs.YtimciamfgpdjlaaGreat.Fx
