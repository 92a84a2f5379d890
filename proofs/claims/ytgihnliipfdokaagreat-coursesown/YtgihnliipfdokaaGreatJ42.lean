/- What train.Run returns of right things: its states lie in blocks of their own. -/
import Derived.Test.YtgihnliipfdokaaGreatJ35
import Derived.Test.YtgihnliipfdokaaGreatJ21
import Derived.Test.YtgihnliipfdokaaGreatJ25
namespace Go.Proofs.YtgihnliipfdokaaGreat.Fx
open Go.RowKit

theorem tRun_fine (c : Cfg) (hs : okW c.seed) (a : Option Addr) (n cap : Nat) (X : Nat → Exm) (DI DO : Nat → List Int) (M : Nat) (w : World) (hx : Exs w a n cap X DI DO) (h0 : courseI c n X DI DO = 0) (hm : (M : Int) ≤ c.steps) :
    Calls Tryz.prog 18 #[c.val, .slice a n cap, .int .i64 M] w fun e w' => ∃ g Y, e = .returned (.tuple #[.slice (some ⟨g, 0, none⟩) (M + 1) (M + 1), .int .i64 0]) ∧ w.heap.size ≤ g ∧ w'.rowIs g 35 ((M + 1) * 2) (outF Y (M + 1)) ∧ StIn w' w.heap.size g (sizeN c).toNat M Y (stW c n DI DO) (stM c n DI DO) ∧ Below w.heap.size w w' := by
  obtain ⟨hc, hn1, hn2, hex⟩ := course_ok h0
  obtain ⟨⟨i1, i2⟩, ⟨h1, h2⟩, ⟨o1, o2⟩, ⟨b1, b2⟩, _⟩ := cfgB_is hc
  have hzn := sizeN_bd hc
  obtain ⟨N, hNz⟩ := Int.eq_ofNat_of_zero_le (show 0 ≤ sizeN c by omega)
  have hNt : (sizeN c).toNat = N := by rw [hNz]; rfl
  have e1 : stW c n DI DO = fun j => (stateP c n DI DO N j).1 := by funext j; unfold stW; rw [hNt]
  have e2 : stM c n DI DO = fun j => (stateP c n DI DO N j).2 := by funext j; unfold stM; rw [hNt]
  have HC : Hid (∀ q, Below w.heap.size w q → Calls Tryz.prog 25 #[c.val, .slice a n cap] q fun e w' => e = .returned (.int .i64 0) ∧ Below q.heap.size q w') := fun q hq => by
    have h := tcheck_calls c a n cap X DI DO q (hx.below hq (Nat.le_refl _))
    rw [h0] at h
    exact h
  rw [e1, e2, hNt]
  clear e1 e2 hNt h0
  obtain ⟨i, h, o, seed, batch, steps, crate, decay, how, keep, clip⟩ := c
  dsimp only at i1 i2 h1 h2 o1 o2 b1 b2 hs hm
  obtain ⟨I, rfl⟩ := Int.eq_ofNat_of_zero_le (show 0 ≤ i by omega)
  obtain ⟨H, rfl⟩ := Int.eq_ofNat_of_zero_le (show 0 ≤ h by omega)
  obtain ⟨O, rfl⟩ := Int.eq_ofNat_of_zero_le (show 0 ≤ o by omega)
  obtain ⟨B, rfl⟩ := Int.eq_ofNat_of_zero_le (show 0 ≤ batch by omega)
  have hN : N = H * I + H + O * H + O := by have := hNz.symm; unfold sizeN at this; dsimp only at this; exact_mod_cast this
  exact tRun_own I H O B seed crate decay how keep clip hs steps hc N hN a n cap X DI DO M w hx hn1 hn2 hex hm HC
end Go.Proofs.YtgihnliipfdokaaGreat.Fx

/- What coachkeep.spoil does to a list of integers that lies in a block of its own; what coachref.SameState returns of any two states. -/
namespace Go.Proofs.YtgihnliipfdokaaGreat.Fx
open Go.RowKit

/-- Only that block was written. -/
structure OnlyB (g : Nat) (w w' : World) : Prop where
  size : w'.heap.size = w.heap.size
  blk : ∀ b, b ≠ g → w'.heap[b]? = w.heap[b]?
  bel : ∀ B W, B ≤ g → Below B W w → Below B W w'
theorem OnlyB.refl (g : Nat) (w : World) : OnlyB g w w := ⟨rfl, fun _ _ => rfl, fun _ _ _ h => h⟩
theorem OnlyB.set {g : Nat} {w q : World} (h : OnlyB g w q) (i : Nat) (v : Value) : OnlyB g w (q.setCell ⟨g, i, none⟩ v) :=
  ⟨by rw [World.size_setCell]; exact h.size, fun b hb => (Go.Deep.blk_setCell_other q ⟨g, i, none⟩ v b hb).trans (h.blk b hb), fun B W hB hw => (h.bel B W hB hw).setCell hB v⟩
theorem OnlyB.row {g : Nat} {w q : World} (h : OnlyB g w q) {b t n : Nat} {f : Nat → Value} (hr : w.rowIs b t n f) (hb : b ≠ g) : q.rowIs b t n f := hr.of_block (h.blk b hb)
theorem OnlyB.arr {g : Nat} {w q : World} (h : OnlyB g w q) {b c n : Nat} {f : Nat → Int} (hr : Arr w b c n f) (hb : b ≠ g) : Arr q b c n f := by
  obtain ⟨hc, F, hr, hf⟩ := hr
  exact ⟨hc, F, h.row hr hb, hf⟩
theorem OnlyB.st1 {g : Nat} {w q : World} (h : OnlyB g w q) {base OB N : Nat} {x : Exm} {WL ML : List Int} (hs : St1 w base OB N x WL ML) (ha : x.a ≠ some ⟨g, 0, none⟩) (hb : x.b ≠ some ⟨g, 0, none⟩) : St1 q base OB N x WL ML := by
  obtain ⟨g1, d1, g2, d2, rfl, b1, b2, b3, b4, b5, b6, a1, a2⟩ := hs
  refine ⟨g1, d1, g2, d2, rfl, b1, b2, b3, b4, b5, b6, h.arr a1 (fun e => ha (by rw [e])), h.arr a2 (fun e => hb (by rw [e]))⟩

set_option maxHeartbeats 800000 in
theorem spoil_calls (g N d : Nat) (f : Nat → Int) (x : Int) (w : World) (h : Arr w g d N f) (hd : d ≤ 9223372036854775807) :
    Calls Tryz.prog 19 #[.slice (some ⟨g, 0, none⟩) N d, .int .i64 x] w fun e w' => e = .returned (.tuple #[]) ∧ Arr w' g d N (fun _ => x) ∧ OnlyB g w w' := by
  have hNd := h.cap
  have HA : Hid (∃ F, w.rowIs g 3 d F) := by obtain ⟨_, F, hr, _⟩ := h; exact ⟨F, hr⟩
  clear h
  go_enter Tryz.func19, Tryz.ntmps19
  go_wp2_with fail
  go_loopw [11] (fun v wr => ∃ k : Nat, k ≤ d ∧ v = .int .i64 k ∧ (∃ F, wr.rowIs g 3 d F ∧ ∀ i, i < k → F i = .int .i64 x) ∧ OnlyB g w wr) (fun v _ => d - (intOf v).toNat)
  case atStart =>
    obtain ⟨F, hr⟩ := HA.out
    exact ⟨0, Nat.zero_le _, rfl, ⟨F, hr, fun i hi => by omega⟩, OnlyB.refl _ _⟩
  case round =>
    obtain ⟨k, hk, rfl, ⟨F, hr, hf⟩, ho⟩ := hrel
    have HF : Hid (∀ i, i < k → F i = .int .i64 x) := hf
    clear hf
    by_cases hlt : k < d
    · have c1 := hr.cell hlt
      have f1 := hr.frozen k
      have HR : Hid (wr.rowIs g 3 d F) := hr
      clear hr
      go_wp2_with fail
      go_roundw
      case rel =>
        refine ⟨k + 1, by omega, by go_num, ⟨_, HR.out.set k (.int .i64 x), fun i hi => ?_⟩, ho.set k _⟩
        by_cases e : i = k
        · simp only [if_pos e]
        · simp only [if_neg e]; exact HF.out i (by omega)
      case measure => simp [intOf]; omega
    · obtain rfl : k = d := by omega
      go_wp2_with fail
      go_end0
      exact ⟨rfl, ⟨hNd, F, hr, fun i hi => HF.out i (by omega)⟩, ho⟩

set_option maxHeartbeats 800000 in
theorem rsameS_any (a1 : Option Addr) (n1 k1 : Nat) (a2 : Option Addr) (n2 k2 : Nat) (b1 : Option Addr) (m1 d1 : Nat) (b2 : Option Addr) (m2 d2 : Nat) (XS YS ZS US : List Int) (w : World) (l1 : Lst w a1 n1 k1 XS) (l2 : Lst w a2 n2 k2 YS) (l3 : Lst w b1 m1 d1 ZS) (l4 : Lst w b2 m2 d2 US) (h1 : n1 ≤ 200) (h2 : n2 ≤ 200) :
    Calls Tryz.prog 21 #[.agg #[.slice a1 n1 k1, .slice a2 n2 k2], .agg #[.slice b1 m1 d1, .slice b2 m2 d2]] w fun e w' => e = .returned (.bool (decide (XS = ZS) && decide (YS = US))) ∧ Below w.heap.size w w' := by
  have hal := ((Below.refl w.heap.size w).alloc (Nat.le_refl _) (.cells #[.slice a1 n1 k1, .slice a2 n2 k2] 35)).alloc (by simp) (.cells #[.slice b1 m1 d1, .slice b2 m2 d2] 35)
  have l1 := l1.below hal (Nat.le_refl _)
  have l2 := l2.below hal (Nat.le_refl _)
  have l3 := l3.below hal (Nat.le_refl _)
  have l4 := l4.below hal (Nat.le_refl _)
  by_cases e1 : XS = ZS
  · rw [decide_eq_true e1, Bool.true_and]
    obtain ⟨r, HR⟩ : ∃ r, Hid (decide (YS = US) = r) := ⟨_, rfl⟩
    rw [HR.out]
    subst e1
    go_enter Tryz.func21, Tryz.ntmps21
    go_wp2_with fail
    refine (eq_calls _ _ _ _ _ _ XS XS _ l1 l3 (by omega)).mono ?_
    rintro e w1 ⟨rfl, k5, hw5⟩
    subst hw5
    rw [decide_eq_true (Eq.refl XS)]
    go_wp2_with fail
    refine (eq_calls _ _ _ _ _ _ YS US _ (l2.drewN _) (l4.drewN _) (by omega)).mono ?_
    rintro e w1 ⟨rfl, k6, hw6⟩
    subst hw6
    rw [HR.out]
    go_wp2
    go_ret
    exact ⟨rfl, below_drewN hal _⟩
  · rw [decide_eq_false e1, Bool.false_and]
    go_enter Tryz.func21, Tryz.ntmps21
    go_wp2_with fail
    refine (eq_calls _ _ _ _ _ _ XS ZS _ l1 l3 (by omega)).mono ?_
    rintro e w1 ⟨rfl, k5, hw5⟩
    subst hw5
    rw [decide_eq_false e1]
    go_wp2_with fail
    go_ret
    exact ⟨rfl, below_drewN hal _⟩
end Go.Proofs.YtgihnliipfdokaaGreat.Fx
