/- Package optim in plain numbers: what Check, Rate, Clip and Step tell of whatever is handed in; and how a config lies in memory; no function of the program is spoken of. -/
import Derived.Test.YtfkalnehomgccaaPups
namespace Go.Proofs.Ytfkalnehomgccaa.Fx
open Go.RowKit

/-- A config's numbers. -/
structure Cfg where
  i : Int
  h : Int
  o : Int
  seed : Int
  batch : Int
  steps : Int
  rate : Int
  decay : Int
  how : Int
  keep : Int
  clip : Int
def Cfg.cells (c : Cfg) : Array Value := #[.int .i64 c.i, .int .i64 c.h, .int .i64 c.o, .int .u64 c.seed, .int .i64 c.batch, .int .i64 c.steps, .int .i64 c.rate, .int .i64 c.decay, .int .i64 c.how, .int .i64 c.keep, .int .i64 c.clip]
def Cfg.val (c : Cfg) : Value := .agg c.cells
/-- A config that was laid, in whatever world that left it. -/
structure BoxC (w : World) (b : Nat) (c : Cfg) : Prop where
  c0 : w.cell? ⟨b, 0, none⟩ = some (.int .i64 c.i)
  c1 : w.cell? ⟨b, 1, none⟩ = some (.int .i64 c.h)
  c2 : w.cell? ⟨b, 2, none⟩ = some (.int .i64 c.o)
  c3 : w.cell? ⟨b, 3, none⟩ = some (.int .u64 c.seed)
  c4 : w.cell? ⟨b, 4, none⟩ = some (.int .i64 c.batch)
  c5 : w.cell? ⟨b, 5, none⟩ = some (.int .i64 c.steps)
  c6 : w.cell? ⟨b, 6, none⟩ = some (.int .i64 c.rate)
  c7 : w.cell? ⟨b, 7, none⟩ = some (.int .i64 c.decay)
  c8 : w.cell? ⟨b, 8, none⟩ = some (.int .i64 c.how)
  c9 : w.cell? ⟨b, 9, none⟩ = some (.int .i64 c.keep)
  c10 : w.cell? ⟨b, 10, none⟩ = some (.int .i64 c.clip)
theorem boxC {w wr : World} {B : Nat} {c : Cfg} {t : TypeId} (hb : Below B (w.alloc (.cells c.cells t)) wr) (hB : w.heap.size < B) : BoxC wr w.heap.size c :=
  ⟨boxN _ _ hb hB 0, boxN _ _ hb hB 1, boxN _ _ hb hB 2, boxN _ _ hb hB 3, boxN _ _ hb hB 4, boxN _ _ hb hB 5, boxN _ _ hb hB 6, boxN _ _ hb hB 7, boxN _ _ hb hB 8, boxN _ _ hb hB 9, boxN _ _ hb hB 10⟩

/-- Whether a config is such as may be. -/
def cfgB (c : Cfg) : Bool :=
  inB c.i 1 4 && inB c.h 1 4 && inB c.o 1 4 && inB c.batch 1 8 && inB c.steps 1 40 && inB c.rate 0 2147483647 && inB c.decay 0 1 && inB c.how 0 1 && inB c.keep 0 65536 && inB c.clip 0 2147483647
def cfgI (c : Cfg) : Int := if cfgB c = true then 0 else 1
theorem cfgB_is {c : Cfg} (h : cfgB c = true) : (1 ≤ c.i ∧ c.i ≤ 4) ∧ (1 ≤ c.h ∧ c.h ≤ 4) ∧ (1 ≤ c.o ∧ c.o ≤ 4) ∧ (1 ≤ c.batch ∧ c.batch ≤ 8) ∧ (1 ≤ c.steps ∧ c.steps ≤ 40) ∧ (0 ≤ c.rate ∧ c.rate ≤ 2147483647) ∧ (0 ≤ c.decay ∧ c.decay ≤ 1) ∧ (0 ≤ c.how ∧ c.how ≤ 1) ∧ (0 ≤ c.keep ∧ c.keep ≤ 65536) ∧ (0 ≤ c.clip ∧ c.clip ≤ 2147483647) := by
  simp only [cfgB, Bool.and_eq_true] at h
  obtain ⟨⟨⟨⟨⟨⟨⟨⟨⟨h1, h2⟩, h3⟩, h4⟩, h5⟩, h6⟩, h7⟩, h8⟩, h9⟩, h10⟩ := h
  exact ⟨in_is h1, in_is h2, in_is h3, in_is h4, in_is h5, in_is h6, in_is h7, in_is h8, in_is h9, in_is h10⟩
theorem cfgI_yes {c : Cfg} (h : cfgB c = true) : cfgI c = 0 := by unfold cfgI; rw [if_pos h]
theorem cfgI_no {c : Cfg} (h : cfgB c = false) : cfgI c = 1 := by unfold cfgI; rw [if_neg (by rw [h]; decide)]

/-! Rate. -/
def rateE (c : Cfg) (step : Int) : Int := if cfgB c = true ∧ inB step 0 (c.steps - 1) = true then 0 else 1
def rateV (c : Cfg) (step : Int) : Int := if c.decay = 1 then mulI c.rate (divI (c.steps - step) c.steps) else c.rate
def rateI (c : Cfg) (step : Int) : Int := if cfgB c = true ∧ inB step 0 (c.steps - 1) = true then rateV c step else 0

/-! Clip. -/
def absI (n : Int) : Int := if n < 0 then -n else n
theorem absI_neg (n : Int) : absI (-n) = absI n := by unfold absI; (repeat' split) <;> omega
theorem absI_bd {n B : Int} (h0 : -B ≤ n) (h1 : n ≤ B) : 0 ≤ absI n ∧ absI n ≤ B := by unfold absI; split <;> omega
/-- The greatest of the first k, without signs. -/
def topTo (g : Nat → Int) : Nat → Int
  | 0 => 0
  | k + 1 => if topTo g k < absI (g k) then absI (g k) else topTo g k
theorem topTo_bd {g : Nat → Int} {n : Nat} (h : ∀ i, i < n → -2147483647 ≤ g i ∧ g i ≤ 2147483647) : 0 ≤ topTo g n ∧ topTo g n ≤ 2147483647 := by
  induction n with
  | zero => exact ⟨Int.le_refl _, by show (0 : Int) ≤ 2147483647; omega⟩
  | succ k ih =>
    have a := absI_bd (h k (by omega)).1 (h k (by omega)).2
    have b := ih (fun i hi => h i (by omega))
    unfold topTo
    split <;> omega
theorem topTo_congr {f g : Nat → Int} {n : Nat} (h : ∀ i, i < n → f i = g i) : topTo f n = topTo g n := by
  induction n with
  | zero => rfl
  | succ k ih =>
    unfold topTo
    rw [ih (fun i hi => h i (by omega)), h k (by omega)]
theorem topTo_neg {f g : Nat → Int} {n : Nat} (h : ∀ i, i < n → f i = -g i) : topTo f n = topTo g n := by
  induction n with
  | zero => rfl
  | succ k ih =>
    unfold topTo
    rw [ih (fun i hi => h i (by omega)), h k (by omega), absI_neg]
def clampG (xs : List Int) (i : Nat) : Int := clampI (xs.getD i 0)
theorem clampG_bd (xs : List Int) (i : Nat) : -2147483647 ≤ clampG xs i ∧ clampG xs i ≤ 2147483647 := clampI_bd _
def topL (xs : List Int) (la : Nat) : Int := topTo (clampG xs) la
theorem topL_bd (xs : List Int) (la : Nat) : 0 ≤ topL xs la ∧ topL xs la ≤ 2147483647 := topTo_bd fun i _ => clampG_bd xs i
def clipE (la : Nat) (most : Int) : Int := if 200 < la then 2 else if inB most 0 2147483647 = true then 0 else 1
def clipG (xs : List Int) (most : Int) (la i : Nat) : Int := if most ≠ 0 ∧ most < topL xs la then mulI (xs.getD i 0) (divI most (topL xs la)) else clampI (xs.getD i 0)
def clipL (xs : List Int) (most : Int) (la : Nat) : List Int := if clipE la most = 0 then (List.range la).map (clipG xs most la) else []
theorem mulI_clamp (a b : Int) : mulI (clampI a) b = mulI a b := by unfold mulI; rw [clampI_idem]
theorem mulI_clamp' (a b : Int) : mulI b (clampI a) = mulI b a := by unfold mulI; rw [clampI_idem]

/-! Step. -/
def sizeN (c : Cfg) : Int := c.h * c.i + c.h + c.o * c.h + c.o
def fitB (c : Cfg) (len : Nat) (xs : List Int) : Bool := decide ((len : Int) = sizeN c) && rightB xs
def stepF (c : Cfg) (ws ms : List Int) (nw nm ng : Nat) : Bool := fitB c nw ws && fitB c nm ms && decide (ng = nw)
def stepE (c : Cfg) (ws ms : List Int) (nw nm ng : Nat) (rate : Int) : Int := if cfgB c = true then (if stepF c ws ms nw nm ng = true then (if inB rate 0 2147483647 = true then 0 else 1) else 5) else 1
def moveG (c : Cfg) (ms gs : List Int) (i : Nat) : Int := if c.how = 1 then addI (mulI c.keep (ms.getD i 0)) (gs.getD i 0) else clampI (gs.getD i 0)
def keptG (c : Cfg) (ms gs : List Int) (i : Nat) : Int := if c.how = 1 then moveG c ms gs i else ms.getD i 0
def goneG (c : Cfg) (ws ms gs : List Int) (rate : Int) (i : Nat) : Int := subI (ws.getD i 0) (mulI rate (moveG c ms gs i))
def stepW (c : Cfg) (ws ms gs : List Int) (nw nm ng : Nat) (rate : Int) : List Int := if stepE c ws ms nw nm ng rate = 0 then (List.range ng).map (goneG c ws ms gs rate) else []
def stepM (c : Cfg) (ws ms gs : List Int) (nw nm ng : Nat) (rate : Int) : List Int := if stepE c ws ms nw nm ng rate = 0 then (List.range ng).map (keptG c ms gs) else []
theorem sizeN_bd {c : Cfg} (h : cfgB c = true) : 4 ≤ sizeN c ∧ sizeN c ≤ 40 := by
  obtain ⟨⟨i1, i2⟩, ⟨h1, h2⟩, ⟨o1, o2⟩, _⟩ := cfgB_is h
  have a1 := Int.mul_le_mul_of_nonneg_right (c := c.i) h2 (by omega)
  have a2 := Int.mul_le_mul_of_nonneg_right (c := c.i) h1 (by omega)
  have b1 := Int.mul_le_mul_of_nonneg_right (c := c.h) o2 (by omega)
  have b2 := Int.mul_le_mul_of_nonneg_right (c := c.h) o1 (by omega)
  unfold sizeN
  omega
theorem fit_len {c : Cfg} (h : cfgB c = true) {len : Nat} {xs : List Int} (hf : fitB c len xs = true) : (len : Int) = sizeN c ∧ len ≤ 40 ∧ 4 ≤ len ∧ rightB xs = true := by
  simp only [fitB, Bool.and_eq_true, decide_eq_true_eq] at hf
  have := sizeN_bd h
  exact ⟨hf.1, by omega, by omega, hf.2⟩
end Go.Proofs.Ytfkalnehomgccaa.Fx
