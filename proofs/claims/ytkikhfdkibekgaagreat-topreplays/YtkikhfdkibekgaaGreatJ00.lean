/- The plain numbers of package fix: clamping, rounding to the nearest and of two as near to the even one, and the laws of them that the statements ask; nothing here speaks of the program. -/
import Derived.WalkKit
import Derived.Deep.OwnRows
import Derived.Deep.Draws
import Derived.Test.YtkikhfdkibekgaaGreatRows
import Derived.ProofKit
import Derived.OpenShut
import Derived.ShutString
import Derived.ChangeOld
import Derived.Below
import Derived.SizedLaws
import Derived.Lib.SmallJoins
namespace Go.Proofs.YtkikhfdkibekgaaGreat.Fx

def clampI (n : Int) : Int := if n < -2147483647 then -2147483647 else if 2147483647 < n then 2147483647 else n

/-- n by d, d above 0: the nearest whole number, of two as near the even one. -/
def rnd (n d : Int) : Int := if d < 2 * (n % d) ∨ (2 * (n % d) = d ∧ (n / d) % 2 ≠ 0) then n / d + 1 else n / d

def quoI (n d : Int) : Int := if d < 0 then rnd (-n) (-d) else rnd n d
def addI (a b : Int) : Int := clampI (clampI a + clampI b)
def subI (a b : Int) : Int := clampI (clampI a - clampI b)
def mulI (a b : Int) : Int := clampI (rnd (clampI a * clampI b) 65536)
def divI (a b : Int) : Int := clampI (quoI (clampI a * 65536) (clampI b))

theorem clampI_bd (n : Int) : -2147483647 ≤ clampI n ∧ clampI n ≤ 2147483647 := by unfold clampI; split <;> (try split) <;> omega
theorem clampI_in {n : Int} (h0 : -2147483647 ≤ n) (h1 : n ≤ 2147483647) : clampI n = n := by unfold clampI; rw [if_neg (by omega), if_neg (by omega)]
theorem clampI_idem (n : Int) : clampI (clampI n) = clampI n := clampI_in (clampI_bd n).1 (clampI_bd n).2
theorem clampI_neg (n : Int) : clampI (-n) = -clampI n := by unfold clampI; (repeat' split) <;> omega
theorem clampI_mono {a b : Int} (h : a ≤ b) : clampI a ≤ clampI b := by unfold clampI; (repeat' split) <;> omega
theorem clampI_ne {n : Int} (h : n ≠ 0) : clampI n ≠ 0 := by unfold clampI; (repeat' split) <;> omega

/-- Products of two clamped numbers. -/
theorem prod_bd (x y : Int) (hx : -2147483647 ≤ x ∧ x ≤ 2147483647) (hy : -2147483647 ≤ y ∧ y ≤ 2147483647) : -4611686014132420609 ≤ x * y ∧ x * y ≤ 4611686014132420609 := by
  have h1 : x.natAbs ≤ 2147483647 := by omega
  have h2 : y.natAbs ≤ 2147483647 := by omega
  have h3 : x.natAbs * y.natAbs ≤ 2147483647 * 2147483647 := Nat.mul_le_mul h1 h2
  have h4 : (x * y).natAbs = x.natAbs * y.natAbs := Int.natAbs_mul x y
  omega

/-- What a rounded quotient is: within half of d. -/
theorem rnd_near (n d : Int) (hd : 0 < d) : -d ≤ 2 * (n - rnd n d * d) ∧ 2 * (n - rnd n d * d) ≤ d ∧ (2 * (n - rnd n d * d) = d ∨ 2 * (n - rnd n d * d) = -d → rnd n d % 2 = 0) := by
  have e := Int.mul_ediv_add_emod n d
  have l := Int.emod_nonneg n (b := d) (by omega)
  have u := Int.emod_lt_of_pos n hd
  unfold rnd
  generalize n / d = q at *
  generalize n % d = r at *
  have c : q * d = d * q := Int.mul_comm q d
  split
  · have m : (q + 1) * d = d * q + d := by rw [Int.add_mul, c]; omega
    rw [m]; generalize d * q = p at *; omega
  · rw [c]; generalize d * q = p at *; omega

/-- That is the only such number. -/
theorem rnd_only (n d m : Int) (hd : 0 < d) (h0 : -d ≤ 2 * (n - m * d)) (h1 : 2 * (n - m * d) ≤ d) (h2 : 2 * (n - m * d) = d ∨ 2 * (n - m * d) = -d → m % 2 = 0) : rnd n d = m := by
  obtain ⟨k0, k1, k2⟩ := rnd_near n d hd
  generalize rnd n d = q at *
  have e : (q - m) * d = q * d - m * d := Int.sub_mul q m d
  have b1 : (q - m) * d ≤ d := by omega
  have b2 : -d ≤ (q - m) * d := by omega
  have c1 : q - m ≤ 1 := by
    by_cases c : q - m ≤ 1
    · exact c
    · have : 2 * d ≤ (q - m) * d := Int.mul_le_mul_of_nonneg_right (by omega) (by omega)
      omega
  have c2 : -1 ≤ q - m := by
    by_cases c : -1 ≤ q - m
    · exact c
    · have : (q - m) * d ≤ (-2) * d := Int.mul_le_mul_of_nonneg_right (by omega) (by omega)
      omega
  have three : q - m = 0 ∨ q - m = 1 ∨ q - m = -1 := by omega
  rcases three with t | t | t
  · omega
  · rw [t] at e
    have z1 := k2 (Or.inr (by omega))
    have z2 := h2 (Or.inl (by omega))
    omega
  · rw [t] at e
    have z1 := k2 (Or.inl (by omega))
    have z2 := h2 (Or.inr (by omega))
    omega

theorem rnd_neg (n d : Int) (hd : 0 < d) : rnd (-n) d = -rnd n d := by
  obtain ⟨k0, k1, k2⟩ := rnd_near n d hd
  generalize rnd n d = q at *
  have e : -q * d = -(q * d) := Int.neg_mul q d
  refine rnd_only _ _ _ hd ?_ ?_ ?_
  · rw [e]; omega
  · rw [e]; omega
  · rw [e]; intro h; have := k2 (by omega); omega

theorem rnd_mono {a b d : Int} (hd : 0 < d) (h : a ≤ b) : rnd a d ≤ rnd b d := by
  obtain ⟨k0, k1, k2⟩ := rnd_near a d hd
  obtain ⟨l0, l1, l2⟩ := rnd_near b d hd
  by_cases c : rnd a d ≤ rnd b d
  · exact c
  · generalize rnd a d = p at *
    generalize rnd b d = q at *
    exfalso
    have e : (p - q) * d = p * d - q * d := Int.sub_mul p q d
    have g : d ≤ (p - q) * d := by
      have := Int.mul_le_mul_of_nonneg_right (a := 1) (b := p - q) (c := d) (by omega) (by omega)
      omega
    by_cases one : p - q = 1
    · rw [one] at e
      have z1 := k2 (Or.inr (by omega))
      have z2 := l2 (Or.inl (by omega))
      omega
    · have := Int.mul_le_mul_of_nonneg_right (a := 2) (b := p - q) (c := d) (by omega) (by omega)
      omega

theorem rnd_whole (q d : Int) (hd : 0 < d) : rnd (q * d) d = q := by
  refine rnd_only _ _ _ hd ?_ ?_ ?_ <;> omega

theorem rnd_bd (n d : Int) (hd : 0 < d) (B : Int) (hB : 0 ≤ B) (h0 : -B ≤ n) (h1 : n ≤ B) : -B ≤ rnd n d ∧ rnd n d ≤ B := by
  have hm : B ≤ B * d := by have := Int.mul_le_mul_of_nonneg_left (a := 1) (b := d) (c := B) (by omega) hB; omega
  have a := rnd_mono (a := n) (b := B * d) hd (by omega)
  have b := rnd_mono (a := -(B * d)) (b := n) hd (by omega)
  rw [rnd_neg _ _ hd] at b
  rw [rnd_whole _ _ hd] at a b
  omega

theorem addI_bd (a b : Int) : -2147483647 ≤ addI a b ∧ addI a b ≤ 2147483647 := clampI_bd _
theorem subI_bd (a b : Int) : -2147483647 ≤ subI a b ∧ subI a b ≤ 2147483647 := clampI_bd _
theorem mulI_bd (a b : Int) : -2147483647 ≤ mulI a b ∧ mulI a b ≤ 2147483647 := clampI_bd _
theorem divI_bd (a b : Int) : -2147483647 ≤ divI a b ∧ divI a b ≤ 2147483647 := clampI_bd _

theorem addI_comm (a b : Int) : addI a b = addI b a := by unfold addI; rw [Int.add_comm]
theorem mulI_comm (a b : Int) : mulI a b = mulI b a := by unfold mulI; rw [Int.mul_comm]
theorem subI_neg (a b : Int) : subI a b = -subI b a := by unfold subI; rw [← clampI_neg]; congr 1; omega
theorem mulI_neg (a b : Int) : mulI (-a) b = -mulI a b := by unfold mulI; rw [clampI_neg, Int.neg_mul, rnd_neg _ _ (by omega), clampI_neg]
theorem mulI_one (a : Int) (h0 : -2147483647 ≤ a) (h1 : a ≤ 2147483647) : mulI a 65536 = a := by
  unfold mulI; rw [clampI_in h0 h1, clampI_in (n := 65536) (by omega) (by omega), rnd_whole _ _ (by omega), clampI_in h0 h1]
theorem addI_mono {a b : Int} (c : Int) (h : a ≤ b) : addI a c ≤ addI b c := by
  unfold addI; have := clampI_mono h; exact clampI_mono (by omega)
theorem mulI_mono {a b c : Int} (hc : 0 ≤ c) (h : a ≤ b) : mulI a c ≤ mulI b c := by
  unfold mulI; have := clampI_mono h
  have hc' : 0 ≤ clampI c := by unfold clampI; (repeat' split) <;> omega
  exact clampI_mono (rnd_mono (by omega) (Int.mul_le_mul_of_nonneg_right this hc'))
theorem quoI_neg (n d : Int) (hd : d ≠ 0) : quoI (-n) d = -quoI n d := by
  unfold quoI; split
  · rw [rnd_neg _ _ (by omega)]
  · rw [rnd_neg _ _ (by omega)]
theorem divI_neg (a b : Int) (hb : b ≠ 0) : divI (-a) b = -divI a b := by
  unfold divI; rw [clampI_neg, Int.neg_mul, quoI_neg _ _ (clampI_ne hb), clampI_neg]
theorem quoI_bd (n d : Int) (hd : d ≠ 0) (B : Int) (hB : 0 ≤ B) (h0 : -B ≤ n) (h1 : n ≤ B) : -B ≤ quoI n d ∧ quoI n d ≤ B := by
  unfold quoI; split
  · exact rnd_bd _ _ (by omega) B hB (by omega) (by omega)
  · exact rnd_bd _ _ (by omega) B hB (by omega) (by omega)

/-- What Go's division gives, from the floor. -/
theorem tdiv_pos {n d : Int} (hn : 0 ≤ n) : n.tdiv d = n / d := Int.tdiv_eq_ediv_of_nonneg hn
theorem tmod_pos {n d : Int} (hn : 0 ≤ n) : n.tmod d = n % d := Int.tmod_eq_emod_of_nonneg hn

/-- Below 0: the rest that Go's division gives is 0, or below 0: then the floor is one less. -/
theorem floor_of {n d : Int} (hd : 0 < d) : (n.tmod d < 0 → n / d = n.tdiv d - 1 ∧ n % d = n.tmod d + d) ∧ (0 ≤ n.tmod d → n / d = n.tdiv d ∧ n % d = n.tmod d) := by
  have e := Int.mul_ediv_add_emod n d
  have f := Int.mul_tdiv_add_tmod n d
  have l := Int.emod_nonneg n (b := d) (by omega)
  have u := Int.emod_lt_of_pos n hd
  have a1 : (n.tmod d).natAbs < d.natAbs := by rw [Int.natAbs_tmod]; exact Nat.mod_lt _ (by omega)
  generalize n.tdiv d = q at *
  generalize n.tmod d = r at *
  generalize n / d = q' at *
  generalize n % d = r' at *
  have g : d * (q' - q) = r - r' := by rw [Int.mul_sub]; omega
  have k1 : q' - q < 1 := by
    by_cases c : q' - q < 1
    · exact c
    · have := Int.mul_le_mul_of_nonneg_left (a := 1) (b := q' - q) (c := d) (by omega) (by omega); omega
  have k2 : -2 < q' - q := by
    by_cases c : -2 < q' - q
    · exact c
    · have := Int.mul_le_mul_of_nonneg_left (a := q' - q) (b := -2) (c := d) (by omega) (by omega); omega
  have k : q' - q = 0 ∨ q' - q = -1 := by omega
  rcases k with k | k <;> rw [k] at g <;> omega

theorem tdiv_bd (n d B : Int) (h0 : -B ≤ n) (h1 : n ≤ B) : -B ≤ n.tdiv d ∧ n.tdiv d ≤ B := by
  have a1 : (n.tdiv d).natAbs ≤ n.natAbs := by rw [Int.natAbs_tdiv]; exact Nat.div_le_self _ _
  omega
theorem tmod_bd (n d : Int) (hd : 0 < d) : -d < n.tmod d ∧ n.tmod d < d := by
  have a1 : (n.tmod d).natAbs < d.natAbs := by rw [Int.natAbs_tmod]; exact Nat.mod_lt _ (by omega)
  omega

/-- The same at a divisor below 0, as the walk spells it. -/
theorem floor_dneg {n d : Int} (hd : d < 0) : (-(n.tmod d) < 0 → (-n) / (-d) = n.tdiv d - 1 ∧ (-n) % (-d) = -(n.tmod d) + -d) ∧ (0 ≤ -(n.tmod d) → (-n) / (-d) = n.tdiv d ∧ (-n) % (-d) = -(n.tmod d)) := by
  have f := floor_of (n := -n) (d := -d) (by omega)
  rw [Int.neg_tdiv_neg, Int.tmod_neg, Int.neg_tmod] at f
  exact f
theorem tmod_dneg (n d : Int) (hd : d < 0) : d < n.tmod d ∧ n.tmod d < -d := by
  have a1 : (n.tmod d).natAbs < d.natAbs := by rw [Int.natAbs_tmod]; exact Nat.mod_lt _ (by omega)
  omega
theorem tmod_sign (n d : Int) : (n ≤ 0 → n.tmod d ≤ 0) ∧ (0 ≤ n → n.tmod d = n % d ∧ 0 ≤ n.tmod d) := by
  refine ⟨fun h => ?_, fun h => ⟨Int.tmod_eq_emod_of_nonneg h, Int.tmod_nonneg d h⟩⟩
  have := Int.tmod_nonneg d (a := -n) (by omega)
  rw [Int.neg_tmod] at this; omega

/-- Oddness by Go's rest. -/
theorem odd_tmod (q : Int) : q.tmod 2 = 0 ↔ q % 2 = 0 := by
  have a : (q.tmod 2).natAbs = q.natAbs % 2 := by rw [Int.natAbs_tmod]; rfl
  omega
theorem rnd_of {n d q r x : Int} (hq : n / d = q) (hr : n % d = r) (hx : (d < 2 * r ∨ (2 * r = d ∧ q % 2 ≠ 0)) → x = q + 1) (hy : ¬ (d < 2 * r ∨ (2 * r = d ∧ q % 2 ≠ 0)) → x = q) : x = rnd n d := by
  unfold rnd; rw [hq, hr]; split
  · exact hx ‹_›
  · exact hy ‹_›

/-- FixNearest's own sentence. -/
theorem mulI_near (a b : Int) (ha : -2147483647 ≤ a ∧ a ≤ 2147483647) (hb : -2147483647 ≤ b ∧ b ≤ 2147483647) (h0 : mulI a b ≠ 2147483647) (h1 : mulI a b ≠ -2147483647) :
    -65536 ≤ 2 * (a * b - mulI a b * 65536) ∧ 2 * (a * b - mulI a b * 65536) ≤ 65536 ∧ (2 * (a * b - mulI a b * 65536) = 65536 ∨ 2 * (a * b - mulI a b * 65536) = -65536 → mulI a b % 2 = 0) := by
  have e : mulI a b = rnd (a * b) 65536 := by
    unfold mulI at *
    rw [clampI_in ha.1 ha.2, clampI_in hb.1 hb.2] at *
    generalize rnd (a * b) 65536 = q at *
    unfold clampI at *
    (repeat' split at *) <;> omega
  rw [e]; exact rnd_near _ _ (by omega)

/-- Whether a number is from lo to hi. -/
def inB (n lo hi : Int) : Bool := decide (lo ≤ n) && decide (n ≤ hi)
theorem in_yes {n lo hi : Int} (h : lo ≤ n ∧ n ≤ hi) : inB n lo hi = true := by unfold inB; simp; omega
theorem in_no {n lo hi : Int} (h : ¬ (lo ≤ n ∧ n ≤ hi)) : inB n lo hi = false := by unfold inB; simp; omega
theorem in_is {n lo hi : Int} (h : inB n lo hi = true) : lo ≤ n ∧ n ≤ hi := by simpa [inB] using h

end Go.Proofs.YtkikhfdkibekgaaGreat.Fx

/- Lists of integers as they lie in memory: what a slice reads as, in whatever world that holds its cells; no program is spoken of. -/
namespace Go.Proofs.YtkikhfdkibekgaaGreat.Fx
open Go.RowKit

/-- The slice of that address, length and capacity reads as the integers xs. -/
def Lst (w : World) (a : Option Addr) (len cap : Nat) (xs : List Int) : Prop :=
  xs.length = len ∧ len ≤ cap ∧ (len = 0 ∨ ∃ b off, a = some ⟨b, off, none⟩ ∧ b < w.heap.size ∧ ∀ i, i < len → w.cell? ⟨b, off + i, none⟩ = some (.int .i64 (xs.getD i 0)))

theorem Lst.len {w : World} {a : Option Addr} {n c : Nat} {xs : List Int} (h : Lst w a n c xs) : xs.length = n := h.1
theorem Lst.cap {w : World} {a : Option Addr} {n c : Nat} {xs : List Int} (h : Lst w a n c xs) : n ≤ c := h.2.1
theorem Lst.at {w : World} {a : Option Addr} {n c : Nat} {xs : List Int} (h : Lst w a n c xs) (hn : 0 < n) :
    ∃ b off, a = some ⟨b, off, none⟩ ∧ b < w.heap.size ∧ ∀ i, i < n → w.cell? ⟨b, off + i, none⟩ = some (.int .i64 (xs.getD i 0)) := by
  rcases h.2.2 with h0 | h0
  · omega
  · exact h0
theorem Lst.at1 {w : World} {a : Option Addr} {n c : Nat} {xs : List Int} (h : Lst w a n c xs) {k : Nat} (hk : k < n) :
    ∃ b off x, a = some ⟨b, off, none⟩ ∧ b < w.heap.size ∧ w.cell? ⟨b, off + k, none⟩ = some (.int .i64 x) ∧ Hid (xs.getD k 0 = x) := by
  obtain ⟨b, off, e, hs, hc⟩ := h.at (by omega)
  exact ⟨b, off, _, e, hs, hc k hk, rfl⟩
theorem Lst.nil (w : World) (a : Option Addr) (c : Nat) : Lst w a 0 c [] := ⟨rfl, Nat.zero_le _, .inl rfl⟩
theorem Lst.below {w w' : World} {a : Option Addr} {n c : Nat} {xs : List Int} {B : Nat} (h : Lst w a n c xs) (hb : Below B w w') (hB : w.heap.size ≤ B) : Lst w' a n c xs := by
  refine ⟨h.1, h.2.1, ?_⟩
  rcases h.2.2 with h0 | ⟨b, off, e, hs, hc⟩
  · exact .inl h0
  · exact .inr ⟨b, off, e, Nat.lt_of_lt_of_le hs hb.size, fun i hi => (hb.cell (p := ⟨b, off + i, none⟩) (Nat.lt_of_lt_of_le hs hB)).trans (hc i hi)⟩
theorem Lst.drewN {w : World} {a : Option Addr} {n c : Nat} {xs : List Int} (h : Lst w a n c xs) (k : Nat) : Lst (w.drewN k) a n c xs := by
  refine ⟨h.1, h.2.1, ?_⟩
  rcases h.2.2 with h0 | ⟨b, off, e, hs, hc⟩
  · exact .inl h0
  · exact .inr ⟨b, off, e, by simpa using hs, fun i hi => by simpa using hc i hi⟩
theorem Lst.drew {w : World} {a : Option Addr} {n c : Nat} {xs : List Int} (h : Lst w a n c xs) : Lst w.drew a n c xs := h.drewN 1
theorem Lst.row {w : World} {b t n : Nat} {f : Nat → Value} {xs : List Int} (h : w.rowIs b t n f) (hl : xs.length = n) (hf : ∀ i, i < n → f i = .int .i64 (xs.getD i 0)) : Lst w (some ⟨b, 0, none⟩) n n xs :=
  ⟨hl, Nat.le_refl _, .inr ⟨b, 0, rfl, h.lt, fun i hi => by rw [Nat.zero_add, h.cell hi, hf i hi]⟩⟩

theorem getD_map_int (xs : List Int) (i : Nat) (hi : i < xs.length) : (xs.map (Value.int .i64))[i]? = some (.int .i64 (xs.getD i 0)) := by
  simp [hi]

theorem Lst.owned {w : World} {base e n : Nat} {v : Value} {xs : List Int} (h : w.ownsRow base e 1 v n (xs.map (Value.int .i64))) :
    ∃ a c, v = .slice a n c ∧ Lst w a n c xs := by
  obtain ⟨hl, h2⟩ := h
  rw [List.length_map, Nat.mul_one] at hl
  rcases h2 with ⟨rfl, rfl⟩ | ⟨g, cap, cur, rfl, _, hh, hle, _, hsz, hcur⟩
  · rw [List.length_eq_zero_iff] at hl
    subst hl
    exact ⟨none, 0, rfl, Lst.nil _ _ _⟩
  · refine ⟨_, cap, rfl, hl, hle, .inr ⟨g, 0, rfl, (Array.getElem?_eq_some_iff.1 hh).1, fun i hi => ?_⟩⟩
    have h3 := getD_map_int xs i (by omega)
    rw [← hcur, Nat.mul_one] at h3
    simp only [World.cell?, hh, Nat.zero_add]
    rw [List.getElem?_take_of_lt hi] at h3
    simpa using h3

theorem Lst.sub {w : World} {b off n c : Nat} {xs : List Int} (h : Lst w (some ⟨b, off, none⟩) n c xs) (hn : 0 < n) (lo hi : Nat) (h1 : lo ≤ hi) (h2 : hi ≤ n) :
    Lst w (some ⟨b, off + lo, none⟩) (hi - lo) (c - lo) ((xs.drop lo).take (hi - lo)) := by
  obtain ⟨b', off', e, hs, hc⟩ := h.at hn
  have := h.len
  have := h.cap
  simp only [Option.some.injEq, Addr.mk.injEq, and_true] at e
  obtain ⟨rfl, rfl⟩ := e
  refine ⟨by simp; omega, by omega, .inr ⟨b, off + lo, rfl, hs, fun i hi' => ?_⟩⟩
  rw [Nat.add_assoc, hc (lo + i) (by omega)]
  have e : ((xs.drop lo).take (hi - lo)).getD i 0 = xs.getD (lo + i) 0 := by
    rw [List.getD_eq_getElem?_getD, List.getElem?_take_of_lt hi', List.getElem?_drop, ← List.getD_eq_getElem?_getD]
  rw [e]

theorem bcell {B : Nat} {W w1 : World} (hb : Below B W w1) : (∀ b o, b < B → w1.cell? ⟨b, o, none⟩ = W.cell? ⟨b, o, none⟩) ∧ (∀ b o, b < B → w1.frozen? ⟨b, o, none⟩ = W.frozen? ⟨b, o, none⟩) :=
  ⟨fun b o h => hb.cell (p := ⟨b, o, none⟩) h, fun b o h => hb.frozen (p := ⟨b, o, none⟩) h⟩
theorem below_drewN {B : Nat} {W w1 : World} (hb : Below B W w1) (n : Nat) : Below B W (w1.drewN n) := ⟨hb.os, hb.tape, hb.output, hb.size, hb.block⟩
theorem Lst.at1b {w wr : World} {a : Option Addr} {n c : Nat} {xs : List Int} {B : Nat} (h : Lst w a n c xs) (hb : Below B w wr) (hB : w.heap.size ≤ B) {k : Nat} (hk : k < n) :
    ∃ b off x, a = some ⟨b, off, none⟩ ∧ b < w.heap.size ∧ wr.cell? ⟨b, off + k, none⟩ = some (.int .i64 x) ∧ Hid (xs.getD k 0 = x) := by
  obtain ⟨b, off, x, e, hs, hc, hx⟩ := h.at1 hk
  exact ⟨b, off, x, e, hs, (hb.cell (p := ⟨b, off + k, none⟩) (Nat.lt_of_lt_of_le hs hB)).trans hc, hx⟩
theorem cell_new (w : World) (v : Value) (t : TypeId) : (w.alloc (.cells #[v] t)).cell? ⟨w.heap.size, 0, none⟩ = some v :=
  (World.rowIs_alloc w #[v] t (fun _ => v) (by intro i hi; obtain rfl : i = 0 := by simpa using hi
                                               rfl)).cell (i := 0) (by simp)
/-- The three cells of a struct that was laid, in whatever world that left them. -/
theorem box3 {w wr : World} {B : Nat} (v0 v1 v2 : Value) (t : TypeId) (hb : Below B (w.alloc (.cells #[v0, v1, v2] t)) wr) (hB : w.heap.size < B) :
    wr.cell? ⟨w.heap.size, 0, none⟩ = some v0 ∧ wr.cell? ⟨w.heap.size, 1, none⟩ = some v1 ∧ wr.cell? ⟨w.heap.size, 2, none⟩ = some v2 := by
  have h := World.rowIs_alloc w #[v0, v1, v2] t (fun i => if i = 0 then v0 else if i = 1 then v1 else v2) (by
    intro i hi
    rcases (show i = 0 ∨ i = 1 ∨ i = 2 from by have : i < 3 := hi
                                               omega) with rfl | rfl | rfl <;> rfl)
  refine ⟨?_, ?_, ?_⟩
  · exact (hb.cell (p := ⟨w.heap.size, 0, none⟩) hB).trans (h.cell (i := 0) (by simp))
  · exact (hb.cell (p := ⟨w.heap.size, 1, none⟩) hB).trans (h.cell (i := 1) (by simp))
  · exact (hb.cell (p := ⟨w.heap.size, 2, none⟩) hB).trans (h.cell (i := 2) (by simp))
theorem cell_lt {w : World} {a : Addr} {v : Value} (h : w.cell? a = some v) : a.block < w.heap.size := by
  rcases Nat.lt_or_ge a.block w.heap.size with h' | h'
  · exact h'
  · simp [World.cell?, Array.getElem?_eq_none h'] at h
/-- Of the numbers up to the capacity the first are the list. -/
theorem Lst.came {w : World} {x : Addr} {len cap : Nat} {zs : List Int} (hl : len ≤ cap) (hz : zs.length = cap) (hc : ∀ i, i < zs.length → w.cell? (x.add i) = some (.int .i64 (zs.getD i 0))) : Lst w (some x) len cap (zs.take len) := by
  refine ⟨by simp; omega, hl, ?_⟩
  by_cases h0 : len = 0
  · exact .inl h0
  · obtain ⟨b, off, spot⟩ := x
    have hspot : spot = none := by simpa [Addr.add] using World.cell?_spot (hc 0 (by omega))
    subst hspot
    refine .inr ⟨b, off, rfl, ?_, fun i hi => ?_⟩
    · have := cell_lt (hc 0 (by omega)); simpa [Addr.add] using this
    · have h := hc i (by omega)
      rw [Go.WideShapes.add_plain] at h
      rw [h]
      simp [List.getD_eq_getElem?_getD, List.getElem?_take_of_lt hi]

theorem wrap_in (x : Int) (h1 : -9223372036854775808 ≤ x) (h2 : x ≤ 9223372036854775807) : IntKind.i64.wrap x = x := by
  rw [IntKind.wrap_i64]; omega

/-! The products of two lists, added one by one from the first on. -/
def dotTo (xs ys : List Int) : Nat → Int
  | 0 => 0
  | k + 1 => addI (dotTo xs ys k) (mulI (xs.getD k 0) (ys.getD k 0))

/-! A row that is written from its head on: the first k of its numbers are g's. -/
def rowTo (g : Nat → Int) (k i : Nat) : Value := if i < k then .int .i64 (g i) else .int .i64 0
theorem rowTo_step {w : World} {b t n k : Nat} {g : Nat → Int} (h : w.rowIs b t n (rowTo g k)) : (w.setCell ⟨b, k, none⟩ (.int .i64 (g k))).rowIs b t n (rowTo g (k + 1)) := by
  refine (h.set k (.int .i64 (g k))).congr (fun i _ => ?_)
  unfold rowTo
  by_cases e : i = k
  · subst e; rw [if_pos rfl, if_pos (by omega)]
  · rw [if_neg e]
    by_cases e2 : i < k
    · rw [if_pos e2, if_pos (by omega)]
    · rw [if_neg e2, if_neg (by omega)]
theorem rowTo_made {w : World} {b t n : Nat} {g : Nat → Int} (h : w.rowIs b t n (fun _ => .int .i64 0)) : w.rowIs b t n (rowTo g 0) :=
  h.congr (fun i _ => by unfold rowTo; rw [if_neg (by omega)])
theorem rowTo_lst {w : World} {b t n : Nat} {g : Nat → Int} (h : w.rowIs b t n (rowTo g n)) : Lst w (some ⟨b, 0, none⟩) n n ((List.range n).map g) :=
  Lst.row h (by simp) (fun i hi => by unfold rowTo; rw [if_pos hi]; simp [hi])
theorem rowTo_cell {w : World} {b t n k : Nat} {g : Nat → Int} (h : w.rowIs b t n (rowTo g k)) (hk : k < n) : w.cell? ⟨b, k, none⟩ = some (.int .i64 0) := by
  rw [h.cell hk]; unfold rowTo; rw [if_neg (by omega)]
theorem rowIs_drewN {w : World} {b t n : Nat} {f : Nat → Value} (h : w.rowIs b t n f) (k : Nat) : (w.drewN k).rowIs b t n f := h

end Go.Proofs.YtkikhfdkibekgaaGreat.Fx

/- How the arguments of a law are opened: integers, slices of integers, matrices by value. -/
namespace Go.Proofs.YtkikhfdkibekgaaGreat.Fx
open Go.ChangeShapes Go.WideShapes Go.ChangeAt Go.RowKit

theorem own : ownKnob Tryz.prog.godebug = none := by kernel_rfl
theorem laidOut : laidOutB Tryz.prog = true := by kernel_rfl

theorem cellsMat : Tryz.prog.cellsOf 105 = 3 := by kernel_rfl

/-- Of a slice of integers that came in: it reads as xs, and its capacity is no more than may be. -/
def Came (w : World) (a : Option Addr) (len cap : Nat) (xs : List Int) : Prop := Lst w a len cap xs ∧ cap ≤ maxLen ∧ ∀ n ∈ xs, (Lit.int .i64 n).wf = true

set_option maxRecDepth 100000 in
theorem came_trod {H : Type} {enc : TypeId × Value → H} {W : World} {fuel : Nat} {cs : List Value} {x : DataW H × List MemPlace} (hf : DataW.trod enc Tryz.prog W 0 (fun _ => true) true fuel 26 cs = some x) :
    ∃ a len cap xs, cs = [.slice a len cap] ∧ Came W a len cap xs := by
  rcases open_ints Tryz.underlying26 Tryz.underlying3 (by kernel_rfl) hf with ⟨hcs, _⟩ | ⟨x, l, c, zs, hcs, _, hl, hm, hz, _, hcell, hwz⟩
  · exact ⟨none, 0, 0, [], hcs, Lst.nil _ _ _, Nat.zero_le _, fun n h => by cases h⟩
  · exact ⟨some x, l, c, zs.take l, hcs, Lst.came hl (by simpa using hz) hcell, hm, fun n h => hwz n (List.mem_of_mem_take h)⟩

set_option maxRecDepth 100000 in
theorem openInts {H : Type} {enc : TypeId × Value → H} {W : World} {b0 : Nat} {v : Value} {d : DataW H} {p : List MemPlace} (hv : Value.okWide Tryz.prog W .any b0 26 v) (h : DataW.Trod enc Tryz.prog W 0 (fun _ => true) true 26 v d p) :
    ∃ a len cap xs, v = .slice a len cap ∧ Came W a len cap xs := by
  obtain ⟨a, len, cap, rfl⟩ := okWide_slice Tryz.underlying26 hv
  obtain ⟨fuel, hf⟩ := h
  obtain ⟨a', len', cap', xs, hcs, hc⟩ := came_trod hf
  simp [Value.cells] at hcs
  obtain ⟨rfl, rfl, rfl⟩ := hcs
  exact ⟨_, _, _, xs, rfl, hc⟩

theorem bytesInt : Tryz.prog.bytesOf 3 = 8 := by kernel_rfl

set_option maxRecDepth 100000 in
/-- .. and the datum's own length: for what the form itself says of sizes. -/
theorem openIntsD {H : Type} {enc : TypeId × Value → H} {W : World} {b0 : Nat} {v : Value} {d : DataW H} {p : List MemPlace} (hv : Value.okWide Tryz.prog W .any b0 26 v) (h : DataW.Trod enc Tryz.prog W 0 (fun _ => true) true 26 v d p) :
    ∃ a len cap xs, v = .slice a len cap ∧ Came W a len cap xs ∧ (len = 0 ∨ ∃ elems spare, d = .slice elems spare ∧ len ≤ elems.length + spare.length) := by
  obtain ⟨a, len, cap, rfl⟩ := okWide_slice Tryz.underlying26 hv
  obtain ⟨fuel, hf⟩ := h
  rcases open_ints Tryz.underlying26 Tryz.underlying3 (by kernel_rfl) hf with ⟨hcs, _⟩ | ⟨x, l, c, zs, hcs, _, hl, hm, hz, hx, hcell, hwz⟩
  · simp [Value.cells] at hcs
    obtain ⟨rfl, rfl, rfl⟩ := hcs
    exact ⟨_, _, _, [], rfl, ⟨Lst.nil _ _ _, Nat.zero_le _, fun n h => by cases h⟩, .inl rfl⟩
  · simp [Value.cells] at hcs
    obtain ⟨rfl, rfl, rfl⟩ := hcs
    simp only [Prod.mk.injEq] at hx
    have hz' : zs.length = cap := by simpa using hz
    refine ⟨_, _, _, zs.take len, rfl, ⟨Lst.came hl hz' hcell, hm, fun n h => hwz n (List.mem_of_mem_take h)⟩, .inr ⟨_, _, hx.1, ?_⟩⟩
    simp only [lits, List.length_map, List.length_take, List.length_drop]
    omega

set_option maxRecDepth 100000 in
theorem sizedInts {H : Type} {ts : List TypeId} {ds : List (DataW H)} (h : (DataW.weightsEach Tryz.prog ts ds).all (· ≤ reachBytes) = true) {j len : Nat} {d : DataW H} (ht : ts[j]? = some 26) (hd : ds[j]? = some d)
    (hl : len = 0 ∨ ∃ elems spare, d = .slice elems spare ∧ len ≤ elems.length + spare.length) : len * 8 ≤ 140737488351232 := by
  rcases hl with rfl | ⟨elems, spare, rfl, hl⟩
  · omega
  · have := sized_slice h ht hd Tryz.underlying26
    rw [bytesInt] at this
    simp only [reachBytes] at this
    omega

set_option maxRecDepth 100000 in
theorem openMat {H : Type} {enc : TypeId × Value → H} {W : World} {b0 : Nat} {v : Value} {d : DataW H} {p : List MemPlace} (hv : Value.okWide Tryz.prog W .any b0 105 v) (h : DataW.Trod enc Tryz.prog W 0 (fun _ => true) true 105 v d p) :
    ∃ r c a len cap xs, v = .agg #[.int .i64 r, .int .i64 c, .slice a len cap] ∧ Came W a len cap xs ∧ (Lit.int .i64 r).wf = true ∧ (Lit.int .i64 c).wf = true := by
  obtain ⟨c0, c1, c2, y0, y1, y2, m, rfl, _, _, hy0, hy1, hy2⟩ := Go.Joins.open_agg3 Tryz.underlying105 (by kernel_rfl) cellsMat hv h
  obtain ⟨r, e0, _, wr⟩ := DataW.trod_int Tryz.underlying3 hy0
  obtain ⟨c, e1, _, wc⟩ := DataW.trod_int Tryz.underlying3 hy1
  obtain ⟨a, len, cap, xs, e2, hc⟩ := came_trod hy2
  simp at e0 e1 e2
  subst e0 e1 e2
  exact ⟨r, c, a, len, cap, xs, rfl, hc, wr, wc⟩

end Go.Proofs.YtkikhfdkibekgaaGreat.Fx

/- Matrices as plain numbers: what Check says of one, and what lines it has; no program is spoken of. -/
namespace Go.Proofs.YtkikhfdkibekgaaGreat.Fx
open Go.RowKit

/-- May a matrix have so many rows, or columns? -/
def sideB (n : Int) : Bool := decide (1 ≤ n) && decide (n ≤ 4)
theorem sideB_true {n : Int} (h : sideB n = true) : 1 ≤ n ∧ n ≤ 4 := by simpa [sideB] using h
theorem sideB_mk {n : Int} (h1 : 1 ≤ n) (h2 : n ≤ 4) : sideB n = true := by simp [sideB, h1, h2]
theorem sideB_false {n : Int} (h : ¬ (1 ≤ n ∧ n ≤ 4)) : sideB n = false := by
  cases e : sideB n with
  | false => rfl
  | true => exact absurd (sideB_true e) h

/-- Are all numbers such as may be? -/
def rightB (xs : List Int) : Bool := xs.all fun n => decide (n = clampI n)
theorem rightB_true {xs : List Int} (h : ∀ j, j < xs.length → xs.getD j 0 = clampI (xs.getD j 0)) : rightB xs = true := by
  unfold rightB
  rw [List.all_eq_true]
  intro x hx
  obtain ⟨i, hi, rfl⟩ := List.getElem_of_mem hx
  have := h i hi
  rw [List.getD_eq_getElem?_getD, List.getElem?_eq_getElem hi, Option.getD_some] at this
  exact decide_eq_true this
theorem rightB_get {xs : List Int} (h : rightB xs = true) (j : Nat) : xs.getD j 0 = clampI (xs.getD j 0) := by
  unfold rightB at h
  rw [List.all_eq_true] at h
  rcases Nat.lt_or_ge j xs.length with hj | hj
  · have := of_decide_eq_true (h (xs[j]) (List.getElem_mem hj))
    rw [List.getD_eq_getElem?_getD, List.getElem?_eq_getElem hj, Option.getD_some]
    exact this
  · rw [List.getD_eq_getElem?_getD, List.getElem?_eq_none hj]
    rfl
theorem rightB_false {xs : List Int} {k : Nat} (h : xs.getD k 0 ≠ clampI (xs.getD k 0)) : rightB xs = false := by
  cases e : rightB xs with
  | false => rfl
  | true => exact absurd (rightB_get e k) h

/-- What Check says of a matrix with so many rows, columns and numbers. -/
def chkI (r c : Int) (len : Nat) (xs : List Int) : Int :=
  if sideB r = true ∧ sideB c = true then (if (len : Int) = r * c ∧ rightB xs = true then 0 else 5) else 1
/-- .. and behind it a list that should have as many numbers as a side. -/
def bothI (r c : Int) (len : Nat) (xs : List Int) (lv : Nat) (side : Int) : Int :=
  if 200 < lv then 2 else if chkI r c len xs = 0 then (if (lv : Int) = side then 0 else 5) else chkI r c len xs

theorem prod_side {r c : Int} (hr1 : 1 ≤ r) (hr2 : r ≤ 4) (hc1 : 1 ≤ c) (hc2 : c ≤ 4) : 1 ≤ r * c ∧ r * c ≤ 16 := by
  rcases (show r = 1 ∨ r = 2 ∨ r = 3 ∨ r = 4 from by omega) with rfl | rfl | rfl | rfl <;> omega
theorem prod_sideN {r c : Nat} (hr2 : r ≤ 4) (hc2 : c ≤ 4) : r * c ≤ 16 := by
  rcases (show r = 0 ∨ r = 1 ∨ r = 2 ∨ r = 3 ∨ r = 4 from by omega) with rfl | rfl | rfl | rfl | rfl <;> omega

/-- A matrix that Check takes, in natural numbers. -/
theorem chkI_zero {r c : Int} {len : Nat} {xs : List Int} (h : chkI r c len xs = 0) :
    ∃ R C : Nat, r = (R : Int) ∧ c = (C : Int) ∧ 1 ≤ R ∧ R ≤ 4 ∧ 1 ≤ C ∧ C ≤ 4 ∧ len = R * C ∧ rightB xs = true := by
  unfold chkI at h
  by_cases h1 : sideB r = true ∧ sideB c = true
  · rw [if_pos h1] at h
    by_cases h2 : (len : Int) = r * c ∧ rightB xs = true
    · have a := sideB_true h1.1
      have b := sideB_true h1.2
      obtain ⟨R, rfl⟩ := Int.eq_ofNat_of_zero_le (show 0 ≤ r by omega)
      obtain ⟨C, rfl⟩ := Int.eq_ofNat_of_zero_le (show 0 ≤ c by omega)
      exact ⟨R, C, rfl, rfl, by omega, by omega, by omega, by omega, by exact_mod_cast h2.1, h2.2⟩
    · rw [if_neg h2] at h; exact absurd h (by decide)
  · rw [if_neg h1] at h; exact absurd h (by decide)

theorem chkI_cases (r c : Int) (len : Nat) (xs : List Int) : chkI r c len xs = 0 ∨ (chkI r c len xs ≠ 0 ∧ (chkI r c len xs != 0) = true ∧ (chkI r c len xs == 0) = false) := by
  by_cases h : chkI r c len xs = 0
  · exact .inl h
  · exact .inr ⟨h, by simpa using h, by simpa using h⟩

theorem bothI_cases (r c : Int) (len : Nat) (xs : List Int) (lv : Nat) (s : Int) :
    (bothI r c len xs lv s = 0 ∧ lv ≤ 200 ∧ chkI r c len xs = 0 ∧ (lv : Int) = s) ∨ (bothI r c len xs lv s ≠ 0 ∧ (bothI r c len xs lv s != 0) = true) := by
  unfold bothI
  by_cases h : 200 < lv
  · rw [if_pos h]; exact .inr ⟨by decide, by decide⟩
  · rw [if_neg h]
    by_cases h2 : chkI r c len xs = 0
    · rw [if_pos h2]
      by_cases h3 : (lv : Int) = s
      · rw [if_pos h3]; exact .inl ⟨rfl, by omega, h2, h3⟩
      · rw [if_neg h3]; exact .inr ⟨by decide, by decide⟩
    · rw [if_neg h2]; exact .inr ⟨h2, by simpa using h2⟩

/-- Row k, and column k, of a matrix with c columns. -/
def rowL (xs : List Int) (c k : Nat) : List Int := (List.range c).map fun i => xs.getD (k * c + i) 0
def colL (xs : List Int) (r c k : Nat) : List Int := (List.range r).map fun i => xs.getD (i * c + k) 0
def mulG (xs ys : List Int) (c k : Nat) : Int := dotTo (rowL xs c k) ys c
def backG (xs ys : List Int) (r c k : Nat) : Int := dotTo (colL xs r c k) ys r
/-- What Mul, and what Back, tells: nothing where there is an error. -/
def mulL (r c : Int) (len : Nat) (xs : List Int) (lv : Nat) (ys : List Int) : List Int := if bothI r c len xs lv c = 0 then (List.range r.toNat).map (mulG xs ys c.toNat) else []
def backL (r c : Int) (len : Nat) (xs : List Int) (lv : Nat) (ys : List Int) : List Int := if bothI r c len xs lv r = 0 then (List.range c.toNat).map (backG xs ys r.toNat c.toNat) else []

theorem sub_range (xs : List Int) (lo n : Nat) (h : lo + n ≤ xs.length) : (xs.drop lo).take n = (List.range n).map fun i => xs.getD (lo + i) 0 := by
  refine List.ext_getElem (by simp; omega) (fun i h1 h2 => ?_)
  have h3 : lo + i < xs.length := by simp at h1; omega
  simp [h3]

end Go.Proofs.YtkikhfdkibekgaaGreat.Fx

/- Pupils as plain numbers: what Check says of one, what numbers it has; and how its struct lies in memory; no function of the program is spoken of. -/
namespace Go.Proofs.YtkikhfdkibekgaaGreat.Fx
open Go.RowKit

/-- A pupil's value: two matrices' rows, columns and where their numbers lie; where the two lists lie. -/
structure Pup where
  r1 : Int
  c1 : Int
  a1 : Option Addr
  n1 : Nat
  k1 : Nat
  r2 : Int
  c2 : Int
  a2 : Option Addr
  n2 : Nat
  k2 : Nat
  d1 : Option Addr
  m1 : Nat
  e1 : Nat
  d2 : Option Addr
  m2 : Nat
  e2 : Nat
/-- .. and the numbers themselves. -/
structure PD where
  X1 : List Int
  X2 : List Int
  B1 : List Int
  B2 : List Int
def Pup.cells (p : Pup) : Array Value := #[.int .i64 p.r1, .int .i64 p.c1, .slice p.a1 p.n1 p.k1, .int .i64 p.r2, .int .i64 p.c2, .slice p.a2 p.n2 p.k2, .slice p.d1 p.m1 p.e1, .slice p.d2 p.m2 p.e2]
def Pup.val (p : Pup) : Value := .agg p.cells
structure InPup (w : World) (p : Pup) (d : PD) : Prop where
  x1 : Lst w p.a1 p.n1 p.k1 d.X1
  x2 : Lst w p.a2 p.n2 p.k2 d.X2
  b1 : Lst w p.d1 p.m1 p.e1 d.B1
  b2 : Lst w p.d2 p.m2 p.e2 d.B2
theorem InPup.below {w w' : World} {p : Pup} {d : PD} {B : Nat} (h : InPup w p d) (hb : Below B w w') (hB : w.heap.size ≤ B) : InPup w' p d :=
  ⟨h.x1.below hb hB, h.x2.below hb hB, h.b1.below hb hB, h.b2.below hb hB⟩

/-- What Check says of a pupil. -/
def pchk (p : Pup) (d : PD) : Int :=
  if chkI p.r1 p.c1 p.n1 d.X1 = 0 then
    (if chkI p.r2 p.c2 p.n2 d.X2 = 0 then (if (p.c2 = p.r1 ∧ (p.m1 : Int) = p.r1 ∧ (p.m2 : Int) = p.r2) ∧ rightB d.B1 = true ∧ rightB d.B2 = true then 0 else 5) else chkI p.r2 p.c2 p.n2 d.X2)
  else chkI p.r1 p.c1 p.n1 d.X1

/-- A pupil with so many inputs, hidden ones and outputs, wherever its numbers lie. -/
def rpup (I H O : Nat) (a1 : Option Addr) (k1 : Nat) (a2 : Option Addr) (k2 : Nat) (d1 : Option Addr) (e1 : Nat) (d2 : Option Addr) (e2 : Nat) : Pup :=
  ⟨H, I, a1, H * I, k1, O, H, a2, O * H, k2, d1, H, e1, d2, O, e2⟩
def RightD (d : PD) : Prop := rightB d.X1 = true ∧ rightB d.X2 = true ∧ rightB d.B1 = true ∧ rightB d.B2 = true

theorem pchk_zero {p : Pup} {d : PD} (h : pchk p d = 0) :
    ∃ I H O a1 k1 a2 k2 d1 e1 d2 e2, p = rpup I H O a1 k1 a2 k2 d1 e1 d2 e2 ∧ 1 ≤ I ∧ I ≤ 4 ∧ 1 ≤ H ∧ H ≤ 4 ∧ 1 ≤ O ∧ O ≤ 4 ∧ RightD d := by
  unfold pchk at h
  by_cases h1 : chkI p.r1 p.c1 p.n1 d.X1 = 0
  · rw [if_pos h1] at h
    by_cases h2 : chkI p.r2 p.c2 p.n2 d.X2 = 0
    · rw [if_pos h2] at h
      by_cases h3 : (p.c2 = p.r1 ∧ (p.m1 : Int) = p.r1 ∧ (p.m2 : Int) = p.r2) ∧ rightB d.B1 = true ∧ rightB d.B2 = true
      · obtain ⟨r1, c1, a1, n1, k1, r2, c2, a2, n2, k2, d1, m1, e1, d2, m2, e2⟩ := p
        dsimp only at *
        obtain ⟨R1, C1, rfl, rfl, p1, p2, p3, p4, rfl, g1⟩ := chkI_zero h1
        obtain ⟨R2, C2, rfl, rfl, q1, q2, q3, q4, rfl, g2⟩ := chkI_zero h2
        obtain ⟨⟨s1, s2, s3⟩, s4, s5⟩ := h3
        obtain rfl : R1 = C2 := by omega
        obtain rfl : R1 = m1 := by omega
        obtain rfl : R2 = m2 := by omega
        exact ⟨C1, R1, R2, a1, k1, a2, k2, d1, e1, d2, e2, rfl, p3, p4, p1, p2, q1, q2, g1, g2, s4, s5⟩
      · rw [if_neg h3] at h; exact absurd h (by decide)
    · rw [if_neg h2] at h; exact absurd h h2
  · rw [if_neg h1] at h; exact absurd h h1
theorem chkI_mk {R C : Nat} {xs : List Int} (h1 : 1 ≤ R) (h2 : R ≤ 4) (h3 : 1 ≤ C) (h4 : C ≤ 4) (h : rightB xs = true) : chkI R C (R * C) xs = 0 := by
  unfold chkI
  rw [if_pos ⟨sideB_mk (by omega) (by omega), sideB_mk (by omega) (by omega)⟩, if_pos ⟨by push_cast; rfl, h⟩]
theorem pchk_right {I H O : Nat} {a1 : Option Addr} {k1 : Nat} {a2 : Option Addr} {k2 : Nat} {d1 : Option Addr} {e1 : Nat} {d2 : Option Addr} {e2 : Nat} {d : PD} (i1 : 1 ≤ I) (i2 : I ≤ 4) (h1 : 1 ≤ H) (h2 : H ≤ 4) (o1 : 1 ≤ O) (o2 : O ≤ 4) (h : RightD d) :
    pchk (rpup I H O a1 k1 a2 k2 d1 e1 d2 e2) d = 0 := by
  unfold pchk rpup
  dsimp only
  rw [if_pos (chkI_mk h1 h2 i1 i2 h.1), if_pos (chkI_mk o1 o2 h1 h2 h.2.1), if_pos ⟨⟨rfl, rfl, rfl⟩, h.2.2⟩]
theorem pchk_cases (p : Pup) (d : PD) : pchk p d = 0 ∨ (pchk p d ≠ 0 ∧ (pchk p d != 0) = true ∧ (pchk p d == 0) = false) := by
  by_cases h : pchk p d = 0
  · exact .inl h
  · exact .inr ⟨h, by simpa using h, by simpa using h⟩

/-- All its numbers, in order. -/
def flatD (d : PD) : List Int := d.X1 ++ (d.B1 ++ (d.X2 ++ d.B2))
def flatL (p : Pup) (d : PD) : List Int := if pchk p d = 0 then flatD d else []

/-! A struct of eight cells that was laid, in whatever world that left it. -/
theorem boxN {w wr : World} {B : Nat} (cs : Array Value) (t : TypeId) (hb : Below B (w.alloc (.cells cs t)) wr) (hB : w.heap.size < B) (i : Nat) : wr.cell? ⟨w.heap.size, i, none⟩ = cs[i]? :=
  (hb.cell (p := ⟨w.heap.size, i, none⟩) hB).trans (World.cell?_alloc_mark w cs t _ i)
structure Box8 (w : World) (b : Nat) (v0 v1 v2 v3 v4 v5 v6 v7 : Value) : Prop where
  c0 : w.cell? ⟨b, 0, none⟩ = some v0
  c1 : w.cell? ⟨b, 1, none⟩ = some v1
  c2 : w.cell? ⟨b, 2, none⟩ = some v2
  c3 : w.cell? ⟨b, 3, none⟩ = some v3
  c4 : w.cell? ⟨b, 4, none⟩ = some v4
  c5 : w.cell? ⟨b, 5, none⟩ = some v5
  c6 : w.cell? ⟨b, 6, none⟩ = some v6
  c7 : w.cell? ⟨b, 7, none⟩ = some v7
theorem box8 {w wr : World} {B : Nat} {v0 v1 v2 v3 v4 v5 v6 v7 : Value} {t : TypeId} (hb : Below B (w.alloc (.cells #[v0, v1, v2, v3, v4, v5, v6, v7] t)) wr) (hB : w.heap.size < B) :
    Box8 wr w.heap.size v0 v1 v2 v3 v4 v5 v6 v7 :=
  ⟨boxN _ _ hb hB 0, boxN _ _ hb hB 1, boxN _ _ hb hB 2, boxN _ _ hb hB 3, boxN _ _ hb hB 4, boxN _ _ hb hB 5, boxN _ _ hb hB 6, boxN _ _ hb hB 7⟩

/-- An example's value, and its two lists. -/
structure Exm where
  a : Option Addr
  n : Nat
  k : Nat
  b : Option Addr
  m : Nat
  t : Nat
def Exm.val (x : Exm) : Value := .agg #[.slice x.a x.n x.k, .slice x.b x.m x.t]
structure InEx (w : World) (x : Exm) (I O : List Int) : Prop where
  i : Lst w x.a x.n x.k I
  o : Lst w x.b x.m x.t O
theorem InEx.below {w w' : World} {x : Exm} {I O : List Int} {B : Nat} (h : InEx w x I O) (hb : Below B w w') (hB : w.heap.size ≤ B) : InEx w' x I O := ⟨h.i.below hb hB, h.o.below hb hB⟩
theorem box2 {w wr : World} {B : Nat} {v0 v1 : Value} {t : TypeId} (hb : Below B (w.alloc (.cells #[v0, v1] t)) wr) (hB : w.heap.size < B) :
    wr.cell? ⟨w.heap.size, 0, none⟩ = some v0 ∧ wr.cell? ⟨w.heap.size, 1, none⟩ = some v1 := ⟨boxN _ _ hb hB 0, boxN _ _ hb hB 1⟩
end Go.Proofs.YtkikhfdkibekgaaGreat.Fx

/- Package optim in plain numbers: what Check, Rate, Clip and Step tell of whatever is handed in; and how a config lies in memory; no function of the program is spoken of. -/
namespace Go.Proofs.YtkikhfdkibekgaaGreat.Fx
open Go.RowKit

/-- A config's numbers. -/
structure Cfg where
  i : Int
  h : Int
  o : Int
  seed : Int
  batch : Int
  steps : Int
  rate : Int
  decay : Int
  how : Int
  keep : Int
  clip : Int
def Cfg.cells (c : Cfg) : Array Value := #[.int .i64 c.i, .int .i64 c.h, .int .i64 c.o, .int .u64 c.seed, .int .i64 c.batch, .int .i64 c.steps, .int .i64 c.rate, .int .i64 c.decay, .int .i64 c.how, .int .i64 c.keep, .int .i64 c.clip]
def Cfg.val (c : Cfg) : Value := .agg c.cells
/-- A config that was laid, in whatever world that left it. -/
structure BoxC (w : World) (b : Nat) (c : Cfg) : Prop where
  c0 : w.cell? ⟨b, 0, none⟩ = some (.int .i64 c.i)
  c1 : w.cell? ⟨b, 1, none⟩ = some (.int .i64 c.h)
  c2 : w.cell? ⟨b, 2, none⟩ = some (.int .i64 c.o)
  c3 : w.cell? ⟨b, 3, none⟩ = some (.int .u64 c.seed)
  c4 : w.cell? ⟨b, 4, none⟩ = some (.int .i64 c.batch)
  c5 : w.cell? ⟨b, 5, none⟩ = some (.int .i64 c.steps)
  c6 : w.cell? ⟨b, 6, none⟩ = some (.int .i64 c.rate)
  c7 : w.cell? ⟨b, 7, none⟩ = some (.int .i64 c.decay)
  c8 : w.cell? ⟨b, 8, none⟩ = some (.int .i64 c.how)
  c9 : w.cell? ⟨b, 9, none⟩ = some (.int .i64 c.keep)
  c10 : w.cell? ⟨b, 10, none⟩ = some (.int .i64 c.clip)
theorem boxC {w wr : World} {B : Nat} {c : Cfg} {t : TypeId} (hb : Below B (w.alloc (.cells c.cells t)) wr) (hB : w.heap.size < B) : BoxC wr w.heap.size c :=
  ⟨boxN _ _ hb hB 0, boxN _ _ hb hB 1, boxN _ _ hb hB 2, boxN _ _ hb hB 3, boxN _ _ hb hB 4, boxN _ _ hb hB 5, boxN _ _ hb hB 6, boxN _ _ hb hB 7, boxN _ _ hb hB 8, boxN _ _ hb hB 9, boxN _ _ hb hB 10⟩

/-- Whether a config is such as may be. -/
def cfgB (c : Cfg) : Bool :=
  inB c.i 1 4 && inB c.h 1 4 && inB c.o 1 4 && inB c.batch 1 8 && inB c.steps 1 40 && inB c.rate 0 2147483647 && inB c.decay 0 1 && inB c.how 0 1 && inB c.keep 0 65536 && inB c.clip 0 2147483647
def cfgI (c : Cfg) : Int := if cfgB c = true then 0 else 1
theorem cfgB_is {c : Cfg} (h : cfgB c = true) : (1 ≤ c.i ∧ c.i ≤ 4) ∧ (1 ≤ c.h ∧ c.h ≤ 4) ∧ (1 ≤ c.o ∧ c.o ≤ 4) ∧ (1 ≤ c.batch ∧ c.batch ≤ 8) ∧ (1 ≤ c.steps ∧ c.steps ≤ 40) ∧ (0 ≤ c.rate ∧ c.rate ≤ 2147483647) ∧ (0 ≤ c.decay ∧ c.decay ≤ 1) ∧ (0 ≤ c.how ∧ c.how ≤ 1) ∧ (0 ≤ c.keep ∧ c.keep ≤ 65536) ∧ (0 ≤ c.clip ∧ c.clip ≤ 2147483647) := by
  simp only [cfgB, Bool.and_eq_true] at h
  obtain ⟨⟨⟨⟨⟨⟨⟨⟨⟨h1, h2⟩, h3⟩, h4⟩, h5⟩, h6⟩, h7⟩, h8⟩, h9⟩, h10⟩ := h
  exact ⟨in_is h1, in_is h2, in_is h3, in_is h4, in_is h5, in_is h6, in_is h7, in_is h8, in_is h9, in_is h10⟩
theorem cfgI_yes {c : Cfg} (h : cfgB c = true) : cfgI c = 0 := by unfold cfgI; rw [if_pos h]
theorem cfgI_no {c : Cfg} (h : cfgB c = false) : cfgI c = 1 := by unfold cfgI; rw [if_neg (by rw [h]; decide)]

/-! Rate. -/
def rateE (c : Cfg) (step : Int) : Int := if cfgB c = true ∧ inB step 0 (c.steps - 1) = true then 0 else 1
def rateV (c : Cfg) (step : Int) : Int := if c.decay = 1 then mulI c.rate (divI (c.steps - step) c.steps) else c.rate
def rateI (c : Cfg) (step : Int) : Int := if cfgB c = true ∧ inB step 0 (c.steps - 1) = true then rateV c step else 0

/-! Clip. -/
def absI (n : Int) : Int := if n < 0 then -n else n
theorem absI_neg (n : Int) : absI (-n) = absI n := by unfold absI; (repeat' split) <;> omega
theorem absI_bd {n B : Int} (h0 : -B ≤ n) (h1 : n ≤ B) : 0 ≤ absI n ∧ absI n ≤ B := by unfold absI; split <;> omega
/-- The greatest of the first k, without signs. -/
def topTo (g : Nat → Int) : Nat → Int
  | 0 => 0
  | k + 1 => if topTo g k < absI (g k) then absI (g k) else topTo g k
theorem topTo_bd {g : Nat → Int} {n : Nat} (h : ∀ i, i < n → -2147483647 ≤ g i ∧ g i ≤ 2147483647) : 0 ≤ topTo g n ∧ topTo g n ≤ 2147483647 := by
  induction n with
  | zero => exact ⟨Int.le_refl _, by show (0 : Int) ≤ 2147483647; omega⟩
  | succ k ih =>
    have a := absI_bd (h k (by omega)).1 (h k (by omega)).2
    have b := ih (fun i hi => h i (by omega))
    unfold topTo
    split <;> omega
theorem topTo_congr {f g : Nat → Int} {n : Nat} (h : ∀ i, i < n → f i = g i) : topTo f n = topTo g n := by
  induction n with
  | zero => rfl
  | succ k ih =>
    unfold topTo
    rw [ih (fun i hi => h i (by omega)), h k (by omega)]
theorem topTo_neg {f g : Nat → Int} {n : Nat} (h : ∀ i, i < n → f i = -g i) : topTo f n = topTo g n := by
  induction n with
  | zero => rfl
  | succ k ih =>
    unfold topTo
    rw [ih (fun i hi => h i (by omega)), h k (by omega), absI_neg]
def clampG (xs : List Int) (i : Nat) : Int := clampI (xs.getD i 0)
theorem clampG_bd (xs : List Int) (i : Nat) : -2147483647 ≤ clampG xs i ∧ clampG xs i ≤ 2147483647 := clampI_bd _
def topL (xs : List Int) (la : Nat) : Int := topTo (clampG xs) la
theorem topL_bd (xs : List Int) (la : Nat) : 0 ≤ topL xs la ∧ topL xs la ≤ 2147483647 := topTo_bd fun i _ => clampG_bd xs i
def clipE (la : Nat) (most : Int) : Int := if 200 < la then 2 else if inB most 0 2147483647 = true then 0 else 1
def clipG (xs : List Int) (most : Int) (la i : Nat) : Int := if most ≠ 0 ∧ most < topL xs la then mulI (xs.getD i 0) (divI most (topL xs la)) else clampI (xs.getD i 0)
def clipL (xs : List Int) (most : Int) (la : Nat) : List Int := if clipE la most = 0 then (List.range la).map (clipG xs most la) else []
theorem mulI_clamp (a b : Int) : mulI (clampI a) b = mulI a b := by unfold mulI; rw [clampI_idem]
theorem mulI_clamp' (a b : Int) : mulI b (clampI a) = mulI b a := by unfold mulI; rw [clampI_idem]

/-! Step. -/
def sizeN (c : Cfg) : Int := c.h * c.i + c.h + c.o * c.h + c.o
def fitB (c : Cfg) (len : Nat) (xs : List Int) : Bool := decide ((len : Int) = sizeN c) && rightB xs
def stepF (c : Cfg) (ws ms : List Int) (nw nm ng : Nat) : Bool := fitB c nw ws && fitB c nm ms && decide (ng = nw)
def stepE (c : Cfg) (ws ms : List Int) (nw nm ng : Nat) (rate : Int) : Int := if cfgB c = true then (if stepF c ws ms nw nm ng = true then (if inB rate 0 2147483647 = true then 0 else 1) else 5) else 1
def moveG (c : Cfg) (ms gs : List Int) (i : Nat) : Int := if c.how = 1 then addI (mulI c.keep (ms.getD i 0)) (gs.getD i 0) else clampI (gs.getD i 0)
def keptG (c : Cfg) (ms gs : List Int) (i : Nat) : Int := if c.how = 1 then moveG c ms gs i else ms.getD i 0
def goneG (c : Cfg) (ws ms gs : List Int) (rate : Int) (i : Nat) : Int := subI (ws.getD i 0) (mulI rate (moveG c ms gs i))
def stepW (c : Cfg) (ws ms gs : List Int) (nw nm ng : Nat) (rate : Int) : List Int := if stepE c ws ms nw nm ng rate = 0 then (List.range ng).map (goneG c ws ms gs rate) else []
def stepM (c : Cfg) (ws ms gs : List Int) (nw nm ng : Nat) (rate : Int) : List Int := if stepE c ws ms nw nm ng rate = 0 then (List.range ng).map (keptG c ms gs) else []
theorem sizeN_bd {c : Cfg} (h : cfgB c = true) : 4 ≤ sizeN c ∧ sizeN c ≤ 40 := by
  obtain ⟨⟨i1, i2⟩, ⟨h1, h2⟩, ⟨o1, o2⟩, _⟩ := cfgB_is h
  have a1 := Int.mul_le_mul_of_nonneg_right (c := c.i) h2 (by omega)
  have a2 := Int.mul_le_mul_of_nonneg_right (c := c.i) h1 (by omega)
  have b1 := Int.mul_le_mul_of_nonneg_right (c := c.h) o2 (by omega)
  have b2 := Int.mul_le_mul_of_nonneg_right (c := c.h) o1 (by omega)
  unfold sizeN
  omega
theorem fit_len {c : Cfg} (h : cfgB c = true) {len : Nat} {xs : List Int} (hf : fitB c len xs = true) : (len : Int) = sizeN c ∧ len ≤ 40 ∧ 4 ≤ len ∧ rightB xs = true := by
  simp only [fitB, Bool.and_eq_true, decide_eq_true_eq] at hf
  have := sizeN_bd h
  exact ⟨hf.1, by omega, by omega, hf.2⟩
end Go.Proofs.YtkikhfdkibekgaaGreat.Fx

/- How configs and states by value are opened. -/
namespace Go.Proofs.YtkikhfdkibekgaaGreat.Fx
open Go.ChangeShapes Go.WideShapes Go.ChangeAt Go.RowKit

theorem cellsOfWord : Tryz.prog.cellsOf 22 = 1 := by kernel_rfl

theorem cellsOfInt : Tryz.prog.cellsOf 3 = 1 := by kernel_rfl

theorem cellsCfg : Tryz.prog.cellsOf 24 = 11 := by kernel_rfl
theorem array11 {α : Type} {cs : Array α} (h : cs.size = 11) : ∃ c0 c1 c2 c3 c4 c5 c6 c7 c8 c9 c10, cs = #[c0, c1, c2, c3, c4, c5, c6, c7, c8, c9, c10] := by
  obtain ⟨l⟩ := cs
  match l, h with
  | [c0, c1, c2, c3, c4, c5, c6, c7, c8, c9, c10], _ => exact ⟨c0, c1, c2, c3, c4, c5, c6, c7, c8, c9, c10, rfl⟩

theorem fieldInt {H : Type} {enc : TypeId × Value → H} {W : World} {n i : Nat} {cs : List Value} {xs : List (DataW H × List MemPlace)} {k : IntKind} {t : TypeId} {off : Nat} {v : Value} (ht : Tryz.prog.underlying t = some (.int k)) (h1 : Tryz.prog.cellsOf t = 1) (hi : i < xs.length)
    (h : DataW.trod enc Tryz.prog W 0 (fun _ => true) true n t ((cs.drop off).take (Tryz.prog.cellsOf t)) = xs[i]?) (hc : (cs.drop off).take 1 = [v]) : ∃ z, v = .int k z ∧ (Lit.int k z).wf = true := by
  rw [h1, hc, List.getElem?_eq_getElem hi] at h
  obtain ⟨z, e, _, hw⟩ := DataW.trod_int ht h
  simp at e
  exact ⟨z, e, hw⟩

set_option maxRecDepth 100000 in
theorem openCfg {H : Type} {enc : TypeId × Value → H} {W : World} {b0 : Nat} {v : Value} {d : DataW H} {p : List MemPlace} (hv : Value.okWide Tryz.prog W .any b0 24 v) (h : DataW.Trod enc Tryz.prog W 0 (fun _ => true) true 24 v d p) :
    ∃ c : Cfg, v = c.val ∧ (Lit.int .u64 c.seed).wf = true := by
  obtain ⟨cs, rfl, hsz⟩ := okWide_struct Tryz.underlying24 hv
  obtain ⟨c0, c1, c2, c3, c4, c5, c6, c7, c8, c9, c10, rfl⟩ := array11 (hsz.trans cellsCfg)
  obtain ⟨fuel, hf⟩ := h
  obtain ⟨xs, n, _, _, _, hlen, hfs⟩ := DataW.trod_struct Tryz.underlying24 hf
  have hl : xs.length = 11 := hlen
  obtain ⟨i0, rfl, _⟩ := fieldInt (v := c0) Tryz.underlying3 cellsOfInt (by omega) (hfs 0 _ rfl) rfl
  obtain ⟨i1, rfl, _⟩ := fieldInt (v := c1) Tryz.underlying3 cellsOfInt (by omega) (hfs 1 _ rfl) rfl
  obtain ⟨i2, rfl, _⟩ := fieldInt (v := c2) Tryz.underlying3 cellsOfInt (by omega) (hfs 2 _ rfl) rfl
  obtain ⟨i3, rfl, w3⟩ := fieldInt (v := c3) Tryz.underlying22 cellsOfWord (by omega) (hfs 3 _ rfl) rfl
  obtain ⟨i4, rfl, _⟩ := fieldInt (v := c4) Tryz.underlying3 cellsOfInt (by omega) (hfs 4 _ rfl) rfl
  obtain ⟨i5, rfl, _⟩ := fieldInt (v := c5) Tryz.underlying3 cellsOfInt (by omega) (hfs 5 _ rfl) rfl
  obtain ⟨i6, rfl, _⟩ := fieldInt (v := c6) Tryz.underlying3 cellsOfInt (by omega) (hfs 6 _ rfl) rfl
  obtain ⟨i7, rfl, _⟩ := fieldInt (v := c7) Tryz.underlying3 cellsOfInt (by omega) (hfs 7 _ rfl) rfl
  obtain ⟨i8, rfl, _⟩ := fieldInt (v := c8) Tryz.underlying3 cellsOfInt (by omega) (hfs 8 _ rfl) rfl
  obtain ⟨i9, rfl, _⟩ := fieldInt (v := c9) Tryz.underlying3 cellsOfInt (by omega) (hfs 9 _ rfl) rfl
  obtain ⟨i10, rfl, _⟩ := fieldInt (v := c10) Tryz.underlying3 cellsOfInt (by omega) (hfs 10 _ rfl) rfl
  exact ⟨⟨i0, i1, i2, i3, i4, i5, i6, i7, i8, i9, i10⟩, rfl, w3⟩

theorem cellsState : Tryz.prog.cellsOf 28 = 2 := by kernel_rfl
set_option maxRecDepth 100000 in
theorem openState {H : Type} {enc : TypeId × Value → H} {W : World} {b0 : Nat} {v : Value} {d : DataW H} {p : List MemPlace} (hv : Value.okWide Tryz.prog W .any b0 28 v) (h : DataW.Trod enc Tryz.prog W 0 (fun _ => true) true 28 v d p) :
    ∃ (x : Exm) (I O : List Int), v = x.val ∧ InEx W x I O := by
  obtain ⟨c0, c1, y0, y1, m, rfl, _, _, hy0, hy1⟩ := Go.Joins.open_agg2 Tryz.underlying28 (by kernel_rfl) cellsState hv h
  obtain ⟨a3, l3, k3, B1, e3, g3⟩ := came_trod hy0
  obtain ⟨a4, l4, k4, B2, e4, g4⟩ := came_trod hy1
  simp at e3 e4
  subst e3 e4
  exact ⟨⟨a3, l3, k3, a4, l4, k4⟩, B1, B2, rfl, g3.1, g4.1⟩
end Go.Proofs.YtkikhfdkibekgaaGreat.Fx

/- How pupils by value, and examples, are opened. -/
namespace Go.Proofs.YtkikhfdkibekgaaGreat.Fx
open Go.ChangeShapes Go.WideShapes Go.ChangeAt Go.RowKit

theorem cellsPup : Tryz.prog.cellsOf 107 = 8 := by kernel_rfl
theorem cellsInts : Tryz.prog.cellsOf 26 = 1 := by kernel_rfl
theorem cellsInt : Tryz.prog.cellsOf 3 = 1 := by kernel_rfl
theorem array8 {α : Type} {cs : Array α} (h : cs.size = 8) : ∃ c0 c1 c2 c3 c4 c5 c6 c7, cs = #[c0, c1, c2, c3, c4, c5, c6, c7] := by
  obtain ⟨l⟩ := cs
  match l, h with
  | [c0, c1, c2, c3, c4, c5, c6, c7], _ => exact ⟨c0, c1, c2, c3, c4, c5, c6, c7, rfl⟩

theorem came_mat {H : Type} {enc : TypeId × Value → H} {W : World} {fuel : Nat} {c0 c1 c2 : Value} {x : DataW H × List MemPlace} (hf : DataW.trod enc Tryz.prog W 0 (fun _ => true) true fuel 105 [c0, c1, c2] = some x) :
    ∃ r c a len cap xs, c0 = .int .i64 r ∧ c1 = .int .i64 c ∧ c2 = .slice a len cap ∧ Lst W a len cap xs := by
  obtain ⟨y0, y1, y2, n, _, _, h0, h1, h2⟩ := Go.Deep.trod_struct3 Tryz.underlying105 hf
  simp [cellsInt, cellsInts] at h0 h1 h2
  obtain ⟨r, e0, _, _⟩ := DataW.trod_int Tryz.underlying3 h0
  obtain ⟨c, e1, _, _⟩ := DataW.trod_int Tryz.underlying3 h1
  obtain ⟨a, len, cap, xs, e2, hc⟩ := came_trod h2
  simp at e0 e1 e2
  exact ⟨r, c, a, len, cap, xs, e0, e1, e2, hc.1⟩

set_option maxRecDepth 100000 in
theorem openPup {H : Type} {enc : TypeId × Value → H} {W : World} {b0 : Nat} {v : Value} {d : DataW H} {p : List MemPlace} (hv : Value.okWide Tryz.prog W .any b0 107 v) (h : DataW.Trod enc Tryz.prog W 0 (fun _ => true) true 107 v d p) :
    ∃ (q : Pup) (D : PD), v = q.val ∧ InPup W q D := by
  obtain ⟨cs, rfl, hsz⟩ := okWide_struct Tryz.underlying107 hv
  obtain ⟨c0, c1, c2, c3, c4, c5, c6, c7, rfl⟩ := array8 (hsz.trans cellsPup)
  obtain ⟨fuel, hf⟩ := h
  obtain ⟨y0, y1, y2, y3, n, _, _, h0, h1, h2, h3⟩ := Go.Joins.trod_struct4 Tryz.underlying107 hf
  simp [Value.cells, cellsMat, cellsInts] at h0 h1 h2 h3
  obtain ⟨r1, s1, a1, l1, k1, X1, rfl, rfl, rfl, g1⟩ := came_mat h0
  obtain ⟨r2, s2, a2, l2, k2, X2, rfl, rfl, rfl, g2⟩ := came_mat h1
  obtain ⟨a3, l3, k3, B1, e3, g3⟩ := came_trod h2
  obtain ⟨a4, l4, k4, B2, e4, g4⟩ := came_trod h3
  simp at e3 e4
  subst e3 e4
  exact ⟨⟨r1, s1, a1, l1, k1, r2, s2, a2, l2, k2, a3, l3, k3, a4, l4, k4⟩, ⟨X1, X2, B1, B2⟩, rfl, g1, g2, g3.1, g4.1⟩

theorem cellsEx : Tryz.prog.cellsOf 51 = 2 := by kernel_rfl
set_option maxRecDepth 100000 in
theorem openEx {H : Type} {enc : TypeId × Value → H} {W : World} {b0 : Nat} {v : Value} {d : DataW H} {p : List MemPlace} (hv : Value.okWide Tryz.prog W .any b0 51 v) (h : DataW.Trod enc Tryz.prog W 0 (fun _ => true) true 51 v d p) :
    ∃ (x : Exm) (I O : List Int), v = x.val ∧ InEx W x I O := by
  obtain ⟨c0, c1, y0, y1, m, rfl, _, _, hy0, hy1⟩ := Go.Joins.open_agg2 Tryz.underlying51 (by kernel_rfl) cellsEx hv h
  obtain ⟨a3, l3, k3, B1, e3, g3⟩ := came_trod hy0
  obtain ⟨a4, l4, k4, B2, e4, g4⟩ := came_trod hy1
  simp at e3 e4
  subst e3 e4
  exact ⟨⟨a3, l3, k3, a4, l4, k4⟩, B1, B2, rfl, g3.1, g4.1⟩
end Go.Proofs.YtkikhfdkibekgaaGreat.Fx

/- The plain numbers of package digest: sums, products and powers by P = 2^61 - 1, the mix of three numbers and what is made of a list; and how a number of two words is divided by P, digit by digit. Nothing here speaks of the program. -/
namespace Go.Proofs.YtkikhfdkibekgaaGreat.Fx

def addP (a b : Int) : Int := (a + b) % 2305843009213693951
def mulP (a b : Int) : Int := (a * b) % 2305843009213693951
def sqTo (n : Int) : Nat → Int
  | 0 => n
  | k + 1 => mulP (sqTo n k) (sqTo n k)
/-- the 17th power -/
def powP (n : Int) : Int := mulP (sqTo n 4) n

def okP (n : Int) : Prop := 0 ≤ n ∧ n < 2305843009213693951
def okW (n : Int) : Prop := 0 ≤ n ∧ n < 18446744073709551616
theorem okP_W {a : Int} (h : okP a) : okW a := ⟨h.1, by have := h.2; omega⟩

def okL (xs : List Int) : Prop := ∀ i, i < xs.length → okW (xs.getD i 0)
theorem addP_ok (a b : Int) : okP (addP a b) := by unfold okP addP; omega
theorem mulP_ok (a b : Int) : okP (mulP a b) := by unfold okP mulP; omega
theorem powP_ok (n : Int) : okP (powP n) := mulP_ok _ _
theorem sqTo_ok {n : Int} (h : okP n) : ∀ k, okP (sqTo n k)
  | 0 => h
  | _ + 1 => mulP_ok _ _

structure Tri where
  x : Int
  y : Int
  z : Int
def Tri.ok (s : Tri) : Prop := okP s.x ∧ okP s.y ∧ okP s.z
def Tri.at (s : Tri) (k : Nat) : Int := if k = 0 then s.x else if k = 1 then s.y else s.z

/-- The three powers of a turn. -/
def pows (i : Int) (s : Tri) : Tri := ⟨powP (addP s.x i), powP (addP s.y (2 * i)), powP (addP s.z (3 * i))⟩
theorem pows_ok (i : Int) (s : Tri) : (pows i s).ok := ⟨powP_ok _, powP_ok _, powP_ok _⟩
def sums (t : Tri) : Tri := ⟨addP (addP (addP t.x t.y) t.z) t.x, addP (addP (addP t.x t.y) t.z) t.y, addP (addP (addP t.x t.y) t.z) t.z⟩
theorem sums_ok (t : Tri) : (sums t).ok := ⟨addP_ok _ _, addP_ok _ _, addP_ok _ _⟩
def mixTo (s : Tri) : Nat → Tri
  | 0 => s
  | k + 1 => sums (pows ((k : Int) + 1) (mixTo s k))
def mixP (s : Tri) : Tri := mixTo s 6
theorem mixTo_ok {s : Tri} (h : s.ok) : ∀ k, (mixTo s k).ok
  | 0 => h
  | _ + 1 => sums_ok _
theorem mixP_ok (s : Tri) : (mixP s).ok := sums_ok _
def ofTo (kind : Int) (l : List Int) : Nat → Tri
  | 0 => mixP ⟨kind % 2305843009213693951, l.length, 1⟩
  | k + 1 => mixP ⟨addP (ofTo kind l k).x (l.getD k 0), (ofTo kind l k).y, (ofTo kind l k).z⟩
def ofP (kind : Int) (l : List Int) : Int := (ofTo kind l l.length).y
theorem ofTo_ok (kind : Int) (l : List Int) : ∀ k, (ofTo kind l k).ok
  | 0 => mixP_ok _
  | _ + 1 => mixP_ok _
theorem ofP_ok (kind : Int) (l : List Int) : okP (ofP kind l) := (ofTo_ok kind l _).2.1
def boundP (n : Int) : Int := (if n < -4294967296 then -4294967296 else if 4294967296 < n then 4294967296 else n) + 4294967296
theorem boundP_ok (n : Int) : 0 ≤ boundP n ∧ boundP n ≤ 8589934592 := by unfold boundP; (repeat' split) <;> omega

theorem addP_mod (a b : Int) : addP a (b % 2305843009213693951) = addP a b := by unfold addP; omega
/-- The other way of adding: of the rests, by fours. -/
theorem four_add (x y z t : Int) : addP (addP x y) (addP z t) = addP (addP (addP x y) z) t := by unfold addP; omega
theorem rest_add (a b : Int) : (a % 2305843009213693951 + b % 2305843009213693951) % 2305843009213693951 = addP a b := by unfold addP; omega

/-! Doubling, bit by bit. -/
def dblTo (a b : Int) (k : Nat) : Int := (a * (b / 2 ^ k)) % 2305843009213693951
theorem dbl_top (a b : Int) (h : okP b) : dblTo a b 61 = 0 := by
  obtain ⟨h0, h1⟩ := h
  have e : b / 2 ^ 61 = 0 := by
    have : (2 : Int) ^ 61 = 2305843009213693952 := by decide
    rw [this]; omega
  unfold dblTo; rw [e, Int.mul_zero]; rfl
theorem dbl_end (a b : Int) : dblTo a b 0 = mulP a b := by unfold dblTo mulP; simp
theorem half_pow (b : Int) (k : Nat) : b / 2 ^ (k + 1) = b / 2 ^ k / 2 := by
  rw [Int.pow_succ, Int.ediv_ediv_of_nonneg (Int.pow_nonneg (by omega))]
theorem dbl_step0 (a b : Int) (k : Nat) (h : b / 2 ^ k % 2 = 0) : (dblTo a b (k + 1) + dblTo a b (k + 1)) % 2305843009213693951 = dblTo a b k := by
  unfold dblTo
  rw [half_pow]
  generalize b / 2 ^ k = q at *
  have e : a * q = a * (q / 2) + a * (q / 2) := by
    rw [← Int.mul_add]; congr 1; omega
  rw [e]
  omega
theorem dbl_step1 (a b : Int) (k : Nat) (h : b / 2 ^ k % 2 = 1) : ((dblTo a b (k + 1) + dblTo a b (k + 1)) % 2305843009213693951 + a) % 2305843009213693951 = dblTo a b k := by
  unfold dblTo
  rw [half_pow]
  generalize b / 2 ^ k = q at *
  have e : a * q = a * (q / 2) + a * (q / 2) + a := by
    have e1 : a * q = a * (q / 2 + q / 2 + 1) := by congr 1; omega
    rw [e1, Int.mul_add, Int.mul_add, Int.mul_one]
  rw [e]
  omega
theorem dbl_ok (a b : Int) (k : Nat) : okP (dblTo a b k) := by unfold okP dblTo; omega

/-! A number of two words by P: 8 P = 2^64 - 8 is the divisor that is shifted, its upper half 2^32 - 1, its lower half 2^32 - 8. -/
def Digit (u d q r : Int) : Prop := 0 ≤ q ∧ q ≤ 4294967296 ∧ r = u - q * 4294967295 ∧ 0 ≤ r ∧ r < 4294967296 ∧ (u * 4294967296 + d) / 18446744073709551608 ≤ q
def inU (u d : Int) : Prop := 0 ≤ u ∧ u < 18446744073709551608 ∧ 0 ≤ d ∧ d < 4294967296
theorem digit_first {u d : Int} (h : inU u d) : Digit u d (u / 4294967295) (u - u / 4294967295 * 4294967295) := by
  obtain ⟨h0, h1, h2, h3⟩ := h
  refine ⟨by omega, by omega, rfl, by omega, by omega, by omega⟩
theorem digit_more {u d q r : Int} (h : inU u d) (D : Digit u d q r) (c : 4294967296 ≤ q ∨ 4294967296 * r + d < q * 4294967288) : 1 ≤ q ∧ (r + 4294967295 < 4294967296 → Digit u d (q - 1) (r + 4294967295)) ∧ (4294967296 ≤ r + 4294967295 → q - 1 = (u * 4294967296 + d) / 18446744073709551608) := by
  obtain ⟨h0, h1, h2, h3⟩ := h
  obtain ⟨a0, a1, a2, a3, a4, a5⟩ := D
  have b : (u * 4294967296 + d) / 18446744073709551608 ≤ q - 1 := by omega
  refine ⟨by omega, fun g => ⟨by omega, by omega, by omega, by omega, by omega, b⟩, fun g => by omega⟩
theorem digit_last {u d q r : Int} (D : Digit u d q r) (c : ¬ 4294967296 * r + d < q * 4294967288) : q = (u * 4294967296 + d) / 18446744073709551608 := by
  obtain ⟨a0, a1, a2, a3, a4, a5⟩ := D
  omega
theorem two_digits (hi lo : Int) (h : okP hi) (hl : okW lo) (u d1 d0 v : Int) (hu : u = hi * 8 + lo / 2305843009213693952) (hd1 : d1 = lo * 8 % 18446744073709551616 / 4294967296) (hd0 : d0 = lo * 8 % 18446744073709551616 % 4294967296)
    (hv : v = (u * 4294967296 + d1) % 18446744073709551608) : inU u d1 ∧ inU v d0 ∧ (v * 4294967296 + d0) % 18446744073709551608 / 8 = (hi * 18446744073709551616 + lo) % 2305843009213693951 := by
  obtain ⟨h0, h1⟩ := h
  obtain ⟨l0, l1⟩ := hl
  refine ⟨⟨by omega, by omega, by omega, by omega⟩, ⟨by omega, by omega, by omega, by omega⟩, ?_⟩
  omega

end Go.Proofs.YtkikhfdkibekgaaGreat.Fx
