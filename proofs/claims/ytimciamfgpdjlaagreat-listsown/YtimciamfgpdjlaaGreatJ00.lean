/- The plain numbers of package fix: clamping, rounding to the nearest and of two as near to the even one, and the laws of them that the statements ask; nothing here speaks of the program. -/
import Derived.WalkKit
import Derived.Deep.OwnRows
import Derived.Deep.Draws
import Derived.Test.YtimciamfgpdjlaaGreatRows
import Derived.ProofKit
import Derived.OpenShut
import Derived.ShutString
import Derived.ChangeOld
import Derived.Below
import Derived.SizedLaws
import Derived.Lib.SmallJoins
import Derived.Deep.QuietTactic
import Derived.BigQuiet
import Derived.BigRegion
import Derived.Deep.RegionWith
namespace Go.Proofs.YtimciamfgpdjlaaGreat.Fx

def clampI (n : Int) : Int := if n < -2147483647 then -2147483647 else if 2147483647 < n then 2147483647 else n

/-- n by d, d above 0: the nearest whole number, of two as near the even one. -/
def rnd (n d : Int) : Int := if d < 2 * (n % d) ∨ (2 * (n % d) = d ∧ (n / d) % 2 ≠ 0) then n / d + 1 else n / d

def quoI (n d : Int) : Int := if d < 0 then rnd (-n) (-d) else rnd n d
def addI (a b : Int) : Int := clampI (clampI a + clampI b)
def subI (a b : Int) : Int := clampI (clampI a - clampI b)
def mulI (a b : Int) : Int := clampI (rnd (clampI a * clampI b) 65536)
def divI (a b : Int) : Int := clampI (quoI (clampI a * 65536) (clampI b))

theorem clampI_bd (n : Int) : -2147483647 ≤ clampI n ∧ clampI n ≤ 2147483647 := by unfold clampI; split <;> (try split) <;> omega
theorem clampI_in {n : Int} (h0 : -2147483647 ≤ n) (h1 : n ≤ 2147483647) : clampI n = n := by unfold clampI; rw [if_neg (by omega), if_neg (by omega)]
theorem clampI_idem (n : Int) : clampI (clampI n) = clampI n := clampI_in (clampI_bd n).1 (clampI_bd n).2
theorem clampI_neg (n : Int) : clampI (-n) = -clampI n := by unfold clampI; (repeat' split) <;> omega
theorem clampI_mono {a b : Int} (h : a ≤ b) : clampI a ≤ clampI b := by unfold clampI; (repeat' split) <;> omega
theorem clampI_ne {n : Int} (h : n ≠ 0) : clampI n ≠ 0 := by unfold clampI; (repeat' split) <;> omega

/-- Products of two clamped numbers. -/
theorem prod_bd (x y : Int) (hx : -2147483647 ≤ x ∧ x ≤ 2147483647) (hy : -2147483647 ≤ y ∧ y ≤ 2147483647) : -4611686014132420609 ≤ x * y ∧ x * y ≤ 4611686014132420609 := by
  have h1 : x.natAbs ≤ 2147483647 := by omega
  have h2 : y.natAbs ≤ 2147483647 := by omega
  have h3 : x.natAbs * y.natAbs ≤ 2147483647 * 2147483647 := Nat.mul_le_mul h1 h2
  have h4 : (x * y).natAbs = x.natAbs * y.natAbs := Int.natAbs_mul x y
  omega

/-- What a rounded quotient is: within half of d. -/
theorem rnd_near (n d : Int) (hd : 0 < d) : -d ≤ 2 * (n - rnd n d * d) ∧ 2 * (n - rnd n d * d) ≤ d ∧ (2 * (n - rnd n d * d) = d ∨ 2 * (n - rnd n d * d) = -d → rnd n d % 2 = 0) := by
  have e := Int.mul_ediv_add_emod n d
  have l := Int.emod_nonneg n (b := d) (by omega)
  have u := Int.emod_lt_of_pos n hd
  unfold rnd
  generalize n / d = q at *
  generalize n % d = r at *
  have c : q * d = d * q := Int.mul_comm q d
  split
  · have m : (q + 1) * d = d * q + d := by rw [Int.add_mul, c]; omega
    rw [m]; generalize d * q = p at *; omega
  · rw [c]; generalize d * q = p at *; omega

/-- That is the only such number. -/
theorem rnd_only (n d m : Int) (hd : 0 < d) (h0 : -d ≤ 2 * (n - m * d)) (h1 : 2 * (n - m * d) ≤ d) (h2 : 2 * (n - m * d) = d ∨ 2 * (n - m * d) = -d → m % 2 = 0) : rnd n d = m := by
  obtain ⟨k0, k1, k2⟩ := rnd_near n d hd
  generalize rnd n d = q at *
  have e : (q - m) * d = q * d - m * d := Int.sub_mul q m d
  have b1 : (q - m) * d ≤ d := by omega
  have b2 : -d ≤ (q - m) * d := by omega
  have c1 : q - m ≤ 1 := by
    by_cases c : q - m ≤ 1
    · exact c
    · have : 2 * d ≤ (q - m) * d := Int.mul_le_mul_of_nonneg_right (by omega) (by omega)
      omega
  have c2 : -1 ≤ q - m := by
    by_cases c : -1 ≤ q - m
    · exact c
    · have : (q - m) * d ≤ (-2) * d := Int.mul_le_mul_of_nonneg_right (by omega) (by omega)
      omega
  have three : q - m = 0 ∨ q - m = 1 ∨ q - m = -1 := by omega
  rcases three with t | t | t
  · omega
  · rw [t] at e
    have z1 := k2 (Or.inr (by omega))
    have z2 := h2 (Or.inl (by omega))
    omega
  · rw [t] at e
    have z1 := k2 (Or.inl (by omega))
    have z2 := h2 (Or.inr (by omega))
    omega

theorem rnd_neg (n d : Int) (hd : 0 < d) : rnd (-n) d = -rnd n d := by
  obtain ⟨k0, k1, k2⟩ := rnd_near n d hd
  generalize rnd n d = q at *
  have e : -q * d = -(q * d) := Int.neg_mul q d
  refine rnd_only _ _ _ hd ?_ ?_ ?_
  · rw [e]; omega
  · rw [e]; omega
  · rw [e]; intro h; have := k2 (by omega); omega

theorem rnd_mono {a b d : Int} (hd : 0 < d) (h : a ≤ b) : rnd a d ≤ rnd b d := by
  obtain ⟨k0, k1, k2⟩ := rnd_near a d hd
  obtain ⟨l0, l1, l2⟩ := rnd_near b d hd
  by_cases c : rnd a d ≤ rnd b d
  · exact c
  · generalize rnd a d = p at *
    generalize rnd b d = q at *
    exfalso
    have e : (p - q) * d = p * d - q * d := Int.sub_mul p q d
    have g : d ≤ (p - q) * d := by
      have := Int.mul_le_mul_of_nonneg_right (a := 1) (b := p - q) (c := d) (by omega) (by omega)
      omega
    by_cases one : p - q = 1
    · rw [one] at e
      have z1 := k2 (Or.inr (by omega))
      have z2 := l2 (Or.inl (by omega))
      omega
    · have := Int.mul_le_mul_of_nonneg_right (a := 2) (b := p - q) (c := d) (by omega) (by omega)
      omega

theorem rnd_whole (q d : Int) (hd : 0 < d) : rnd (q * d) d = q := by
  refine rnd_only _ _ _ hd ?_ ?_ ?_ <;> omega

theorem rnd_bd (n d : Int) (hd : 0 < d) (B : Int) (hB : 0 ≤ B) (h0 : -B ≤ n) (h1 : n ≤ B) : -B ≤ rnd n d ∧ rnd n d ≤ B := by
  have hm : B ≤ B * d := by have := Int.mul_le_mul_of_nonneg_left (a := 1) (b := d) (c := B) (by omega) hB; omega
  have a := rnd_mono (a := n) (b := B * d) hd (by omega)
  have b := rnd_mono (a := -(B * d)) (b := n) hd (by omega)
  rw [rnd_neg _ _ hd] at b
  rw [rnd_whole _ _ hd] at a b
  omega

theorem addI_bd (a b : Int) : -2147483647 ≤ addI a b ∧ addI a b ≤ 2147483647 := clampI_bd _
theorem subI_bd (a b : Int) : -2147483647 ≤ subI a b ∧ subI a b ≤ 2147483647 := clampI_bd _
theorem mulI_bd (a b : Int) : -2147483647 ≤ mulI a b ∧ mulI a b ≤ 2147483647 := clampI_bd _
theorem divI_bd (a b : Int) : -2147483647 ≤ divI a b ∧ divI a b ≤ 2147483647 := clampI_bd _

theorem addI_comm (a b : Int) : addI a b = addI b a := by unfold addI; rw [Int.add_comm]
theorem mulI_comm (a b : Int) : mulI a b = mulI b a := by unfold mulI; rw [Int.mul_comm]
theorem subI_neg (a b : Int) : subI a b = -subI b a := by unfold subI; rw [← clampI_neg]; congr 1; omega
theorem mulI_neg (a b : Int) : mulI (-a) b = -mulI a b := by unfold mulI; rw [clampI_neg, Int.neg_mul, rnd_neg _ _ (by omega), clampI_neg]
theorem mulI_one (a : Int) (h0 : -2147483647 ≤ a) (h1 : a ≤ 2147483647) : mulI a 65536 = a := by
  unfold mulI; rw [clampI_in h0 h1, clampI_in (n := 65536) (by omega) (by omega), rnd_whole _ _ (by omega), clampI_in h0 h1]
theorem addI_mono {a b : Int} (c : Int) (h : a ≤ b) : addI a c ≤ addI b c := by
  unfold addI; have := clampI_mono h; exact clampI_mono (by omega)
theorem mulI_mono {a b c : Int} (hc : 0 ≤ c) (h : a ≤ b) : mulI a c ≤ mulI b c := by
  unfold mulI; have := clampI_mono h
  have hc' : 0 ≤ clampI c := by unfold clampI; (repeat' split) <;> omega
  exact clampI_mono (rnd_mono (by omega) (Int.mul_le_mul_of_nonneg_right this hc'))
theorem quoI_neg (n d : Int) (hd : d ≠ 0) : quoI (-n) d = -quoI n d := by
  unfold quoI; split
  · rw [rnd_neg _ _ (by omega)]
  · rw [rnd_neg _ _ (by omega)]
theorem divI_neg (a b : Int) (hb : b ≠ 0) : divI (-a) b = -divI a b := by
  unfold divI; rw [clampI_neg, Int.neg_mul, quoI_neg _ _ (clampI_ne hb), clampI_neg]
theorem quoI_bd (n d : Int) (hd : d ≠ 0) (B : Int) (hB : 0 ≤ B) (h0 : -B ≤ n) (h1 : n ≤ B) : -B ≤ quoI n d ∧ quoI n d ≤ B := by
  unfold quoI; split
  · exact rnd_bd _ _ (by omega) B hB (by omega) (by omega)
  · exact rnd_bd _ _ (by omega) B hB (by omega) (by omega)

/-- What Go's division gives, from the floor. -/
theorem tdiv_pos {n d : Int} (hn : 0 ≤ n) : n.tdiv d = n / d := Int.tdiv_eq_ediv_of_nonneg hn
theorem tmod_pos {n d : Int} (hn : 0 ≤ n) : n.tmod d = n % d := Int.tmod_eq_emod_of_nonneg hn

/-- Below 0: the rest that Go's division gives is 0, or below 0: then the floor is one less. -/
theorem floor_of {n d : Int} (hd : 0 < d) : (n.tmod d < 0 → n / d = n.tdiv d - 1 ∧ n % d = n.tmod d + d) ∧ (0 ≤ n.tmod d → n / d = n.tdiv d ∧ n % d = n.tmod d) := by
  have e := Int.mul_ediv_add_emod n d
  have f := Int.mul_tdiv_add_tmod n d
  have l := Int.emod_nonneg n (b := d) (by omega)
  have u := Int.emod_lt_of_pos n hd
  have a1 : (n.tmod d).natAbs < d.natAbs := by rw [Int.natAbs_tmod]; exact Nat.mod_lt _ (by omega)
  generalize n.tdiv d = q at *
  generalize n.tmod d = r at *
  generalize n / d = q' at *
  generalize n % d = r' at *
  have g : d * (q' - q) = r - r' := by rw [Int.mul_sub]; omega
  have k1 : q' - q < 1 := by
    by_cases c : q' - q < 1
    · exact c
    · have := Int.mul_le_mul_of_nonneg_left (a := 1) (b := q' - q) (c := d) (by omega) (by omega); omega
  have k2 : -2 < q' - q := by
    by_cases c : -2 < q' - q
    · exact c
    · have := Int.mul_le_mul_of_nonneg_left (a := q' - q) (b := -2) (c := d) (by omega) (by omega); omega
  have k : q' - q = 0 ∨ q' - q = -1 := by omega
  rcases k with k | k <;> rw [k] at g <;> omega

theorem tdiv_bd (n d B : Int) (h0 : -B ≤ n) (h1 : n ≤ B) : -B ≤ n.tdiv d ∧ n.tdiv d ≤ B := by
  have a1 : (n.tdiv d).natAbs ≤ n.natAbs := by rw [Int.natAbs_tdiv]; exact Nat.div_le_self _ _
  omega
theorem tmod_bd (n d : Int) (hd : 0 < d) : -d < n.tmod d ∧ n.tmod d < d := by
  have a1 : (n.tmod d).natAbs < d.natAbs := by rw [Int.natAbs_tmod]; exact Nat.mod_lt _ (by omega)
  omega

/-- The same at a divisor below 0, as the walk spells it. -/
theorem floor_dneg {n d : Int} (hd : d < 0) : (-(n.tmod d) < 0 → (-n) / (-d) = n.tdiv d - 1 ∧ (-n) % (-d) = -(n.tmod d) + -d) ∧ (0 ≤ -(n.tmod d) → (-n) / (-d) = n.tdiv d ∧ (-n) % (-d) = -(n.tmod d)) := by
  have f := floor_of (n := -n) (d := -d) (by omega)
  rw [Int.neg_tdiv_neg, Int.tmod_neg, Int.neg_tmod] at f
  exact f
theorem tmod_dneg (n d : Int) (hd : d < 0) : d < n.tmod d ∧ n.tmod d < -d := by
  have a1 : (n.tmod d).natAbs < d.natAbs := by rw [Int.natAbs_tmod]; exact Nat.mod_lt _ (by omega)
  omega
theorem tmod_sign (n d : Int) : (n ≤ 0 → n.tmod d ≤ 0) ∧ (0 ≤ n → n.tmod d = n % d ∧ 0 ≤ n.tmod d) := by
  refine ⟨fun h => ?_, fun h => ⟨Int.tmod_eq_emod_of_nonneg h, Int.tmod_nonneg d h⟩⟩
  have := Int.tmod_nonneg d (a := -n) (by omega)
  rw [Int.neg_tmod] at this; omega

/-- Oddness by Go's rest. -/
theorem odd_tmod (q : Int) : q.tmod 2 = 0 ↔ q % 2 = 0 := by
  have a : (q.tmod 2).natAbs = q.natAbs % 2 := by rw [Int.natAbs_tmod]; rfl
  omega
theorem rnd_of {n d q r x : Int} (hq : n / d = q) (hr : n % d = r) (hx : (d < 2 * r ∨ (2 * r = d ∧ q % 2 ≠ 0)) → x = q + 1) (hy : ¬ (d < 2 * r ∨ (2 * r = d ∧ q % 2 ≠ 0)) → x = q) : x = rnd n d := by
  unfold rnd; rw [hq, hr]; split
  · exact hx ‹_›
  · exact hy ‹_›

/-- FixNearest's own sentence. -/
theorem mulI_near (a b : Int) (ha : -2147483647 ≤ a ∧ a ≤ 2147483647) (hb : -2147483647 ≤ b ∧ b ≤ 2147483647) (h0 : mulI a b ≠ 2147483647) (h1 : mulI a b ≠ -2147483647) :
    -65536 ≤ 2 * (a * b - mulI a b * 65536) ∧ 2 * (a * b - mulI a b * 65536) ≤ 65536 ∧ (2 * (a * b - mulI a b * 65536) = 65536 ∨ 2 * (a * b - mulI a b * 65536) = -65536 → mulI a b % 2 = 0) := by
  have e : mulI a b = rnd (a * b) 65536 := by
    unfold mulI at *
    rw [clampI_in ha.1 ha.2, clampI_in hb.1 hb.2] at *
    generalize rnd (a * b) 65536 = q at *
    unfold clampI at *
    (repeat' split at *) <;> omega
  rw [e]; exact rnd_near _ _ (by omega)

/-- Whether a number is from lo to hi. -/
def inB (n lo hi : Int) : Bool := decide (lo ≤ n) && decide (n ≤ hi)
theorem in_yes {n lo hi : Int} (h : lo ≤ n ∧ n ≤ hi) : inB n lo hi = true := by unfold inB; simp; omega
theorem in_no {n lo hi : Int} (h : ¬ (lo ≤ n ∧ n ≤ hi)) : inB n lo hi = false := by unfold inB; simp; omega
theorem in_is {n lo hi : Int} (h : inB n lo hi = true) : lo ≤ n ∧ n ≤ hi := by simpa [inB] using h

end Go.Proofs.YtimciamfgpdjlaaGreat.Fx

/- Lists of integers as they lie in memory: what a slice reads as, in whatever world that holds its cells; no program is spoken of. -/
namespace Go.Proofs.YtimciamfgpdjlaaGreat.Fx
open Go.RowKit

/-- The slice of that address, length and capacity reads as the integers xs. -/
def Lst (w : World) (a : Option Addr) (len cap : Nat) (xs : List Int) : Prop :=
  xs.length = len ∧ len ≤ cap ∧ (len = 0 ∨ ∃ b off, a = some ⟨b, off, none⟩ ∧ b < w.heap.size ∧ ∀ i, i < len → w.cell? ⟨b, off + i, none⟩ = some (.int .i64 (xs.getD i 0)))

theorem Lst.len {w : World} {a : Option Addr} {n c : Nat} {xs : List Int} (h : Lst w a n c xs) : xs.length = n := h.1
theorem Lst.cap {w : World} {a : Option Addr} {n c : Nat} {xs : List Int} (h : Lst w a n c xs) : n ≤ c := h.2.1
theorem Lst.at {w : World} {a : Option Addr} {n c : Nat} {xs : List Int} (h : Lst w a n c xs) (hn : 0 < n) :
    ∃ b off, a = some ⟨b, off, none⟩ ∧ b < w.heap.size ∧ ∀ i, i < n → w.cell? ⟨b, off + i, none⟩ = some (.int .i64 (xs.getD i 0)) := by
  rcases h.2.2 with h0 | h0
  · omega
  · exact h0
theorem Lst.at1 {w : World} {a : Option Addr} {n c : Nat} {xs : List Int} (h : Lst w a n c xs) {k : Nat} (hk : k < n) :
    ∃ b off x, a = some ⟨b, off, none⟩ ∧ b < w.heap.size ∧ w.cell? ⟨b, off + k, none⟩ = some (.int .i64 x) ∧ Hid (xs.getD k 0 = x) := by
  obtain ⟨b, off, e, hs, hc⟩ := h.at (by omega)
  exact ⟨b, off, _, e, hs, hc k hk, rfl⟩
theorem Lst.nil (w : World) (a : Option Addr) (c : Nat) : Lst w a 0 c [] := ⟨rfl, Nat.zero_le _, .inl rfl⟩
theorem Lst.below {w w' : World} {a : Option Addr} {n c : Nat} {xs : List Int} {B : Nat} (h : Lst w a n c xs) (hb : Below B w w') (hB : w.heap.size ≤ B) : Lst w' a n c xs := by
  refine ⟨h.1, h.2.1, ?_⟩
  rcases h.2.2 with h0 | ⟨b, off, e, hs, hc⟩
  · exact .inl h0
  · exact .inr ⟨b, off, e, Nat.lt_of_lt_of_le hs hb.size, fun i hi => (hb.cell (p := ⟨b, off + i, none⟩) (Nat.lt_of_lt_of_le hs hB)).trans (hc i hi)⟩
theorem Lst.drewN {w : World} {a : Option Addr} {n c : Nat} {xs : List Int} (h : Lst w a n c xs) (k : Nat) : Lst (w.drewN k) a n c xs := by
  refine ⟨h.1, h.2.1, ?_⟩
  rcases h.2.2 with h0 | ⟨b, off, e, hs, hc⟩
  · exact .inl h0
  · exact .inr ⟨b, off, e, by simpa using hs, fun i hi => by simpa using hc i hi⟩
theorem Lst.drew {w : World} {a : Option Addr} {n c : Nat} {xs : List Int} (h : Lst w a n c xs) : Lst w.drew a n c xs := h.drewN 1
theorem Lst.row {w : World} {b t n : Nat} {f : Nat → Value} {xs : List Int} (h : w.rowIs b t n f) (hl : xs.length = n) (hf : ∀ i, i < n → f i = .int .i64 (xs.getD i 0)) : Lst w (some ⟨b, 0, none⟩) n n xs :=
  ⟨hl, Nat.le_refl _, .inr ⟨b, 0, rfl, h.lt, fun i hi => by rw [Nat.zero_add, h.cell hi, hf i hi]⟩⟩

theorem getD_map_int (xs : List Int) (i : Nat) (hi : i < xs.length) : (xs.map (Value.int .i64))[i]? = some (.int .i64 (xs.getD i 0)) := by
  simp [hi]

theorem Lst.owned {w : World} {base e n : Nat} {v : Value} {xs : List Int} (h : w.ownsRow base e 1 v n (xs.map (Value.int .i64))) :
    ∃ a c, v = .slice a n c ∧ Lst w a n c xs := by
  obtain ⟨hl, h2⟩ := h
  rw [List.length_map, Nat.mul_one] at hl
  rcases h2 with ⟨rfl, rfl⟩ | ⟨g, cap, cur, rfl, _, hh, hle, _, hsz, hcur⟩
  · rw [List.length_eq_zero_iff] at hl
    subst hl
    exact ⟨none, 0, rfl, Lst.nil _ _ _⟩
  · refine ⟨_, cap, rfl, hl, hle, .inr ⟨g, 0, rfl, (Array.getElem?_eq_some_iff.1 hh).1, fun i hi => ?_⟩⟩
    have h3 := getD_map_int xs i (by omega)
    rw [← hcur, Nat.mul_one] at h3
    simp only [World.cell?, hh, Nat.zero_add]
    rw [List.getElem?_take_of_lt hi] at h3
    simpa using h3

theorem Lst.sub {w : World} {b off n c : Nat} {xs : List Int} (h : Lst w (some ⟨b, off, none⟩) n c xs) (hn : 0 < n) (lo hi : Nat) (h1 : lo ≤ hi) (h2 : hi ≤ n) :
    Lst w (some ⟨b, off + lo, none⟩) (hi - lo) (c - lo) ((xs.drop lo).take (hi - lo)) := by
  obtain ⟨b', off', e, hs, hc⟩ := h.at hn
  have := h.len
  have := h.cap
  simp only [Option.some.injEq, Addr.mk.injEq, and_true] at e
  obtain ⟨rfl, rfl⟩ := e
  refine ⟨by simp; omega, by omega, .inr ⟨b, off + lo, rfl, hs, fun i hi' => ?_⟩⟩
  rw [Nat.add_assoc, hc (lo + i) (by omega)]
  have e : ((xs.drop lo).take (hi - lo)).getD i 0 = xs.getD (lo + i) 0 := by
    rw [List.getD_eq_getElem?_getD, List.getElem?_take_of_lt hi', List.getElem?_drop, ← List.getD_eq_getElem?_getD]
  rw [e]

theorem bcell {B : Nat} {W w1 : World} (hb : Below B W w1) : (∀ b o, b < B → w1.cell? ⟨b, o, none⟩ = W.cell? ⟨b, o, none⟩) ∧ (∀ b o, b < B → w1.frozen? ⟨b, o, none⟩ = W.frozen? ⟨b, o, none⟩) :=
  ⟨fun b o h => hb.cell (p := ⟨b, o, none⟩) h, fun b o h => hb.frozen (p := ⟨b, o, none⟩) h⟩
theorem below_drewN {B : Nat} {W w1 : World} (hb : Below B W w1) (n : Nat) : Below B W (w1.drewN n) := ⟨hb.os, hb.tape, hb.output, hb.size, hb.block⟩
theorem Lst.at1b {w wr : World} {a : Option Addr} {n c : Nat} {xs : List Int} {B : Nat} (h : Lst w a n c xs) (hb : Below B w wr) (hB : w.heap.size ≤ B) {k : Nat} (hk : k < n) :
    ∃ b off x, a = some ⟨b, off, none⟩ ∧ b < w.heap.size ∧ wr.cell? ⟨b, off + k, none⟩ = some (.int .i64 x) ∧ Hid (xs.getD k 0 = x) := by
  obtain ⟨b, off, x, e, hs, hc, hx⟩ := h.at1 hk
  exact ⟨b, off, x, e, hs, (hb.cell (p := ⟨b, off + k, none⟩) (Nat.lt_of_lt_of_le hs hB)).trans hc, hx⟩
theorem cell_new (w : World) (v : Value) (t : TypeId) : (w.alloc (.cells #[v] t)).cell? ⟨w.heap.size, 0, none⟩ = some v :=
  (World.rowIs_alloc w #[v] t (fun _ => v) (by intro i hi; obtain rfl : i = 0 := by simpa using hi
                                               rfl)).cell (i := 0) (by simp)
/-- The three cells of a struct that was laid, in whatever world that left them. -/
theorem box3 {w wr : World} {B : Nat} (v0 v1 v2 : Value) (t : TypeId) (hb : Below B (w.alloc (.cells #[v0, v1, v2] t)) wr) (hB : w.heap.size < B) :
    wr.cell? ⟨w.heap.size, 0, none⟩ = some v0 ∧ wr.cell? ⟨w.heap.size, 1, none⟩ = some v1 ∧ wr.cell? ⟨w.heap.size, 2, none⟩ = some v2 := by
  have h := World.rowIs_alloc w #[v0, v1, v2] t (fun i => if i = 0 then v0 else if i = 1 then v1 else v2) (by
    intro i hi
    rcases (show i = 0 ∨ i = 1 ∨ i = 2 from by have : i < 3 := hi
                                               omega) with rfl | rfl | rfl <;> rfl)
  refine ⟨?_, ?_, ?_⟩
  · exact (hb.cell (p := ⟨w.heap.size, 0, none⟩) hB).trans (h.cell (i := 0) (by simp))
  · exact (hb.cell (p := ⟨w.heap.size, 1, none⟩) hB).trans (h.cell (i := 1) (by simp))
  · exact (hb.cell (p := ⟨w.heap.size, 2, none⟩) hB).trans (h.cell (i := 2) (by simp))
theorem cell_lt {w : World} {a : Addr} {v : Value} (h : w.cell? a = some v) : a.block < w.heap.size := by
  rcases Nat.lt_or_ge a.block w.heap.size with h' | h'
  · exact h'
  · simp [World.cell?, Array.getElem?_eq_none h'] at h
/-- Of the numbers up to the capacity the first are the list. -/
theorem Lst.came {w : World} {x : Addr} {len cap : Nat} {zs : List Int} (hl : len ≤ cap) (hz : zs.length = cap) (hc : ∀ i, i < zs.length → w.cell? (x.add i) = some (.int .i64 (zs.getD i 0))) : Lst w (some x) len cap (zs.take len) := by
  refine ⟨by simp; omega, hl, ?_⟩
  by_cases h0 : len = 0
  · exact .inl h0
  · obtain ⟨b, off, spot⟩ := x
    have hspot : spot = none := by simpa [Addr.add] using World.cell?_spot (hc 0 (by omega))
    subst hspot
    refine .inr ⟨b, off, rfl, ?_, fun i hi => ?_⟩
    · have := cell_lt (hc 0 (by omega)); simpa [Addr.add] using this
    · have h := hc i (by omega)
      rw [Go.WideShapes.add_plain] at h
      rw [h]
      simp [List.getD_eq_getElem?_getD, List.getElem?_take_of_lt hi]

theorem wrap_in (x : Int) (h1 : -9223372036854775808 ≤ x) (h2 : x ≤ 9223372036854775807) : IntKind.i64.wrap x = x := by
  rw [IntKind.wrap_i64]; omega

/-! The products of two lists, added one by one from the first on. -/
def dotTo (xs ys : List Int) : Nat → Int
  | 0 => 0
  | k + 1 => addI (dotTo xs ys k) (mulI (xs.getD k 0) (ys.getD k 0))

/-! A row that is written from its head on: the first k of its numbers are g's. -/
def rowTo (g : Nat → Int) (k i : Nat) : Value := if i < k then .int .i64 (g i) else .int .i64 0
theorem rowTo_step {w : World} {b t n k : Nat} {g : Nat → Int} (h : w.rowIs b t n (rowTo g k)) : (w.setCell ⟨b, k, none⟩ (.int .i64 (g k))).rowIs b t n (rowTo g (k + 1)) := by
  refine (h.set k (.int .i64 (g k))).congr (fun i _ => ?_)
  unfold rowTo
  by_cases e : i = k
  · subst e; rw [if_pos rfl, if_pos (by omega)]
  · rw [if_neg e]
    by_cases e2 : i < k
    · rw [if_pos e2, if_pos (by omega)]
    · rw [if_neg e2, if_neg (by omega)]
theorem rowTo_made {w : World} {b t n : Nat} {g : Nat → Int} (h : w.rowIs b t n (fun _ => .int .i64 0)) : w.rowIs b t n (rowTo g 0) :=
  h.congr (fun i _ => by unfold rowTo; rw [if_neg (by omega)])
theorem rowTo_lst {w : World} {b t n : Nat} {g : Nat → Int} (h : w.rowIs b t n (rowTo g n)) : Lst w (some ⟨b, 0, none⟩) n n ((List.range n).map g) :=
  Lst.row h (by simp) (fun i hi => by unfold rowTo; rw [if_pos hi]; simp [hi])
theorem rowTo_cell {w : World} {b t n k : Nat} {g : Nat → Int} (h : w.rowIs b t n (rowTo g k)) (hk : k < n) : w.cell? ⟨b, k, none⟩ = some (.int .i64 0) := by
  rw [h.cell hk]; unfold rowTo; rw [if_neg (by omega)]
theorem rowIs_drewN {w : World} {b t n : Nat} {f : Nat → Value} (h : w.rowIs b t n f) (k : Nat) : (w.drewN k).rowIs b t n f := h

end Go.Proofs.YtimciamfgpdjlaaGreat.Fx

/- How the arguments of a law are opened: integers, slices of integers, matrices by value. -/
namespace Go.Proofs.YtimciamfgpdjlaaGreat.Fx
open Go.ChangeShapes Go.WideShapes Go.ChangeAt Go.RowKit

theorem own : ownKnob Tryz.prog.godebug = none := by kernel_rfl
theorem laidOut : laidOutB Tryz.prog = true := by kernel_rfl

theorem cellsMat : Tryz.prog.cellsOf 60 = 3 := by kernel_rfl

/-- Of a slice of integers that came in: it reads as xs, and its capacity is no more than may be. -/
def Came (w : World) (a : Option Addr) (len cap : Nat) (xs : List Int) : Prop := Lst w a len cap xs ∧ cap ≤ maxLen ∧ ∀ n ∈ xs, (Lit.int .i64 n).wf = true

set_option maxRecDepth 100000 in
theorem came_trod {H : Type} {enc : TypeId × Value → H} {W : World} {fuel : Nat} {cs : List Value} {x : DataW H × List MemPlace} (hf : DataW.trod enc Tryz.prog W 0 (fun _ => true) true fuel 26 cs = some x) :
    ∃ a len cap xs, cs = [.slice a len cap] ∧ Came W a len cap xs := by
  rcases open_ints Tryz.underlying26 Tryz.underlying3 (by kernel_rfl) hf with ⟨hcs, _⟩ | ⟨x, l, c, zs, hcs, _, hl, hm, hz, _, hcell, hwz⟩
  · exact ⟨none, 0, 0, [], hcs, Lst.nil _ _ _, Nat.zero_le _, fun n h => by cases h⟩
  · exact ⟨some x, l, c, zs.take l, hcs, Lst.came hl (by simpa using hz) hcell, hm, fun n h => hwz n (List.mem_of_mem_take h)⟩

set_option maxRecDepth 100000 in
theorem openInts {H : Type} {enc : TypeId × Value → H} {W : World} {b0 : Nat} {v : Value} {d : DataW H} {p : List MemPlace} (hv : Value.okWide Tryz.prog W .any b0 26 v) (h : DataW.Trod enc Tryz.prog W 0 (fun _ => true) true 26 v d p) :
    ∃ a len cap xs, v = .slice a len cap ∧ Came W a len cap xs := by
  obtain ⟨a, len, cap, rfl⟩ := okWide_slice Tryz.underlying26 hv
  obtain ⟨fuel, hf⟩ := h
  obtain ⟨a', len', cap', xs, hcs, hc⟩ := came_trod hf
  simp [Value.cells] at hcs
  obtain ⟨rfl, rfl, rfl⟩ := hcs
  exact ⟨_, _, _, xs, rfl, hc⟩

theorem bytesInt : Tryz.prog.bytesOf 3 = 8 := by kernel_rfl

set_option maxRecDepth 100000 in
/-- .. and the datum's own length: for what the form itself says of sizes. -/
theorem openIntsD {H : Type} {enc : TypeId × Value → H} {W : World} {b0 : Nat} {v : Value} {d : DataW H} {p : List MemPlace} (hv : Value.okWide Tryz.prog W .any b0 26 v) (h : DataW.Trod enc Tryz.prog W 0 (fun _ => true) true 26 v d p) :
    ∃ a len cap xs, v = .slice a len cap ∧ Came W a len cap xs ∧ (len = 0 ∨ ∃ elems spare, d = .slice elems spare ∧ len ≤ elems.length + spare.length) := by
  obtain ⟨a, len, cap, rfl⟩ := okWide_slice Tryz.underlying26 hv
  obtain ⟨fuel, hf⟩ := h
  rcases open_ints Tryz.underlying26 Tryz.underlying3 (by kernel_rfl) hf with ⟨hcs, _⟩ | ⟨x, l, c, zs, hcs, _, hl, hm, hz, hx, hcell, hwz⟩
  · simp [Value.cells] at hcs
    obtain ⟨rfl, rfl, rfl⟩ := hcs
    exact ⟨_, _, _, [], rfl, ⟨Lst.nil _ _ _, Nat.zero_le _, fun n h => by cases h⟩, .inl rfl⟩
  · simp [Value.cells] at hcs
    obtain ⟨rfl, rfl, rfl⟩ := hcs
    simp only [Prod.mk.injEq] at hx
    have hz' : zs.length = cap := by simpa using hz
    refine ⟨_, _, _, zs.take len, rfl, ⟨Lst.came hl hz' hcell, hm, fun n h => hwz n (List.mem_of_mem_take h)⟩, .inr ⟨_, _, hx.1, ?_⟩⟩
    simp only [lits, List.length_map, List.length_take, List.length_drop]
    omega

set_option maxRecDepth 100000 in
theorem sizedInts {H : Type} {ts : List TypeId} {ds : List (DataW H)} (h : (DataW.weightsEach Tryz.prog ts ds).all (· ≤ reachBytes) = true) {j len : Nat} {d : DataW H} (ht : ts[j]? = some 26) (hd : ds[j]? = some d)
    (hl : len = 0 ∨ ∃ elems spare, d = .slice elems spare ∧ len ≤ elems.length + spare.length) : len * 8 ≤ 140737488351232 := by
  rcases hl with rfl | ⟨elems, spare, rfl, hl⟩
  · omega
  · have := sized_slice h ht hd Tryz.underlying26
    rw [bytesInt] at this
    simp only [reachBytes] at this
    omega

set_option maxRecDepth 100000 in
theorem openMat {H : Type} {enc : TypeId × Value → H} {W : World} {b0 : Nat} {v : Value} {d : DataW H} {p : List MemPlace} (hv : Value.okWide Tryz.prog W .any b0 60 v) (h : DataW.Trod enc Tryz.prog W 0 (fun _ => true) true 60 v d p) :
    ∃ r c a len cap xs, v = .agg #[.int .i64 r, .int .i64 c, .slice a len cap] ∧ Came W a len cap xs ∧ (Lit.int .i64 r).wf = true ∧ (Lit.int .i64 c).wf = true := by
  obtain ⟨c0, c1, c2, y0, y1, y2, m, rfl, _, _, hy0, hy1, hy2⟩ := Go.Joins.open_agg3 Tryz.underlying60 (by kernel_rfl) cellsMat hv h
  obtain ⟨r, e0, _, wr⟩ := DataW.trod_int Tryz.underlying3 hy0
  obtain ⟨c, e1, _, wc⟩ := DataW.trod_int Tryz.underlying3 hy1
  obtain ⟨a, len, cap, xs, e2, hc⟩ := came_trod hy2
  simp at e0 e1 e2
  subst e0 e1 e2
  exact ⟨r, c, a, len, cap, xs, rfl, hc, wr, wc⟩

end Go.Proofs.YtimciamfgpdjlaaGreat.Fx

/- Matrices as plain numbers: what Check says of one, and what lines it has; no program is spoken of. -/
namespace Go.Proofs.YtimciamfgpdjlaaGreat.Fx
open Go.RowKit

/-- May a matrix have so many rows, or columns? -/
def sideB (n : Int) : Bool := decide (1 ≤ n) && decide (n ≤ 4)
theorem sideB_true {n : Int} (h : sideB n = true) : 1 ≤ n ∧ n ≤ 4 := by simpa [sideB] using h
theorem sideB_mk {n : Int} (h1 : 1 ≤ n) (h2 : n ≤ 4) : sideB n = true := by simp [sideB, h1, h2]
theorem sideB_false {n : Int} (h : ¬ (1 ≤ n ∧ n ≤ 4)) : sideB n = false := by
  cases e : sideB n with
  | false => rfl
  | true => exact absurd (sideB_true e) h

/-- Are all numbers such as may be? -/
def rightB (xs : List Int) : Bool := xs.all fun n => decide (n = clampI n)
theorem rightB_true {xs : List Int} (h : ∀ j, j < xs.length → xs.getD j 0 = clampI (xs.getD j 0)) : rightB xs = true := by
  unfold rightB
  rw [List.all_eq_true]
  intro x hx
  obtain ⟨i, hi, rfl⟩ := List.getElem_of_mem hx
  have := h i hi
  rw [List.getD_eq_getElem?_getD, List.getElem?_eq_getElem hi, Option.getD_some] at this
  exact decide_eq_true this
theorem rightB_get {xs : List Int} (h : rightB xs = true) (j : Nat) : xs.getD j 0 = clampI (xs.getD j 0) := by
  unfold rightB at h
  rw [List.all_eq_true] at h
  rcases Nat.lt_or_ge j xs.length with hj | hj
  · have := of_decide_eq_true (h (xs[j]) (List.getElem_mem hj))
    rw [List.getD_eq_getElem?_getD, List.getElem?_eq_getElem hj, Option.getD_some]
    exact this
  · rw [List.getD_eq_getElem?_getD, List.getElem?_eq_none hj]
    rfl
theorem rightB_false {xs : List Int} {k : Nat} (h : xs.getD k 0 ≠ clampI (xs.getD k 0)) : rightB xs = false := by
  cases e : rightB xs with
  | false => rfl
  | true => exact absurd (rightB_get e k) h

/-- What Check says of a matrix with so many rows, columns and numbers. -/
def chkI (r c : Int) (len : Nat) (xs : List Int) : Int :=
  if sideB r = true ∧ sideB c = true then (if (len : Int) = r * c ∧ rightB xs = true then 0 else 5) else 1
/-- .. and behind it a list that should have as many numbers as a side. -/
def bothI (r c : Int) (len : Nat) (xs : List Int) (lv : Nat) (side : Int) : Int :=
  if 200 < lv then 2 else if chkI r c len xs = 0 then (if (lv : Int) = side then 0 else 5) else chkI r c len xs

theorem prod_side {r c : Int} (hr1 : 1 ≤ r) (hr2 : r ≤ 4) (hc1 : 1 ≤ c) (hc2 : c ≤ 4) : 1 ≤ r * c ∧ r * c ≤ 16 := by
  rcases (show r = 1 ∨ r = 2 ∨ r = 3 ∨ r = 4 from by omega) with rfl | rfl | rfl | rfl <;> omega
theorem prod_sideN {r c : Nat} (hr2 : r ≤ 4) (hc2 : c ≤ 4) : r * c ≤ 16 := by
  rcases (show r = 0 ∨ r = 1 ∨ r = 2 ∨ r = 3 ∨ r = 4 from by omega) with rfl | rfl | rfl | rfl | rfl <;> omega

/-- A matrix that Check takes, in natural numbers. -/
theorem chkI_zero {r c : Int} {len : Nat} {xs : List Int} (h : chkI r c len xs = 0) :
    ∃ R C : Nat, r = (R : Int) ∧ c = (C : Int) ∧ 1 ≤ R ∧ R ≤ 4 ∧ 1 ≤ C ∧ C ≤ 4 ∧ len = R * C ∧ rightB xs = true := by
  unfold chkI at h
  by_cases h1 : sideB r = true ∧ sideB c = true
  · rw [if_pos h1] at h
    by_cases h2 : (len : Int) = r * c ∧ rightB xs = true
    · have a := sideB_true h1.1
      have b := sideB_true h1.2
      obtain ⟨R, rfl⟩ := Int.eq_ofNat_of_zero_le (show 0 ≤ r by omega)
      obtain ⟨C, rfl⟩ := Int.eq_ofNat_of_zero_le (show 0 ≤ c by omega)
      exact ⟨R, C, rfl, rfl, by omega, by omega, by omega, by omega, by exact_mod_cast h2.1, h2.2⟩
    · rw [if_neg h2] at h; exact absurd h (by decide)
  · rw [if_neg h1] at h; exact absurd h (by decide)

theorem chkI_cases (r c : Int) (len : Nat) (xs : List Int) : chkI r c len xs = 0 ∨ (chkI r c len xs ≠ 0 ∧ (chkI r c len xs != 0) = true ∧ (chkI r c len xs == 0) = false) := by
  by_cases h : chkI r c len xs = 0
  · exact .inl h
  · exact .inr ⟨h, by simpa using h, by simpa using h⟩

theorem bothI_cases (r c : Int) (len : Nat) (xs : List Int) (lv : Nat) (s : Int) :
    (bothI r c len xs lv s = 0 ∧ lv ≤ 200 ∧ chkI r c len xs = 0 ∧ (lv : Int) = s) ∨ (bothI r c len xs lv s ≠ 0 ∧ (bothI r c len xs lv s != 0) = true) := by
  unfold bothI
  by_cases h : 200 < lv
  · rw [if_pos h]; exact .inr ⟨by decide, by decide⟩
  · rw [if_neg h]
    by_cases h2 : chkI r c len xs = 0
    · rw [if_pos h2]
      by_cases h3 : (lv : Int) = s
      · rw [if_pos h3]; exact .inl ⟨rfl, by omega, h2, h3⟩
      · rw [if_neg h3]; exact .inr ⟨by decide, by decide⟩
    · rw [if_neg h2]; exact .inr ⟨h2, by simpa using h2⟩

/-- Row k, and column k, of a matrix with c columns. -/
def rowL (xs : List Int) (c k : Nat) : List Int := (List.range c).map fun i => xs.getD (k * c + i) 0
def colL (xs : List Int) (r c k : Nat) : List Int := (List.range r).map fun i => xs.getD (i * c + k) 0
def mulG (xs ys : List Int) (c k : Nat) : Int := dotTo (rowL xs c k) ys c
def backG (xs ys : List Int) (r c k : Nat) : Int := dotTo (colL xs r c k) ys r
/-- What Mul, and what Back, tells: nothing where there is an error. -/
def mulL (r c : Int) (len : Nat) (xs : List Int) (lv : Nat) (ys : List Int) : List Int := if bothI r c len xs lv c = 0 then (List.range r.toNat).map (mulG xs ys c.toNat) else []
def backL (r c : Int) (len : Nat) (xs : List Int) (lv : Nat) (ys : List Int) : List Int := if bothI r c len xs lv r = 0 then (List.range c.toNat).map (backG xs ys r.toNat c.toNat) else []

theorem sub_range (xs : List Int) (lo n : Nat) (h : lo + n ≤ xs.length) : (xs.drop lo).take n = (List.range n).map fun i => xs.getD (lo + i) 0 := by
  refine List.ext_getElem (by simp; omega) (fun i h1 h2 => ?_)
  have h3 : lo + i < xs.length := by simp at h1; omega
  simp [h3]

end Go.Proofs.YtimciamfgpdjlaaGreat.Fx

/- Pupils as plain numbers: what Check says of one, what numbers it has; and how its struct lies in memory; no function of the program is spoken of. -/
namespace Go.Proofs.YtimciamfgpdjlaaGreat.Fx
open Go.RowKit

/-- A pupil's value: two matrices' rows, columns and where their numbers lie; where the two lists lie. -/
structure Pup where
  r1 : Int
  c1 : Int
  a1 : Option Addr
  n1 : Nat
  k1 : Nat
  r2 : Int
  c2 : Int
  a2 : Option Addr
  n2 : Nat
  k2 : Nat
  d1 : Option Addr
  m1 : Nat
  e1 : Nat
  d2 : Option Addr
  m2 : Nat
  e2 : Nat
/-- .. and the numbers themselves. -/
structure PD where
  X1 : List Int
  X2 : List Int
  B1 : List Int
  B2 : List Int
def Pup.cells (p : Pup) : Array Value := #[.int .i64 p.r1, .int .i64 p.c1, .slice p.a1 p.n1 p.k1, .int .i64 p.r2, .int .i64 p.c2, .slice p.a2 p.n2 p.k2, .slice p.d1 p.m1 p.e1, .slice p.d2 p.m2 p.e2]
def Pup.val (p : Pup) : Value := .agg p.cells
structure InPup (w : World) (p : Pup) (d : PD) : Prop where
  x1 : Lst w p.a1 p.n1 p.k1 d.X1
  x2 : Lst w p.a2 p.n2 p.k2 d.X2
  b1 : Lst w p.d1 p.m1 p.e1 d.B1
  b2 : Lst w p.d2 p.m2 p.e2 d.B2
theorem InPup.below {w w' : World} {p : Pup} {d : PD} {B : Nat} (h : InPup w p d) (hb : Below B w w') (hB : w.heap.size ≤ B) : InPup w' p d :=
  ⟨h.x1.below hb hB, h.x2.below hb hB, h.b1.below hb hB, h.b2.below hb hB⟩

/-- What Check says of a pupil. -/
def pchk (p : Pup) (d : PD) : Int :=
  if chkI p.r1 p.c1 p.n1 d.X1 = 0 then
    (if chkI p.r2 p.c2 p.n2 d.X2 = 0 then (if (p.c2 = p.r1 ∧ (p.m1 : Int) = p.r1 ∧ (p.m2 : Int) = p.r2) ∧ rightB d.B1 = true ∧ rightB d.B2 = true then 0 else 5) else chkI p.r2 p.c2 p.n2 d.X2)
  else chkI p.r1 p.c1 p.n1 d.X1

/-- A pupil with so many inputs, hidden ones and outputs, wherever its numbers lie. -/
def rpup (I H O : Nat) (a1 : Option Addr) (k1 : Nat) (a2 : Option Addr) (k2 : Nat) (d1 : Option Addr) (e1 : Nat) (d2 : Option Addr) (e2 : Nat) : Pup :=
  ⟨H, I, a1, H * I, k1, O, H, a2, O * H, k2, d1, H, e1, d2, O, e2⟩
def RightD (d : PD) : Prop := rightB d.X1 = true ∧ rightB d.X2 = true ∧ rightB d.B1 = true ∧ rightB d.B2 = true

theorem pchk_zero {p : Pup} {d : PD} (h : pchk p d = 0) :
    ∃ I H O a1 k1 a2 k2 d1 e1 d2 e2, p = rpup I H O a1 k1 a2 k2 d1 e1 d2 e2 ∧ 1 ≤ I ∧ I ≤ 4 ∧ 1 ≤ H ∧ H ≤ 4 ∧ 1 ≤ O ∧ O ≤ 4 ∧ RightD d := by
  unfold pchk at h
  by_cases h1 : chkI p.r1 p.c1 p.n1 d.X1 = 0
  · rw [if_pos h1] at h
    by_cases h2 : chkI p.r2 p.c2 p.n2 d.X2 = 0
    · rw [if_pos h2] at h
      by_cases h3 : (p.c2 = p.r1 ∧ (p.m1 : Int) = p.r1 ∧ (p.m2 : Int) = p.r2) ∧ rightB d.B1 = true ∧ rightB d.B2 = true
      · obtain ⟨r1, c1, a1, n1, k1, r2, c2, a2, n2, k2, d1, m1, e1, d2, m2, e2⟩ := p
        dsimp only at *
        obtain ⟨R1, C1, rfl, rfl, p1, p2, p3, p4, rfl, g1⟩ := chkI_zero h1
        obtain ⟨R2, C2, rfl, rfl, q1, q2, q3, q4, rfl, g2⟩ := chkI_zero h2
        obtain ⟨⟨s1, s2, s3⟩, s4, s5⟩ := h3
        obtain rfl : R1 = C2 := by omega
        obtain rfl : R1 = m1 := by omega
        obtain rfl : R2 = m2 := by omega
        exact ⟨C1, R1, R2, a1, k1, a2, k2, d1, e1, d2, e2, rfl, p3, p4, p1, p2, q1, q2, g1, g2, s4, s5⟩
      · rw [if_neg h3] at h; exact absurd h (by decide)
    · rw [if_neg h2] at h; exact absurd h h2
  · rw [if_neg h1] at h; exact absurd h h1
theorem chkI_mk {R C : Nat} {xs : List Int} (h1 : 1 ≤ R) (h2 : R ≤ 4) (h3 : 1 ≤ C) (h4 : C ≤ 4) (h : rightB xs = true) : chkI R C (R * C) xs = 0 := by
  unfold chkI
  rw [if_pos ⟨sideB_mk (by omega) (by omega), sideB_mk (by omega) (by omega)⟩, if_pos ⟨by push_cast; rfl, h⟩]
theorem pchk_right {I H O : Nat} {a1 : Option Addr} {k1 : Nat} {a2 : Option Addr} {k2 : Nat} {d1 : Option Addr} {e1 : Nat} {d2 : Option Addr} {e2 : Nat} {d : PD} (i1 : 1 ≤ I) (i2 : I ≤ 4) (h1 : 1 ≤ H) (h2 : H ≤ 4) (o1 : 1 ≤ O) (o2 : O ≤ 4) (h : RightD d) :
    pchk (rpup I H O a1 k1 a2 k2 d1 e1 d2 e2) d = 0 := by
  unfold pchk rpup
  dsimp only
  rw [if_pos (chkI_mk h1 h2 i1 i2 h.1), if_pos (chkI_mk o1 o2 h1 h2 h.2.1), if_pos ⟨⟨rfl, rfl, rfl⟩, h.2.2⟩]
theorem pchk_cases (p : Pup) (d : PD) : pchk p d = 0 ∨ (pchk p d ≠ 0 ∧ (pchk p d != 0) = true ∧ (pchk p d == 0) = false) := by
  by_cases h : pchk p d = 0
  · exact .inl h
  · exact .inr ⟨h, by simpa using h, by simpa using h⟩

/-- All its numbers, in order. -/
def flatD (d : PD) : List Int := d.X1 ++ (d.B1 ++ (d.X2 ++ d.B2))
def flatL (p : Pup) (d : PD) : List Int := if pchk p d = 0 then flatD d else []

/-! A struct of eight cells that was laid, in whatever world that left it. -/
theorem boxN {w wr : World} {B : Nat} (cs : Array Value) (t : TypeId) (hb : Below B (w.alloc (.cells cs t)) wr) (hB : w.heap.size < B) (i : Nat) : wr.cell? ⟨w.heap.size, i, none⟩ = cs[i]? :=
  (hb.cell (p := ⟨w.heap.size, i, none⟩) hB).trans (World.cell?_alloc_mark w cs t _ i)
structure Box8 (w : World) (b : Nat) (v0 v1 v2 v3 v4 v5 v6 v7 : Value) : Prop where
  c0 : w.cell? ⟨b, 0, none⟩ = some v0
  c1 : w.cell? ⟨b, 1, none⟩ = some v1
  c2 : w.cell? ⟨b, 2, none⟩ = some v2
  c3 : w.cell? ⟨b, 3, none⟩ = some v3
  c4 : w.cell? ⟨b, 4, none⟩ = some v4
  c5 : w.cell? ⟨b, 5, none⟩ = some v5
  c6 : w.cell? ⟨b, 6, none⟩ = some v6
  c7 : w.cell? ⟨b, 7, none⟩ = some v7
theorem box8 {w wr : World} {B : Nat} {v0 v1 v2 v3 v4 v5 v6 v7 : Value} {t : TypeId} (hb : Below B (w.alloc (.cells #[v0, v1, v2, v3, v4, v5, v6, v7] t)) wr) (hB : w.heap.size < B) :
    Box8 wr w.heap.size v0 v1 v2 v3 v4 v5 v6 v7 :=
  ⟨boxN _ _ hb hB 0, boxN _ _ hb hB 1, boxN _ _ hb hB 2, boxN _ _ hb hB 3, boxN _ _ hb hB 4, boxN _ _ hb hB 5, boxN _ _ hb hB 6, boxN _ _ hb hB 7⟩

/-- An example's value, and its two lists. -/
structure Exm where
  a : Option Addr
  n : Nat
  k : Nat
  b : Option Addr
  m : Nat
  t : Nat
def Exm.val (x : Exm) : Value := .agg #[.slice x.a x.n x.k, .slice x.b x.m x.t]
structure InEx (w : World) (x : Exm) (I O : List Int) : Prop where
  i : Lst w x.a x.n x.k I
  o : Lst w x.b x.m x.t O
theorem InEx.below {w w' : World} {x : Exm} {I O : List Int} {B : Nat} (h : InEx w x I O) (hb : Below B w w') (hB : w.heap.size ≤ B) : InEx w' x I O := ⟨h.i.below hb hB, h.o.below hb hB⟩
theorem box2 {w wr : World} {B : Nat} {v0 v1 : Value} {t : TypeId} (hb : Below B (w.alloc (.cells #[v0, v1] t)) wr) (hB : w.heap.size < B) :
    wr.cell? ⟨w.heap.size, 0, none⟩ = some v0 ∧ wr.cell? ⟨w.heap.size, 1, none⟩ = some v1 := ⟨boxN _ _ hb hB 0, boxN _ _ hb hB 1⟩
end Go.Proofs.YtimciamfgpdjlaaGreat.Fx

/- How pupils by value, and examples, are opened. -/
namespace Go.Proofs.YtimciamfgpdjlaaGreat.Fx
open Go.ChangeShapes Go.WideShapes Go.ChangeAt Go.RowKit

theorem cellsPup : Tryz.prog.cellsOf 62 = 8 := by kernel_rfl
theorem cellsInts : Tryz.prog.cellsOf 26 = 1 := by kernel_rfl
theorem cellsInt : Tryz.prog.cellsOf 3 = 1 := by kernel_rfl
theorem array8 {α : Type} {cs : Array α} (h : cs.size = 8) : ∃ c0 c1 c2 c3 c4 c5 c6 c7, cs = #[c0, c1, c2, c3, c4, c5, c6, c7] := by
  obtain ⟨l⟩ := cs
  match l, h with
  | [c0, c1, c2, c3, c4, c5, c6, c7], _ => exact ⟨c0, c1, c2, c3, c4, c5, c6, c7, rfl⟩

theorem came_mat {H : Type} {enc : TypeId × Value → H} {W : World} {fuel : Nat} {c0 c1 c2 : Value} {x : DataW H × List MemPlace} (hf : DataW.trod enc Tryz.prog W 0 (fun _ => true) true fuel 60 [c0, c1, c2] = some x) :
    ∃ r c a len cap xs, c0 = .int .i64 r ∧ c1 = .int .i64 c ∧ c2 = .slice a len cap ∧ Lst W a len cap xs := by
  obtain ⟨y0, y1, y2, n, _, _, h0, h1, h2⟩ := Go.Deep.trod_struct3 Tryz.underlying60 hf
  simp [cellsInt, cellsInts] at h0 h1 h2
  obtain ⟨r, e0, _, _⟩ := DataW.trod_int Tryz.underlying3 h0
  obtain ⟨c, e1, _, _⟩ := DataW.trod_int Tryz.underlying3 h1
  obtain ⟨a, len, cap, xs, e2, hc⟩ := came_trod h2
  simp at e0 e1 e2
  exact ⟨r, c, a, len, cap, xs, e0, e1, e2, hc.1⟩

set_option maxRecDepth 100000 in
theorem openPup {H : Type} {enc : TypeId × Value → H} {W : World} {b0 : Nat} {v : Value} {d : DataW H} {p : List MemPlace} (hv : Value.okWide Tryz.prog W .any b0 62 v) (h : DataW.Trod enc Tryz.prog W 0 (fun _ => true) true 62 v d p) :
    ∃ (q : Pup) (D : PD), v = q.val ∧ InPup W q D := by
  obtain ⟨cs, rfl, hsz⟩ := okWide_struct Tryz.underlying62 hv
  obtain ⟨c0, c1, c2, c3, c4, c5, c6, c7, rfl⟩ := array8 (hsz.trans cellsPup)
  obtain ⟨fuel, hf⟩ := h
  obtain ⟨y0, y1, y2, y3, n, _, _, h0, h1, h2, h3⟩ := Go.Joins.trod_struct4 Tryz.underlying62 hf
  simp [Value.cells, cellsMat, cellsInts] at h0 h1 h2 h3
  obtain ⟨r1, s1, a1, l1, k1, X1, rfl, rfl, rfl, g1⟩ := came_mat h0
  obtain ⟨r2, s2, a2, l2, k2, X2, rfl, rfl, rfl, g2⟩ := came_mat h1
  obtain ⟨a3, l3, k3, B1, e3, g3⟩ := came_trod h2
  obtain ⟨a4, l4, k4, B2, e4, g4⟩ := came_trod h3
  simp at e3 e4
  subst e3 e4
  exact ⟨⟨r1, s1, a1, l1, k1, r2, s2, a2, l2, k2, a3, l3, k3, a4, l4, k4⟩, ⟨X1, X2, B1, B2⟩, rfl, g1, g2, g3.1, g4.1⟩

theorem cellsEx : Tryz.prog.cellsOf 64 = 2 := by kernel_rfl
set_option maxRecDepth 100000 in
theorem openEx {H : Type} {enc : TypeId × Value → H} {W : World} {b0 : Nat} {v : Value} {d : DataW H} {p : List MemPlace} (hv : Value.okWide Tryz.prog W .any b0 64 v) (h : DataW.Trod enc Tryz.prog W 0 (fun _ => true) true 64 v d p) :
    ∃ (x : Exm) (I O : List Int), v = x.val ∧ InEx W x I O := by
  obtain ⟨c0, c1, y0, y1, m, rfl, _, _, hy0, hy1⟩ := Go.Joins.open_agg2 Tryz.underlying64 (by kernel_rfl) cellsEx hv h
  obtain ⟨a3, l3, k3, B1, e3, g3⟩ := came_trod hy0
  obtain ⟨a4, l4, k4, B2, e4, g4⟩ := came_trod hy1
  simp at e3 e4
  subst e3 e4
  exact ⟨⟨a3, l3, k3, a4, l4, k4⟩, B1, B2, rfl, g3.1, g4.1⟩
end Go.Proofs.YtimciamfgpdjlaaGreat.Fx

/- What each function of package fix returns, called with whatever integers: the plain numbers of the text Fix; the world is as it was, but for what was drawn of the open order. -/
namespace Go.Proofs.YtimciamfgpdjlaaGreat.Fx
open Go.RowKit

theorem ret_int {k : IntKind} {a b : Int} (h : a = b) : Ending.returned (.int k a) = .returned (.int k b) := by rw [h]

theorem ret_bool {a b : Bool} (h : a = b) : Ending.returned (.bool a) = .returned (.bool b) := by rw [h]
theorem grown_drewN {W w : World} (h : Grown W w) (n : Nat) : Grown W (w.drewN n) := h

theorem narrow_calls (n : Int) (w : World) : Calls Tryz.prog 145 #[.int .i64 n] w fun e w' => e = .returned (.int .i64 (clampI n)) ∧ w' = w := by
  by_cases h0 : n < -2147483647
  · go_enter Tryz.func145, Tryz.ntmps145
    go_wp2
    go_ret
    exact ⟨ret_int (by unfold clampI; rw [if_pos (by omega)]), rfl⟩
  · by_cases h1 : 2147483647 < n
    · go_enter Tryz.func145, Tryz.ntmps145
      go_wp2
      go_ret
      exact ⟨ret_int (by unfold clampI; rw [if_neg (by omega), if_pos h1]), rfl⟩
    · go_enter Tryz.func145, Tryz.ntmps145
      go_wp2
      go_ret
      exact ⟨ret_int (by unfold clampI; rw [if_neg (by omega), if_neg (by omega)]), rfl⟩

theorem clamp_calls (n : Int) (w : World) : Calls Tryz.prog 136 #[.int .i64 n] w fun e w' => e = .returned (.int .i64 (clampI n)) ∧ w' = w := by
  go_enter Tryz.func136, Tryz.ntmps136
  go_wp2_with (go_at_call 145; refine (narrow_calls _ _).mono ?_; rintro e w' ⟨rfl, rfl⟩)
  go_ret
  exact ⟨rfl, rfl⟩

theorem wide_calls (n : Int) (w : World) : Calls Tryz.prog 146 #[.int .i64 n] w fun e w' => e = .returned (.int .i64 (clampI n)) ∧ w' = w := by
  go_enter Tryz.func146, Tryz.ntmps146
  go_wp2_with (go_at_call 136; refine (clamp_calls _ _).mono ?_; rintro e w' ⟨rfl, rfl⟩)
  go_ret
  exact ⟨rfl, rfl⟩

theorem add_calls (a b : Int) (w : World) : Calls Tryz.prog 89 #[.int .i64 a, .int .i64 b] w fun e w' => e = .returned (.int .i64 (addI a b)) ∧ w' = w := by
  have ha := clampI_bd a
  have hb := clampI_bd b
  go_enter Tryz.func89, Tryz.ntmps89
  go_wp2_with (first | (go_at_call 146; refine (wide_calls _ _).mono ?_; rintro e w' ⟨rfl, rfl⟩) | (go_at_call 145; refine (narrow_calls _ _).mono ?_; rintro e w' ⟨rfl, rfl⟩))
  go_ret
  exact ⟨rfl, rfl⟩

theorem sub_calls (a b : Int) (w : World) : Calls Tryz.prog 138 #[.int .i64 a, .int .i64 b] w fun e w' => e = .returned (.int .i64 (subI a b)) ∧ w' = w := by
  have ha := clampI_bd a
  have hb := clampI_bd b
  go_enter Tryz.func138, Tryz.ntmps138
  go_wp2_with (first | (go_at_call 146; refine (wide_calls _ _).mono ?_; rintro e w' ⟨rfl, rfl⟩) | (go_at_call 145; refine (narrow_calls _ _).mono ?_; rintro e w' ⟨rfl, rfl⟩))
  go_ret
  exact ⟨rfl, rfl⟩

theorem quo_pos (n d : Int) (w : World) (hn0 : 0 ≤ n) (hn1 : n ≤ 4611686018427387904) (hd0 : 0 < d) (hd1 : d ≤ 2147483648) :
    Calls Tryz.prog 147 #[.int .i64 n, .int .i64 d] w fun e w' => e = .returned (.int .i64 (rnd n d)) ∧ ∃ k, w' = w.drewN k := by
  have l := Int.emod_nonneg n (b := d) (by omega)
  have u := Int.emod_lt_of_pos n hd0
  have q0 : 0 ≤ n / d := Int.ediv_nonneg hn0 (by omega)
  have q1 : n / d ≤ n := Int.ediv_le_self _ hn0
  go_enter Tryz.func147, Tryz.ntmps147
  go_wp2
  go_region
  all_goals
    go_wp2
  all_goals
    go_ret
    refine ⟨ret_int (rnd_of rfl rfl ?_ ?_), 1, rfl⟩ <;> intro h <;> (try simp only [bne_iff_ne, bne_eq_false_iff_eq] at *) <;> omega

theorem quo_neg (n d : Int) (w : World) (hn0 : n < 0) (hn1 : -4611686018427387904 ≤ n) (hd0 : 0 < d) (hd1 : d ≤ 2147483648) :
    Calls Tryz.prog 147 #[.int .i64 n, .int .i64 d] w fun e w' => e = .returned (.int .i64 (rnd n d)) ∧ ∃ k, w' = w.drewN k := by
  have t := tmod_bd n d hd0
  have q0 := tdiv_bd n d 4611686018427387904 hn1 (by omega)
  by_cases hr : n.tmod d < 0
  · go_enter Tryz.func147, Tryz.ntmps147
    go_wp2
    go_region
    all_goals
      go_wp2
    all_goals
      go_ret
      have f := (floor_of (n := n) hd0).1 hr
      refine ⟨ret_int (rnd_of f.1 f.2 ?_ ?_), 1, rfl⟩ <;> intro h <;> (try simp only [bne_iff_ne, bne_eq_false_iff_eq, odd_tmod, ne_eq] at *) <;> omega
  · go_enter Tryz.func147, Tryz.ntmps147
    go_wp2
    go_region
    all_goals
      go_wp2
    all_goals
      go_ret
      have f := (floor_of (n := n) hd0).2 (by omega)
      refine ⟨ret_int (rnd_of f.1 f.2 ?_ ?_), 1, rfl⟩ <;> intro h <;> (try simp only [bne_iff_ne, bne_eq_false_iff_eq, odd_tmod, ne_eq] at *) <;> omega

theorem quo_dneg_pos (n d : Int) (w : World) (hn0 : n ≤ 0) (hn1 : -4611686018427387904 ≤ n) (hd0 : d < 0) (hd1 : -2147483648 ≤ d) :
    Calls Tryz.prog 147 #[.int .i64 n, .int .i64 d] w fun e w' => e = .returned (.int .i64 (rnd (-n) (-d))) ∧ ∃ k, w' = w.drewN k := by
  have t := tmod_dneg n d hd0
  have q0 := tdiv_bd n d 4611686018427387904 hn1 (by omega)
  have hs := (tmod_sign n d).1 hn0
  go_enter Tryz.func147, Tryz.ntmps147
  go_wp2
  go_region
  all_goals
    go_wp2
  all_goals
    go_ret
    have f := (floor_dneg (n := n) hd0).2 (by omega)
    refine ⟨ret_int (rnd_of f.1 f.2 ?_ ?_), 1, rfl⟩ <;> intro h <;> (try simp only [bne_iff_ne, bne_eq_false_iff_eq, odd_tmod, ne_eq] at *) <;> omega

theorem quo_dneg_neg (n d : Int) (w : World) (hn0 : 0 < n) (hn1 : n ≤ 4611686018427387904) (hd0 : d < 0) (hd1 : -2147483648 ≤ d) :
    Calls Tryz.prog 147 #[.int .i64 n, .int .i64 d] w fun e w' => e = .returned (.int .i64 (rnd (-n) (-d))) ∧ ∃ k, w' = w.drewN k := by
  have t := tmod_dneg n d hd0
  have q0 := tdiv_bd n d 4611686018427387904 (by omega) hn1
  have hs := ((tmod_sign n d).2 (by omega)).2
  have he := ((tmod_sign n d).2 (by omega)).1
  rw [he] at t hs
  clear he
  by_cases hr : -(n % d) < 0
  · go_enter Tryz.func147, Tryz.ntmps147
    go_wp2
    go_region
    all_goals
      go_wp2
    all_goals
      go_ret
      all_goals
      have f := (floor_dneg (n := n) hd0).1
      rw [((tmod_sign n d).2 (by omega)).1] at f
      have f := f (by omega)
      refine ⟨ret_int (rnd_of f.1 f.2 ?_ ?_), 1, rfl⟩ <;> intro h <;> (try simp only [bne_iff_ne, bne_eq_false_iff_eq, odd_tmod, ne_eq] at *) <;> omega
  · go_enter Tryz.func147, Tryz.ntmps147
    go_wp2
    go_region
    all_goals
      go_wp2
    all_goals
      go_ret
      all_goals
      have f := (floor_dneg (n := n) hd0).2
      rw [((tmod_sign n d).2 (by omega)).1] at f
      have f := f (by omega)
      refine ⟨ret_int (rnd_of f.1 f.2 ?_ ?_), 1, rfl⟩ <;> intro h <;> omega

theorem quo_calls (n d : Int) (w : World) (hn0 : -4611686018427387904 ≤ n) (hn1 : n ≤ 4611686018427387904) (hd : d ≠ 0) (hd0 : -2147483648 ≤ d) (hd1 : d ≤ 2147483648) :
    Calls Tryz.prog 147 #[.int .i64 n, .int .i64 d] w fun e w' => e = .returned (.int .i64 (quoI n d)) ∧ ∃ k, w' = w.drewN k := by
  unfold quoI
  by_cases c : d < 0
  · rw [if_pos c]
    by_cases c2 : n ≤ 0
    · exact quo_dneg_pos n d w c2 hn0 c hd0
    · exact quo_dneg_neg n d w (by omega) hn1 c hd0
  · rw [if_neg c]
    by_cases c2 : 0 ≤ n
    · exact quo_pos n d w c2 hn1 (by omega) hd1
    · exact quo_neg n d w (by omega) hn0 (by omega) hd1

theorem mul_calls (a b : Int) (w : World) : Calls Tryz.prog 144 #[.int .i64 a, .int .i64 b] w fun e w' => e = .returned (.int .i64 (mulI a b)) ∧ ∃ k, w' = w.drewN k := by
  have hp := prod_bd _ _ (clampI_bd a) (clampI_bd b)
  go_enter Tryz.func144, Tryz.ntmps144
  go_wp2_with (first | (go_at_call 146; refine (wide_calls _ _).mono ?_; rintro e w' ⟨rfl, rfl⟩) | (go_at_call 145; refine (narrow_calls _ _).mono ?_; rintro e w' ⟨rfl, rfl⟩) | (go_at_call 147; refine (quo_calls _ _ _ (by omega) (by omega) (by omega) (by omega) (by omega)).mono ?_; rintro e w' ⟨rfl, k, rfl⟩))
  go_ret
  exact ⟨rfl, _, rfl⟩

theorem div_none (a : Int) (w : World) : Calls Tryz.prog 93 #[.int .i64 a, .int .i64 0] w fun e w' => e = .returned (.tuple #[.int .i64 0, .int .i64 1]) ∧ w' = w := by
  go_enter Tryz.func93, Tryz.ntmps93
  go_wp2
  go_ret2
  exact ⟨rfl, rfl⟩

theorem div_zero (a b : Int) (hb : b = 0) (w : World) : Calls Tryz.prog 93 #[.int .i64 a, .int .i64 b] w fun e w' => e = .returned (.tuple #[.int .i64 0, .int .i64 1]) ∧ w' = w := by
  subst hb; exact div_none a w

theorem div_calls (a b : Int) (w : World) (hb : b ≠ 0) : Calls Tryz.prog 93 #[.int .i64 a, .int .i64 b] w fun e w' => e = .returned (.tuple #[.int .i64 (divI a b), .int .i64 0]) ∧ ∃ k, w' = w.drewN k := by
  have ha := clampI_bd a
  have hc := clampI_bd b
  have hz : (b == 0) = false := beq_eq_false_iff_ne.2 hb
  have hn := clampI_ne hb
  go_enter Tryz.func93, Tryz.ntmps93
  go_wp2_with (first | (go_at_call 146; refine (wide_calls _ _).mono ?_; rintro e w' ⟨rfl, rfl⟩) | (go_at_call 145; refine (narrow_calls _ _).mono ?_; rintro e w' ⟨rfl, rfl⟩) | (go_at_call 147; refine (quo_calls _ _ _ (by omega) (by omega) (by omega) (by omega) (by omega)).mono ?_; rintro e w' ⟨rfl, k, rfl⟩))
  go_ret2
  exact ⟨rfl, _, rfl⟩

end Go.Proofs.YtimciamfgpdjlaaGreat.Fx

/- What the small functions of package vec return (tooLong, checkTwo, dot, Dot), and slices.Equal over integers: whatever lists lie there. -/
namespace Go.Proofs.YtimciamfgpdjlaaGreat.Fx
open Go.RowKit

/-- What two lists that should go together are told: too long, not as long, or nothing. -/
def twoI (la lb : Nat) : Int := if 200 < la ∨ 200 < lb then 2 else if la = lb then 0 else 5
def longB (L : Nat → Nat) (n : Nat) : Bool := (List.range n).any fun i => decide (200 < L i)
theorem longB_true {L : Nat → Nat} {n k : Nat} (hk : k < n) (h : 200 < L k) : longB L n = true := by
  unfold longB; rw [List.any_eq_true]; exact ⟨k, List.mem_range.2 hk, by simpa using h⟩
theorem longB_false {L : Nat → Nat} {n : Nat} (h : ∀ j, j < n → L j ≤ 200) : longB L n = false := by
  unfold longB; rw [List.any_eq_false]; intro x hx; have := h x (List.mem_range.1 hx); simp; omega

set_option maxHeartbeats 400000 in
theorem long_calls (n : Nat) (A : Nat → Option Addr) (L C : Nat → Nat) (b : Nat) (w : World) (hn : n ≤ 1000) (hc : ∀ i, i < n → w.cell? ⟨b, i, none⟩ = some (.slice (A i) (L i) (C i))) :
    Calls Tryz.prog 142 #[.slice (some ⟨b, 0, none⟩) n n] w fun e w' => e = .returned (.bool (longB L n)) ∧ w' = w := by
  have HC : Hid (∀ i, i < n → w.cell? ⟨b, i, none⟩ = some (.slice (A i) (L i) (C i))) := hc
  clear hc
  go_enter Tryz.func142, Tryz.ntmps142
  go_wp2
  go_loop [7] (fun i => ∃ k : Nat, k ≤ n ∧ i = .int .i64 k ∧ Hid (∀ j, j < k → L j ≤ 200)) (fun i => n - (intOf i).toNat)
  case atStart => exact ⟨0, Nat.zero_le _, rfl, fun j hj => by omega⟩
  case round =>
    obtain ⟨k, hk, rfl, hb⟩ := hrel
    by_cases hlt : k < n
    · have c := HC.out k hlt
      obtain ⟨l, hl⟩ : ∃ l, L k = l := ⟨_, rfl⟩
      rw [hl] at c
      have HL : Hid (L k = l) := hl
      clear hl
      by_cases h2 : 200 < l
      · go_wp2
        go_ret
        exact ⟨ret_bool (longB_true hlt (by rw [HL.out]; exact h2)).symm, rfl⟩
      · go_wp2
        go_round
        case rel => exact ⟨k + 1, by omega, by go_num, fun j hj => by
          by_cases e : j = k
          · subst e; rw [HL.out]; omega
          · exact hb.out j (by omega)⟩
        case measure => simp [intOf]; omega
    · go_wp2
      go_ret
      exact ⟨ret_bool (longB_false (fun j hj => hb.out j (by omega))).symm, rfl⟩

theorem eq_of_getD {xs ys : List Int} {n : Nat} (hx : xs.length = n) (hy : ys.length = n) (h : ∀ j, j < n → xs.getD j 0 = ys.getD j 0) : xs = ys := by
  refine List.ext_getElem (by omega) (fun i h1 h2 => ?_)
  have := h i (by omega)
  rw [List.getD_eq_getElem?_getD, List.getD_eq_getElem?_getD, List.getElem?_eq_getElem h1, List.getElem?_eq_getElem h2] at this
  exact this

set_option maxHeartbeats 400000 in
theorem eq_calls (a b : Option Addr) (la ca lb cb : Nat) (xs ys : List Int) (w : World) (ha : Lst w a la ca xs) (hb : Lst w b lb cb ys) (h63 : la ≤ 1000000000000000000) :
    Calls Tryz.prog 38 #[.slice a la ca, .slice b lb cb] w fun e w' => e = .returned (.bool (decide (xs = ys))) ∧ ∃ k, w' = w.drewN k := by
  by_cases hl : la = lb
  · subst hl
    have hab : ((la : Int) != (la : Int)) = false := by simp
    go_enter Tryz.func38, Tryz.ntmps38
    go_wp2
    go_loopw [13] (fun i wr => ∃ k n : Nat, k ≤ la ∧ i = .int .i64 k ∧ Hid (∀ j, j < k → xs.getD j 0 = ys.getD j 0) ∧ wr = w.drewN n) (fun i _ => la - (intOf i).toNat)
    case atStart => exact ⟨0, 0, Nat.zero_le _, rfl, fun j hj => by omega, rfl⟩
    case round =>
      obtain ⟨k, n, hk, rfl, he, rfl⟩ := hrel
      by_cases hlt : k < la
      · obtain ⟨b1, o1, x, rfl, _, c1, HX⟩ := ha.at1 hlt
        obtain ⟨b2, o2, y, rfl, _, c2, HY⟩ := hb.at1 hlt
        by_cases hxy : x = y
        · subst hxy
          have hne : (x != x) = false := by simp
          go_wp2
          go_quiet (fail)
          go_wp2
          go_roundw
          case rel => exact ⟨k + 1, _, by omega, by go_num, fun j hj => by
            by_cases e : j = k
            · subst e; rw [HX.out, HY.out]
            · exact he.out j (by omega), rfl⟩
          case measure => simp [intOf]; omega
        · have hne : (x != y) = true := by simpa using hxy
          go_wp2
          go_quiet (fail)
          go_wp2
          go_ret
          refine ⟨ret_bool ?_, _, World.drewN_drewN _ _ _⟩
          exact (decide_eq_false (fun e => hxy (by rw [← HX.out, ← HY.out, e]))).symm
      · go_wp2
        go_ret
        refine ⟨ret_bool ?_, _, rfl⟩
        exact (decide_eq_true (eq_of_getD ha.len hb.len (fun j hj => he.out j (by omega)))).symm
  · have hab : ((la : Int) != (lb : Int)) = true := by rw [bne_iff_ne]; omega
    go_enter Tryz.func38, Tryz.ntmps38
    go_wp2
    go_ret
    refine ⟨ret_bool ?_, 0, rfl⟩
    exact (decide_eq_false (fun e => hl (by rw [← ha.len, ← hb.len, e]))).symm

set_option maxHeartbeats 400000 in
theorem dot_calls (a b : Option Addr) (la ca cb : Nat) (xs ys : List Int) (w : World) (ha : Lst w a la ca xs) (hb : Lst w b la cb ys) (h63 : la ≤ 1000000000000000000) :
    Calls Tryz.prog 140 #[.slice a la ca, .slice b la cb] w fun e w' => e = .returned (.int .i64 (dotTo xs ys la)) ∧ ∃ k, w' = w.drewN k := by
  go_enter Tryz.func140, Tryz.ntmps140
  go_wp2
  go_loopw [5, 9] (fun s i wr => ∃ k n : Nat, k ≤ la ∧ i = .int .i64 k ∧ s = .int .i64 (dotTo xs ys k) ∧ wr = w.drewN n) (fun _ i _ => la - (intOf i).toNat)
  case atStart => exact ⟨0, 0, Nat.zero_le _, rfl, rfl, rfl⟩
  case round =>
    obtain ⟨k, n, hk, rfl, rfl, hw⟩ := hrel
    have ha' : Lst wr a la ca xs := hw ▸ ha.drewN n
    have hb' : Lst wr b la cb ys := hw ▸ hb.drewN n
    have HW : Hid (wr = w.drewN n) := hw
    clear hw ha hb
    by_cases hlt : k < la
    · obtain ⟨b1, o1, x, rfl, _, c1, HX⟩ := ha'.at1 hlt
      obtain ⟨b2, o2, y, rfl, _, c2, HY⟩ := hb'.at1 hlt
      go_wp2
      go_quiet ((first | (go_at_call 144; exact Calls.quiet_of (mul_calls _ _ _)) | (go_at_call 89; exact Calls.quiet_of_same (add_calls _ _ _))))
      go_wp2
      go_roundw
      case rel => exact ⟨k + 1, _, by omega, by go_num, by simp only [dotTo, HX.out, HY.out], by rw [HW.out, World.drewN_drewN]⟩
      case measure => simp [intOf]; omega
    · go_wp2
      go_ret
      obtain rfl : k = la := by omega
      exact ⟨rfl, _, HW.out⟩

/-- One list, or two, laid for tooLong. -/
theorem long1 (a : Option Addr) (la ca b : Nat) (w : World) (hb : b = w.heap.size) : Calls Tryz.prog 142 #[.slice (some ⟨b, 0, none⟩) 1 1] (w.alloc (.cells #[.slice a la ca] 26)) fun e w' => e = .returned (.bool (decide (200 < la))) ∧ w' = w.alloc (.cells #[.slice a la ca] 26) := by
  subst hb
  have h := World.rowIs_alloc w #[.slice a la ca] 26 (fun _ => .slice a la ca) (by intro i hi; obtain rfl : i = 0 := by simpa using hi
                                                                                   rfl)
  refine (long_calls 1 (fun _ => a) (fun _ => la) (fun _ => ca) w.heap.size _ (by omega) (fun i hi => h.cell hi)).mono ?_
  rintro e w' ⟨rfl, rfl⟩
  exact ⟨ret_bool (by simp [longB]), rfl⟩
theorem long2 (a b : Option Addr) (la ca lb cb g : Nat) (w : World) (hg : g = w.heap.size) : Calls Tryz.prog 142 #[.slice (some ⟨g, 0, none⟩) 2 2] (w.alloc (.cells #[.slice a la ca, .slice b lb cb] 26)) fun e w' => e = .returned (.bool (decide (200 < la ∨ 200 < lb))) ∧ w' = w.alloc (.cells #[.slice a la ca, .slice b lb cb] 26) := by
  subst hg
  have h := World.rowIs_alloc w #[.slice a la ca, .slice b lb cb] 26 (fun i => .slice (if i = 0 then a else b) (if i = 0 then la else lb) (if i = 0 then ca else cb)) (by
    intro i hi
    rcases (show i = 0 ∨ i = 1 from by have : i < 2 := hi
                                       omega) with rfl | rfl <;> rfl)
  refine (long_calls 2 (fun i => if i = 0 then a else b) (fun i => if i = 0 then la else lb) (fun i => if i = 0 then ca else cb) w.heap.size _ (by omega) (fun i hi => h.cell hi)).mono ?_
  rintro e w' ⟨rfl, rfl⟩
  exact ⟨ret_bool (by rw [Bool.eq_iff_iff]; simp [longB, List.range_succ]), rfl⟩

theorem two_calls (a b : Option Addr) (la ca lb cb : Nat) (w : World) :
    Calls Tryz.prog 88 #[.slice a la ca, .slice b lb cb] w fun e w' => e = .returned (.int .i64 (twoI la lb)) ∧ Below w.heap.size w w' := by
  have hb := (Below.refl w.heap.size w).alloc (Nat.le_refl _) (.cells #[.slice a la ca, .slice b lb cb] 26)
  by_cases hl : 200 < la ∨ 200 < lb
  · have hd : decide (200 < la ∨ 200 < lb) = true := decide_eq_true hl
    go_enter Tryz.func88, Tryz.ntmps88
    go_wp2_with (go_at_call 142; refine (long2 _ _ _ _ _ _ _ _ rfl).mono ?_; rintro e w' ⟨rfl, rfl⟩; rw [hd])
    go_ret
    exact ⟨ret_int (by simp only [twoI, if_pos hl]), hb⟩
  · have hd : decide (200 < la ∨ 200 < lb) = false := decide_eq_false hl
    by_cases he : la = lb
    · have ht : ((la : Int) != (lb : Int)) = false := by rw [bne_eq_false_iff_eq]; omega
      have HE : Hid (la = lb) := he
      clear he
      go_enter Tryz.func88, Tryz.ntmps88
      go_wp2_with (go_at_call 142; refine (long2 _ _ _ _ _ _ _ _ rfl).mono ?_; rintro e w' ⟨rfl, rfl⟩; rw [hd])
      go_ret
      exact ⟨ret_int (by simp only [twoI, if_neg hl, if_pos HE.out]), hb⟩
    · have ht : ((la : Int) != (lb : Int)) = true := by rw [bne_iff_ne]; omega
      go_enter Tryz.func88, Tryz.ntmps88
      go_wp2_with (go_at_call 142; refine (long2 _ _ _ _ _ _ _ _ rfl).mono ?_; rintro e w' ⟨rfl, rfl⟩; rw [hd])
      go_ret
      exact ⟨ret_int (by simp only [twoI, if_neg hl, if_neg he]), hb⟩
end Go.Proofs.YtimciamfgpdjlaaGreat.Fx

/- What vec.Dot returns: whatever lists lie there. -/
namespace Go.Proofs.YtimciamfgpdjlaaGreat.Fx
open Go.RowKit

theorem info3 : (Tryz.prog.info? 3).map (fun i => (i.zero, i.size, i.bytes)) = some (some (.int .i64 0), 1, 8) := by kernel_rfl

theorem twoI_cases (la lb : Nat) : (twoI la lb = 0 ∧ la = lb ∧ la ≤ 200) ∨ (twoI la lb ≠ 0 ∧ (twoI la lb != 0) = true) := by
  unfold twoI
  by_cases h : 200 < la ∨ 200 < lb
  · rw [if_pos h]; exact .inr ⟨by decide, by decide⟩
  · rw [if_neg h]
    by_cases e : la = lb
    · rw [if_pos e]; exact .inl ⟨rfl, e, by omega⟩
    · rw [if_neg e]; exact .inr ⟨by decide, by decide⟩

end Go.Proofs.YtimciamfgpdjlaaGreat.Fx
