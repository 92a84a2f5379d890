/- The plain numbers of package fix: clamping, rounding to the nearest and of two as near to the even one, and the laws of them that the statements ask; nothing here speaks of the program. -/
import Derived.WalkKit
namespace Go.Proofs.YtfcnnolpcnacoaaDoor.Fx

def clampI (n : Int) : Int := if n < -2147483647 then -2147483647 else if 2147483647 < n then 2147483647 else n

/-- n by d, d above 0: the nearest whole number, of two as near the even one. -/
def rnd (n d : Int) : Int := if d < 2 * (n % d) ∨ (2 * (n % d) = d ∧ (n / d) % 2 ≠ 0) then n / d + 1 else n / d

def quoI (n d : Int) : Int := if d < 0 then rnd (-n) (-d) else rnd n d
def addI (a b : Int) : Int := clampI (clampI a + clampI b)
def subI (a b : Int) : Int := clampI (clampI a - clampI b)
def mulI (a b : Int) : Int := clampI (rnd (clampI a * clampI b) 65536)
def divI (a b : Int) : Int := clampI (quoI (clampI a * 65536) (clampI b))

theorem clampI_bd (n : Int) : -2147483647 ≤ clampI n ∧ clampI n ≤ 2147483647 := by unfold clampI; split <;> (try split) <;> omega
theorem clampI_in {n : Int} (h0 : -2147483647 ≤ n) (h1 : n ≤ 2147483647) : clampI n = n := by unfold clampI; rw [if_neg (by omega), if_neg (by omega)]
theorem clampI_idem (n : Int) : clampI (clampI n) = clampI n := clampI_in (clampI_bd n).1 (clampI_bd n).2
theorem clampI_neg (n : Int) : clampI (-n) = -clampI n := by unfold clampI; (repeat' split) <;> omega
theorem clampI_mono {a b : Int} (h : a ≤ b) : clampI a ≤ clampI b := by unfold clampI; (repeat' split) <;> omega
theorem clampI_ne {n : Int} (h : n ≠ 0) : clampI n ≠ 0 := by unfold clampI; (repeat' split) <;> omega

/-- Products of two clamped numbers. -/
theorem prod_bd (x y : Int) (hx : -2147483647 ≤ x ∧ x ≤ 2147483647) (hy : -2147483647 ≤ y ∧ y ≤ 2147483647) : -4611686014132420609 ≤ x * y ∧ x * y ≤ 4611686014132420609 := by
  have h1 : x.natAbs ≤ 2147483647 := by omega
  have h2 : y.natAbs ≤ 2147483647 := by omega
  have h3 : x.natAbs * y.natAbs ≤ 2147483647 * 2147483647 := Nat.mul_le_mul h1 h2
  have h4 : (x * y).natAbs = x.natAbs * y.natAbs := Int.natAbs_mul x y
  omega

/-- What a rounded quotient is: within half of d. -/
theorem rnd_near (n d : Int) (hd : 0 < d) : -d ≤ 2 * (n - rnd n d * d) ∧ 2 * (n - rnd n d * d) ≤ d ∧ (2 * (n - rnd n d * d) = d ∨ 2 * (n - rnd n d * d) = -d → rnd n d % 2 = 0) := by
  have e := Int.mul_ediv_add_emod n d
  have l := Int.emod_nonneg n (b := d) (by omega)
  have u := Int.emod_lt_of_pos n hd
  unfold rnd
  generalize n / d = q at *
  generalize n % d = r at *
  have c : q * d = d * q := Int.mul_comm q d
  split
  · have m : (q + 1) * d = d * q + d := by rw [Int.add_mul, c]; omega
    rw [m]; generalize d * q = p at *; omega
  · rw [c]; generalize d * q = p at *; omega

/-- That is the only such number. -/
theorem rnd_only (n d m : Int) (hd : 0 < d) (h0 : -d ≤ 2 * (n - m * d)) (h1 : 2 * (n - m * d) ≤ d) (h2 : 2 * (n - m * d) = d ∨ 2 * (n - m * d) = -d → m % 2 = 0) : rnd n d = m := by
  obtain ⟨k0, k1, k2⟩ := rnd_near n d hd
  generalize rnd n d = q at *
  have e : (q - m) * d = q * d - m * d := Int.sub_mul q m d
  have b1 : (q - m) * d ≤ d := by omega
  have b2 : -d ≤ (q - m) * d := by omega
  have c1 : q - m ≤ 1 := by
    by_cases c : q - m ≤ 1
    · exact c
    · have : 2 * d ≤ (q - m) * d := Int.mul_le_mul_of_nonneg_right (by omega) (by omega)
      omega
  have c2 : -1 ≤ q - m := by
    by_cases c : -1 ≤ q - m
    · exact c
    · have : (q - m) * d ≤ (-2) * d := Int.mul_le_mul_of_nonneg_right (by omega) (by omega)
      omega
  have three : q - m = 0 ∨ q - m = 1 ∨ q - m = -1 := by omega
  rcases three with t | t | t
  · omega
  · rw [t] at e
    have z1 := k2 (Or.inr (by omega))
    have z2 := h2 (Or.inl (by omega))
    omega
  · rw [t] at e
    have z1 := k2 (Or.inl (by omega))
    have z2 := h2 (Or.inr (by omega))
    omega

theorem rnd_neg (n d : Int) (hd : 0 < d) : rnd (-n) d = -rnd n d := by
  obtain ⟨k0, k1, k2⟩ := rnd_near n d hd
  generalize rnd n d = q at *
  have e : -q * d = -(q * d) := Int.neg_mul q d
  refine rnd_only _ _ _ hd ?_ ?_ ?_
  · rw [e]; omega
  · rw [e]; omega
  · rw [e]; intro h; have := k2 (by omega); omega

theorem rnd_mono {a b d : Int} (hd : 0 < d) (h : a ≤ b) : rnd a d ≤ rnd b d := by
  obtain ⟨k0, k1, k2⟩ := rnd_near a d hd
  obtain ⟨l0, l1, l2⟩ := rnd_near b d hd
  by_cases c : rnd a d ≤ rnd b d
  · exact c
  · generalize rnd a d = p at *
    generalize rnd b d = q at *
    exfalso
    have e : (p - q) * d = p * d - q * d := Int.sub_mul p q d
    have g : d ≤ (p - q) * d := by
      have := Int.mul_le_mul_of_nonneg_right (a := 1) (b := p - q) (c := d) (by omega) (by omega)
      omega
    by_cases one : p - q = 1
    · rw [one] at e
      have z1 := k2 (Or.inr (by omega))
      have z2 := l2 (Or.inl (by omega))
      omega
    · have := Int.mul_le_mul_of_nonneg_right (a := 2) (b := p - q) (c := d) (by omega) (by omega)
      omega

theorem rnd_whole (q d : Int) (hd : 0 < d) : rnd (q * d) d = q := by
  refine rnd_only _ _ _ hd ?_ ?_ ?_ <;> omega

theorem rnd_bd (n d : Int) (hd : 0 < d) (B : Int) (hB : 0 ≤ B) (h0 : -B ≤ n) (h1 : n ≤ B) : -B ≤ rnd n d ∧ rnd n d ≤ B := by
  have hm : B ≤ B * d := by have := Int.mul_le_mul_of_nonneg_left (a := 1) (b := d) (c := B) (by omega) hB; omega
  have a := rnd_mono (a := n) (b := B * d) hd (by omega)
  have b := rnd_mono (a := -(B * d)) (b := n) hd (by omega)
  rw [rnd_neg _ _ hd] at b
  rw [rnd_whole _ _ hd] at a b
  omega

theorem addI_bd (a b : Int) : -2147483647 ≤ addI a b ∧ addI a b ≤ 2147483647 := clampI_bd _
theorem subI_bd (a b : Int) : -2147483647 ≤ subI a b ∧ subI a b ≤ 2147483647 := clampI_bd _
theorem mulI_bd (a b : Int) : -2147483647 ≤ mulI a b ∧ mulI a b ≤ 2147483647 := clampI_bd _
theorem divI_bd (a b : Int) : -2147483647 ≤ divI a b ∧ divI a b ≤ 2147483647 := clampI_bd _

theorem addI_comm (a b : Int) : addI a b = addI b a := by unfold addI; rw [Int.add_comm]
theorem mulI_comm (a b : Int) : mulI a b = mulI b a := by unfold mulI; rw [Int.mul_comm]
theorem subI_neg (a b : Int) : subI a b = -subI b a := by unfold subI; rw [← clampI_neg]; congr 1; omega
theorem mulI_neg (a b : Int) : mulI (-a) b = -mulI a b := by unfold mulI; rw [clampI_neg, Int.neg_mul, rnd_neg _ _ (by omega), clampI_neg]
theorem mulI_one (a : Int) (h0 : -2147483647 ≤ a) (h1 : a ≤ 2147483647) : mulI a 65536 = a := by
  unfold mulI; rw [clampI_in h0 h1, clampI_in (n := 65536) (by omega) (by omega), rnd_whole _ _ (by omega), clampI_in h0 h1]
theorem addI_mono {a b : Int} (c : Int) (h : a ≤ b) : addI a c ≤ addI b c := by
  unfold addI; have := clampI_mono h; exact clampI_mono (by omega)
theorem mulI_mono {a b c : Int} (hc : 0 ≤ c) (h : a ≤ b) : mulI a c ≤ mulI b c := by
  unfold mulI; have := clampI_mono h
  have hc' : 0 ≤ clampI c := by unfold clampI; (repeat' split) <;> omega
  exact clampI_mono (rnd_mono (by omega) (Int.mul_le_mul_of_nonneg_right this hc'))
theorem quoI_neg (n d : Int) (hd : d ≠ 0) : quoI (-n) d = -quoI n d := by
  unfold quoI; split
  · rw [rnd_neg _ _ (by omega)]
  · rw [rnd_neg _ _ (by omega)]
theorem divI_neg (a b : Int) (hb : b ≠ 0) : divI (-a) b = -divI a b := by
  unfold divI; rw [clampI_neg, Int.neg_mul, quoI_neg _ _ (clampI_ne hb), clampI_neg]
theorem quoI_bd (n d : Int) (hd : d ≠ 0) (B : Int) (hB : 0 ≤ B) (h0 : -B ≤ n) (h1 : n ≤ B) : -B ≤ quoI n d ∧ quoI n d ≤ B := by
  unfold quoI; split
  · exact rnd_bd _ _ (by omega) B hB (by omega) (by omega)
  · exact rnd_bd _ _ (by omega) B hB (by omega) (by omega)

/-- What Go's division gives, from the floor. -/
theorem tdiv_pos {n d : Int} (hn : 0 ≤ n) : n.tdiv d = n / d := Int.tdiv_eq_ediv_of_nonneg hn
theorem tmod_pos {n d : Int} (hn : 0 ≤ n) : n.tmod d = n % d := Int.tmod_eq_emod_of_nonneg hn

/-- Below 0: the rest that Go's division gives is 0, or below 0: then the floor is one less. -/
theorem floor_of {n d : Int} (hd : 0 < d) : (n.tmod d < 0 → n / d = n.tdiv d - 1 ∧ n % d = n.tmod d + d) ∧ (0 ≤ n.tmod d → n / d = n.tdiv d ∧ n % d = n.tmod d) := by
  have e := Int.mul_ediv_add_emod n d
  have f := Int.mul_tdiv_add_tmod n d
  have l := Int.emod_nonneg n (b := d) (by omega)
  have u := Int.emod_lt_of_pos n hd
  have a1 : (n.tmod d).natAbs < d.natAbs := by rw [Int.natAbs_tmod]; exact Nat.mod_lt _ (by omega)
  generalize n.tdiv d = q at *
  generalize n.tmod d = r at *
  generalize n / d = q' at *
  generalize n % d = r' at *
  have g : d * (q' - q) = r - r' := by rw [Int.mul_sub]; omega
  have k1 : q' - q < 1 := by
    by_cases c : q' - q < 1
    · exact c
    · have := Int.mul_le_mul_of_nonneg_left (a := 1) (b := q' - q) (c := d) (by omega) (by omega); omega
  have k2 : -2 < q' - q := by
    by_cases c : -2 < q' - q
    · exact c
    · have := Int.mul_le_mul_of_nonneg_left (a := q' - q) (b := -2) (c := d) (by omega) (by omega); omega
  have k : q' - q = 0 ∨ q' - q = -1 := by omega
  rcases k with k | k <;> rw [k] at g <;> omega

theorem tdiv_bd (n d B : Int) (h0 : -B ≤ n) (h1 : n ≤ B) : -B ≤ n.tdiv d ∧ n.tdiv d ≤ B := by
  have a1 : (n.tdiv d).natAbs ≤ n.natAbs := by rw [Int.natAbs_tdiv]; exact Nat.div_le_self _ _
  omega
theorem tmod_bd (n d : Int) (hd : 0 < d) : -d < n.tmod d ∧ n.tmod d < d := by
  have a1 : (n.tmod d).natAbs < d.natAbs := by rw [Int.natAbs_tmod]; exact Nat.mod_lt _ (by omega)
  omega

/-- The same at a divisor below 0, as the walk spells it. -/
theorem floor_dneg {n d : Int} (hd : d < 0) : (-(n.tmod d) < 0 → (-n) / (-d) = n.tdiv d - 1 ∧ (-n) % (-d) = -(n.tmod d) + -d) ∧ (0 ≤ -(n.tmod d) → (-n) / (-d) = n.tdiv d ∧ (-n) % (-d) = -(n.tmod d)) := by
  have f := floor_of (n := -n) (d := -d) (by omega)
  rw [Int.neg_tdiv_neg, Int.tmod_neg, Int.neg_tmod] at f
  exact f
theorem tmod_dneg (n d : Int) (hd : d < 0) : d < n.tmod d ∧ n.tmod d < -d := by
  have a1 : (n.tmod d).natAbs < d.natAbs := by rw [Int.natAbs_tmod]; exact Nat.mod_lt _ (by omega)
  omega
theorem tmod_sign (n d : Int) : (n ≤ 0 → n.tmod d ≤ 0) ∧ (0 ≤ n → n.tmod d = n % d ∧ 0 ≤ n.tmod d) := by
  refine ⟨fun h => ?_, fun h => ⟨Int.tmod_eq_emod_of_nonneg h, Int.tmod_nonneg d h⟩⟩
  have := Int.tmod_nonneg d (a := -n) (by omega)
  rw [Int.neg_tmod] at this; omega

/-- Oddness by Go's rest. -/
theorem odd_tmod (q : Int) : q.tmod 2 = 0 ↔ q % 2 = 0 := by
  have a : (q.tmod 2).natAbs = q.natAbs % 2 := by rw [Int.natAbs_tmod]; rfl
  omega
theorem rnd_of {n d q r x : Int} (hq : n / d = q) (hr : n % d = r) (hx : (d < 2 * r ∨ (2 * r = d ∧ q % 2 ≠ 0)) → x = q + 1) (hy : ¬ (d < 2 * r ∨ (2 * r = d ∧ q % 2 ≠ 0)) → x = q) : x = rnd n d := by
  unfold rnd; rw [hq, hr]; split
  · exact hx ‹_›
  · exact hy ‹_›

/-- FixNearest's own sentence. -/
theorem mulI_near (a b : Int) (ha : -2147483647 ≤ a ∧ a ≤ 2147483647) (hb : -2147483647 ≤ b ∧ b ≤ 2147483647) (h0 : mulI a b ≠ 2147483647) (h1 : mulI a b ≠ -2147483647) :
    -65536 ≤ 2 * (a * b - mulI a b * 65536) ∧ 2 * (a * b - mulI a b * 65536) ≤ 65536 ∧ (2 * (a * b - mulI a b * 65536) = 65536 ∨ 2 * (a * b - mulI a b * 65536) = -65536 → mulI a b % 2 = 0) := by
  have e : mulI a b = rnd (a * b) 65536 := by
    unfold mulI at *
    rw [clampI_in ha.1 ha.2, clampI_in hb.1 hb.2] at *
    generalize rnd (a * b) 65536 = q at *
    unfold clampI at *
    (repeat' split at *) <;> omega
  rw [e]; exact rnd_near _ _ (by omega)

/-- Whether a number is from lo to hi. -/
def inB (n lo hi : Int) : Bool := decide (lo ≤ n) && decide (n ≤ hi)
theorem in_yes {n lo hi : Int} (h : lo ≤ n ∧ n ≤ hi) : inB n lo hi = true := by unfold inB; simp; omega
theorem in_no {n lo hi : Int} (h : ¬ (lo ≤ n ∧ n ≤ hi)) : inB n lo hi = false := by unfold inB; simp; omega
theorem in_is {n lo hi : Int} (h : inB n lo hi = true) : lo ≤ n ∧ n ≤ hi := by simpa [inB] using h

end Go.Proofs.YtfcnnolpcnacoaaDoor.Fx
