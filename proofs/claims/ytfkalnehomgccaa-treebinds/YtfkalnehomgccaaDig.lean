/- The plain numbers of package digest: sums, products and powers by P = 2^61 - 1, the mix of three numbers and what is made of a list; and how a number of two words is divided by P, digit by digit. Nothing here speaks of the program. -/
import Derived.WalkKit
namespace Go.Proofs.Ytfkalnehomgccaa.Fx

def addP (a b : Int) : Int := (a + b) % 2305843009213693951
def mulP (a b : Int) : Int := (a * b) % 2305843009213693951
def sqTo (n : Int) : Nat → Int
  | 0 => n
  | k + 1 => mulP (sqTo n k) (sqTo n k)
/-- the 17th power -/
def powP (n : Int) : Int := mulP (sqTo n 4) n

def okP (n : Int) : Prop := 0 ≤ n ∧ n < 2305843009213693951
def okW (n : Int) : Prop := 0 ≤ n ∧ n < 18446744073709551616
theorem okP_W {a : Int} (h : okP a) : okW a := ⟨h.1, by have := h.2; omega⟩

def okL (xs : List Int) : Prop := ∀ i, i < xs.length → okW (xs.getD i 0)
theorem addP_ok (a b : Int) : okP (addP a b) := by unfold okP addP; omega
theorem mulP_ok (a b : Int) : okP (mulP a b) := by unfold okP mulP; omega
theorem powP_ok (n : Int) : okP (powP n) := mulP_ok _ _
theorem sqTo_ok {n : Int} (h : okP n) : ∀ k, okP (sqTo n k)
  | 0 => h
  | _ + 1 => mulP_ok _ _

structure Tri where
  x : Int
  y : Int
  z : Int
def Tri.ok (s : Tri) : Prop := okP s.x ∧ okP s.y ∧ okP s.z
def Tri.at (s : Tri) (k : Nat) : Int := if k = 0 then s.x else if k = 1 then s.y else s.z

/-- The three powers of a turn. -/
def pows (i : Int) (s : Tri) : Tri := ⟨powP (addP s.x i), powP (addP s.y (2 * i)), powP (addP s.z (3 * i))⟩
theorem pows_ok (i : Int) (s : Tri) : (pows i s).ok := ⟨powP_ok _, powP_ok _, powP_ok _⟩
def sums (t : Tri) : Tri := ⟨addP (addP (addP t.x t.y) t.z) t.x, addP (addP (addP t.x t.y) t.z) t.y, addP (addP (addP t.x t.y) t.z) t.z⟩
theorem sums_ok (t : Tri) : (sums t).ok := ⟨addP_ok _ _, addP_ok _ _, addP_ok _ _⟩
def mixTo (s : Tri) : Nat → Tri
  | 0 => s
  | k + 1 => sums (pows ((k : Int) + 1) (mixTo s k))
def mixP (s : Tri) : Tri := mixTo s 6
theorem mixTo_ok {s : Tri} (h : s.ok) : ∀ k, (mixTo s k).ok
  | 0 => h
  | _ + 1 => sums_ok _
theorem mixP_ok (s : Tri) : (mixP s).ok := sums_ok _
def ofTo (kind : Int) (l : List Int) : Nat → Tri
  | 0 => mixP ⟨kind % 2305843009213693951, l.length, 1⟩
  | k + 1 => mixP ⟨addP (ofTo kind l k).x (l.getD k 0), (ofTo kind l k).y, (ofTo kind l k).z⟩
def ofP (kind : Int) (l : List Int) : Int := (ofTo kind l l.length).y
theorem ofTo_ok (kind : Int) (l : List Int) : ∀ k, (ofTo kind l k).ok
  | 0 => mixP_ok _
  | _ + 1 => mixP_ok _
theorem ofP_ok (kind : Int) (l : List Int) : okP (ofP kind l) := (ofTo_ok kind l _).2.1
def boundP (n : Int) : Int := (if n < -4294967296 then -4294967296 else if 4294967296 < n then 4294967296 else n) + 4294967296
theorem boundP_ok (n : Int) : 0 ≤ boundP n ∧ boundP n ≤ 8589934592 := by unfold boundP; (repeat' split) <;> omega

theorem addP_mod (a b : Int) : addP a (b % 2305843009213693951) = addP a b := by unfold addP; omega
/-- The other way of adding: of the rests, by fours. -/
theorem four_add (x y z t : Int) : addP (addP x y) (addP z t) = addP (addP (addP x y) z) t := by unfold addP; omega
theorem rest_add (a b : Int) : (a % 2305843009213693951 + b % 2305843009213693951) % 2305843009213693951 = addP a b := by unfold addP; omega

/-! Doubling, bit by bit. -/
def dblTo (a b : Int) (k : Nat) : Int := (a * (b / 2 ^ k)) % 2305843009213693951
theorem dbl_top (a b : Int) (h : okP b) : dblTo a b 61 = 0 := by
  obtain ⟨h0, h1⟩ := h
  have e : b / 2 ^ 61 = 0 := by
    have : (2 : Int) ^ 61 = 2305843009213693952 := by decide
    rw [this]; omega
  unfold dblTo; rw [e, Int.mul_zero]; rfl
theorem dbl_end (a b : Int) : dblTo a b 0 = mulP a b := by unfold dblTo mulP; simp
theorem half_pow (b : Int) (k : Nat) : b / 2 ^ (k + 1) = b / 2 ^ k / 2 := by
  rw [Int.pow_succ, Int.ediv_ediv_of_nonneg (Int.pow_nonneg (by omega))]
theorem dbl_step0 (a b : Int) (k : Nat) (h : b / 2 ^ k % 2 = 0) : (dblTo a b (k + 1) + dblTo a b (k + 1)) % 2305843009213693951 = dblTo a b k := by
  unfold dblTo
  rw [half_pow]
  generalize b / 2 ^ k = q at *
  have e : a * q = a * (q / 2) + a * (q / 2) := by
    rw [← Int.mul_add]; congr 1; omega
  rw [e]
  omega
theorem dbl_step1 (a b : Int) (k : Nat) (h : b / 2 ^ k % 2 = 1) : ((dblTo a b (k + 1) + dblTo a b (k + 1)) % 2305843009213693951 + a) % 2305843009213693951 = dblTo a b k := by
  unfold dblTo
  rw [half_pow]
  generalize b / 2 ^ k = q at *
  have e : a * q = a * (q / 2) + a * (q / 2) + a := by
    have e1 : a * q = a * (q / 2 + q / 2 + 1) := by congr 1; omega
    rw [e1, Int.mul_add, Int.mul_add, Int.mul_one]
  rw [e]
  omega
theorem dbl_ok (a b : Int) (k : Nat) : okP (dblTo a b k) := by unfold okP dblTo; omega

/-! A number of two words by P: 8 P = 2^64 - 8 is the divisor that is shifted, its upper half 2^32 - 1, its lower half 2^32 - 8. -/
def Digit (u d q r : Int) : Prop := 0 ≤ q ∧ q ≤ 4294967296 ∧ r = u - q * 4294967295 ∧ 0 ≤ r ∧ r < 4294967296 ∧ (u * 4294967296 + d) / 18446744073709551608 ≤ q
def inU (u d : Int) : Prop := 0 ≤ u ∧ u < 18446744073709551608 ∧ 0 ≤ d ∧ d < 4294967296
theorem digit_first {u d : Int} (h : inU u d) : Digit u d (u / 4294967295) (u - u / 4294967295 * 4294967295) := by
  obtain ⟨h0, h1, h2, h3⟩ := h
  refine ⟨by omega, by omega, rfl, by omega, by omega, by omega⟩
theorem digit_more {u d q r : Int} (h : inU u d) (D : Digit u d q r) (c : 4294967296 ≤ q ∨ 4294967296 * r + d < q * 4294967288) : 1 ≤ q ∧ (r + 4294967295 < 4294967296 → Digit u d (q - 1) (r + 4294967295)) ∧ (4294967296 ≤ r + 4294967295 → q - 1 = (u * 4294967296 + d) / 18446744073709551608) := by
  obtain ⟨h0, h1, h2, h3⟩ := h
  obtain ⟨a0, a1, a2, a3, a4, a5⟩ := D
  have b : (u * 4294967296 + d) / 18446744073709551608 ≤ q - 1 := by omega
  refine ⟨by omega, fun g => ⟨by omega, by omega, by omega, by omega, by omega, b⟩, fun g => by omega⟩
theorem digit_last {u d q r : Int} (D : Digit u d q r) (c : ¬ 4294967296 * r + d < q * 4294967288) : q = (u * 4294967296 + d) / 18446744073709551608 := by
  obtain ⟨a0, a1, a2, a3, a4, a5⟩ := D
  omega
theorem two_digits (hi lo : Int) (h : okP hi) (hl : okW lo) (u d1 d0 v : Int) (hu : u = hi * 8 + lo / 2305843009213693952) (hd1 : d1 = lo * 8 % 18446744073709551616 / 4294967296) (hd0 : d0 = lo * 8 % 18446744073709551616 % 4294967296)
    (hv : v = (u * 4294967296 + d1) % 18446744073709551608) : inU u d1 ∧ inU v d0 ∧ (v * 4294967296 + d0) % 18446744073709551608 / 8 = (hi * 18446744073709551616 + lo) % 2305843009213693951 := by
  obtain ⟨h0, h1⟩ := h
  obtain ⟨l0, l1⟩ := hl
  refine ⟨⟨by omega, by omega, by omega, by omega⟩, ⟨by omega, by omega, by omega, by omega⟩, ?_⟩
  omega

end Go.Proofs.Ytfkalnehomgccaa.Fx
