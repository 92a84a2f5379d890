/- Pupils as plain numbers: what Check says of one, what numbers it has; and how its struct lies in memory; no function of the program is spoken of. -/
import Derived.Test.YtfkalnehomgccaaMats
namespace Go.Proofs.Ytfkalnehomgccaa.Fx
open Go.RowKit

/-- A pupil's value: two matrices' rows, columns and where their numbers lie; where the two lists lie. -/
structure Pup where
  r1 : Int
  c1 : Int
  a1 : Option Addr
  n1 : Nat
  k1 : Nat
  r2 : Int
  c2 : Int
  a2 : Option Addr
  n2 : Nat
  k2 : Nat
  d1 : Option Addr
  m1 : Nat
  e1 : Nat
  d2 : Option Addr
  m2 : Nat
  e2 : Nat
/-- .. and the numbers themselves. -/
structure PD where
  X1 : List Int
  X2 : List Int
  B1 : List Int
  B2 : List Int
def Pup.cells (p : Pup) : Array Value := #[.int .i64 p.r1, .int .i64 p.c1, .slice p.a1 p.n1 p.k1, .int .i64 p.r2, .int .i64 p.c2, .slice p.a2 p.n2 p.k2, .slice p.d1 p.m1 p.e1, .slice p.d2 p.m2 p.e2]
def Pup.val (p : Pup) : Value := .agg p.cells
structure InPup (w : World) (p : Pup) (d : PD) : Prop where
  x1 : Lst w p.a1 p.n1 p.k1 d.X1
  x2 : Lst w p.a2 p.n2 p.k2 d.X2
  b1 : Lst w p.d1 p.m1 p.e1 d.B1
  b2 : Lst w p.d2 p.m2 p.e2 d.B2
theorem InPup.below {w w' : World} {p : Pup} {d : PD} {B : Nat} (h : InPup w p d) (hb : Below B w w') (hB : w.heap.size ≤ B) : InPup w' p d :=
  ⟨h.x1.below hb hB, h.x2.below hb hB, h.b1.below hb hB, h.b2.below hb hB⟩

/-- What Check says of a pupil. -/
def pchk (p : Pup) (d : PD) : Int :=
  if chkI p.r1 p.c1 p.n1 d.X1 = 0 then
    (if chkI p.r2 p.c2 p.n2 d.X2 = 0 then (if (p.c2 = p.r1 ∧ (p.m1 : Int) = p.r1 ∧ (p.m2 : Int) = p.r2) ∧ rightB d.B1 = true ∧ rightB d.B2 = true then 0 else 5) else chkI p.r2 p.c2 p.n2 d.X2)
  else chkI p.r1 p.c1 p.n1 d.X1

/-- A pupil with so many inputs, hidden ones and outputs, wherever its numbers lie. -/
def rpup (I H O : Nat) (a1 : Option Addr) (k1 : Nat) (a2 : Option Addr) (k2 : Nat) (d1 : Option Addr) (e1 : Nat) (d2 : Option Addr) (e2 : Nat) : Pup :=
  ⟨H, I, a1, H * I, k1, O, H, a2, O * H, k2, d1, H, e1, d2, O, e2⟩
def RightD (d : PD) : Prop := rightB d.X1 = true ∧ rightB d.X2 = true ∧ rightB d.B1 = true ∧ rightB d.B2 = true

theorem pchk_zero {p : Pup} {d : PD} (h : pchk p d = 0) :
    ∃ I H O a1 k1 a2 k2 d1 e1 d2 e2, p = rpup I H O a1 k1 a2 k2 d1 e1 d2 e2 ∧ 1 ≤ I ∧ I ≤ 4 ∧ 1 ≤ H ∧ H ≤ 4 ∧ 1 ≤ O ∧ O ≤ 4 ∧ RightD d := by
  unfold pchk at h
  by_cases h1 : chkI p.r1 p.c1 p.n1 d.X1 = 0
  · rw [if_pos h1] at h
    by_cases h2 : chkI p.r2 p.c2 p.n2 d.X2 = 0
    · rw [if_pos h2] at h
      by_cases h3 : (p.c2 = p.r1 ∧ (p.m1 : Int) = p.r1 ∧ (p.m2 : Int) = p.r2) ∧ rightB d.B1 = true ∧ rightB d.B2 = true
      · obtain ⟨r1, c1, a1, n1, k1, r2, c2, a2, n2, k2, d1, m1, e1, d2, m2, e2⟩ := p
        dsimp only at *
        obtain ⟨R1, C1, rfl, rfl, p1, p2, p3, p4, rfl, g1⟩ := chkI_zero h1
        obtain ⟨R2, C2, rfl, rfl, q1, q2, q3, q4, rfl, g2⟩ := chkI_zero h2
        obtain ⟨⟨s1, s2, s3⟩, s4, s5⟩ := h3
        obtain rfl : R1 = C2 := by omega
        obtain rfl : R1 = m1 := by omega
        obtain rfl : R2 = m2 := by omega
        exact ⟨C1, R1, R2, a1, k1, a2, k2, d1, e1, d2, e2, rfl, p3, p4, p1, p2, q1, q2, g1, g2, s4, s5⟩
      · rw [if_neg h3] at h; exact absurd h (by decide)
    · rw [if_neg h2] at h; exact absurd h h2
  · rw [if_neg h1] at h; exact absurd h h1
theorem chkI_mk {R C : Nat} {xs : List Int} (h1 : 1 ≤ R) (h2 : R ≤ 4) (h3 : 1 ≤ C) (h4 : C ≤ 4) (h : rightB xs = true) : chkI R C (R * C) xs = 0 := by
  unfold chkI
  rw [if_pos ⟨sideB_mk (by omega) (by omega), sideB_mk (by omega) (by omega)⟩, if_pos ⟨by push_cast; rfl, h⟩]
theorem pchk_right {I H O : Nat} {a1 : Option Addr} {k1 : Nat} {a2 : Option Addr} {k2 : Nat} {d1 : Option Addr} {e1 : Nat} {d2 : Option Addr} {e2 : Nat} {d : PD} (i1 : 1 ≤ I) (i2 : I ≤ 4) (h1 : 1 ≤ H) (h2 : H ≤ 4) (o1 : 1 ≤ O) (o2 : O ≤ 4) (h : RightD d) :
    pchk (rpup I H O a1 k1 a2 k2 d1 e1 d2 e2) d = 0 := by
  unfold pchk rpup
  dsimp only
  rw [if_pos (chkI_mk h1 h2 i1 i2 h.1), if_pos (chkI_mk o1 o2 h1 h2 h.2.1), if_pos ⟨⟨rfl, rfl, rfl⟩, h.2.2⟩]
theorem pchk_cases (p : Pup) (d : PD) : pchk p d = 0 ∨ (pchk p d ≠ 0 ∧ (pchk p d != 0) = true ∧ (pchk p d == 0) = false) := by
  by_cases h : pchk p d = 0
  · exact .inl h
  · exact .inr ⟨h, by simpa using h, by simpa using h⟩

/-- All its numbers, in order. -/
def flatD (d : PD) : List Int := d.X1 ++ (d.B1 ++ (d.X2 ++ d.B2))
def flatL (p : Pup) (d : PD) : List Int := if pchk p d = 0 then flatD d else []

/-! A struct of eight cells that was laid, in whatever world that left it. -/
theorem boxN {w wr : World} {B : Nat} (cs : Array Value) (t : TypeId) (hb : Below B (w.alloc (.cells cs t)) wr) (hB : w.heap.size < B) (i : Nat) : wr.cell? ⟨w.heap.size, i, none⟩ = cs[i]? :=
  (hb.cell (p := ⟨w.heap.size, i, none⟩) hB).trans (World.cell?_alloc_mark w cs t _ i)
structure Box8 (w : World) (b : Nat) (v0 v1 v2 v3 v4 v5 v6 v7 : Value) : Prop where
  c0 : w.cell? ⟨b, 0, none⟩ = some v0
  c1 : w.cell? ⟨b, 1, none⟩ = some v1
  c2 : w.cell? ⟨b, 2, none⟩ = some v2
  c3 : w.cell? ⟨b, 3, none⟩ = some v3
  c4 : w.cell? ⟨b, 4, none⟩ = some v4
  c5 : w.cell? ⟨b, 5, none⟩ = some v5
  c6 : w.cell? ⟨b, 6, none⟩ = some v6
  c7 : w.cell? ⟨b, 7, none⟩ = some v7
theorem box8 {w wr : World} {B : Nat} {v0 v1 v2 v3 v4 v5 v6 v7 : Value} {t : TypeId} (hb : Below B (w.alloc (.cells #[v0, v1, v2, v3, v4, v5, v6, v7] t)) wr) (hB : w.heap.size < B) :
    Box8 wr w.heap.size v0 v1 v2 v3 v4 v5 v6 v7 :=
  ⟨boxN _ _ hb hB 0, boxN _ _ hb hB 1, boxN _ _ hb hB 2, boxN _ _ hb hB 3, boxN _ _ hb hB 4, boxN _ _ hb hB 5, boxN _ _ hb hB 6, boxN _ _ hb hB 7⟩

/-- An example's value, and its two lists. -/
structure Exm where
  a : Option Addr
  n : Nat
  k : Nat
  b : Option Addr
  m : Nat
  t : Nat
def Exm.val (x : Exm) : Value := .agg #[.slice x.a x.n x.k, .slice x.b x.m x.t]
structure InEx (w : World) (x : Exm) (I O : List Int) : Prop where
  i : Lst w x.a x.n x.k I
  o : Lst w x.b x.m x.t O
theorem InEx.below {w w' : World} {x : Exm} {I O : List Int} {B : Nat} (h : InEx w x I O) (hb : Below B w w') (hB : w.heap.size ≤ B) : InEx w' x I O := ⟨h.i.below hb hB, h.o.below hb hB⟩
theorem box2 {w wr : World} {B : Nat} {v0 v1 : Value} {t : TypeId} (hb : Below B (w.alloc (.cells #[v0, v1] t)) wr) (hB : w.heap.size < B) :
    wr.cell? ⟨w.heap.size, 0, none⟩ = some v0 ∧ wr.cell? ⟨w.heap.size, 1, none⟩ = some v1 := ⟨boxN _ _ hb hB 0, boxN _ _ hb hB 1⟩
end Go.Proofs.Ytfkalnehomgccaa.Fx
