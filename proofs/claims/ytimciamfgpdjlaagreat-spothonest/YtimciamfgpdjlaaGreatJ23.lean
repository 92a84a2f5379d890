/- A step of the course, done again from the course's own state, has the journal's own record; no function of the program is spoken of. -/
import Derived.Test.YtimciamfgpdjlaaGreatJ19
import Derived.Test.YtimciamfgpdjlaaGreatJ07
import Derived.Test.YtimciamfgpdjlaaGreatJ06
namespace Go.Proofs.YtimciamfgpdjlaaGreat.Fx
open Go.RowKit

theorem own_next {c : Cfg} {n : Nat} {X : Nat → Exm} {DI DO : Nat → List Int} (h0 : courseI c n X DI DO = 0) {k : Nat} (hk : (k : Int) < c.steps) :
    nextE c n X DI DO (sizeN c).toNat (stW c n DI DO k) (sizeN c).toNat (stM c n DI DO k) k = 0 := by
  have hc := (course_ok h0).1
  have hz := sizeN_bd hc
  have hr := stateP_right c n DI DO (sizeN c).toNat k
  have hN : (((sizeN c).toNat : Nat) : Int) = sizeN c := by omega
  have f1 : fitB c (sizeN c).toNat (stW c n DI DO k) = true := by unfold fitB; rw [decide_eq_true hN, Bool.true_and]; exact hr.1
  have f2 : fitB c (sizeN c).toNat (stM c n DI DO k) = true := by unfold fitB; rw [decide_eq_true hN, Bool.true_and]; exact hr.2
  unfold nextE
  rw [if_pos h0, f1, f2, if_pos (show (true && true) = true from rfl), if_pos (in_yes ⟨by omega, by omega⟩)]
theorem own_like {c : Cfg} {n : Nat} {X : Nat → Exm} {DI DO : Nat → List Int} (h0 : courseI c n X DI DO = 0) {m : Nat} {R : Nat → Rcm} (hJ : JrN m R (mkRV c) (mkRO c n DI DO) (mkCH c n DI DO)) {k : Nat} (hm : k < m) (hk : (k : Int) < c.steps) (x : Rcm) (xs : List Int) :
    jgB c n X DI DO (sizeN c).toNat (stW c n DI DO k) (sizeN c).toNat (stM c n DI DO k) k x xs = likeB x (R k) xs (jrBatch c n k) := by
  have hz := own_next h0 hk
  have hc := (course_ok h0).1
  have hzn := sizeN_bd hc
  obtain ⟨e1, e2, e3, e4⟩ := hJ k hm
  have l1 := stateP_len c n DI DO (sizeN c).toNat (k + 1)
  have w1 : nxW c n X DI DO (sizeN c).toNat (stW c n DI DO k) (sizeN c).toNat (stM c n DI DO k) k = stW c n DI DO (k + 1) := by unfold nxW; rw [if_pos hz]; rfl
  have w2 : nxM c n X DI DO (sizeN c).toNat (stW c n DI DO k) (sizeN c).toNat (stM c n DI DO k) k = stM c n DI DO (k + 1) := by unfold nxM; rw [if_pos hz]; rfl
  have w3 : nxR c n X DI DO (sizeN c).toNat (stW c n DI DO k) (sizeN c).toNat (stM c n DI DO k) k = mkRV c k := by unfold nxR; rw [if_pos hz]; rfl
  have w4 : nxB c n X DI DO (sizeN c).toNat (stW c n DI DO k) (sizeN c).toNat (stM c n DI DO k) k = jrBatch c n k := by unfold nxB; rw [if_pos hz]; rfl
  have w5 : nxZ c n X DI DO (sizeN c).toNat (stW c n DI DO k) (sizeN c).toNat (stM c n DI DO k) k = mkRO c n DI DO k := by
    unfold nxZ
    rw [w1, w2]
    have e5 : rootE (stW c n DI DO (k + 1)).length (stM c n DI DO (k + 1)).length = 0 := by
      unfold rootE stW stM
      rw [l1.1, l1.2, if_neg (by omega), if_neg (by omega)]
    unfold rootV
    rw [if_pos e5]
    unfold mkRO jrRoot stW stM
    rw [l1.1, l1.2]
  unfold jgB likeB
  rw [w3, w4, w5, e1, e2, e3]
theorem likeB_refl (x : Rcm) (xs : List Int) : likeB x x xs xs = true := by
  unfold likeB
  rw [decide_eq_true rfl, decide_eq_true rfl, decide_eq_true rfl, decide_eq_true rfl]; rfl
/-- All ahead of the first that is not as it was made are the same. -/
theorem firstNo_ahead (f : Nat → Bool) : ∀ n j, j < firstNo f n → f j = true
  | 0, j, h => by unfold firstNo at h; omega
  | n + 1, j, h => by
    unfold firstNo at h
    by_cases h1 : firstNo f n < n
    · rw [if_pos h1] at h; exact firstNo_ahead f n j h
    · rw [if_neg h1] at h
      have hle := firstNo_le f n
      have hall : ∀ i, i < n → f i = true := fun i hi => firstNo_ahead f n i (by omega)
      by_cases h2 : f n = true
      · rw [if_pos h2] at h
        by_cases e : j = n
        · subst e; exact h2
        · exact hall j (by omega)
      · rw [if_neg h2] at h; exact hall j h
theorem firstNo_at (f : Nat → Bool) : ∀ n, firstNo f n < n → f (firstNo f n) = false
  | 0, h => by omega
  | n + 1, h => by
    unfold firstNo at h ⊢
    by_cases h1 : firstNo f n < n
    · rw [if_pos h1]; exact firstNo_at f n h1
    · rw [if_neg h1] at h ⊢
      by_cases h2 : f n = true
      · rw [if_pos h2] at h; omega
      · rw [if_neg h2]; simpa using h2
end Go.Proofs.YtimciamfgpdjlaaGreat.Fx

/- A small course in plain numbers: its records' chains are not the same. -/
namespace Go.Proofs.YtimciamfgpdjlaaGreat.Fx
open Go.RowKit

def smallC : Cfg := ⟨1, 1, 1, 1, 1, 3, 6554, 0, 0, 0, 0⟩
def smallI (_ : Nat) : List Int := [65536]
def smallO (_ : Nat) : List Int := [131072]
set_option maxRecDepth 1000000 in
theorem small_chain : jrChain smallC 1 smallI smallO 4 1 ≠ jrChain smallC 1 smallI smallO 4 2 := by decide +kernel
theorem small_cfg : cfgB smallC = true := by decide +kernel
theorem small_batch : jrBatch smallC 1 0 = [0] := by decide +kernel
end Go.Proofs.YtimciamfgpdjlaaGreat.Fx
