/- What coachkeep.taught returns, with journal.Make's contract. -/
import Derived.Test.YtgihnliipfdokaaGreatJ36
import Derived.Test.YtgihnliipfdokaaGreatJ23
import Derived.Test.YtgihnliipfdokaaGreatJ26
import Derived.Test.YtgihnliipfdokaaGreatJ01
namespace Go.Proofs.YtgihnliipfdokaaGreat.Fx
open Go.RowKit

theorem make_says : MakeSays := fun c a n cap X DI DO m w hs hx => by
  refine (jMake_calls c a n cap X DI DO m w hs hx).mono ?_
  rintro e w' ⟨b, k, R, he, h⟩
  exact ⟨b, k, R, he, h.recs, h.says, h.len8, h.bel⟩
theorem taught_any (w : World) : Calls Tryz.prog 14 #[] w fun e w' => e = .returned (.bool true) ∧ Below w.heap.size w w' := taught_calls make_says w
end Go.Proofs.YtgihnliipfdokaaGreat.Fx

/- Of a journal that is as journal.Make makes it audit.Whole tells how many records there are. -/
namespace Go.Proofs.YtgihnliipfdokaaGreat.Fx
open Go.RowKit

theorem likeB_same (x y : Rcm) (xs : List Int) (h1 : x.s = y.s) (h2 : x.r = y.r) (h3 : x.root = y.root) : likeB x y xs xs = true := by
  unfold likeB
  rw [decide_eq_true h1, decide_eq_true h2, decide_eq_true h3, decide_eq_true rfl]; rfl
theorem auB_own {c : Cfg} {n : Nat} {DI DO : Nat → List Int} {m : Nat} {R : Nat → Rcm} (h : JrN m R (mkRV c) (mkRO c n DI DO) (mkCH c n DI DO)) {j : Nat} (hj : j < m) : auB c n DI DO R (jrBatch c n) j = true := by
  rw [auB_is h R (jrBatch c n) hj]
  unfold recB
  rw [likeB_same _ _ _ rfl rfl rfl, decide_eq_true rfl]; rfl
theorem whole_own (c : Cfg) (hs : okW c.seed) (a : Option Addr) (n cap : Nat) (X : Nat → Exm) (DI DO : Nat → List Int) (la : Option Addr) (ln lc : Nat) (R : Nat → Rcm) (w : World) (hx : Exs w a n cap X DI DO) (hl : Recs w la ln lc R (jrBatch c n)) (hL : ∀ j, j < ln → (R j).n ≤ 8) (h0 : courseI c n X DI DO = 0) (hm : (ln : Int) ≤ c.steps) (hJ : JrN ln R (mkRV c) (mkRO c n DI DO) (mkCH c n DI DO)) :
    Calls Tryz.prog 9 #[c.val, .slice a n cap, .slice la ln lc] w fun e w' => e = .returned (.tuple #[.int .i64 ln, .int .i64 0]) ∧ Below w.heap.size w w' := by
  have h := whole_good c hs a n cap X DI DO la ln lc R (jrBatch c n) w hx hl (fun j hj => Nat.le_trans (hL j hj) (by decide)) h0 hm
  rw [firstNo_eq _ ln ln (Nat.le_refl _) (fun j hj => auB_own hJ hj) (fun h => by omega)] at h
  exact h
end Go.Proofs.YtgihnliipfdokaaGreat.Fx

/- What coachref.Rest returns: a number below the second one. -/
namespace Go.Proofs.YtgihnliipfdokaaGreat.Fx
open Go.RowKit

theorem rest_any (n : Int) (m : Nat) (h1 : 1 ≤ m) (h2 : m ≤ 2000) (w : World) :
    Calls Tryz.prog 15 #[.int .i64 n, .int .i64 m] w fun e w' => (∃ k : Nat, k < m ∧ e = .returned (.int .i64 k)) ∧ w' = w := by
  obtain ⟨r, hr⟩ : ∃ r, n.tmod (m : Int) = r := ⟨_, rfl⟩
  have r1 : r < (m : Int) := by rw [← hr]; exact Int.tmod_lt_of_pos _ (by omega)
  have r2 : -(m : Int) < r := by
    rw [← hr]
    have := Int.tmod_lt_of_pos (-n) (b := (m : Int)) (by omega)
    rw [Int.neg_tmod] at this
    omega
  by_cases h : r < 0
  · go_enter Tryz.func15, Tryz.ntmps15
    go_wp2
    go_ret
    exact ⟨⟨(r + m).toNat, by omega, ret_word (by omega)⟩, rfl⟩
  · go_enter Tryz.func15, Tryz.ntmps15
    go_wp2
    go_ret
    exact ⟨⟨r.toNat, by omega, ret_word (by omega)⟩, rfl⟩
end Go.Proofs.YtgihnliipfdokaaGreat.Fx
