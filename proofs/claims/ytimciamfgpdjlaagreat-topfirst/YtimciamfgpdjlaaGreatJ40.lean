/- Lists of records that say the same are the same; no function of package journal is spoken of. -/
import Derived.Test.YtimciamfgpdjlaaGreatJ07
import Derived.Test.YtimciamfgpdjlaaGreatJ06
namespace Go.Proofs.YtimciamfgpdjlaaGreat.Fx
open Go.RowKit

theorem recs_same {k : Nat} {R R2 : Nat → Rcm} {D : Nat → List Int} {RV RO CH : Nat → Int} (h : JrN k R RV RO CH) (h2 : JrN k R2 RV RO CH) : recsB k k R R2 D D = true := by
  unfold recsB
  rw [decide_eq_true rfl, Bool.true_and, List.all_eq_true]
  intro j hj
  rw [List.mem_range] at hj
  obtain ⟨e1, e2, e3, e4⟩ := h j hj
  obtain ⟨f1, f2, f3, f4⟩ := h2 j hj
  unfold recB likeB
  rw [e1, e2, e3, e4, f1, f2, f3, f4]
  simp
theorem JrN.take {k m : Nat} {R : Nat → Rcm} {RV RO CH : Nat → Int} (h : JrN k R RV RO CH) (hm : m ≤ k) : JrN m R RV RO CH := fun j hj => h j (by omega)
theorem Recs.take {w : World} {a : Option Addr} {n c m : Nat} {R : Nat → Rcm} {D : Nat → List Int} (h : Recs w a n c R D) (hm : m ≤ n) : Recs w a m c R D := by
  refine ⟨Nat.le_trans hm h.1, ?_⟩
  rcases h.2 with h0 | ⟨b, off, e, hs, hc⟩
  · exact .inl (by omega)
  · exact .inr ⟨b, off, e, hs, fun i hi => hc i (by omega)⟩
end Go.Proofs.YtimciamfgpdjlaaGreat.Fx
