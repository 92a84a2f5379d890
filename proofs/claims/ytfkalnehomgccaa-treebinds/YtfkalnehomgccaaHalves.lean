/- The first words of a list that lies in memory, and the others. -/
import Derived.Test.YtfkalnehomgccaaWords
import Derived.Test.YtfkalnehomgccaaTrees
namespace Go.Proofs.Ytfkalnehomgccaa.Fx
open Go.RowKit

theorem LstW.head {w : World} {b off n c : Nat} {xs : List Int} (h : LstW w (some ⟨b, off, none⟩) n c xs) (hn : 0 < n) {k : Nat} (hk : k ≤ n) : LstW w (some ⟨b, off, none⟩) k c (xs.take k) := by
  simpa using h.sub hn 0 k (Nat.zero_le _) hk
theorem LstW.tail {w : World} {b off n c : Nat} {xs : List Int} (h : LstW w (some ⟨b, off, none⟩) n c xs) (hn : 0 < n) {k : Nat} (hk : k ≤ n) : LstW w (some ⟨b, off + k, none⟩) (n - k) (c - k) (xs.drop k) := by
  have h1 := h.sub hn k n hk (Nat.le_refl _)
  rwa [List.take_of_length_le (by rw [List.length_drop, h.len]; exact Nat.le_refl _)] at h1

end Go.Proofs.Ytfkalnehomgccaa.Fx
