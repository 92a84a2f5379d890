/- What slices.Grow (of nil) and slices.Concat return, of lists that may be empty. -/
import Derived.Test.YtfkalnehomgccaaPupC
import Derived.Test.YtfkalnehomgccaaAppsAll
namespace Go.Proofs.Ytfkalnehomgccaa.Fx
open Go.RowKit

theorem grow_any (n : Nat) (w : World) (h1 : n ≤ 1000) :
    Calls Try.prog 35 #[.slice none 0 0, .int .i64 n] w fun e w' => ∃ v, e = .returned v ∧ OwnI w.heap.size w' v [] ∧ Below w.heap.size w w' := by
  by_cases h0 : 0 < n
  · exact grow_calls n w h0 h1
  · have hz : ¬ (n : Int) > 0 := by omega
    have hz2 : ¬ (n : Int) < 0 := by omega
    have hz3 : ¬ 0 < n := h0
    go_enter Try.func35, Try.ntmps35
    go_wp2
    go_ret
    exact ⟨_, rfl, OwnI.nil _ _, Below.refl _ _⟩

set_option maxHeartbeats 1600000 in
theorem concat_any (n : Nat) (A : Nat → Option Addr) (L C : Nat → Nat) (X : Nat → List Int) (b : Nat) (w : World) (hb : b < w.heap.size) (hn0 : 0 < n) (hn : n ≤ 1000) (hc : ∀ i, i < n → w.cell? ⟨b, i, none⟩ = some (.slice (A i) (L i) (C i)))
    (hl : ∀ i, i < n → Lst w (A i) (L i) (C i) (X i)) (hs : lenTo L n ≤ 1000) :
    Calls Try.prog 23 #[.slice (some ⟨b, 0, none⟩) n n] w fun e w' => ∃ v, e = .returned v ∧ OwnI w.heap.size w' v (catTo X n) ∧ Below w.heap.size w w' := by
  have HC : Hid (∀ i, i < n → w.cell? ⟨b, i, none⟩ = some (.slice (A i) (L i) (C i))) := hc
  have HL : Hid (∀ i, i < n → Lst w (A i) (L i) (C i) (X i)) := hl
  clear hc hl
  go_enter Try.func23, Try.ntmps23
  go_wp2
  go_loopw [3, 11] (fun s i wr => ∃ k : Nat, k ≤ n ∧ i = .int .i64 k ∧ s = .int .i64 (lenTo L k) ∧ wr = w) (fun _ i _ => n - (intOf i).toNat)
  case atStart => exact ⟨0, Nat.zero_le _, rfl, rfl, rfl⟩
  case round =>
    obtain ⟨k, hk, rfl, rfl, hw⟩ := hrel
    replace hw := hw.symm
    subst hw
    by_cases hlt : k < n
    · have c := HC.out k hlt
      have b1 := lenTo_le L (k := k + 1) (n := n) (by omega)
      have b2 : lenTo L (k + 1) = lenTo L k + L k := rfl
      obtain ⟨l, hl⟩ : ∃ l, Hid (L k = l) := ⟨_, rfl⟩
      obtain ⟨T, hT⟩ : ∃ T, Hid (lenTo L k = T) := ⟨_, rfl⟩
      rw [hl.out] at c b2
      rw [hT.out] at b2
      have b3 : T + l ≤ 1000 := by omega
      rw [hT.out]
      clear b1 b2
      go_wp2
      go_roundw
      case rel => exact ⟨k + 1, by omega, by go_num, by rw [lenTo, hT.out, hl.out]; go_num, by trivial⟩
      case measure => simp [intOf]; omega
    · obtain rfl : k = n := by omega
      obtain ⟨T, hT⟩ : ∃ T, Hid (lenTo L k = T) := ⟨_, rfl⟩
      have HS : Hid (lenTo L k ≤ 1000) := hs
      rw [hT.out] at hs ⊢
      go_wp2_with fail
      refine (grow_any T _ hs).mono ?_
      rintro e w1 ⟨v0, rfl, hown, hw1⟩
      go_wp2
      go_loopw [6, 27] (fun v i wr => ∃ j : Nat, j ≤ k ∧ i = .int .i64 j ∧ OwnI w.heap.size wr v (catTo X j) ∧ Below w.heap.size w wr) (fun _ i _ => k - (intOf i).toNat)
      case atStart => exact ⟨0, Nat.zero_le _, rfl, hown, hw1⟩
      case round =>
        obtain ⟨j, hj, rfl, hown, hbel⟩ := hrel
        have hsz := hbel.size
        by_cases hlt2 : j < k
        · have c := (hbel.cell (p := ⟨b, j, none⟩) (by exact hb)).trans (HC.out j hlt2)
          have hx := (HL.out j hlt2).below hbel (Nat.le_refl _)
          have hlen : (catTo X j).length + L j ≤ 1000 := by
            rw [catTo_len X L j (fun i hi => (HL.out i (by omega)).len)]
            have b1 := lenTo_le L (k := j + 1) (n := k) (by omega)
            have b2 : lenTo L (j + 1) = lenTo L j + L j := rfl
            have := HS.out
            omega
          obtain ⟨l, hl⟩ : ∃ l, Hid (L j = l) := ⟨_, rfl⟩
          rw [hl.out] at c hx hlen
          go_wp2_with (at_builtin; refine wpList_append_any (by rfl) _ _ (by rfl) w.heap.size _ (catTo X j) (X j) (A j) l (C j) w (by rfl) (by rfl) (by exact hown) (by exact hx) (by omega) (by exact hsz) (by exact hbel) ?_; intro v1 w3 hown1 hbel1)
          go_roundw
          case rel => exact ⟨j + 1, by omega, by go_num, hown1, hbel1⟩
          case measure => simp [intOf]; omega
        · obtain rfl : j = k := by omega
          go_wp2
          go_ret
          exact ⟨_, rfl, hown, hbel⟩

def two {α : Type} (x0 x1 : α) (i : Nat) : α := if i = 0 then x0 else x1
theorem lt_two {i : Nat} (h : i < 2) : i = 0 ∨ i = 1 := by omega

theorem concat2 (a0 a1 : Option Addr) (l0 l1 c0 c1 : Nat) (x0 x1 : List Int) (g : Nat) (w : World) (hg : g = w.heap.size) (h0 : Lst w a0 l0 c0 x0) (h1 : Lst w a1 l1 c1 x1) (hs : l0 + l1 ≤ 1000) :
    Calls Try.prog 23 #[.slice (some ⟨g, 0, none⟩) 2 2] (w.alloc (.cells #[.slice a0 l0 c0, .slice a1 l1 c1] 22)) fun e w' => ∃ a c, e = .returned (.slice a (l0 + l1) c) ∧ Lst w' a (l0 + l1) c (x0 ++ x1) ∧ Below w.heap.size w w' := by
  subst hg
  have hal := (Below.refl w.heap.size w).alloc (Nat.le_refl _) (.cells #[.slice a0 l0 c0, .slice a1 l1 c1] 22)
  have hr := World.rowIs_alloc w #[.slice a0 l0 c0, .slice a1 l1 c1] 22 (fun i => .slice (two a0 a1 i) (two l0 l1 i) (two c0 c1 i)) (by
    intro i hi
    rcases lt_two hi with rfl | rfl <;> rfl)
  refine (concat_any 2 (two a0 a1) (two l0 l1) (two c0 c1) (two x0 x1) w.heap.size _ (by simp) (by omega) (by omega) (fun i hi => hr.cell hi) ?_ ?_).mono ?_
  · intro i hi
    rcases lt_two hi with rfl | rfl
    · exact h0.below hal (Nat.le_refl _)
    · exact h1.below hal (Nat.le_refl _)
  · show 0 + l0 + l1 ≤ 1000
    omega
  · rintro e w' ⟨v, rfl, hown, hb⟩
    have e1 : catTo (two x0 x1) 2 = x0 ++ x1 := by
      show ([] ++ x0) ++ x1 = _
      simp
    rw [e1] at hown
    have e2 : (x0 ++ x1).length = l0 + l1 := by rw [List.length_append, h0.len, h1.len]
    obtain ⟨a, c, rfl, hl⟩ := hown.lst
    rw [e2] at hl ⊢
    exact ⟨a, c, rfl, hl, hal.trans (hb.mono hal.size)⟩
end Go.Proofs.Ytfkalnehomgccaa.Fx
