/- strings.HasPrefix in this program; beginnings of texts that grow and shrink. -/
import Derived.Test.YtfcnnolpcnacoaaDoorStG
import Derived.Test.YtfcnnolpcnacoaaDoorSameS
namespace Go.Proofs.YtfcnnolpcnacoaaDoor.Fx
open Go.RowKit

theorem hasPref_lite (A B : ByteArray) (w : World) (h : B.data.toList <+: A.data.toList) : Calls Tryd.prog 28 #[.string A, .string B] w fun e w' => e = .returned (.bool true) ∧ w' = w := by
  have hl : B.size ≤ A.size := by
    have := h.length_le
    exact this
  have h0 : (0 : Int) ≤ (B.size : Int) := by omega
  have h1 : (B.size : Int) ≤ (A.size : Int) := by omega
  have hex : A.extract 0 B.size = B := by
    apply Go.WideShapes.bytes_inj
    rw [Lib.extract_from_zero]
    obtain ⟨t, ht⟩ := h
    rw [← ht]
    have e : B.size = B.data.toList.length := rfl
    rw [e]
    simp
  clear h
  go_enter Tryd.func28, Tryd.ntmps28
  go_wp2
  go_ret
  exact ⟨rfl, rfl⟩
theorem hasPref_calls (A B : ByteArray) (w : World) (h : B.data.toList <+: A.data.toList) : Calls Tryd.prog 17 #[.string A, .string B] w fun e w' => e = .returned (.bool true) ∧ w' = w := by
  have HC := Lib.hid (hasPref_lite A B w h)
  clear h
  go_enter Tryd.func17, Tryd.ntmps17
  go_wp2_with fail
  refine HC.out.mono ?_
  rintro e w1 ⟨rfl, hw1⟩
  replace hw1 := hw1.symm
  subst hw1
  go_wp2
  go_ret
  exact ⟨rfl, rfl⟩

theorem BegTo.grow {s t : List UInt8} {ls : List Ln} (h : BegTo s ls) (ht : s <+: t) : BegTo t ls := ⟨h.ok, h.step, h.pre.trans ht⟩
theorem noLine_nil (l : Ln) : ¬ IsLine [] l := fun h => by
  have h1 := h.2.length_le
  have h2 := text_ne l
  rw [List.length_nil] at h1
  omega
theorem Beg.flat {s : List UInt8} {ls : List Ln} (h : BegTo s ls) : Beg (flatL ls) ls := ⟨⟨h.ok, h.step, List.prefix_refl _⟩, fun l hl => by rw [List.drop_length] at hl; exact absurd hl (noLine_nil l)⟩
theorem Recs.takeS {w : World} {a : Option Addr} {n c m : Nat} {R : Nat → Rcm} {D : Nat → List Int} (h : Recs w a n c R D) (hm : m ≤ n) : Recs w a m c R D := by
  refine ⟨Nat.le_trans hm h.1, ?_⟩
  rcases h.2 with h0 | ⟨b, off, e, hs, hc⟩
  · exact .inl (by omega)
  · exact .inr ⟨b, off, e, hs, fun i hi => hc i (by omega)⟩
theorem lnAt_take {ls : List Ln} {m j : Nat} (hj : j < m) : lnAt (ls.take m) j = lnAt ls j := by
  unfold lnAt
  rw [List.getElem?_take_of_lt hj]
theorem lnAt_agree {ls ms : List Ln} {m : Nat} (h : ls.take m = ms.take m) {j : Nat} (hj : j < m) : lnAt ls j = lnAt ms j := by rw [← lnAt_take hj, h, lnAt_take hj]
theorem recZ_lnK {x y : Rcm} {xs ys : List Int} (h : x.ln xs = y.ln ys) : recZ x y xs ys = true := by
  simp only [Rcm.ln, Ln.mk.injEq] at h
  obtain ⟨h1, h2, h3, h4, h5⟩ := h
  simp [recZ, likeZ, h1, h2, h3, h4, h5]
theorem recsZ_two {n : Nat} {X Y : Nat → Rcm} {D E : Nat → List Int} (h : ∀ j, j < n → (X j).ln (D j) = (Y j).ln (E j)) : recsZ n n X Y D E = true := by
  unfold recsZ
  rw [decide_eq_true rfl, Bool.true_and, List.all_eq_true]
  exact fun j hj => recZ_lnK (h j (List.mem_range.1 hj))
theorem Recs.nS {w : World} {a : Option Addr} {n c : Nat} {R : Nat → Rcm} {D : Nat → List Int} (h : Recs w a n c R D) {j : Nat} (hj : j < n) : (R j).n = (D j).length := by
  rcases h.2 with h0 | ⟨_, _, _, _, hc⟩
  · omega
  · exact (hc j hj).2.2.2.2.2.len.symm
theorem Recs.keeps {w w' : World} {a : Option Addr} {n c b : Nat} {R : Nat → Rcm} {D : Nat → List Int} (h : Recs w a n c R D) (hk : Keeps b w w') (hfar : ∀ g o, a = some ⟨g, o, none⟩ → g ≠ b) (hfar2 : ∀ j, j < n → (R j).n = 0 ∨ ∀ g o, (R j).a = some ⟨g, o, none⟩ → g ≠ b) : Recs w' a n c R D := by
  refine ⟨h.1, ?_⟩
  rcases h.2 with h0 | ⟨g, off, e, hs, hc⟩
  · exact .inl h0
  · have hne := hfar g off e
    have kc : ∀ o, w'.cell? ⟨g, o, none⟩ = w.cell? ⟨g, o, none⟩ := fun o => hk.cell (a := ⟨g, o, none⟩) hs hne
    exact .inr ⟨g, off, e, Nat.lt_of_lt_of_le hs hk.size, fun i hi => ⟨(kc _).trans (hc i hi).1, (kc _).trans (hc i hi).2.1, (kc _).trans (hc i hi).2.2.1, (kc _).trans (hc i hi).2.2.2.1, (kc _).trans (hc i hi).2.2.2.2.1, (hc i hi).2.2.2.2.2.keeps hk (hfar2 i hi)⟩⟩
end Go.Proofs.YtfcnnolpcnacoaaDoor.Fx
