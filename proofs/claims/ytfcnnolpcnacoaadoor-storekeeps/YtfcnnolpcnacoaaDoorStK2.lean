/- The records of a text, as a list in memory apart from a store's block: how they are read, and told to be the same. -/
import Derived.Test.YtfcnnolpcnacoaaDoorStK
namespace Go.Proofs.YtfcnnolpcnacoaaDoor.Fx
open Go.RowKit

theorem beg_exists (s : List UInt8) : ∃ ls, Beg s ls := by
  have key : ∀ k ls, BegTo s ls → 100 ≤ ls.length + k → ∃ ms, Beg s ms := by
    intro k
    induction k with
    | zero =>
      intro ls h hk
      refine ⟨ls, h, fun l hl hs => ?_⟩
      have := (h.snoc hl hs).len
      rw [List.length_append, List.length_singleton] at this
      omega
    | succ k ih =>
      intro ls h hk
      by_cases hx : ∃ l, IsLine (s.drop (flatL ls).length) l ∧ l.s = (ls.length : Int)
      · obtain ⟨l, h1, h2⟩ := hx
        exact ih _ (h.snoc h1 h2) (by rw [List.length_append, List.length_singleton]; omega)
      · exact ⟨ls, h, fun l hl hs => hx ⟨l, hl, hs⟩⟩
  exact key 100 [] (BegTo.nil s) (by simp)

/-- A slice of records that tells the lines ls, none of whose blocks is b. -/
def RecAt (b : Nat) (w : World) (ls : List Ln) (a : Option Addr) (c : Nat) : Prop :=
  ∃ R : Nat → Rcm, (∀ j, j < ls.length → (R j).ln (lnAt ls j).b = lnAt ls j) ∧ Recs w a ls.length c R (fun j => (lnAt ls j).b) ∧ (∀ g o, a = some ⟨g, o, none⟩ → g ≠ b) ∧ ∀ j, j < ls.length → ∀ g o, (R j).a = some ⟨g, o, none⟩ → g ≠ b
theorem RecAt.cap {b : Nat} {w : World} {ls : List Ln} {a : Option Addr} {c : Nat} (h : RecAt b w ls a c) : ls.length ≤ c := by
  obtain ⟨R, _, h2, _⟩ := h
  exact h2.1
theorem RecAt.below {b : Nat} {w w' : World} {ls : List Ln} {a : Option Addr} {c : Nat} (h : RecAt b w ls a c) (hb : Below w.heap.size w w') : RecAt b w' ls a c := by
  obtain ⟨R, h1, h2, h3, h4⟩ := h
  exact ⟨R, h1, h2.below hb (Nat.le_refl _), h3, h4⟩
theorem RecAt.keeps {b : Nat} {w w' : World} {ls : List Ln} {a : Option Addr} {c : Nat} (h : RecAt b w ls a c) (hk : Keeps b w w') : RecAt b w' ls a c := by
  obtain ⟨R, h1, h2, h3, h4⟩ := h
  exact ⟨R, h1, h2.keeps hk h3 (fun j hj => .inr (h4 j hj)), h3, h4⟩

theorem records_at (b : Nat) (T : List UInt8) (room sy : Int) (hT : T.length ≤ 8192) (ls : List Ln) (hB : Beg T ls) (w : World) (h : StAt w b T room sy) (hL : LD w) :
    Calls Tryd.prog 16 #[.pointer (some ⟨b, 0, none⟩)] w fun e w' => (∃ a c, RecAt b w' ls a c ∧ e = .returned (.slice a ls.length c)) ∧ Below w.heap.size w w' := by
  have hlt := h.lt
  refine (records_calls b T room sy hT w h hL).mono ?_
  rintro e w' ⟨⟨ls', a, c, R, hB', hE, hR, hF, he⟩, hw⟩
  have e1 := hB.unique hB'
  subst e1
  refine ⟨⟨a, c, ⟨R, hE, hR, fun g o hg => ?_, fun j hj g o hg => ?_⟩, he⟩, hw⟩
  · have := hF.1 g o hg; omega
  · have := hF.2 j hj g o hg; omega

theorem same_at (b m : Nat) (l1 l2 : List Ln) (T1 T2 : List UInt8) (hb1 : BegTo T1 l1) (hb2 : BegTo T2 l2) (hm1 : m ≤ l1.length) (hm2 : m ≤ l2.length) (ht : T1 <+: T2 ∨ T2 <+: T1) (a1 a2 : Option Addr) (c1 c2 : Nat) (w : World) (h1 : RecAt b w l1 a1 c1) (h2 : RecAt b w l2 a2 c2) :
    Calls Tryd.prog 15 #[.slice a1 m c1, .slice a2 m c2] w fun e w' => e = .returned (.bool true) ∧ Below w.heap.size w w' := by
  obtain ⟨R1, e1, r1, _, _⟩ := h1
  obtain ⟨R2, e2, r2, _, _⟩ := h2
  have hag : l1.take m = l2.take m := by
    rcases ht with h | h
    · exact (hb1.grow h).agree hb2 m hm1 hm2
    · exact hb1.agree (hb2.grow h) m hm1 hm2
  have hln := hb1.len
  have S := rsameRZ_calls a1 a2 m m c1 c2 R1 R2 (fun j => (lnAt l1 j).b) (fun j => (lnAt l2 j).b) w (r1.takeS hm1) (r2.takeS hm2) (by omega) (fun j hj => by
    have h1 := r1.nS (j := j) (by omega)
    have h2 := (hb1.ok j (by omega)).n
    omega)
  rw [recsZ_two (fun j hj => by rw [e1 j (by omega), e2 j (by omega)]; exact lnAt_agree hag hj)] at S
  exact S
theorem text00 : Ln.text ⟨0, 0, 0, 0, []⟩ = [48, 32, 48, 32, 48, 32, 48, 10] := by
  have d : ∀ n : Nat, n < 10 → Lib.decDigits n = [UInt8.ofNat (48 + n)] := fun n h => Lib.decDigits_one h
  simp [Ln.text, Ln.line, Ln.words, Ln.nums, dg, d, Lib.join, List.intercalate, List.intersperse]
theorem ok00 : Ln.ok ⟨0, 0, 0, 0, []⟩ := ⟨by decide, by decide, by decide, by decide, by decide, by decide⟩
theorem beg00 : BegTo (Ln.text ⟨0, 0, 0, 0, []⟩) [⟨0, 0, 0, 0, []⟩] := by
  have h : BegTo (Ln.text ⟨0, 0, 0, 0, []⟩) ([] ++ [⟨0, 0, 0, 0, []⟩]) := (BegTo.nil _).snoc ⟨ok00, by exact List.prefix_refl _⟩ rfl
  exact h
theorem begOne : Beg (Ln.text ⟨0, 0, 0, 0, []⟩) [⟨0, 0, 0, 0, []⟩] := by
  have h := Beg.flat beg00
  have e : flatL [⟨0, 0, 0, 0, []⟩] = Ln.text ⟨0, 0, 0, 0, []⟩ := by simp [flatL]
  rw [e] at h
  exact h
theorem crN_full (n : Nat) (keep : Int) : crN n n keep = n := by unfold crN; omega
end Go.Proofs.YtfcnnolpcnacoaaDoor.Fx
