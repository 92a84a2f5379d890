/- How a slice of examples that comes in as an argument is opened. -/
import Derived.Test.YtfcnnolpcnacoaaGreatDoorJ46
import Derived.Test.YtfcnnolpcnacoaaGreatDoorJ11
import Derived.Deep.Slices
import Derived.Test.YtfcnnolpcnacoaaGreatDoorJ26
import Derived.Test.YtfcnnolpcnacoaaGreatDoorJ44
namespace Go.Proofs.YtfcnnolpcnacoaaGreatDoor.Fx
open Go.ChangeShapes Go.WideShapes Go.ChangeAt Go.RowKit

set_option maxRecDepth 100000 in
theorem came_ex {H : Type} {enc : TypeId × Value → H} {W : World} {fuel : Nat} {cs : List Value} {x : DataW H × List MemPlace} (hf : DataW.trod enc Tryz.prog W 0 (fun _ => true) true fuel 46 cs = some x) :
    ∃ (e : Exm) (I O : List Int), cs = [.slice e.a e.n e.k, .slice e.b e.m e.t] ∧ InEx W e I O := by
  obtain ⟨y0, y1, n, _, hl, h0, h1⟩ := Go.ChangeShapes.trod_struct2 Tryz.underlying46 hf
  rw [cellsEx] at hl
  match cs, hl with
  | [c0, c1], _ =>
    simp [cellsInts] at h0 h1
    obtain ⟨a3, l3, k3, B1, e3, g3⟩ := came_trod h0
    obtain ⟨a4, l4, k4, B2, e4, g4⟩ := came_trod h1
    simp at e3 e4
    subst e3 e4
    exact ⟨⟨a3, l3, k3, a4, l4, k4⟩, B1, B2, rfl, g3.1, g4.1⟩

set_option maxRecDepth 100000 in
theorem openExs {H : Type} {enc : TypeId × Value → H} {W : World} {b0 : Nat} {v : Value} {d : DataW H} {p : List MemPlace} (hv : Value.okWide Tryz.prog W .any b0 25 v) (h : DataW.Trod enc Tryz.prog W 0 (fun _ => true) true 25 v d p) :
    ∃ a len cap X DI DO, v = .slice a len cap ∧ Exs W a len cap X DI DO := by
  obtain ⟨a, len, cap, rfl⟩ := okWide_slice Tryz.underlying25 hv
  obtain ⟨fuel, hf⟩ := h
  rcases Go.Deep.open_slice Tryz.underlying25 hf with ⟨hcs, _⟩ | ⟨a', len', cap', m, n, D, Pl, hcs, _, hl, _, hm, _, hel⟩
  · simp [Value.cells] at hcs
    obtain ⟨rfl, rfl, rfl⟩ := hcs
    exact ⟨_, _, _, fun _ => ⟨none, 0, 0, none, 0, 0⟩, fun _ => [], fun _ => [], rfl, Nat.le_refl _, .inl rfl⟩
  · simp [Value.cells] at hcs
    obtain ⟨rfl, rfl, rfl⟩ := hcs
    have hm' : m = cap := by simpa using hm
    subst hm'
    have each : ∀ i, i < m → ∃ (e : Exm) (I O : List Int), W.cell? (a'.add (i * 2)) = some (.slice e.a e.n e.k) ∧ W.cell? ((a'.add (i * 2)).add 1) = some (.slice e.b e.m e.t) ∧ InEx W e I O := by
      intro i hi
      obtain ⟨cs', h1, h2⟩ := hel i hi
      rw [cellsEx] at h1
      obtain ⟨e, I, O, rfl, hin⟩ := came_ex h2
      have hc := (World.cells?_some h1).2.2
      have c0 := hc 0 (by omega)
      have c1 := hc 1 (by omega)
      exact ⟨e, I, O, by simpa [Addr.add] using c0, by simpa using c1, hin⟩
    refine ⟨_, _, _, fun i => if hi : i < m then (each i hi).choose else ⟨none, 0, 0, none, 0, 0⟩, fun i => if hi : i < m then (each i hi).choose_spec.choose else [], fun i => if hi : i < m then (each i hi).choose_spec.choose_spec.choose else [], rfl, hl, ?_⟩
    by_cases h0 : len = 0
    · exact .inl h0
    · obtain ⟨b, off, spot⟩ := a'
      have hs := (each 0 (by omega)).choose_spec.choose_spec.choose_spec.1
      have hspot : spot = none := by simpa [Addr.add] using World.cell?_spot hs
      subst hspot
      refine .inr ⟨b, off, rfl, ?_, fun i hi => ?_⟩
      · have := cell_lt hs
        simpa [Addr.add] using this
      · have hs := (each i (by omega)).choose_spec.choose_spec.choose_spec
        have a1 : W.cell? ⟨b, off + i * 2, none⟩ = W.cell? ((⟨b, off, none⟩ : Addr).add (i * 2)) := by rw [add_plain]
        have a2 : W.cell? ⟨b, off + i * 2 + 1, none⟩ = W.cell? (((⟨b, off, none⟩ : Addr).add (i * 2)).add 1) := by rw [add_plain, add_plain]
        simp only [dif_pos (show i < m by omega)]
        exact ⟨a1.trans hs.1, a2.trans hs.2.1, hs.2.2⟩
end Go.Proofs.YtfcnnolpcnacoaaGreatDoor.Fx

/- Plain: the lines of a course's journal; what a store holds that is stopped and repaired. -/
namespace Go.Proofs.YtfcnnolpcnacoaaGreatDoor.Fx
open Go.RowKit

def lnsTo (LL : Nat → Ln) (j : Nat) : List Ln := (List.range j).map LL
def fT (LL : Nat → Ln) (j : Nat) : List UInt8 := flatLn (lnsTo LL j)
theorem lnsTo_len (LL : Nat → Ln) (j : Nat) : (lnsTo LL j).length = j := by unfold lnsTo; rw [List.length_map, List.length_range]
theorem lnsTo_at (LL : Nat → Ln) {j i : Nat} (h : i < j) : lnAt (lnsTo LL j) i = LL i := by
  unfold lnAt lnsTo
  rw [List.getElem?_map, List.getElem?_range h]
  rfl
theorem lnsTo_succ (LL : Nat → Ln) (j : Nat) : lnsTo LL (j + 1) = lnsTo LL j ++ [LL j] := by unfold lnsTo; rw [List.range_succ, List.map_append]; rfl
theorem lnsTo_take (LL : Nat → Ln) {i j : Nat} (h : i ≤ j) : (lnsTo LL j).take i = lnsTo LL i := by
  unfold lnsTo
  rw [← List.map_take, List.take_range, Nat.min_eq_left h]
theorem fT_zero (LL : Nat → Ln) : fT LL 0 = [] := rfl
theorem fT_succ (LL : Nat → Ln) (j : Nat) : fT LL (j + 1) = fT LL j ++ (LL j).text := by unfold fT; rw [lnsTo_succ, flatL_snoc]
theorem fT_le (LL : Nat → Ln) (i : Nat) : ∀ j, i ≤ j → fT LL i <+: fT LL j
  | 0, h => by obtain rfl : i = 0 := by omega
               exact List.prefix_refl _
  | j + 1, h => by
    by_cases e : i = j + 1
    · rw [e]
      exact List.prefix_refl _
    · exact (fT_le LL i j (by omega)).trans (by rw [fT_succ]; exact List.prefix_append _ _)
/-- The lines are a journal's. -/
def GoodL (LL : Nat → Ln) (N : Nat) : Prop := ∀ j, j < N → (LL j).ok ∧ (LL j).s = (j : Int)
theorem fT_len {LL : Nat → Ln} {N : Nat} (h : GoodL LL N) : ∀ j, j ≤ N → (fT LL j).length ≤ 78 * j
  | 0, _ => by rw [fT_zero]; exact Nat.zero_le _
  | j + 1, hj => by
    have h1 := fT_len h j (by omega)
    have h2 := (h j (by omega)).1.short
    rw [fT_succ, List.length_append]
    omega
theorem fT_to {LL : Nat → Ln} {N : Nat} (h : GoodL LL N) {j : Nat} (hj : j ≤ N) : BegTo (fT LL j) (lnsTo LL j) :=
  ⟨fun i hi => by rw [lnsTo_len] at hi; rw [lnsTo_at LL hi]; exact (h i (by omega)).1, fun i hi => by rw [lnsTo_len] at hi; rw [lnsTo_at LL hi]; exact (h i (by omega)).2, List.prefix_refl _⟩
theorem fT_beg {LL : Nat → Ln} {N : Nat} (h : GoodL LL N) {j : Nat} (hj : j ≤ N) : Beg (fT LL j) (lnsTo LL j) := Beg.flat (fT_to h hj)
/-- What is left of a beginning, repaired, is a beginning of the journal. -/
theorem fT_back {LL : Nat → Ln} {N : Nat} (h : GoodL LL N) {j : Nat} (hj : j ≤ N) {T : List UInt8} (hT : T <+: fT LL j) {ls : List Ln} (hB : Beg T ls) : ls.length ≤ j ∧ ls = lnsTo LL ls.length := by
  have h1 := hB.toBegTo.grow hT
  have h2 := (fT_beg h hj).ge h1
  rw [lnsTo_len] at h2
  refine ⟨h2, ?_⟩
  have h3 := h1.agree (fT_to h hj) ls.length (Nat.le_refl _) (by rw [lnsTo_len]; exact h2)
  rw [List.take_length, lnsTo_take LL h2] at h3
  exact h3
theorem fT_kept {LL : Nat → Ln} {N : Nat} (h : GoodL LL N) {j s : Nat} (hj : j ≤ N) (hs : s ≤ j) {T : List UInt8} (hT : T <+: fT LL j) (hl : (fT LL s).length ≤ T.length) {ls : List Ln} (hB : Beg T ls) : s ≤ ls.length := by
  have h1 := List.prefix_of_prefix_length_le (fT_le LL s j hs) hT hl
  have h2 := hB.ge ((fT_to h (show s ≤ N by omega)).grow h1)
  rwa [lnsTo_len] at h2

/-- A record of a course as a line. -/
def jrL (c : Cfg) (n : Nat) (DI DO : Nat → List Int) (k : Nat) : Ln := ⟨(k : Int), mkRV c k, mkRO c n DI DO k, mkCH c n DI DO (k + 1), jrBatch c n k⟩
theorem jrL_good {c : Cfg} {n : Nat} {X : Nat → Exm} {DI DO : Nat → List Int} (hF : courseI c n X DI DO = 0) (h40 : c.steps ≤ 40) (h8 : c.batch.toNat ≤ 8) {N : Nat} (hN : (N : Int) ≤ c.steps) : GoodL (jrL c n DI DO) N := fun j hj => by
  obtain ⟨hc, hn1, hn16, _⟩ := course_is hF
  have hr := rateV_in hc (j : Int) (by omega) (by omega)
  unfold inB at hr
  rw [Bool.and_eq_true, decide_eq_true_eq, decide_eq_true_eq] at hr
  have hlen : (jrBatch c n j).length = c.batch.toNat := by unfold jrBatch batchP; rw [List.length_map, List.length_range]
  refine ⟨⟨⟨by show (0 : Int) ≤ (j : Int); omega, by show (j : Int) ≤ 99; omega⟩, hr, ofP_ok _ _, ofP_ok _ _, by show (jrBatch c n j).length ≤ 8; omega, fun z hz => ?_⟩, rfl⟩
  obtain ⟨i, hi, rfl⟩ := mem_getD (D := jrBatch c n j) hz
  obtain ⟨m, hm, e⟩ := batch_in c.seed c.batch.toNat n (j * c.batch.toNat) hn1 (k := i) (by omega)
  have e2 : (jrBatch c n j).getD i 0 = (m : Int) := e
  rw [e2]
  omega
theorem jrL_is {c : Cfg} {n k : Nat} {DI DO : Nat → List Int} {R : Nat → Rcm} (h : JrN k R (mkRV c) (mkRO c n DI DO) (mkCH c n DI DO)) {j : Nat} (hj : j < k) : (R j).ln (jrBatch c n j) = jrL c n DI DO j := by
  obtain ⟨h1, h2, h3, h4⟩ := h j hj
  unfold Rcm.ln jrL
  rw [h1, h2, h3, h4]
end Go.Proofs.YtfcnnolpcnacoaaGreatDoor.Fx
