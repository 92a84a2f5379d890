/- What pupil.Grad returns. -/
import Derived.Test.YthmiojmlaclgaaaGreatDoorJ04
import Derived.Test.YthmiojmlaclgaaaGreatDoorJ05
import Derived.Test.YthmiojmlaclgaaaGreatDoorJ00
import Derived.Test.YthmiojmlaclgaaaGreatDoorJ02
import Derived.Test.YthmiojmlaclgaaaGreatDoorJ01
import Derived.Deep.AppendLies
namespace Go.Proofs.YthmiojmlaclgaaaGreatDoor.Fx
open Go.RowKit

/-- What is to be learnt: of the hidden ones; and all of it. -/
def graG (d : PD) (xs ys : List Int) (I H O k : Nat) : Int := if (hidL d xs I H).getD k 0 = 0 then 0 else backG d.X2 (difL d xs ys I H O) O H k
def graL (d : PD) (xs ys : List Int) (I H O : Nat) : List Int := (List.range H).map (graG d xs ys I H O)
def graD (d : PD) (xs ys : List Int) (I H O : Nat) : PD :=
  ⟨(List.range (H * I)).map (outerG (graL d xs ys I H O) xs I), (List.range (O * H)).map (outerG (difL d xs ys I H O) (hidL d xs I H) H), graL d xs ys I H O, difL d xs ys I H O⟩

theorem grown8 (w : World) (b : Nat) (v0 v1 v2 v3 v4 v5 v6 v7 : Value) :
    w.grownBy ((((((((w.setCell ⟨b, 0, none⟩ v0).setCell ⟨b, 1, none⟩ v1).setCell ⟨b, 2, none⟩ v2).setCell ⟨b, 3, none⟩ v3).setCell ⟨b, 4, none⟩ v4).setCell ⟨b, 5, none⟩ v5).setCell ⟨b, 6, none⟩ v6).setCell ⟨b, 7, none⟩ v7) (some b) :=
  grown1 (grown1 (grown1 (grown1 (grown1 (grown1 (grown1 (grown1 (World.grownBy.refl w _) 0 v0) 1 v1) 2 v2) 3 v3) 4 v4) 5 v5) 6 v6) 7 v7


end Go.Proofs.YthmiojmlaclgaaaGreatDoor.Fx

/- A course in plain numbers: what Check, Start, Next and Run tell of right things; and how examples and states lie in memory; no function of the program is spoken of. -/
namespace Go.Proofs.YthmiojmlaclgaaaGreatDoor.Fx
open Go.RowKit

/-- A slice of examples: where each one's lists lie, and their numbers. -/
def Exs (w : World) (a : Option Addr) (n cap : Nat) (X : Nat → Exm) (DI DO : Nat → List Int) : Prop :=
  n ≤ cap ∧ (n = 0 ∨ ∃ b off, a = some ⟨b, off, none⟩ ∧ b < w.heap.size ∧ ∀ i, i < n → w.cell? ⟨b, off + i * 2, none⟩ = some (.slice (X i).a (X i).n (X i).k) ∧ w.cell? ⟨b, off + i * 2 + 1, none⟩ = some (.slice (X i).b (X i).m (X i).t) ∧ InEx w (X i) (DI i) (DO i))
theorem Exs.below {w w' : World} {a : Option Addr} {n c : Nat} {X : Nat → Exm} {DI DO : Nat → List Int} {B : Nat} (h : Exs w a n c X DI DO) (hb : Below B w w') (hB : w.heap.size ≤ B) : Exs w' a n c X DI DO := by
  refine ⟨h.1, ?_⟩
  rcases h.2 with h0 | ⟨b, off, e, hs, hc⟩
  · exact .inl h0
  · exact .inr ⟨b, off, e, Nat.lt_of_lt_of_le hs hb.size, fun i hi =>
      ⟨(hb.cell (p := ⟨b, off + i * 2, none⟩) (Nat.lt_of_lt_of_le hs hB)).trans (hc i hi).1, (hb.cell (p := ⟨b, off + i * 2 + 1, none⟩) (Nat.lt_of_lt_of_le hs hB)).trans (hc i hi).2.1, (hc i hi).2.2.below hb hB⟩⟩
theorem Exs.drewN {w : World} {a : Option Addr} {n c : Nat} {X : Nat → Exm} {DI DO : Nat → List Int} (h : Exs w a n c X DI DO) (k : Nat) : Exs (w.drewN k) a n c X DI DO := h.below (below_drewN (Below.refl w.heap.size w) k) (Nat.le_refl _)
theorem Exs.at {w : World} {a : Option Addr} {n c : Nat} {X : Nat → Exm} {DI DO : Nat → List Int} (h : Exs w a n c X DI DO) {i : Nat} (hi : i < n) :
    ∃ b off, a = some ⟨b, off, none⟩ ∧ w.cell? ⟨b, off + i * 2, none⟩ = some (.slice (X i).a (X i).n (X i).k) ∧ w.cell? ⟨b, off + i * 2 + 1, none⟩ = some (.slice (X i).b (X i).m (X i).t) ∧ InEx w (X i) (DI i) (DO i) := by
  rcases h.2 with h0 | ⟨b, off, e, _, hc⟩
  · omega
  · exact ⟨b, off, e, hc i hi⟩

/-- Whether an example is one of the config. -/
def exB (c : Cfg) (x : Exm) (I O : List Int) : Bool := decide ((x.n : Int) = c.i) && decide ((x.m : Int) = c.o) && rightB I && rightB O
def allEx (c : Cfg) (n : Nat) (X : Nat → Exm) (DI DO : Nat → List Int) : Bool := (List.range n).all fun i => exB c (X i) (DI i) (DO i)
theorem allEx_yes {c : Cfg} {n : Nat} {X : Nat → Exm} {DI DO : Nat → List Int} (h : ∀ i, i < n → exB c (X i) (DI i) (DO i) = true) : allEx c n X DI DO = true := by
  unfold allEx; rw [List.all_eq_true]; exact fun i hi => h i (List.mem_range.1 hi)
theorem allEx_no {c : Cfg} {n i : Nat} {X : Nat → Exm} {DI DO : Nat → List Int} (hi : i < n) (h : exB c (X i) (DI i) (DO i) = false) : allEx c n X DI DO = false := by
  unfold allEx; rw [List.all_eq_false]; exact ⟨i, List.mem_range.2 hi, by rw [h]; decide⟩
theorem allEx_is {c : Cfg} {n : Nat} {X : Nat → Exm} {DI DO : Nat → List Int} (h : allEx c n X DI DO = true) {i : Nat} (hi : i < n) : exB c (X i) (DI i) (DO i) = true := by
  unfold allEx at h; rw [List.all_eq_true] at h; exact h i (List.mem_range.2 hi)
theorem exB_is {c : Cfg} {x : Exm} {I O : List Int} (h : exB c x I O = true) : (x.n : Int) = c.i ∧ (x.m : Int) = c.o ∧ rightB I = true ∧ rightB O = true := by
  simp only [exB, Bool.and_eq_true, decide_eq_true_eq] at h
  exact ⟨h.1.1.1, h.1.1.2, h.1.2, h.2⟩
def courseI (c : Cfg) (n : Nat) (X : Nat → Exm) (DI DO : Nat → List Int) : Int :=
  if cfgB c = true then (if n = 0 then 1 else if 16 < n then 2 else if allEx c n X DI DO = true then 0 else 5) else 1

/-- Start: the first weights. -/
def startG (seed : Int) (i : Nat) : Int := ofP 2 [seed, 1000 + (i : Int)] % 131073 - 65536
def zeroG (_ : Nat) : Int := 0
theorem startG_bd (seed : Int) (i : Nat) : -65536 ≤ startG seed i ∧ startG seed i ≤ 65536 := by
  unfold startG
  have := Int.emod_nonneg (ofP 2 [seed, 1000 + (i : Int)]) (b := 131073) (by omega)
  have := Int.emod_lt_of_pos (ofP 2 [seed, 1000 + (i : Int)]) (b := 131073) (by omega)
  omega

/-- The gradients of a batch, added one by one; their mean. -/
def accTo (f : Nat → Nat → Int) : Nat → Nat → Int
  | 0, _ => 0
  | k + 1, i => addI (accTo f k i) (f k i)
def gradOf (I H O : Nat) (ws : List Int) (DI DO : Nat → List Int) (j : Nat) : List Int := flatD (graD (cutD I H O ws) (DI j) (DO j) I H O)
def meanG (f : Nat → Nat → Int) (b : Int) (i : Nat) : Int := divI (accTo f b.toNat i) (b * 65536)
def gradG (c : Cfg) (n : Nat) (ws : List Int) (DI DO : Nat → List Int) (step : Int) (k i : Nat) : Int :=
  (gradOf c.i.toNat c.h.toNat c.o.toNat ws DI DO ((batchL c.seed c.batch n step).getD k 0).toNat).getD i 0
def pushL (c : Cfg) (n : Nat) (ws : List Int) (DI DO : Nat → List Int) (step : Int) (nw : Nat) : List Int :=
  clipL ((List.range nw).map (meanG (gradG c n ws DI DO step) c.batch)) c.clip nw
end Go.Proofs.YthmiojmlaclgaaaGreatDoor.Fx

/- Five cells in one block of memory: how they are laid, read and written; no program is spoken of. -/
namespace Go.Proofs.YthmiojmlaclgaaaGreatDoor.Fx
open Go.RowKit

def fn5 (v0 v1 v2 v3 v4 : Value) (i : Nat) : Value := if i = 0 then v0 else if i = 1 then v1 else if i = 2 then v2 else if i = 3 then v3 else v4
theorem lt5 {i : Nat} (h : i < 5) : i = 0 ∨ i = 1 ∨ i = 2 ∨ i = 3 ∨ i = 4 := by omega
theorem fn5_alloc (w : World) (v0 v1 v2 v3 v4 : Value) (t : TypeId) : (w.alloc (.cells #[v0, v1, v2, v3, v4] t)).rowIs w.heap.size t 5 (fn5 v0 v1 v2 v3 v4) :=
  World.rowIs_alloc w #[v0, v1, v2, v3, v4] t (fn5 v0 v1 v2 v3 v4) (by
    intro i hi
    rcases lt5 hi with rfl | rfl | rfl | rfl | rfl <;> rfl)
structure Box5 (w : World) (b : Nat) (v0 v1 v2 v3 v4 : Value) : Prop where
  c0 : w.cell? ⟨b, 0, none⟩ = some v0
  c1 : w.cell? ⟨b, 1, none⟩ = some v1
  c2 : w.cell? ⟨b, 2, none⟩ = some v2
  c3 : w.cell? ⟨b, 3, none⟩ = some v3
  c4 : w.cell? ⟨b, 4, none⟩ = some v4
theorem fn5_box {w : World} {b t : Nat} {v0 v1 v2 v3 v4 : Value} (h : w.rowIs b t 5 (fn5 v0 v1 v2 v3 v4)) : Box5 w b v0 v1 v2 v3 v4 :=
  ⟨h.cell (i := 0) (by omega), h.cell (i := 1) (by omega), h.cell (i := 2) (by omega), h.cell (i := 3) (by omega), h.cell (i := 4) (by omega)⟩
theorem fn5_set {w : World} {b t : Nat} {f : Nat → Value} (h : w.rowIs b t 5 f) (v0 v1 v2 v3 v4 : Value) :
    (((((w.setCell ⟨b, 0, none⟩ v0).setCell ⟨b, 1, none⟩ v1).setCell ⟨b, 2, none⟩ v2).setCell ⟨b, 3, none⟩ v3).setCell ⟨b, 4, none⟩ v4).rowIs b t 5 (fn5 v0 v1 v2 v3 v4) := by
  refine (((((h.set 0 v0).set 1 v1).set 2 v2).set 3 v3).set 4 v4).congr (fun i hi => ?_)
  rcases lt5 hi with rfl | rfl | rfl | rfl | rfl <;> rfl

theorem below_set5 {Bd : Nat} {W q : World} {b : Nat} (h : Below Bd W q) (hb : Bd ≤ b) (v0 v1 v2 v3 v4 : Value) :
    Below Bd W (((((q.setCell ⟨b, 0, none⟩ v0).setCell ⟨b, 1, none⟩ v1).setCell ⟨b, 2, none⟩ v2).setCell ⟨b, 3, none⟩ v3).setCell ⟨b, 4, none⟩ v4) :=
  ((((h.setCell hb v0).setCell hb v1).setCell hb v2).setCell hb v3).setCell hb v4
theorem below_set2 {Bd : Nat} {W q : World} {b : Nat} (h : Below Bd W q) (hb : Bd ≤ b) (v0 v1 : Value) : Below Bd W ((q.setCell ⟨b, 0, none⟩ v0).setCell ⟨b, 1, none⟩ v1) := (h.setCell hb v0).setCell hb v1
end Go.Proofs.YthmiojmlaclgaaaGreatDoor.Fx

/- Durstenfeld's law in plain numbers: an order has each number once; sorted, it is the numbers from 0 on. -/
namespace Go.Proofs.YthmiojmlaclgaaaGreatDoor.Fx

def idN (x : Nat) : Int := (x : Int)

theorem swap_perm (f : Nat → Int) {n i j : Nat} (hi : i < n) (hj : j < n) : ((List.range n).map (swapF f i j)).Perm ((List.range n).map f) := by
  have h := Array.swap_perm (xs := ((List.range n).map f).toArray) (i := i) (j := j) (by simpa using hi) (by simpa using hj)
  rw [Array.perm_iff_toList_perm] at h
  refine List.Perm.trans ?_ h
  rw [show (List.range n).map (swapF f i j) = (((List.range n).map f).toArray.swap i j (by simpa using hi) (by simpa using hj)).toList from ?_]
  refine List.ext_getElem (by simp) (fun k h1 h2 => ?_)
  simp only [List.length_map, List.length_range] at h1
  simp only [List.getElem_map, List.getElem_range, Array.getElem_toList, Array.getElem_swap, List.getElem_toArray]
  unfold swapF
  by_cases e1 : k = i
  · subst e1
    by_cases e2 : k = j
    · subst e2; simp
    · simp [e2]
  · by_cases e2 : k = j
    · subst e2; simp [e1]
    · simp [e1, e2]

theorem shufTo_perm (seed : Int) (epoch n : Nat) : ∀ k, k + 1 ≤ n → ((List.range n).map (shufTo seed epoch n k)).Perm ((List.range n).map idN)
  | 0, _ => List.Perm.refl _
  | k + 1, h => (swap_perm (shufTo seed epoch n k) (i := n - 1 - k) (j := placeP seed epoch (n - 1 - k)) (by omega) (by have := placeP_le seed epoch (n - 1 - k); omega)).trans (shufTo_perm seed epoch n k (by omega))

theorem shufP_perm (seed : Int) (epoch n : Nat) (h : 1 ≤ n) : ((List.range n).map (shufF seed epoch n)).Perm ((List.range n).map idN) := shufTo_perm seed epoch n (n - 1) (by omega)

end Go.Proofs.YthmiojmlaclgaaaGreatDoor.Fx

/- What OptimKeeps asks, in plain numbers: rates are not above the config's, what is clipped keeps signs and order and turns with signs, a step with rate 0 leaves weights. -/
namespace Go.Proofs.YthmiojmlaclgaaaGreatDoor.Fx
open Go.RowKit

theorem mulI_zero (b : Int) : mulI 0 b = 0 := by
  unfold mulI
  rw [show clampI 0 = 0 from by decide, Int.zero_mul]
  decide
theorem mulI_nonneg {a b : Int} (ha : 0 ≤ a) (hb : 0 ≤ b) : 0 ≤ mulI a b := by
  have := mulI_mono hb ha
  rw [mulI_zero] at this
  exact this
theorem divI_part {a b : Int} (ha : 0 ≤ a) (hb : 0 < b) (hm : b ≤ 2147483647) (hab : a ≤ b) : 0 ≤ divI a b ∧ divI a b ≤ 65536 := by
  unfold divI quoI
  rw [clampI_in (n := a) (by omega) (by omega), clampI_in (n := b) (by omega) (by omega), if_neg (by omega)]
  have h0 := rnd_mono (a := 0 * b) (b := a * 65536) hb (by omega)
  have h1 := rnd_mono (a := a * 65536) (b := 65536 * b) hb (by omega)
  rw [rnd_whole _ _ hb] at h0 h1
  have c0 := clampI_mono h0
  have c1 := clampI_mono h1
  rw [show clampI 0 = 0 from by decide] at c0
  rw [show clampI 65536 = 65536 from by decide] at c1
  exact ⟨c0, c1⟩
theorem rateV_bd {c : Cfg} {step : Int} (h : cfgB c = true) (hs : inB step 0 (c.steps - 1) = true) : 0 ≤ rateV c step ∧ rateV c step ≤ c.rate := by
  obtain ⟨_, _, _, _, ⟨s1, s2⟩, ⟨r1, r2⟩, _⟩ := cfgB_is h
  have s := in_is hs
  unfold rateV
  split
  · have d := divI_part (a := c.steps - step) (b := c.steps) (by omega) (by omega) (by omega) (by omega)
    refine ⟨mulI_nonneg r1 d.1, ?_⟩
    have m := mulI_mono (c := c.rate) r1 d.2
    rw [mulI_comm 65536, mulI_one _ (by omega) r2, mulI_comm] at m
    exact m
  · omega

end Go.Proofs.YthmiojmlaclgaaaGreatDoor.Fx

/- A course's states in plain numbers, one after another, and that their numbers are such as may be; no function of the program is spoken of. -/
namespace Go.Proofs.YthmiojmlaclgaaaGreatDoor.Fx
open Go.RowKit

theorem right_map {g : Nat → Int} {n : Nat} (h : ∀ i, i < n → clampI (g i) = g i) : rightB ((List.range n).map g) = true := by
  refine rightB_true (fun j hj => ?_)
  have hj' : j < n := by simpa using hj
  rw [getD_range g hj', h j hj']
theorem dotTo_in (xs ys : List Int) (n : Nat) : clampI (dotTo xs ys n) = dotTo xs ys n := by
  cases n with
  | zero => rfl
  | succ k => exact clampI_idem _
theorem difL_right (d : PD) (xs ys : List Int) (I H O : Nat) : rightB (difL d xs ys I H O) = true := right_map fun _ _ => clampI_idem _
theorem graL_right (d : PD) (xs ys : List Int) (I H O : Nat) : rightB (graL d xs ys I H O) = true := by
  refine right_map fun i _ => ?_
  unfold graG
  by_cases h : (hidL d xs I H).getD i 0 = 0
  · rw [if_pos h]; rfl
  · rw [if_neg h]; exact dotTo_in _ _ _
theorem graD_right (d : PD) (xs ys : List Int) (I H O : Nat) : RightD (graD d xs ys I H O) :=
  ⟨right_map fun _ _ => clampI_idem _, right_map fun _ _ => clampI_idem _, graL_right d xs ys I H O, difL_right d xs ys I H O⟩
theorem rightB_app {xs ys : List Int} (h : rightB (xs ++ ys) = true) : rightB xs = true ∧ rightB ys = true := by
  unfold rightB at h ⊢
  rw [List.all_append, Bool.and_eq_true] at h
  exact h
theorem cutD_right {I H O : Nat} {xs : List Int} (hl : xs.length = H * I + H + O * H + O) (h : rightB xs = true) : RightD (cutD I H O xs) := by
  rw [← cutD_flat hl] at h
  unfold flatD at h
  have h1 := rightB_app h
  have h2 := rightB_app h1.2
  have h3 := rightB_app h2.2
  exact ⟨h1.1, h3.1, h2.1, h3.2⟩
theorem graD_len (d : PD) (xs ys : List Int) (I H O : Nat) : (flatD (graD d xs ys I H O)).length = H * I + H + O * H + O := by
  unfold flatD graD graL difL
  simp
  omega

/-- What Next makes of a state. -/
def nextW (c : Cfg) (n : Nat) (ws ms : List Int) (DI DO : Nat → List Int) (step : Int) (N : Nat) : List Int := (List.range N).map (goneG c ws ms (pushL c n ws DI DO step N) (rateV c step))
def nextM (c : Cfg) (n : Nat) (ws ms : List Int) (DI DO : Nat → List Int) (step : Int) (N : Nat) : List Int := (List.range N).map (keptG c ms (pushL c n ws DI DO step N))
/-- The states of a course: weights and moves. -/
def stateP (c : Cfg) (n : Nat) (DI DO : Nat → List Int) (N : Nat) : Nat → List Int × List Int
  | 0 => ((List.range N).map (startG c.seed), (List.range N).map zeroG)
  | k + 1 => (nextW c n (stateP c n DI DO N k).1 (stateP c n DI DO N k).2 DI DO (k : Int) N, nextM c n (stateP c n DI DO N k).1 (stateP c n DI DO N k).2 DI DO (k : Int) N)
theorem nextW_right (c : Cfg) (n : Nat) (ws ms : List Int) (DI DO : Nat → List Int) (step : Int) (N : Nat) : rightB (nextW c n ws ms DI DO step N) = true := right_map fun _ _ => clampI_idem _
theorem nextM_right {c : Cfg} {n : Nat} {ws ms : List Int} {DI DO : Nat → List Int} {step : Int} {N : Nat} (h : rightB ms = true) : rightB (nextM c n ws ms DI DO step N) = true := by
  refine right_map fun i _ => ?_
  unfold keptG
  by_cases e : c.how = 1
  · rw [if_pos e]; unfold moveG; rw [if_pos e]; exact clampI_idem _
  · rw [if_neg e]; exact (rightB_get h i).symm
theorem start_right (seed : Int) (N : Nat) : rightB ((List.range N).map (startG seed)) = true := by
  refine right_map fun i _ => ?_
  have := startG_bd seed i
  exact clampI_in (by omega) (by omega)
theorem zero_right (N : Nat) : rightB ((List.range N).map zeroG) = true := right_map fun _ _ => rfl
theorem stateP_right (c : Cfg) (n : Nat) (DI DO : Nat → List Int) (N k : Nat) : rightB (stateP c n DI DO N k).1 = true ∧ rightB (stateP c n DI DO N k).2 = true := by
  induction k with
  | zero => exact ⟨start_right _ _, zero_right _⟩
  | succ k ih => exact ⟨nextW_right _ _ _ _ _ _ _ _, nextM_right ih.2⟩
theorem stateP_len (c : Cfg) (n : Nat) (DI DO : Nat → List Int) (N k : Nat) : (stateP c n DI DO N k).1.length = N ∧ (stateP c n DI DO N k).2.length = N := by
  cases k with
  | zero => exact ⟨by simp [stateP], by simp [stateP]⟩
  | succ k => exact ⟨by simp [stateP, nextW], by simp [stateP, nextM]⟩
theorem rateV_in {c : Cfg} (h : cfgB c = true) (step : Int) (h0 : 0 ≤ step) (h1 : step ≤ c.steps - 1) : inB (rateV c step) 0 2147483647 = true := by
  have b := rateV_bd h (in_yes ⟨h0, h1⟩)
  obtain ⟨_, _, _, _, _, ⟨r1, r2⟩, _⟩ := cfgB_is h
  exact in_yes ⟨b.1, by omega⟩
theorem push_len (c : Cfg) (hc : cfgB c = true) (n : Nat) (ws : List Int) (DI DO : Nat → List Int) (step : Int) (N : Nat) (hN : N ≤ 200) : pushL c n ws DI DO step N = (List.range N).map (clipG ((List.range N).map (meanG (gradG c n ws DI DO step) c.batch)) c.clip N) ∧ (pushL c n ws DI DO step N).length = N := by
  obtain ⟨_, _, _, _, _, _, _, _, _, q1, q2⟩ := cfgB_is hc
  have hE : clipE N c.clip = 0 := by
    unfold clipE
    rw [if_neg (by omega), if_pos (by unfold inB; simp [q1, q2])]
  unfold pushL clipL
  rw [if_pos hE]
  exact ⟨rfl, by simp⟩

theorem batch_in (seed : Int) (B n s : Nat) (h1 : 1 ≤ n) {k : Nat} (hk : k < B) : ∃ j : Nat, j < n ∧ (batchP seed B n s).getD k 0 = (j : Int) := by
  have e : (batchP seed B n s).getD k 0 = shufF seed ((s + k) / n) n ((s + k) % n) := by
    unfold batchP
    rw [getD_range _ hk]
    rfl
  have hm : shufF seed ((s + k) / n) n ((s + k) % n) ∈ (List.range n).map (shufF seed ((s + k) / n) n) := List.mem_map.2 ⟨_, List.mem_range.2 (Nat.mod_lt _ (by omega)), rfl⟩
  have hp := (shufP_perm seed ((s + k) / n) n h1).mem_iff.1 hm
  obtain ⟨j, hj, hj2⟩ := List.mem_map.1 hp
  exact ⟨j, List.mem_range.1 hj, by rw [e, ← hj2]; rfl⟩

end Go.Proofs.YthmiojmlaclgaaaGreatDoor.Fx

/- The plain trees of package tree: where leaves are cut, the tree of a list, the way of one leaf, how deep it lies, and the way up; from each leaf by its way one comes to the tree. Nothing here speaks of the program. -/
namespace Go.Proofs.YthmiojmlaclgaaaGreatDoor.Fx

theorem okL_take {xs : List Int} (h : okL xs) (k : Nat) : okL (xs.take k) := by
  intro i hi
  rw [List.length_take] at hi
  have e : (xs.take k).getD i 0 = xs.getD i 0 := by
    rw [List.getD_eq_getElem?_getD, List.getElem?_take_of_lt (by omega), ← List.getD_eq_getElem?_getD]
  rw [e]; exact h i (by omega)
theorem okL_drop {xs : List Int} (h : okL xs) (k : Nat) : okL (xs.drop k) := by
  intro i hi
  rw [List.length_drop] at hi
  have e : (xs.drop k).getD i 0 = xs.getD (k + i) 0 := by
    rw [List.getD_eq_getElem?_getD, List.getElem?_drop, ← List.getD_eq_getElem?_getD]
  rw [e]; exact h _ (by omega)
theorem okW_of_P {n : Int} (h : okP n) : okW n := ⟨h.1, by have := h.2; omega⟩

def cutN (n : Nat) : Nat := 2 ^ Nat.log2 (n - 1)
theorem cutN_lt {n : Nat} (h : 2 ≤ n) : 1 ≤ cutN n ∧ cutN n < n ∧ n ≤ cutN n + cutN n := by
  have h1 : 2 ^ Nat.log2 (n - 1) ≤ n - 1 := Nat.log2_self_le (by omega)
  have h2 : n - 1 < 2 ^ (Nat.log2 (n - 1) + 1) := Nat.lt_log2_self
  have h3 : 0 < 2 ^ Nat.log2 (n - 1) := Nat.pow_pos (by omega)
  rw [Nat.pow_succ] at h2
  unfold cutN
  omega
def treeF : Nat → List Int → Int
  | 0, l => l.getD 0 0
  | f + 1, l => if l.length ≤ 1 then l.getD 0 0 else ofP 3 [treeF f (l.take (cutN l.length)), treeF f (l.drop (cutN l.length))]
theorem treeF_same : ∀ (f g : Nat) (l : List Int), l.length ≤ f → l.length ≤ g → treeF f l = treeF g l
  | 0, 0, _, _, _ => rfl
  | 0, g + 1, l, h, _ => by unfold treeF; rw [if_pos (by omega)]
  | f + 1, 0, l, _, h => by unfold treeF; rw [if_pos (by omega)]
  | f + 1, g + 1, l, h1, h2 => by
    unfold treeF
    by_cases c : l.length ≤ 1
    · rw [if_pos c, if_pos c]
    · rw [if_neg c, if_neg c]
      have := cutN_lt (n := l.length) (by omega)
      rw [treeF_same f g (l.take _) (by rw [List.length_take]; omega) (by rw [List.length_take]; omega), treeF_same f g (l.drop _) (by rw [List.length_drop]; omega) (by rw [List.length_drop]; omega)]
/-- The tree of a list of leaves. -/
def treeP (l : List Int) : Int := treeF l.length l
theorem treeP_one {l : List Int} (h : l.length ≤ 1) : treeP l = l.getD 0 0 := by
  unfold treeP
  rw [treeF_same l.length (l.length + 1) l (Nat.le_refl _) (by omega)]
  unfold treeF
  rw [if_pos h]
theorem treeP_two {l : List Int} (h : 2 ≤ l.length) : treeP l = ofP 3 [treeP (l.take (cutN l.length)), treeP (l.drop (cutN l.length))] := by
  have := cutN_lt h
  have e : treeP l = treeF (l.length + 1) l := treeF_same _ _ l (Nat.le_refl _) (by omega)
  rw [e]
  rw [treeF, if_neg (by omega)]
  unfold treeP
  rw [treeF_same l.length (l.take _).length (l.take _) (by rw [List.length_take]; omega) (Nat.le_refl _), treeF_same l.length (l.drop _).length (l.drop _) (by rw [List.length_drop]; omega) (Nat.le_refl _)]
theorem treeP_ok {l : List Int} (h : okL l) (h1 : 1 ≤ l.length) : okW (treeP l) := by
  by_cases c : l.length ≤ 1
  · rw [treeP_one c]; exact h 0 (by omega)
  · rw [treeP_two (by omega)]; exact okW_of_P (ofP_ok _ _)

end Go.Proofs.YthmiojmlaclgaaaGreatDoor.Fx

/- What tree.chunks, tree.leaf and tree.Leaves return: the leaves of a list of integers. -/
namespace Go.Proofs.YthmiojmlaclgaaaGreatDoor.Fx
open Go.RowKit

theorem chunks_calls (n : Nat) (h : n ≤ 200) (w : World) : Calls Tryz.prog 240 #[.int .i64 n] w fun e w' => e = .returned (.int .i64 ((n + 3) / 4 : Nat)) ∧ w' = w := by
  have e1 : ((n : Int) + 4 - 1).tdiv 4 = (((n + 3) / 4 : Nat) : Int) := by
    rw [Int.tdiv_eq_ediv_of_nonneg (by omega)]; omega
  go_enter Tryz.func240, Tryz.ntmps240
  go_wp2
  go_ret
  exact ⟨ret_word (by omega), rfl⟩

theorem numL_ok (xs : List Int) (n : Nat) : okL (numL xs n) := by
  unfold numL
  intro i hi
  by_cases h : 200 < n
  · rw [if_pos h] at hi; simp at hi
  · rw [if_neg h] at hi ⊢
    simp at hi
    have := boundP_ok (xs.getD i 0)
    simp only [List.getD_eq_getElem?_getD, List.getElem?_map, List.getElem?_range hi, Option.map_some, Option.getD_some, numG] at this ⊢
    exact ⟨this.1, by omega⟩
theorem leaf_calls (a : Option Addr) (la ca : Nat) (xs : List Int) (w : World) (ha : Lst w a la ca xs) (_hl : la ≤ 4) :
    Calls Tryz.prog 241 #[.slice a la ca] w fun e w' => e = .returned (.int .u64 (ofP 4 (numL xs la))) ∧ Below w.heap.size w w' := by
  go_enter Tryz.func241, Tryz.ntmps241
  go_wp2_with (first | (go_at_call 244; refine (dNumbers_calls _ _ _ xs _ ha).mono ?_; rintro e w1 ⟨a1, n1, rfl, hn1, h1, hw1⟩) | (go_at_call 210; refine (dOf_calls 4 ⟨by omega, by omega⟩ _ _ _ (numL xs la) _ h1 (numL_ok _ _)).mono ?_; rintro e w2 ⟨rfl, hw2⟩))
  go_ret
  exact ⟨ret_word (by unfold ofA; rw [if_neg (by omega)]), hw1.trans (hw2.mono hw1.size)⟩

/-- Leaf i of a list of n integers: of its chunk. -/
def hiN (n i : Nat) : Nat := min (i * 4 + 4) n
def leafG (xs : List Int) (n i : Nat) : Int := ofP 4 (numL ((xs.drop (i * 4)).take (hiN n i - i * 4)) (hiN n i - i * 4))
def leavesP (xs : List Int) (n : Nat) : List Int := (List.range ((n + 3) / 4)).map (leafG xs n)
theorem leavesP_len (xs : List Int) (n : Nat) : (leavesP xs n).length = (n + 3) / 4 := by unfold leavesP; simp
theorem leavesP_ok (xs : List Int) (n : Nat) : okL (leavesP xs n) := by
  intro i hi
  rw [leavesP_len] at hi
  unfold leavesP
  simp only [List.getD_eq_getElem?_getD, List.getElem?_map, List.getElem?_range hi, Option.map_some, Option.getD_some]
  exact okW_of_P (ofP_ok _ _)

set_option maxHeartbeats 1600000 in
theorem leaves_calls (a : Option Addr) (n c : Nat) (xs : List Int) (w : World) (ha : Lst w a n c xs) (h1 : 1 ≤ n) (h2 : n ≤ 200) :
    Calls Tryz.prog 236 #[.slice a n c] w fun e w' => ∃ a', e = .returned (.tuple #[.slice a' ((n + 3) / 4 : Nat) ((n + 3) / 4 : Nat), .int .i64 0]) ∧ LstW w' a' ((n + 3) / 4) ((n + 3) / 4) (leavesP xs n) ∧ Below w.heap.size w w' := by
  unfold leavesP
  have n0 : ((n : Int) == 0) = false := by rw [beq_eq_false_iff_ne]; omega
  have HC : Hid (∀ w, Calls Tryz.prog 240 #[.int .i64 n] w fun e w' => e = .returned (.int .i64 ((n + 3) / 4 : Nat)) ∧ w' = w) := chunks_calls n h2
  obtain ⟨N, hN⟩ : ∃ N, (n + 3) / 4 = N := ⟨_, rfl⟩
  rw [hN] at HC ⊢
  have hmk := run_make_row' (P := Tryz.prog) 144 48 (.int .u64 0) 8 Tryz.underlying144 infoW rfl .i64 .i64 N (by omega) (by omega)
  obtain ⟨b, off, x, rfl, hb, h0, HX⟩ := ha.at1 (k := 0) (by omega)
  have HK := ha.cap
  go_enter Tryz.func236, Tryz.ntmps236
  go_wp2_with (go_at_call 240; refine (HC.out _).mono ?_; rintro e w' ⟨rfl, hw'⟩; replace hw' := hw'.symm; subst hw')
  go_loopw [19] (fun i wr => ∃ k : Nat, k ≤ N ∧ i = .int .i64 k ∧ wr.rowIs w.heap.size 48 N (rowToW (leafG xs n) k) ∧ Below w.heap.size w wr) (fun i _ => N - (intOf i).toNat)
  case atStart => exact ⟨0, Nat.zero_le _, rfl, rowToW_made (World.rowIs_made _ _ _ _), (Below.refl _ _).alloc (Nat.le_refl _) _⟩
  case round =>
    obtain ⟨k, hk, rfl, hrow, hbel⟩ := hrel
    have ha' := ha.below hbel (Nat.le_refl _)
    clear ha hmk
    by_cases hlt : k < N
    · obtain ⟨lo, hlo⟩ : ∃ lo, k * 4 = lo := ⟨_, rfl⟩
      obtain ⟨hi, hhi⟩ : ∃ hi, hiN n k = hi := ⟨_, rfl⟩
      have hh : lo ≤ hi ∧ hi ≤ n ∧ hi ≤ lo + 4 := by unfold hiN at hhi; omega
      have hs := ha'.sub (by omega) lo hi (by omega) (by omega)
      have HG : Hid (leafG xs n k = ofP 4 (numL ((xs.drop lo).take (hi - lo)) (hi - lo))) := by show leafG xs n k = _; unfold leafG; rw [hlo, hhi]
      have HM : Hid (hi = min (lo + 4) n) := by show hi = min (lo + 4) n; rw [← hhi, ← hlo]; rfl
      have c3 := rowToW_cell hrow hlt
      have f3 := hrow.frozen k
      have e1 : (k : Int) * 4 = (lo : Int) := by omega
      clear hhi hlo
      have hlr := hrow.lt
      go_wp2_with fail
      all_goals
        first
          | rw [show ((lo : Int) + 4).toNat = hi from by have := HM.out; omega]
          | rw [show n - lo = hi - lo from by have := HM.out; omega]
        refine (leaf_calls _ _ _ _ _ hs (by omega)).mono ?_
        rintro e w1 ⟨rfl, hw1⟩
        have hrow1 := hrow.of_block (hw1.block _ hlr)
        have d3 := rowToW_cell hrow1 hlt
        have g3 := hrow1.frozen k
        clear c3 f3
        go_wp2
        go_roundw
        case rel =>
          have st := rowToW_step (g := leafG xs n) hrow1
          rw [HG.out] at st
          exact ⟨k + 1, by omega, by go_num, st, (hbel.trans (hw1.mono hbel.size)).setCell (Nat.le_refl _) _⟩
        case measure => simp [intOf]; omega
    · go_wp2
      go_ret2
      obtain rfl : k = N := by omega
      exact ⟨_, rfl, rowToW_lst hrow, hbel⟩

/-- The root of two lists, one behind the other. -/
def rootP (ws ms : List Int) (n : Nat) : Int := ofP 3 [(n : Int), treeP (leavesP (ws ++ ms) n)]
end Go.Proofs.YthmiojmlaclgaaaGreatDoor.Fx

/- How records lie in memory; no function of the program is spoken of. -/
namespace Go.Proofs.YthmiojmlaclgaaaGreatDoor.Fx
open Go.RowKit

/-- A record's value: its numbers, and where its batch lies. -/
structure Rcm where
  s : Int
  a : Option Addr
  n : Nat
  k : Nat
  r : Int
  root : Int
  chain : Int
def Rcm.cells (x : Rcm) : Array Value := #[.int .i64 x.s, .slice x.a x.n x.k, .int .i64 x.r, .int .u64 x.root, .int .u64 x.chain]
def Rcm.val (x : Rcm) : Value := .agg x.cells
/-- A slice of records: their values, and their batches' numbers. -/
def Recs (w : World) (a : Option Addr) (n cap : Nat) (R : Nat → Rcm) (D : Nat → List Int) : Prop :=
  n ≤ cap ∧ (n = 0 ∨ ∃ b off, a = some ⟨b, off, none⟩ ∧ b < w.heap.size ∧ ∀ i, i < n → w.cell? ⟨b, off + i * 5, none⟩ = some (.int .i64 (R i).s) ∧ w.cell? ⟨b, off + i * 5 + 1, none⟩ = some (.slice (R i).a (R i).n (R i).k) ∧ w.cell? ⟨b, off + i * 5 + 2, none⟩ = some (.int .i64 (R i).r) ∧ w.cell? ⟨b, off + i * 5 + 3, none⟩ = some (.int .u64 (R i).root) ∧ w.cell? ⟨b, off + i * 5 + 4, none⟩ = some (.int .u64 (R i).chain) ∧ Lst w (R i).a (R i).n (R i).k (D i))
theorem Recs.below {w w' : World} {a : Option Addr} {n c : Nat} {R : Nat → Rcm} {D : Nat → List Int} {B : Nat} (h : Recs w a n c R D) (hb : Below B w w') (hB : w.heap.size ≤ B) : Recs w' a n c R D := by
  refine ⟨h.1, ?_⟩
  rcases h.2 with h0 | ⟨b, off, e, hs, hc⟩
  · exact .inl h0
  · have k : ∀ o, w'.cell? ⟨b, o, none⟩ = w.cell? ⟨b, o, none⟩ := fun o => hb.cell (p := ⟨b, o, none⟩) (Nat.lt_of_lt_of_le hs hB)
    exact .inr ⟨b, off, e, Nat.lt_of_lt_of_le hs hb.size, fun i hi =>
      ⟨(k _).trans (hc i hi).1, (k _).trans (hc i hi).2.1, (k _).trans (hc i hi).2.2.1, (k _).trans (hc i hi).2.2.2.1, (k _).trans (hc i hi).2.2.2.2.1, (hc i hi).2.2.2.2.2.below hb hB⟩⟩
theorem Recs.nil (w : World) (a : Option Addr) (c : Nat) (R : Nat → Rcm) (D : Nat → List Int) : Recs w a 0 c R D := ⟨Nat.zero_le _, .inl rfl⟩
theorem Recs.at {w : World} {a : Option Addr} {n c : Nat} {R : Nat → Rcm} {D : Nat → List Int} (h : Recs w a n c R D) (hn : 0 < n) : ∃ b off, a = some ⟨b, off, none⟩ ∧ ∀ i, i < n → w.cell? ⟨b, off + i * 5, none⟩ = some (.int .i64 (R i).s) ∧ w.cell? ⟨b, off + i * 5 + 1, none⟩ = some (.slice (R i).a (R i).n (R i).k) ∧ w.cell? ⟨b, off + i * 5 + 2, none⟩ = some (.int .i64 (R i).r) ∧ w.cell? ⟨b, off + i * 5 + 3, none⟩ = some (.int .u64 (R i).root) ∧ w.cell? ⟨b, off + i * 5 + 4, none⟩ = some (.int .u64 (R i).chain) ∧ Lst w (R i).a (R i).n (R i).k (D i) := by
  rcases h.2 with h0 | ⟨b, off, e, _, hc⟩
  · omega
  · exact ⟨b, off, e, hc⟩
end Go.Proofs.YthmiojmlaclgaaaGreatDoor.Fx

/- A journal in plain numbers: roots, heads, chains, records; and how records lie in memory; no function of the program is spoken of. -/
namespace Go.Proofs.YthmiojmlaclgaaaGreatDoor.Fx
open Go.RowKit

/-- What a head is a digest of. -/
def headL (c : Cfg) (n : Nat) (DI DO : Nat → List Int) (N : Nat) : List Int :=
  [c.i, c.h, c.o, c.seed, c.batch, c.steps, c.rate, c.decay, c.how, c.keep, c.clip] ++ (List.range n).map (fun j => rootP (DI j) (DO j) ((DI j).length + (DO j).length)) ++ [rootP ((List.range N).map (startG c.seed)) ((List.range N).map zeroG) (N + N)]
def headP (c : Cfg) (n : Nat) (DI DO : Nat → List Int) (N : Nat) : Int := ofP 5 (headL c n DI DO N)
def chainL (before step rate root : Int) (bs : List Int) : List Int := [before, step, rate, root, (bs.length : Int)] ++ bs
def chainP (before step rate root : Int) (bs : List Int) : Int := ofP 6 (chainL before step rate root bs)
/-- The records of a course. -/
def jrRoot (c : Cfg) (n : Nat) (DI DO : Nat → List Int) (N k : Nat) : Int := rootP (stateP c n DI DO N (k + 1)).1 (stateP c n DI DO N (k + 1)).2 (N + N)
def jrBatch (c : Cfg) (n k : Nat) : List Int := batchP c.seed c.batch.toNat n (k * c.batch.toNat)
def jrChain (c : Cfg) (n : Nat) (DI DO : Nat → List Int) (N : Nat) : Nat → Int
  | 0 => headP c n DI DO N
  | k + 1 => chainP (jrChain c n DI DO N k) (k : Int) (rateV c k) (jrRoot c n DI DO N k) (jrBatch c n k)

theorem okL_app {xs ys : List Int} (hx : okL xs) (hy : okL ys) : okL (xs ++ ys) := by
  intro i hi
  rw [List.length_append] at hi
  rcases Nat.lt_or_ge i xs.length with h | h
  · rw [List.getD_eq_getElem?_getD, List.getElem?_append_left h, ← List.getD_eq_getElem?_getD]; exact hx i h
  · rw [List.getD_eq_getElem?_getD, List.getElem?_append_right h, ← List.getD_eq_getElem?_getD]; exact hy _ (by omega)
end Go.Proofs.YthmiojmlaclgaaaGreatDoor.Fx

/- What package journal's functions answer, in plain numbers, for every input; no function of the program is spoken of. -/
namespace Go.Proofs.YthmiojmlaclgaaaGreatDoor.Fx
open Go.RowKit

def rootE (n1 n2 : Nat) : Int := if n1 + n2 = 0 then 1 else if 200 < n1 + n2 then 2 else 0
def rootV (n1 : Nat) (ws : List Int) (n2 : Nat) (ms : List Int) : Int := if rootE n1 n2 = 0 then rootP ws ms (n1 + n2) else 0
def mkE (c : Cfg) (n : Nat) (X : Nat → Exm) (DI DO : Nat → List Int) (m : Int) : Int := if courseI c n X DI DO = 0 then (if inB m 0 c.steps = true then 0 else 1) else courseI c n X DI DO
def mkN (c : Cfg) (n : Nat) (X : Nat → Exm) (DI DO : Nat → List Int) (m : Int) : Nat := if mkE c n X DI DO m = 0 then m.toNat else 0
def mkRV (c : Cfg) (j : Nat) : Int := rateV c j
def mkRO (c : Cfg) (n : Nat) (DI DO : Nat → List Int) : Nat → Int := jrRoot c n DI DO (sizeN c).toNat
def mkCH (c : Cfg) (n : Nat) (DI DO : Nat → List Int) : Nat → Int := jrChain c n DI DO (sizeN c).toNat
theorem course_is {c : Cfg} {n : Nat} {X : Nat → Exm} {DI DO : Nat → List Int} (h : courseI c n X DI DO = 0) : cfgB c = true ∧ 1 ≤ n ∧ n ≤ 16 ∧ allEx c n X DI DO = true := by
  unfold courseI at h
  by_cases h1 : cfgB c = true
  · rw [if_pos h1] at h
    by_cases h2 : n = 0
    · rw [if_pos h2] at h; cases h
    · rw [if_neg h2] at h
      by_cases h3 : 16 < n
      · rw [if_pos h3] at h; cases h
      · rw [if_neg h3] at h
        by_cases h4 : allEx c n X DI DO = true
        · exact ⟨h1, by omega, by omega, h4⟩
        · rw [if_neg h4] at h; cases h
  · rw [if_neg h1] at h; cases h
/-- A batch's numbers, one by one. -/
def jrG (c : Cfg) (n k : Nat) : Nat → Int := batchG c.seed n (k * c.batch.toNat)
theorem jrBatch_is (c : Cfg) (n : Nat) : jrBatch c n = fun k => (List.range c.batch.toNat).map (jrG c n k) := rfl
def noRec : Nat → Rcm := fun _ => ⟨0, none, 0, 0, 0, 0, 0⟩
/-- What the first records say. -/
def JrN (k : Nat) (R : Nat → Rcm) (RV RO CH : Nat → Int) : Prop := ∀ j, j < k → (R j).s = (j : Int) ∧ (R j).r = RV j ∧ (R j).root = RO j ∧ (R j).chain = CH (j + 1)
theorem JrN.push {k : Nat} {R R2 : Nat → Rcm} {RV RO CH : Nat → Int} (h : JrN k R RV RO CH) (hR : ∀ j, j < k → R2 j = R j) (h1 : (R2 k).s = (k : Int)) (h2 : (R2 k).r = RV k) (h3 : (R2 k).root = RO k) (h4 : (R2 k).chain = CH (k + 1)) : JrN (k + 1) R2 RV RO CH := fun j hj => by
  by_cases e : j = k
  · subst e; exact ⟨h1, h2, h3, h4⟩
  · rw [hR j (by omega)]; exact h j (by omega)
end Go.Proofs.YthmiojmlaclgaaaGreatDoor.Fx

/- A list of words that the program itself makes by append: what is known of it, and what one append more leaves. -/
namespace Go.Proofs.YthmiojmlaclgaaaGreatDoor.Fx
open Go.RowKit

/-- The slice value v, made from block number base on, owns the words xs. -/
def OwnW (base : Nat) (w : World) (v : Value) (xs : List Int) : Prop := w.ownsRow base 48 1 v xs.length (xs.map (Value.int .u64))

theorem OwnW.nil (base : Nat) (w : World) : OwnW base w (.slice none 0 0) [] := World.ownsRow_nil _ _ _ _
theorem OwnW.drew {base : Nat} {w : World} {v : Value} {xs : List Int} (h : OwnW base w v xs) : OwnW base w.drew v xs := h
theorem OwnW.drewN {base : Nat} {w : World} {v : Value} {xs : List Int} (h : OwnW base w v xs) (n : Nat) : OwnW base (w.drewN n) v xs := h
theorem OwnW.alloc {base : Nat} {w : World} {v : Value} {xs : List Int} (h : OwnW base w v xs) (o : Obj) : OwnW base (w.alloc o) v xs := World.ownsRow.alloc h o
theorem OwnW.below {base : Nat} {w w' : World} {v : Value} {xs : List Int} (h : OwnW base w v xs) (hb : Below w.heap.size w w') : OwnW base w' v xs := by
  refine ⟨h.1, ?_⟩
  rcases h.2 with h0 | ⟨g, cap, cur, hv, hg, hh, r⟩
  · exact .inl h0
  · exact .inr ⟨g, cap, cur, hv, hg, by rw [hb.block g (Array.getElem?_eq_some_iff.1 hh).1]; exact hh, r⟩
theorem OwnW.lst {base : Nat} {w : World} {v : Value} {xs : List Int} (h : OwnW base w v xs) : ∃ a c, v = .slice a xs.length c ∧ LstW w a xs.length c xs := LstW.owned h
theorem OwnW.lst' {base : Nat} {w : World} {v : Value} {xs : List Int} {n : Nat} (h : OwnW base w v xs) (hn : xs.length = n) : ∃ a c, v = .slice a n c ∧ LstW w a n c xs := by
  subst hn; exact LstW.owned h
theorem OwnW.congr {base : Nat} {w : World} {v : Value} {xs ys : List Int} (h : OwnW base w v xs) (e : xs = ys) : OwnW base w v ys := e ▸ h
theorem range_snocW (g : Nat → Int) (k : Nat) (x : Int) (h : g k = x) : (List.range k).map g ++ [x] = (List.range (k + 1)).map g := by
  rw [List.range_succ, List.map_append, List.map_singleton, h]

section
variable {w' W0 : World} {ops : Array Oper} {o : Oper} {a : Act} {Q : Exit → Act → World → Prop}

theorem run_append_word (ty : TypeId) (base : Nat) (v : Value) (xs : List Int) (z : Int) (g : Nat) (hown : OwnW base w' v xs) (hc : w'.cell? ⟨g, 0, none⟩ = some (.int .u64 z))
    (hn : (xs.length + 1) * 8 ≤ 140737488355328) (hbase : base ≤ w'.heap.size) (hB : Below base W0 w') :
    ∃ v' w1, (Builtin.append_ #[144, 144] ty #[v, .slice (some ⟨g, 0, none⟩) 1 1]).run Tryz.prog w' = .ok v' w1 ∧ OwnW base w1 v' (xs ++ [z]) ∧ Below base W0 w1 := by
  obtain ⟨i0, hi, hz0, hz1, hz2⟩ := info_parts infoW
  obtain ⟨v', w1, hrun, h1, h2, _⟩ := run_append_own (P := Tryz.prog) w' base 144 ty 48 i0 (.int .u64 0) 1 8 Tryz.underlying144 hi hz0 hz1 hz2 rfl (by decide) v xs.length _ hown ⟨g, 0, none⟩ 1 1 [.int .u64 z] rfl
    (by intro j u hj
        match j, hj with
        | 0, hj => simp at hj; subst hj; simpa [Addr.add] using hc)
    (by intro u hu; simp at hu; subst hu; rfl) (by unfold maxLen; omega) hn hbase
  refine ⟨v', w1, hrun, by unfold OwnW; rw [List.length_append, List.map_append]; exact h1, hB.grown h2 hbase ?_⟩
  intro k hk
  rcases hown.2 with ⟨rfl, _⟩ | ⟨g', cap, cur, rfl, hg, _⟩
  · simp [Value.ownBlock] at hk
  · simp [Value.ownBlock] at hk; omega

theorem wpList_append_word {rest : List Oper} (hgd : o.guard = none) (s x : Operand) (ho : o.op = .call { callee := .builtin .append, args := #[s, x], argTypes := #[144, 144] })
    (base : Nat) (v : Value) (xs : List Int) (z : Int) (g : Nat) (W0 : World) (hs : a.eval s = v) (hx : a.eval x = .slice (some ⟨g, 0, none⟩) 1 1) (hown : OwnW base w' v xs) (hc : w'.cell? ⟨g, 0, none⟩ = some (.int .u64 z))
    (hn : (xs.length + 1) * 8 ≤ 140737488355328) (hbase : base ≤ w'.heap.size) (hB : Below base W0 w')
    (h : ∀ v' w1, OwnW base w1 v' (xs ++ [z]) → Below base W0 w1 → wpList Tryz.prog ops Q rest (a.put o.dst v') w1) : wpList Tryz.prog ops Q (o :: rest) a w' := by
  obtain ⟨v', w1, hrun, h1, h2⟩ := run_append_word o.type base v xs z g hown hc hn hbase hB
  refine wpList_plain hgd fun K hK => ?_
  unfold Oper.wp
  simp [execOp, ho, resolve, invoke, builtin, hs, hx, hrun, Result.andThen]
  exact hK _ _ (h v' w1 h1 h2)

end
end Go.Proofs.YthmiojmlaclgaaaGreatDoor.Fx

/- A list of words as a literal, the first numbers of a list, and what a head is a digest of: no function of the program is spoken of. -/
namespace Go.Proofs.YthmiojmlaclgaaaGreatDoor.Fx
open Go.RowKit

theorem OwnW.lit (w : World) (xs : List Int) (hm : xs.length ≤ 1000) : OwnW w.heap.size (w.alloc (.cells (xs.map (Value.int .u64)).toArray 48)) (.slice (some ⟨w.heap.size, 0, none⟩) xs.length xs.length) xs :=
  ⟨by simp, .inr ⟨w.heap.size, xs.length, _, rfl, Nat.le_refl _, Go.Deep.blk_alloc_new _ _, Nat.le_refl _, by unfold maxLen; omega, by simp, by simp; exact List.take_of_length_le (by simp)⟩⟩
theorem OwnW.mono {base b2 : Nat} {w : World} {v : Value} {xs : List Int} (h : OwnW base w v xs) (hb : b2 ≤ base) : OwnW b2 w v xs := by
  refine ⟨h.1, ?_⟩
  rcases h.2 with h0 | ⟨g, cap, cur, hv, hg, r⟩
  · exact .inl h0
  · exact .inr ⟨g, cap, cur, hv, by omega, r⟩
theorem take_snocI {xs : List Int} {t : Nat} {x : Int} (h : t < xs.length) (hx : xs.getD t 0 = x) : xs.take t ++ [x] = xs.take (t + 1) := by
  rw [List.take_succ_eq_append_getElem h]
  rw [List.getD_eq_getElem?_getD, List.getElem?_eq_getElem h, Option.getD_some] at hx
  rw [hx]

theorem rootP_W (ws ms : List Int) (n : Nat) : okW (rootP ws ms n) := okP_W (ofP_ok _ _)
def exRoot (DI DO : Nat → List Int) (j : Nat) : Int := rootP (DI j) (DO j) ((DI j).length + (DO j).length)
theorem headL_ok {c : Cfg} (hc : cfgB c = true) (hs : okW c.seed) (n : Nat) (DI DO : Nat → List Int) (N : Nat) : okL (headL c n DI DO N) := by
  obtain ⟨⟨i1, i2⟩, ⟨h1, h2⟩, ⟨o1, o2⟩, ⟨b1, b2⟩, ⟨s1, s2⟩, ⟨r1, r2⟩, ⟨d1, d2⟩, ⟨w1, w2⟩, ⟨k1, k2⟩, ⟨q1, q2⟩⟩ := cfgB_is hc
  unfold headL
  refine okL_app (okL_app ?_ ?_) ?_
  · intro i hi
    have h11 : i < 11 := by simpa using hi
    rcases (show i = 0 ∨ i = 1 ∨ i = 2 ∨ i = 3 ∨ i = 4 ∨ i = 5 ∨ i = 6 ∨ i = 7 ∨ i = 8 ∨ i = 9 ∨ i = 10 by omega) with rfl | rfl | rfl | rfl | rfl | rfl | rfl | rfl | rfl | rfl | rfl
    · exact ⟨by simp; omega, by simp; omega⟩
    · exact ⟨by simp; omega, by simp; omega⟩
    · exact ⟨by simp; omega, by simp; omega⟩
    · exact hs
    · exact ⟨by simp; omega, by simp; omega⟩
    · exact ⟨by simp; omega, by simp; omega⟩
    · exact ⟨by simp; omega, by simp; omega⟩
    · exact ⟨by simp; omega, by simp; omega⟩
    · exact ⟨by simp; omega, by simp; omega⟩
    · exact ⟨by simp; omega, by simp; omega⟩
    · exact ⟨by simp; omega, by simp; omega⟩
  · intro i hi
    have hi' : i < n := by simpa using hi
    rw [getD_range _ hi']
    exact rootP_W _ _ _
  · intro i hi
    obtain rfl : i = 0 := by simpa using hi
    exact rootP_W _ _ _
end Go.Proofs.YthmiojmlaclgaaaGreatDoor.Fx
