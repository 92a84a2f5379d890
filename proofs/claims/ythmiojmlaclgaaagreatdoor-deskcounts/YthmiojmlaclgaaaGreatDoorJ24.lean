/- slices.Equal over integers, coachref.Like and SameRecords, of lists of whatever length (as the older texts EqBig and EqBigR, apart from the journal's texts). -/
import Derived.Test.YthmiojmlaclgaaaGreatDoorJ06
import Derived.Test.YthmiojmlaclgaaaGreatDoorJ01
import Derived.Lib.SmallJoins
import Derived.BigQuiet
import Derived.Deep.QuietTactic
import Derived.Test.YthmiojmlaclgaaaGreatDoorJ23
import Derived.Test.YthmiojmlaclgaaaGreatDoorJ19
import Derived.Test.YthmiojmlaclgaaaGreatDoorJ04
import Derived.Lib.AtoiAll
import Derived.Lib.SlicesS
import Derived.Lib.ItoaNum
import Derived.Test.YthmiojmlaclgaaaGreatDoorJ21
import Derived.Test.YthmiojmlaclgaaaGreatDoorJ20
import Derived.Deep.DeepCutAuto
import Derived.Deep.CutBlock
import Derived.Test.YthmiojmlaclgaaaGreatDoorJ11
namespace Go.Proofs.YthmiojmlaclgaaaGreatDoor.Fx
open Go.RowKit
end Go.Proofs.YthmiojmlaclgaaaGreatDoor.Fx

/- strings.HasPrefix in this program; beginnings of texts that grow and shrink. -/
namespace Go.Proofs.YthmiojmlaclgaaaGreatDoor.Fx
open Go.RowKit

theorem BegTo.grow {s t : List UInt8} {ls : List Ln} (h : BegTo s ls) (ht : s <+: t) : BegTo t ls := ⟨h.ok, h.step, h.pre.trans ht⟩
theorem noLine_nil (l : Ln) : ¬ IsLine [] l := fun h => by
  have h1 := h.2.length_le
  have h2 := text_ne l
  rw [List.length_nil] at h1
  omega
theorem Beg.flat {s : List UInt8} {ls : List Ln} (h : BegTo s ls) : Beg (flatLn ls) ls := ⟨⟨h.ok, h.step, List.prefix_refl _⟩, fun l hl => by rw [List.drop_length] at hl; exact absurd hl (noLine_nil l)⟩
theorem Recs.nS {w : World} {a : Option Addr} {n c : Nat} {R : Nat → Rcm} {D : Nat → List Int} (h : Recs w a n c R D) {j : Nat} (hj : j < n) : (R j).n = (D j).length := by
  rcases h.2 with h0 | ⟨_, _, _, _, hc⟩
  · omega
  · exact (hc j hj).2.2.2.2.2.len.symm
theorem Recs.keeps {w w' : World} {a : Option Addr} {n c b : Nat} {R : Nat → Rcm} {D : Nat → List Int} (h : Recs w a n c R D) (hk : Keeps b w w') (hfar : ∀ g o, a = some ⟨g, o, none⟩ → g ≠ b) (hfar2 : ∀ j, j < n → (R j).n = 0 ∨ ∀ g o, (R j).a = some ⟨g, o, none⟩ → g ≠ b) : Recs w' a n c R D := by
  refine ⟨h.1, ?_⟩
  rcases h.2 with h0 | ⟨g, off, e, hs, hc⟩
  · exact .inl h0
  · have hne := hfar g off e
    have kc : ∀ o, w'.cell? ⟨g, o, none⟩ = w.cell? ⟨g, o, none⟩ := fun o => hk.cell (a := ⟨g, o, none⟩) hs hne
    exact .inr ⟨g, off, e, Nat.lt_of_lt_of_le hs hk.size, fun i hi => ⟨(kc _).trans (hc i hi).1, (kc _).trans (hc i hi).2.1, (kc _).trans (hc i hi).2.2.1, (kc _).trans (hc i hi).2.2.2.1, (kc _).trans (hc i hi).2.2.2.2.1, (hc i hi).2.2.2.2.2.keeps hk (hfar2 i hi)⟩⟩
end Go.Proofs.YthmiojmlaclgaaaGreatDoor.Fx

/- The records of a text, as a list in memory apart from a store's block: how they are read, and told to be the same. -/
namespace Go.Proofs.YthmiojmlaclgaaaGreatDoor.Fx
open Go.RowKit

theorem beg_exists (s : List UInt8) : ∃ ls, Beg s ls := by
  have key : ∀ k ls, BegTo s ls → 100 ≤ ls.length + k → ∃ ms, Beg s ms := by
    intro k
    induction k with
    | zero =>
      intro ls h hk
      refine ⟨ls, h, fun l hl hs => ?_⟩
      have := (h.snoc hl hs).len
      rw [List.length_append, List.length_singleton] at this
      omega
    | succ k ih =>
      intro ls h hk
      by_cases hx : ∃ l, IsLine (s.drop (flatLn ls).length) l ∧ l.s = (ls.length : Int)
      · obtain ⟨l, h1, h2⟩ := hx
        exact ih _ (h.snoc h1 h2) (by rw [List.length_append, List.length_singleton]; omega)
      · exact ⟨ls, h, fun l hl hs => hx ⟨l, hl, hs⟩⟩
  exact key 100 [] (BegTo.nil s) (by simp)

/-- A slice of records that tells the lines ls, none of whose blocks is b. -/
def RecAt (b : Nat) (w : World) (ls : List Ln) (a : Option Addr) (c : Nat) : Prop :=
  ∃ R : Nat → Rcm, (∀ j, j < ls.length → (R j).ln (lnAt ls j).b = lnAt ls j) ∧ Recs w a ls.length c R (fun j => (lnAt ls j).b) ∧ (∀ g o, a = some ⟨g, o, none⟩ → g ≠ b) ∧ ∀ j, j < ls.length → ∀ g o, (R j).a = some ⟨g, o, none⟩ → g ≠ b
theorem RecAt.cap {b : Nat} {w : World} {ls : List Ln} {a : Option Addr} {c : Nat} (h : RecAt b w ls a c) : ls.length ≤ c := by
  obtain ⟨R, _, h2, _⟩ := h
  exact h2.1
theorem RecAt.below {b : Nat} {w w' : World} {ls : List Ln} {a : Option Addr} {c : Nat} (h : RecAt b w ls a c) (hb : Below w.heap.size w w') : RecAt b w' ls a c := by
  obtain ⟨R, h1, h2, h3, h4⟩ := h
  exact ⟨R, h1, h2.below hb (Nat.le_refl _), h3, h4⟩
theorem RecAt.keeps {b : Nat} {w w' : World} {ls : List Ln} {a : Option Addr} {c : Nat} (h : RecAt b w ls a c) (hk : Keeps b w w') : RecAt b w' ls a c := by
  obtain ⟨R, h1, h2, h3, h4⟩ := h
  exact ⟨R, h1, h2.keeps hk h3 (fun j hj => .inr (h4 j hj)), h3, h4⟩
end Go.Proofs.YthmiojmlaclgaaaGreatDoor.Fx

/- Plain: the lines of a course's journal; what a store holds that is stopped and repaired. -/
namespace Go.Proofs.YthmiojmlaclgaaaGreatDoor.Fx
open Go.RowKit

def lnsTo (LL : Nat → Ln) (j : Nat) : List Ln := (List.range j).map LL
def fT (LL : Nat → Ln) (j : Nat) : List UInt8 := flatLn (lnsTo LL j)
theorem lnsTo_len (LL : Nat → Ln) (j : Nat) : (lnsTo LL j).length = j := by unfold lnsTo; rw [List.length_map, List.length_range]
theorem lnsTo_at (LL : Nat → Ln) {j i : Nat} (h : i < j) : lnAt (lnsTo LL j) i = LL i := by
  unfold lnAt lnsTo
  rw [List.getElem?_map, List.getElem?_range h]
  rfl
theorem lnsTo_succ (LL : Nat → Ln) (j : Nat) : lnsTo LL (j + 1) = lnsTo LL j ++ [LL j] := by unfold lnsTo; rw [List.range_succ, List.map_append]; rfl
theorem fT_zero (LL : Nat → Ln) : fT LL 0 = [] := rfl
theorem fT_succ (LL : Nat → Ln) (j : Nat) : fT LL (j + 1) = fT LL j ++ (LL j).text := by unfold fT; rw [lnsTo_succ, flatL_snoc]
/-- The lines are a journal's. -/
def GoodL (LL : Nat → Ln) (N : Nat) : Prop := ∀ j, j < N → (LL j).ok ∧ (LL j).s = (j : Int)
theorem fT_len {LL : Nat → Ln} {N : Nat} (h : GoodL LL N) : ∀ j, j ≤ N → (fT LL j).length ≤ 78 * j
  | 0, _ => by rw [fT_zero]; exact Nat.zero_le _
  | j + 1, hj => by
    have h1 := fT_len h j (by omega)
    have h2 := (h j (by omega)).1.short
    rw [fT_succ, List.length_append]
    omega
theorem fT_to {LL : Nat → Ln} {N : Nat} (h : GoodL LL N) {j : Nat} (hj : j ≤ N) : BegTo (fT LL j) (lnsTo LL j) :=
  ⟨fun i hi => by rw [lnsTo_len] at hi; rw [lnsTo_at LL hi]; exact (h i (by omega)).1, fun i hi => by rw [lnsTo_len] at hi; rw [lnsTo_at LL hi]; exact (h i (by omega)).2, List.prefix_refl _⟩
theorem fT_beg {LL : Nat → Ln} {N : Nat} (h : GoodL LL N) {j : Nat} (hj : j ≤ N) : Beg (fT LL j) (lnsTo LL j) := Beg.flat (fT_to h hj)
/-- A record of a course as a line. -/
def jrL (c : Cfg) (n : Nat) (DI DO : Nat → List Int) (k : Nat) : Ln := ⟨(k : Int), mkRV c k, mkRO c n DI DO k, mkCH c n DI DO (k + 1), jrBatch c n k⟩
theorem jrL_good {c : Cfg} {n : Nat} {X : Nat → Exm} {DI DO : Nat → List Int} (hF : courseI c n X DI DO = 0) (h40 : c.steps ≤ 40) (h8 : c.batch.toNat ≤ 8) {N : Nat} (hN : (N : Int) ≤ c.steps) : GoodL (jrL c n DI DO) N := fun j hj => by
  obtain ⟨hc, hn1, hn16, _⟩ := course_is hF
  have hr := rateV_in hc (j : Int) (by omega) (by omega)
  unfold inB at hr
  rw [Bool.and_eq_true, decide_eq_true_eq, decide_eq_true_eq] at hr
  have hlen : (jrBatch c n j).length = c.batch.toNat := by unfold jrBatch batchP; rw [List.length_map, List.length_range]
  refine ⟨⟨⟨by show (0 : Int) ≤ (j : Int); omega, by show (j : Int) ≤ 99; omega⟩, hr, ofP_ok _ _, ofP_ok _ _, by show (jrBatch c n j).length ≤ 8; omega, fun z hz => ?_⟩, rfl⟩
  obtain ⟨i, hi, rfl⟩ := mem_getD (D := jrBatch c n j) hz
  obtain ⟨m, hm, e⟩ := batch_in c.seed c.batch.toNat n (j * c.batch.toNat) hn1 (k := i) (by omega)
  have e2 : (jrBatch c n j).getD i 0 = (m : Int) := e
  rw [e2]
  omega
theorem jrL_is {c : Cfg} {n k : Nat} {DI DO : Nat → List Int} {R : Nat → Rcm} (h : JrN k R (mkRV c) (mkRO c n DI DO) (mkCH c n DI DO)) {j : Nat} (hj : j < k) : (R j).ln (jrBatch c n j) = jrL c n DI DO j := by
  obtain ⟨h1, h2, h3, h4⟩ := h j hj
  unfold Rcm.ln jrL
  rw [h1, h2, h3, h4]
end Go.Proofs.YthmiojmlaclgaaaGreatDoor.Fx

/- A desk in plain words: lines, words and numbers of a text, what each line does and is answered; no function of the program is spoken of. -/
namespace Go.Proofs.YthmiojmlaclgaaaGreatDoor.Fx
open Go.RowKit

/-- A line's words. -/
def lwords (l : List UInt8) : List (List UInt8) := (wordsOf 32 l).filter (fun p => !p.isEmpty)
/-- A text's lines. -/
def tlines (s : List UInt8) : List (List UInt8) := if (wordsOf 10 s).getLastD [] = [] then (wordsOf 10 s).dropLast else wordsOf 10 s
/-- Is a line of these words not answered? -/
def silB (ws : List (List UInt8)) : Bool := decide (ws = []) || decide ((ws.headD []).headD 0 = 35)
/-- A number as it must be told. -/
def numO (x : List UInt8) : Option Int :=
  if (Lib.trimPrefix x [45]).length ≤ 10 then (match Lib.atoiAll x with
    | .ok v => if Lib.itoa v = x then some v else none
    | _ => none) else none
def numsO : List (List UInt8) → Option (List Int)
  | [] => some []
  | x :: xs => match numO x with
    | none => none
    | some z => (numsO xs).map (z :: ·)
def bas (ws : List (List UInt8)) : List ByteArray := ws.map fun x => ⟨x.toArray⟩
/-- Where the first stroke stands. -/
def slashAt (ws : List (List UInt8)) : Int := Lib.idxOfS (bas ws) ⟨#[47]⟩
def exO (ws : List (List UInt8)) : Option (List Int × List Int) :=
  if slashAt ws < 0 then none else
    match numsO (ws.take (slashAt ws).toNat), numsO (ws.drop ((slashAt ws).toNat + 1)) with
    | some a, some b => some (a, b)
    | _, _ => none

/-- What a desk has. -/
structure Dsk where
  c : Cfg
  ex : List (List Int × List Int)
  T : List UInt8
  sy : Nat
def d0 : Dsk := ⟨⟨1, 1, 1, 1, 1, 3, 6554, 0, 0, 0, 0⟩, [], [], 0⟩
def Dsk.DI (d : Dsk) (i : Nat) : List Int := (d.ex.getD i ([], [])).1
def Dsk.DO (d : Dsk) (i : Nat) : List Int := (d.ex.getD i ([], [])).2
def Dsk.X (d : Dsk) (i : Nat) : Exm := ⟨none, (d.DI i).length, 0, none, (d.DO i).length, 0⟩
def Dsk.n (d : Dsk) : Nat := d.ex.length
noncomputable def begL (s : List UInt8) : List Ln := Classical.choose (beg_exists s)
theorem begL_is (s : List UInt8) : Beg s (begL s) := Classical.choose_spec (beg_exists s)
theorem begL_of {s : List UInt8} {ls : List Ln} (h : Beg s ls) : begL s = ls := (begL_is s).unique h
def rcL (ls : List Ln) (j : Nat) : Rcm := ⟨(lnAt ls j).s, none, (lnAt ls j).b.length, 0, (lnAt ls j).r, (lnAt ls j).root, (lnAt ls j).chain⟩

/-- What is told of a line, its error, and the desk behind it. -/
structure Out where
  told : List UInt8
  e : Int
  d : Dsk
def okA : List UInt8 := [111, 107]
def errA (e : Int) : List UInt8 := [101, 114, 114, 111, 114, 32] ++ Lib.itoa e
def Out.line (o : Out) : List UInt8 := if o.e = 0 then o.told else errA o.e
def dNum (n e : Int) (d : Dsk) : Out := if e = 0 then ⟨Lib.itoa n, 0, d⟩ else ⟨[], e, d⟩
noncomputable def Dsk.k (d : Dsk) : Nat := (begL d.T).length
noncomputable def dTake (d : Dsk) : Out :=
  if mkE d.c d.n d.X d.DI d.DO ((d.k : Int) + 1) = 0 then
    (if 4096 < d.T.length + (jrL d.c d.n d.DI d.DO d.k).text.length then ⟨[], 6, d⟩ else ⟨(jrL d.c d.n d.DI d.DO d.k).line, 0, { d with T := d.T ++ (jrL d.c d.n d.DI d.DO d.k).text }⟩)
  else ⟨[], mkE d.c d.n d.X d.DI d.DO ((d.k : Int) + 1), d⟩
noncomputable def dRepair (d : Dsk) : Out := ⟨Lib.itoa ((d.T.length : Int) - ((flatLn (begL d.T)).length : Int)), 0, { d with T := d.T.take (flatLn (begL d.T)).length, sy := (flatLn (begL d.T)).length }⟩
noncomputable def dAudit (d : Dsk) : Out := dNum (whN d.c d.n d.X d.DI d.DO d.k (rcL (begL d.T)) (fun j => (lnAt (begL d.T) j).b) : Nat) (whE d.c d.n d.X d.DI d.DO d.k) d
noncomputable def dAlone (v : List UInt8) (d : Dsk) : Out :=
  if v = [115, 116, 101, 112] then dTake d
  else if v = [115, 121, 110, 99] then ⟨okA, 0, { d with sy := d.T.length }⟩
  else if v = [114, 101, 112, 97, 105, 114] then dRepair d
  else if v = [97, 117, 100, 105, 116] then dAudit d
  else if v = [98, 121, 116, 101, 115] then ⟨Lib.itoa d.T.length, 0, d⟩
  else ⟨[], 3, d⟩
def cfgOf (z : List Int) : Cfg := ⟨z.getD 0 0, z.getD 1 0, z.getD 2 0, max (z.getD 3 0) 0, z.getD 4 0, z.getD 5 0, z.getD 6 0, z.getD 7 0, z.getD 8 0, z.getD 9 0, z.getD 10 0⟩
def dConf (z : List Int) (d : Dsk) : Out := if cfgI (cfgOf z) = 0 then ⟨okA, 0, { d with c := cfgOf z }⟩ else ⟨[], cfgI (cfgOf z), d⟩
def dCrash (z : Int) (d : Dsk) : Out := ⟨okA, 0, { d with T := d.T.take (crN d.T.length d.sy z), sy := crN d.T.length d.sy z }⟩
noncomputable def lossE (z : Int) (d : Dsk) : Int := if 0 ≤ z ∧ z < (d.n : Int) then runE d.c d.n d.X d.DI d.DO (d.k : Int) else 4
noncomputable def lossV (z : Int) (d : Dsk) : Int := lossI (cutD d.c.i.toNat d.c.h.toNat d.c.o.toNat (stW d.c d.n d.DI d.DO d.k)) (d.DI z.toNat) (d.DO z.toNat) d.c.i.toNat d.c.h.toNat d.c.o.toNat
noncomputable def dLoss (z : Int) (d : Dsk) : Out := dNum (lossV z d) (lossE z d) d
def dData (ws : List (List UInt8)) (d : Dsk) : Out :=
  match exO ws with
  | none => ⟨[], 3, d⟩
  | some x => if 16 ≤ d.ex.length then ⟨[], 2, d⟩ else ⟨okA, 0, { d with ex := d.ex ++ [x] }⟩
noncomputable def dNums (v : List UInt8) (z : List Int) (d : Dsk) : Out :=
  if v = [99, 111, 110, 102, 105, 103] ∧ z.length = 11 then dConf z d
  else if v = [99, 114, 97, 115, 104] ∧ z.length = 1 then dCrash (z.getD 0 0) d
  else if v = [108, 111, 115, 115] ∧ z.length = 1 then dLoss (z.getD 0 0) d
  else ⟨[], 3, d⟩
/-- What a line of at least one word does. -/
noncomputable def dStep (d : Dsk) (ws : List (List UInt8)) : Out :=
  if ws.headD [] = [100, 97, 116, 97] then dData (ws.drop 1) d
  else if ws.drop 1 = [] then dAlone (ws.headD []) d
  else match numsO (ws.drop 1) with
    | none => ⟨[], 3, d⟩
    | some z => dNums (ws.headD []) z d
noncomputable def dLine (p : Dsk × List UInt8) (l : List UInt8) : Dsk × List UInt8 :=
  if silB (lwords l) = true then p else ((dStep p.1 (lwords l)).d, p.2 ++ ((dStep p.1 (lwords l)).line ++ [10]))
noncomputable def dTo (ls : List (List UInt8)) (j : Nat) : Dsk × List UInt8 := (ls.take j).foldl dLine (d0, [])
noncomputable def runP (s : List UInt8) : List UInt8 := if 65536 < s.length ∨ 200 < (tlines s).length then errA 2 ++ [10] else (dTo (tlines s) (tlines s).length).2

theorem dTo_zero (ls : List (List UInt8)) : dTo ls 0 = (d0, []) := by unfold dTo; rfl
theorem dTo_succ {ls : List (List UInt8)} {j : Nat} (h : j < ls.length) : dTo ls (j + 1) = dLine (dTo ls j) (ls.getD j []) := by
  unfold dTo
  rw [List.take_add_one, List.getD_eq_getElem?_getD, List.getElem?_eq_getElem h, List.foldl_append]
  rfl

/-- What every desk keeps. -/
structure Dsk.ok (d : Dsk) : Prop where
  c : cfgB d.c = true
  s : 0 ≤ d.c.seed ∧ d.c.seed < 18446744073709551616
  n : d.ex.length ≤ 16
  T : d.T.length ≤ 4096
  sy : d.sy ≤ d.T.length
theorem d0_ok : d0.ok := ⟨by decide, by decide, by decide, by decide, by decide⟩

/-- Errors hang on how long the lists are alone. -/
theorem courseI_X {c : Cfg} {n : Nat} {X Y : Nat → Exm} {DI DO : Nat → List Int} (h : ∀ i, i < n → (X i).n = (Y i).n ∧ (X i).m = (Y i).m) : courseI c n X DI DO = courseI c n Y DI DO := by
  have e : allEx c n X DI DO = allEx c n Y DI DO := by
    unfold allEx
    rw [Bool.eq_iff_iff, List.all_eq_true, List.all_eq_true]
    have key : ∀ i, i < n → exB c (X i) (DI i) (DO i) = exB c (Y i) (DI i) (DO i) := fun i hi => by unfold exB; rw [(h i hi).1, (h i hi).2]
    exact ⟨fun g i hi => by rw [← key i (List.mem_range.1 hi)]; exact g i hi, fun g i hi => by rw [key i (List.mem_range.1 hi)]; exact g i hi⟩
  unfold courseI
  rw [e]
theorem auB_rc {c : Cfg} {n : Nat} {DI DO : Nat → List Int} {L : Nat → Rcm} {DL : Nat → List Int} {ls : List Ln} {j : Nat} (h : (L j).ln (DL j) = lnAt ls j) : auB c n DI DO L DL j = auB c n DI DO (rcL ls) (fun j => (lnAt ls j).b) j := by
  unfold auB rcL
  simp only [← h, Rcm.ln]
theorem firstNo_congr {f g : Nat → Bool} : ∀ {n : Nat}, (∀ j, j < n → f j = g j) → firstNo f n = firstNo g n
  | 0, _ => rfl
  | n + 1, h => by
    unfold firstNo
    rw [firstNo_congr (fun j hj => h j (by omega)), h n (by omega)]
end Go.Proofs.YthmiojmlaclgaaaGreatDoor.Fx

/- What the library's functions that package desk calls return, in plain words. -/
namespace Go.Proofs.YthmiojmlaclgaaaGreatDoor.Fx
open Go.RowKit Go.Shelf

theorem itoaZ_calls (z : Int) (h0 : -9223372036854775808 ≤ z) (h1 : z ≤ 9223372036854775807) (w : World) (hL : LD w) :
    Calls Tryz.prog 28 #[.int .i64 z] w fun e w' => e = .returned (.string ⟨(Lib.itoa z).toArray⟩) ∧ Below w.heap.size w w' := by
  have h := Any.strconv_Itoa laysItoa z h0 h1 w hL.pow
  refine Calls.mono (show Calls Tryz.prog 28 _ _ _ from h) ?_
  rintro e w' ⟨rfl, k, os, rfl⟩
  exact ⟨rfl, Lib.below_grow _ _ (Nat.le_refl _) _ _⟩
theorem hasP_calls (s p : ByteArray) (w : World) : Calls Tryz.prog 9 #[.string s, .string p] w fun e w' => e = .returned (.bool (Lib.hasPrefix s.data.toList p.data.toList)) ∧ w' = w :=
  show Calls Tryz.prog 9 _ _ _ from Any.strings_HasPrefix laysHasP s p w
theorem trimP_calls (s p : ByteArray) (w : World) : Calls Tryz.prog 86 #[.string s, .string p] w fun e w' => e = .returned (.string ⟨(Lib.trimPrefix s.data.toList p.data.toList).toArray⟩) ∧ w' = w :=
  show Calls Tryz.prog 86 _ _ _ from Any.strings_TrimPrefix laysTrimP s p w
theorem trimS_calls (s p : ByteArray) (w : World) (hs : s.size ≤ 9223372036854775807) : Calls Tryz.prog 81 #[.string s, .string p] w fun e w' => e = .returned (.string ⟨(Lib.trimSuffix s.data.toList p.data.toList).toArray⟩) ∧ w' = w :=
  show Calls Tryz.prog 81 _ _ _ from Any.strings_TrimSuffix laysTrimS s p w hs
theorem countB_calls (s : ByteArray) (c : UInt8) (w : World) : Calls Tryz.prog 12 #[.string s, .string ⟨#[c]⟩] w fun e w' => e = .returned (.int .i64 (Lib.countByte s.data.toList c)) ∧ w' = w :=
  show Calls Tryz.prog 12 _ _ _ from Any.strings_Count_one laysCount s c w

theorem bas_getD (ws : List (List UInt8)) (i : Nat) (h : i < ws.length) : (bas ws).getD i ByteArray.empty = ⟨(ws.getD i []).toArray⟩ := by
  unfold bas
  simp [List.getD_eq_getElem?_getD, h]
theorem idxS_calls (a : Option Addr) (n c : Nat) (ws : List (List UInt8)) (w : World) (h : LstS w a n c ws) (hn : n ≤ 9223372036854775807) :
    Calls Tryz.prog 38 #[.slice a n c, .string ⟨#[47]⟩] w fun e w' => e = .returned (.int .i64 (slashAt ws)) ∧ w' = w := by
  have hl := h.len
  by_cases h0 : n = 0
  · subst h0
    rw [List.length_eq_zero_iff] at hl
    subst hl
    have k := Any.slices_Index_string_empty laysIdxS a c ⟨#[47]⟩ w
    refine Calls.mono (show Calls Tryz.prog 38 _ _ _ from k) ?_
    rintro e w' ⟨rfl, rfl⟩
    exact ⟨rfl, rfl⟩
  · obtain ⟨b, off, rfl, hb, hc⟩ := h.at (by omega)
    have hbl : (bas ws).length = n := by unfold bas; simp [hl]
    have k := Any.slices_Index_string laysIdxS b off n c (bas ws) ⟨#[47]⟩ w (by omega) hn (fun j hj => by rw [hc j (by omega), bas_getD ws j (by omega)])
    refine Calls.mono (show Calls Tryz.prog 38 _ _ _ from k) ?_
    rintro e w' ⟨rfl, rfl⟩
    refine ⟨?_, rfl⟩
    unfold slashAt
    rw [List.take_of_length_le (by omega)]

/-- How a word is read as a number. -/
def AtoiR (l : List UInt8) (e : Ending) : Prop := (∃ v, Lib.atoiAll l = .ok v ∧ e = .returned (.tuple #[.int .i64 v, .nilIface])) ∨ ((∀ v, Lib.atoiAll l ≠ .ok v) ∧ ∃ v t p, e = .returned (.tuple #[.int .i64 v, .iface t p]))
theorem atoi_calls (l : List UInt8) (hl : l.length ≤ 281474976710656) (w : World) (hL : LD w) :
    Calls Tryz.prog 87 #[.string ⟨l.toArray⟩] w fun e w' => AtoiR l e ∧ Below w.heap.size w w' := by
  have hsz : (⟨l.toArray⟩ : ByteArray).size ≤ 281474976710656 := hl
  cases h : Lib.atoiAll l with
  | ok u =>
    refine Calls.mono (show Calls Tryz.prog 87 _ _ _ from Any.strconv_Atoi_ok laysAtoi ⟨l.toArray⟩ (by omega) u h w) ?_
    rintro e w' ⟨rfl, hw⟩
    refine ⟨.inl ⟨u, h, rfl⟩, ?_⟩
    rcases hw with rfl | ⟨t, rfl⟩
    · exact Below.refl _ _
    · exact Lib.bytesWorld_below _ _ _
  | «syntax» =>
    obtain ⟨tp, p, hv⟩ := hL.syn
    refine Calls.mono (show Calls Tryz.prog 87 _ _ _ from Any.strconv_Atoi_syntax_var laysAtoi ⟨l.toArray⟩ hsz h tp p w hv) ?_
    rintro e w' ⟨N, rfl, _, _, hb⟩
    exact ⟨.inr ⟨fun u e => (by rw [h] at e; cases e), _, _, _, rfl⟩, hb⟩
  | range =>
    obtain ⟨tp, p, hv⟩ := hL.rng
    refine Calls.mono (show Calls Tryz.prog 87 _ _ _ from Any.strconv_Atoi_range_var laysAtoi ⟨l.toArray⟩ hsz h tp p w hv) ?_
    rintro e w' ⟨N, rfl, _, _, hb⟩
    exact ⟨.inr ⟨fun u e => (by rw [h] at e; cases e), _, _, _, rfl⟩, hb⟩
end Go.Proofs.YthmiojmlaclgaaaGreatDoor.Fx

/- What package desk's functions on words and numbers return. -/
namespace Go.Proofs.YthmiojmlaclgaaaGreatDoor.Fx
open Go.RowKit

theorem strEq (x y : List UInt8) : ((⟨x.toArray⟩ : ByteArray).toList == (⟨y.toArray⟩ : ByteArray).toList) = decide (x = y) := by
  by_cases h : x = y
  · subst h; simp
  · rw [str_ne (fun e => h (by have := congrArg (fun b => b.data.toList) e; simpa using this))]
    simp [h]
theorem wordsOf_ne (b : UInt8) (l : List UInt8) : wordsOf b l ≠ [] := by unfold wordsOf; simp
theorem numsO_len : ∀ {ws : List (List UInt8)} {z : List Int}, numsO ws = some z → z.length = ws.length
  | [], z, h => by simp [numsO] at h; subst h; rfl
  | x :: xs, z, h => by
    unfold numsO at h
    cases hx : numO x with
    | none => rw [hx] at h; cases h
    | some v =>
      rw [hx] at h
      cases hs : numsO xs with
      | none => rw [hs] at h; cases h
      | some zs =>
        rw [hs] at h
        simp at h
        subst h
        simp [numsO_len hs]

/-- What a number's reading tells. -/
def NumR (x : List UInt8) (e : Ending) : Prop := (∃ v, numO x = some v ∧ e = .returned (.tuple #[.int .i64 v, .bool true])) ∨ (numO x = none ∧ e = .returned (.tuple #[.int .i64 0, .bool false]))
theorem atoi_bd {l : List UInt8} {v : Int} (h : Lib.atoiAll l = .ok v) : -9223372036854775808 ≤ v ∧ v ≤ 9223372036854775807 := by
  cases l with
  | nil => cases h
  | cons c r =>
    simp only [Lib.atoiAll] at h
    split at h
    · cases h
    · cases h
    · split at h
      · cases h
      · split at h
        · cases h
        · injection h with h
          subst h
          split <;> omega

set_option maxRecDepth 100000 in
set_option maxHeartbeats 1600000 in
theorem numberOf_calls (x : List UInt8) (hx : x.length ≤ 281474976710656) (w : World) (hL : LD w) :
    Calls Tryz.prog 54 #[.string ⟨x.toArray⟩] w fun e w' => NumR x e ∧ Below w.heap.size w w' := by
  have TP := trimP_calls ⟨x.toArray⟩ ⟨#[45]⟩ w
  have HA := Lib.hid (atoi_calls x hx w hL)
  obtain ⟨tl, HTL⟩ : ∃ t : List UInt8, Hid (Lib.trimPrefix x [45] = t) := ⟨_, rfl⟩
  have e1 : Lib.trimPrefix (⟨x.toArray⟩ : ByteArray).data.toList (⟨#[45]⟩ : ByteArray).data.toList = tl := HTL.out
  rw [e1] at TP
  clear e1
  obtain ⟨Y, HY⟩ : ∃ X : ByteArray, Hid ((⟨tl.toArray⟩ : ByteArray) = X) := ⟨_, rfl⟩
  have hy : Y.size = tl.length := by rw [← HY.out]; rfl
  rw [HY.out] at TP
  obtain ⟨X, HX⟩ : ∃ X : ByteArray, Hid ((⟨x.toArray⟩ : ByteArray) = X) := ⟨_, rfl⟩
  rw [HX.out] at TP HA
  rw [HX.out]
  by_cases h10 : tl.length ≤ 10
  · have k1 : ¬ (10 : Int) < (Y.size : Int) := by omega
    go_enter Tryz.func54, Tryz.ntmps54
    go_wp2_with (go_at_call 86; refine TP.mono ?_; rintro e w' ⟨rfl, rfl⟩)
    refine HA.out.mono ?_
    rintro e w1 ⟨hr, hw1⟩
    rcases hr with ⟨v, hv, rfl⟩ | ⟨hv, v, t, p, rfl⟩
    · have hb := atoi_bd hv
      have HV : Hid (Lib.atoiAll x = .ok v) := hv
      have HI := itoaZ_calls v hb.1 hb.2 w1 (hL.below hw1 (Nat.le_refl _))
      clear hv hb
      by_cases hc : Lib.itoa v = x
      · have hcm : ((⟨(Lib.itoa v).toArray⟩ : ByteArray).toList == X.toList) = true := by rw [← HX.out, strEq]; simp [hc]
        obtain ⟨Z, HZ⟩ : ∃ X : ByteArray, Hid ((⟨(Lib.itoa v).toArray⟩ : ByteArray) = X) := ⟨_, rfl⟩
        rw [HZ.out] at HI hcm
        go_wp2_with fail
        refine HI.mono ?_
        rintro e w2 ⟨rfl, hw2⟩
        go_wp2_with fail
        go_ret2
        exact ⟨.inl ⟨v, by unfold numO; rw [HTL.out, if_pos h10, HV.out]; simp [hc], rfl⟩, hw1.trans (hw2.mono hw1.size)⟩
      · have hcm : ((⟨(Lib.itoa v).toArray⟩ : ByteArray).toList == X.toList) = false := by rw [← HX.out, strEq]; simp [hc]
        obtain ⟨Z, HZ⟩ : ∃ X : ByteArray, Hid ((⟨(Lib.itoa v).toArray⟩ : ByteArray) = X) := ⟨_, rfl⟩
        rw [HZ.out] at HI hcm
        go_wp2_with fail
        refine HI.mono ?_
        rintro e w2 ⟨rfl, hw2⟩
        go_wp2_with fail
        go_ret2
        exact ⟨.inr ⟨by unfold numO; rw [HTL.out, if_pos h10, HV.out]; simp [hc], rfl⟩, hw1.trans (hw2.mono hw1.size)⟩
    · have HV : Hid (∀ v, Lib.atoiAll x ≠ .ok v) := hv
      clear hv
      go_wp2_with fail
      go_ret2
      refine ⟨.inr ⟨?_, rfl⟩, hw1⟩
      unfold numO
      rw [HTL.out, if_pos h10]
      cases h : Lib.atoiAll x with
      | ok u => exact absurd h (HV.out u)
      | «syntax» => rfl
      | range => rfl
  · have k1 : (10 : Int) < (Y.size : Int) := by omega
    go_enter Tryz.func54, Tryz.ntmps54
    go_wp2_with (go_at_call 86; refine TP.mono ?_; rintro e w' ⟨rfl, rfl⟩)
    go_ret2
    exact ⟨.inr ⟨by unfold numO; rw [HTL.out, if_neg h10], rfl⟩, Below.refl _ _⟩

/-- What is answered is told as a line. -/
theorem itoa_short {z : Int} (h0 : 0 ≤ z) {k : Nat} (hk : 1 ≤ k) (h : z < (10 ^ k : Nat)) : (Lib.itoa z).length ≤ k := by
  rw [itoa_dg h0]
  exact dg_short hk h0 h
theorem answer_calls (t : List UInt8) (ht : t.length ≤ 1000000) (e0 : Int) (h0 : 0 ≤ e0) (h1 : e0 ≤ 99) (w : World) (hL : LD w) :
    Calls Tryz.prog 14 #[.string ⟨t.toArray⟩, .int .i64 e0] w fun e w' => e = .returned (.string ⟨((if e0 = 0 then t else errA e0) ++ [10]).toArray⟩) ∧ Below w.heap.size w w' := by
  have HI := itoaZ_calls e0 (by omega) (by omega) w hL
  by_cases hz : e0 = 0
  · subst hz
    have HC : Hid ((⟨t.toArray⟩ : ByteArray) ++ ⟨#[10]⟩ = ⟨(t ++ [10]).toArray⟩) := cat_arr t 10
    obtain ⟨X, HX⟩ : ∃ X : ByteArray, Hid ((⟨t.toArray⟩ : ByteArray) = X) := ⟨_, rfl⟩
    have hx : X.size ≤ 1000000 := by rw [← HX.out]; exact ht
    have hx2 : X.size + 1 ≤ 9223372036854775807 := by omega
    rw [HX.out] at HC
    rw [HX.out]
    clear HI
    go_enter Tryz.func14, Tryz.ntmps14
    go_wp2_with fail
    go_ret
    exact ⟨congrArg Ending.returned (congrArg Value.string HC.out), Below.refl _ _⟩
  · have HC : Hid ((⟨([101, 114, 114, 111, 114, 32] : List UInt8).toArray⟩ : ByteArray) ++ ⟨(Lib.itoa e0).toArray⟩ ++ ⟨#[10]⟩ = ⟨(errA e0 ++ [10]).toArray⟩) := by
      show _ = _
      rw [arr_cat2]
      exact (cat_arr _ 10).trans rfl
    have k1 : (e0 == 0) = false := by rw [beq_eq_false_iff_ne]; exact hz
    rw [if_neg hz]
    obtain ⟨Z, HZ⟩ : ∃ X : ByteArray, Hid ((⟨(Lib.itoa e0).toArray⟩ : ByteArray) = X) := ⟨_, rfl⟩
    have hzs : Z.size ≤ 2 := by rw [← HZ.out]; exact itoa_short h0 (by omega) (by omega)
    have hz2 : 6 + Z.size ≤ 9223372036854775807 := by omega
    have hz3 : 6 + Z.size + 1 ≤ 9223372036854775807 := by omega
    rw [HZ.out] at HI HC
    obtain ⟨X, HX⟩ : ∃ X : ByteArray, Hid ((⟨t.toArray⟩ : ByteArray) = X) := ⟨_, rfl⟩
    rw [HX.out]
    go_enter Tryz.func14, Tryz.ntmps14
    go_wp2_with fail
    refine HI.mono ?_
    rintro e w1 ⟨rfl, hw1⟩
    go_wp2_with fail
    go_ret
    exact ⟨congrArg Ending.returned (congrArg Value.string HC.out), hw1⟩

/-- What stands in a text's last line. -/
theorem getLastD_at (ws : List (List UInt8)) : ws.getLastD [] = ws.getD (ws.length - 1) [] := by
  rw [List.getLastD_eq_getLast?, List.getLast?_eq_getElem?, List.getD_eq_getElem?_getD]
theorem LstS.pre {w : World} {a : Option Addr} {n c : Nat} {ws : List (List UInt8)} (h : LstS w a n c ws) {m : Nat} (hm : m ≤ n) : LstS w a m c (ws.take m) := by
  have hl := h.len
  refine ⟨by rw [List.length_take]; omega, Nat.le_trans hm h.cap, ?_⟩
  rcases h.2.2 with h0 | ⟨b, off, e, hs, hc⟩
  · exact .inl (by omega)
  · refine .inr ⟨b, off, e, hs, fun i hi => ?_⟩
    rw [hc i (by omega), List.getD_eq_getElem?_getD, List.getD_eq_getElem?_getD, List.getElem?_take_of_lt hi]
theorem LstS.post {w : World} {b off n c : Nat} {ws : List (List UInt8)} (h : LstS w (some ⟨b, off, none⟩) n c ws) {k : Nat} (hk : k < n) : LstS w (some ⟨b, off + k, none⟩) (n - k) (c - k) (ws.drop k) := by
  have hl := h.len
  have hc := h.cap
  obtain ⟨b', off', e, hs, hcl⟩ := h.at (by omega)
  simp only [Option.some.injEq, Addr.mk.injEq, and_true] at e
  obtain ⟨rfl, rfl⟩ := e
  refine ⟨by rw [List.length_drop]; omega, by omega, .inr ⟨b, off + k, rfl, hs, fun i hi => ?_⟩⟩
  rw [Nat.add_assoc, hcl (k + i) (by omega), List.getD_eq_getElem?_getD, List.getD_eq_getElem?_getD, List.getElem?_drop]

/-- What the cutting of a text into lines tells. -/
def LinesR (s : List UInt8) (e : Ending) (w' : World) : Prop :=
  ((65536 < s.length ∨ 200 < (tlines s).length) ∧ e = .returned (.tuple #[.slice none 0 0, .int .i64 2])) ∨
  (¬ (65536 < s.length ∨ 200 < (tlines s).length) ∧ ∃ a n c, e = .returned (.tuple #[.slice a n c, .int .i64 0]) ∧ LstS w' a n c (tlines s))
end Go.Proofs.YthmiojmlaclgaaaGreatDoor.Fx

/- What package desk's linesOf, wordsOf, isSilent and numbersOf return. -/
namespace Go.Proofs.YthmiojmlaclgaaaGreatDoor.Fx
open Go.RowKit

theorem OwnX.lstS {base : Nat} {w : World} {v : Value} {ws : List (List UInt8)} (h : OwnX 9 base w v (ws.map sv)) : ∃ a c, v = .slice a ws.length c ∧ LstS w a ws.length c ws := by
  by_cases h0 : ws.length = 0
  · rw [List.length_eq_zero_iff] at h0
    subst h0
    rcases h.2 with ⟨rfl, _⟩ | ⟨g, cap, cur, rfl, _⟩
    · exact ⟨none, 0, rfl, rfl, Nat.le_refl _, .inl rfl⟩
    · exact ⟨_, cap, rfl, rfl, Nat.zero_le _, .inl rfl⟩
  · obtain ⟨g, c, rfl, _, hl⟩ := h.strs (by omega)
    exact ⟨_, c, rfl, hl⟩

theorem strEmpty (y : List UInt8) : (⟨y.toArray⟩ : ByteArray).toList.isEmpty = decide (y = []) := by
  have h := strEq y []
  have e : (⟨([] : List UInt8).toArray⟩ : ByteArray).toList = [] := by simp
  rw [e] at h
  rw [← h]
  cases (⟨y.toArray⟩ : ByteArray).toList <;> rfl

set_option maxRecDepth 100000 in
set_option maxHeartbeats 1600000 in
theorem linesOf_calls (s : List UInt8) (hs : s.length ≤ 9223372036854775807) (w : World) (hL : LD w) :
    Calls Tryz.prog 13 #[.string ⟨s.toArray⟩] w fun e w' => LinesR s e w' ∧ Below w.heap.size w w' := by
  by_cases hbig : 65536 < s.length
  · obtain ⟨X, HX⟩ : ∃ X : ByteArray, Hid ((⟨s.toArray⟩ : ByteArray) = X) := ⟨_, rfl⟩
    have hx : X.size = s.length := by rw [← HX.out]; rfl
    have k1 : (65536 : Int) < (X.size : Int) := by omega
    rw [HX.out]
    go_enter Tryz.func13, Tryz.ntmps13
    go_wp2_with fail
    go_ret2
    exact ⟨.inl ⟨.inl hbig, rfl⟩, Below.refl _ _⟩
  · have SP := Lib.hid (ssplit_calls s 10 (by omega) w hL)
    obtain ⟨X, HX⟩ : ∃ X : ByteArray, Hid ((⟨s.toArray⟩ : ByteArray) = X) := ⟨_, rfl⟩
    have hx : X.size = s.length := by rw [← HX.out]; rfl
    have k1 : ¬ (65536 : Int) < (X.size : Int) := by omega
    have HB : Hid (¬ 65536 < s.length) := hbig
    have HW := words_short 10 s
    have hne := wordsOf_ne 10 s
    have HTL : Hid (tlines s = if (wordsOf 10 s).getLastD [] = [] then (wordsOf 10 s).dropLast else wordsOf 10 s) := rfl
    rw [HX.out] at SP
    rw [HX.out]
    go_enter Tryz.func13, Tryz.ntmps13
    go_wp2_with fail
    refine SP.out.mono ?_
    rintro e w1 ⟨n, a, rfl, ls, hw1⟩
    have hln := ls.len
    generalize wordsOf 10 s = W at *
    have hn1 : 1 ≤ n := by
      cases W with
      | nil => exact absurd rfl hne
      | cons x y => simp at hln; omega
    have hn2 : n ≤ 70000 := by omega
    obtain ⟨m, rfl⟩ : ∃ m, n = m + 1 := ⟨n - 1, by omega⟩
    obtain ⟨b, off, rfl, hb, hc⟩ := ls.at (by omega)
    have c1 := hc m (by omega)
    clear hc
    have elast : W.getLastD [] = W.getD m [] := by rw [getLastD_at, hln]; rfl
    have edrop : W.dropLast = W.take m := by rw [List.dropLast_eq_take, hln]; rfl
    rw [elast, edrop] at HTL
    obtain ⟨Y, HY⟩ : ∃ X : ByteArray, Hid ((⟨(W.getD m []).toArray⟩ : ByteArray) = X) := ⟨_, rfl⟩
    have lp := ls.pre (m := m) (by omega)
    have q1 : (m : Int) < (m : Int) + 1 := by omega
    have q2 : (m : Int) ≤ (m : Int) + 1 := by omega
    have q3 : (0 : Int) ≤ (m : Int) := by omega
    by_cases hl : W.getD m [] = []
    · have hcm : Y.toList.isEmpty = true := by rw [← HY.out, strEmpty]; exact decide_eq_true hl
      rw [if_pos hl] at HTL
      rw [HY.out] at c1
      have HTN : Hid ((tlines s).length = m) := by show _ = _; rw [HTL.out]; exact lp.len
      by_cases h200 : 200 < m
      · have k2 : (200 : Int) < (m : Int) := by omega
        go_wp2_with fail
        go_ret2
        exact ⟨.inl ⟨.inr (by rw [HTN.out]; exact h200), rfl⟩, hw1⟩
      · have k2 : ¬ (200 : Int) < (m : Int) := by omega
        go_wp2_with fail
        go_ret2
        exact ⟨.inr ⟨fun h => h.elim HB.out (fun h => h200 (by rw [HTN.out] at h; exact h)), _, _, _, rfl, by rw [HTL.out]; exact lp⟩, hw1⟩
    · have hcm : Y.toList.isEmpty = false := by rw [← HY.out, strEmpty]; exact decide_eq_false hl
      rw [if_neg hl] at HTL
      rw [HY.out] at c1
      have HTN : Hid ((tlines s).length = m + 1) := by show _ = _; rw [HTL.out]; exact ls.len
      by_cases h200 : 200 < m + 1
      · have k2 : (200 : Int) < (m : Int) + 1 := by omega
        go_wp2_with fail
        go_ret2
        exact ⟨.inl ⟨.inr (by rw [HTN.out]; exact h200), rfl⟩, hw1⟩
      · have k2 : ¬ (200 : Int) < (m : Int) + 1 := by omega
        go_wp2_with fail
        go_ret2
        exact ⟨.inr ⟨fun h => h.elim HB.out (fun h => h200 (by rw [HTN.out] at h; exact h)), _, _, _, rfl, by rw [HTL.out]; exact ls⟩, hw1⟩

theorem filter_snoc {W : List (List UInt8)} {k : Nat} (h : k < W.length) : (W.take (k + 1)).filter (fun p => !p.isEmpty) = (W.take k).filter (fun p => !p.isEmpty) ++ (if W.getD k [] = [] then [] else [W.getD k []]) := by
  rw [List.take_add_one, List.filter_append, List.getD_eq_getElem?_getD, List.getElem?_eq_getElem h]
  by_cases e : W[k] = []
  · simp [e]
  · simp [e]

set_option maxRecDepth 100000 in
set_option maxHeartbeats 1600000 in
theorem dwordsOf_calls (l : List UInt8) (hl : l.length ≤ 65536) (w : World) (hL : LD w) :
    Calls Tryz.prog 16 #[.string ⟨l.toArray⟩] w fun e w' => ∃ a n c, e = .returned (.slice a n c) ∧ LstS w' a n c (lwords l) ∧ Below w.heap.size w w' := by
  have SP := Lib.hid (ssplit_calls l 32 (by omega) w hL)
  obtain ⟨X, HX⟩ : ∃ X : ByteArray, Hid ((⟨l.toArray⟩ : ByteArray) = X) := ⟨_, rfl⟩
  have HW := words_short 32 l
  have HLW : Hid (lwords l = (wordsOf 32 l).filter (fun p => !p.isEmpty)) := rfl
  rw [HX.out] at SP
  rw [HX.out]
  go_enter Tryz.func16, Tryz.ntmps16
  go_wp2_with fail
  refine SP.out.mono ?_
  rintro e w1 ⟨n, a, rfl, ls, hw1⟩
  have hln := ls.len
  generalize wordsOf 32 l = W at *
  have hn2 : n ≤ 65537 := by omega
  clear HW SP
  go_wp2_with fail
  go_loopw [3, 9] (fun v i wr => ∃ k : Nat, k ≤ n ∧ i = .int .i64 k ∧ OwnX 9 w1.heap.size wr v (((W.take k).filter (fun p => !p.isEmpty)).map sv) ∧ Below w1.heap.size w1 wr) (fun _ i _ => n - (intOf i).toNat)
  case atStart => exact ⟨0, Nat.zero_le _, rfl, OwnX.nil _ _ _, Below.refl _ _⟩
  case round =>
    obtain ⟨k, hk, rfl, hO, hB⟩ := hrel
    by_cases hlt : k < n
    · obtain ⟨b1, o1, rfl, g1, c1⟩ := ls.at1b hB (Nat.le_refl _) hlt
      have HF := Lib.hid (filter_snoc (W := W) (k := k) (by omega))
      have hfl : ((W.take k).filter (fun p => !p.isEmpty)).length ≤ 65537 := Nat.le_trans (List.length_filter_le _ _) (by rw [List.length_take]; omega)
      obtain ⟨F, HFL⟩ : ∃ t, Hid ((W.take k).filter (fun p => !p.isEmpty) = t) := ⟨_, rfl⟩
      rw [HFL.out] at hO HF hfl
      by_cases he : W.getD k [] = []
      · rw [if_pos he, List.append_nil] at HF
        obtain ⟨Y, HY⟩ : ∃ X : ByteArray, Hid ((⟨(W.getD k []).toArray⟩ : ByteArray) = X) := ⟨_, rfl⟩
        have hcm : Y.toList.isEmpty = true := by rw [← HY.out, strEmpty]; exact decide_eq_true he
        rw [HY.out] at c1
        go_wp2_with fail
        go_roundw
        case rel => exact ⟨k + 1, by omega, by go_num, by rw [HF.out]; exact hO, hB⟩
        case measure => simp [intOf]; omega
      · rw [if_neg he] at HF
        obtain ⟨y, HYL⟩ : ∃ t, Hid (W.getD k [] = t) := ⟨_, rfl⟩
        rw [HYL.out] at HF he c1
        have hcm : (⟨y.toArray⟩ : ByteArray).toList.isEmpty = false := by rw [strEmpty]; exact decide_eq_false he
        obtain ⟨Y, HY⟩ : ∃ X : ByteArray, Hid ((⟨y.toArray⟩ : ByteArray) = X) := ⟨_, rfl⟩
        rw [HY.out] at c1 hcm
        have hle := hB.size
        go_wp2_with (at_builtin; refine wpList_append_x (T := 9) Tryz.underlying24 infoStr rfl (by decide) (by rfl) _ _ (by rfl) w1.heap.size _ (F.map sv) (.string Y) wr.heap.size w1 (by rfl) (by rfl) (by exact hO.below (low_alloc _ _)) (by exact cell_new _ _ _) (by rfl) (by rw [List.length_map]; omega) (by simp; omega) (by exact hB.alloc hle _) ?_; intro v2 w2 hO2 hB2 _ _)
        go_roundw
        case rel => exact ⟨k + 1, by omega, by go_num, by rw [HF.out, List.map_append, List.map_singleton]; unfold sv at hO2 ⊢; rw [HY.out]; exact hO2, hB2⟩
        case measure => simp [intOf]; omega
    · obtain rfl : k = n := by omega
      have HO := hO
      rw [List.take_of_length_le (by omega)] at HO
      obtain ⟨a2, c2, rfl, hl2⟩ := HO.lstS
      rw [← HLW.out] at hl2
      rw [← HLW.out]
      go_wp2_with fail
      go_ret
      exact ⟨_, _, _, rfl, hl2, hw1.trans (hB.mono hw1.size)⟩

set_option maxRecDepth 100000 in
theorem isSilent_calls (a : Option Addr) (n c : Nat) (ws : List (List UInt8)) (w : World) (h : LstS w a n c ws) : Calls Tryz.prog 17 #[.slice a n c] w fun e w' => e = .returned (.bool (silB ws)) ∧ w' = w := by
  have hln := h.len
  by_cases h0 : n = 0
  · subst h0
    rw [List.length_eq_zero_iff] at hln
    subst hln
    go_enter Tryz.func17, Tryz.ntmps17
    go_wp2_with fail
    go_ret
    exact ⟨rfl, rfl⟩
  · obtain ⟨b, off, rfl, hb, hc⟩ := h.at (by omega)
    have c0 := hc 0 (by omega)
    clear hc
    obtain ⟨x, HXL⟩ : ∃ t, Hid (ws.getD 0 [] = t) := ⟨_, rfl⟩
    have HP := hasP_calls ⟨x.toArray⟩ ⟨#[35]⟩ w
    have HS : Hid (Lib.hasPrefix (⟨x.toArray⟩ : ByteArray).data.toList (⟨#[35]⟩ : ByteArray).data.toList = silB ws) := by
      show _ = _
      have e1 : ws.headD [] = x := by rw [← HXL.out]; cases ws <;> rfl
      have e2 : decide (ws = []) = false := by
        cases ws with
        | nil => simp at hln; omega
        | cons _ _ => rfl
      unfold silB
      rw [e1, e2]
      show List.isPrefixOf [35] x = _
      cases x with
      | nil => rfl
      | cons y r =>
        show (35 == y && true) = (false || decide (y = 35))
        rw [Bool.and_true, Bool.false_or]
        by_cases h : y = 35
        · subst h; rfl
        · rw [decide_eq_false h]
          exact beq_eq_false_iff_ne.2 (fun e => h e.symm)
    rw [HS.out] at HP
    rw [HXL.out] at c0
    rw [Nat.add_zero] at c0
    obtain ⟨X, HX⟩ : ∃ X : ByteArray, Hid ((⟨x.toArray⟩ : ByteArray) = X) := ⟨_, rfl⟩
    rw [HX.out] at c0 HP
    have k1 : ((n : Int) == 0) = false := by rw [beq_eq_false_iff_ne]; omega
    have k2 : (0 : Int) < (n : Int) := by omega
    have k3 : 0 < n := by omega
    obtain ⟨B, HBB⟩ : ∃ t, Hid (silB ws = t) := ⟨_, rfl⟩
    rw [HBB.out] at HP
    rw [HBB.out]
    go_enter Tryz.func17, Tryz.ntmps17
    go_wp2_with (go_at_call 9; refine HP.mono ?_; rintro e w' ⟨rfl, rfl⟩)
    go_ret
    exact ⟨rfl, rfl⟩
end Go.Proofs.YthmiojmlaclgaaaGreatDoor.Fx

/- What package desk's numbersOf and exampleOf return. -/
namespace Go.Proofs.YthmiojmlaclgaaaGreatDoor.Fx
open Go.RowKit

/-- The number that a word tells, if it tells one. -/
def zv (ws : List (List UInt8)) (i : Nat) : Int := (numO (ws.getD i [])).getD 0
theorem numsO_all : ∀ (ws : List (List UInt8)), (∀ i, i < ws.length → (numO (ws.getD i [])).isSome = true) → numsO ws = some ((List.range ws.length).map (zv ws))
  | [], _ => rfl
  | x :: xs, h => by
    have h0 := h 0 (by simp)
    have ih := numsO_all xs (fun i hi => h (i + 1) (by simp; omega))
    obtain ⟨v, hv⟩ := Option.isSome_iff_exists.1 h0
    have hv' : numO x = some v := hv
    unfold numsO
    rw [hv', ih]
    simp only [Option.map_some, List.length_cons, List.range_succ_eq_map, List.map_cons, List.map_map]
    have e0 : zv (x :: xs) 0 = v := by unfold zv; show (numO x).getD 0 = v; rw [hv']; rfl
    rw [e0]
    rfl
theorem numsO_none : ∀ (ws : List (List UInt8)) (i : Nat), i < ws.length → numO (ws.getD i []) = none → numsO ws = none
  | [], i, h, _ => by simp at h
  | x :: xs, 0, _, h => by
    have h' : numO x = none := h
    unfold numsO
    rw [h']
  | x :: xs, i + 1, hi, h => by
    have ih := numsO_none xs i (by simp at hi; omega) h
    unfold numsO
    rw [ih]
    cases numO x <;> rfl

/-- A block is a row of integers. -/
def TyI (w : World) (g : Nat) : Prop := ∃ cs fz, w.heap[g]? = some (.cells cs 3 fz)
theorem TyI.lt {w : World} {g : Nat} (h : TyI w g) : g < w.heap.size := by
  obtain ⟨_, _, e⟩ := h
  exact (Array.getElem?_eq_some_iff.1 e).1
theorem TyI.of {w w' : World} {g : Nat} (h : TyI w g) (e : w'.heap[g]? = w.heap[g]?) : TyI w' g := by
  obtain ⟨cs, fz, h⟩ := h
  exact ⟨cs, fz, e.trans h⟩
theorem TyI.far {w : World} {g b i : Nat} {v : Value} (h : TyI w g) (hb : g ≠ b) : TyI (w.setCell ⟨b, i, none⟩ v) g := h.of (Below.heap_setCell w ⟨b, i, none⟩ v g hb)
theorem TyI.row {w : World} {g n : Nat} {f : Nat → Value} (h : w.rowIs g 3 n f) : TyI w g := by
  obtain ⟨c, e, _⟩ := h
  exact ⟨_, _, e⟩
/-- What the reading of words as numbers tells. -/
def NumsR (ws : List (List UInt8)) (n : Nat) (w : World) (e : Ending) (w' : World) : Prop :=
  (∃ z, numsO ws = some z ∧ e = .returned (.tuple #[.slice (some ⟨w.heap.size, 0, none⟩) n n, .bool true]) ∧ Lst w' (some ⟨w.heap.size, 0, none⟩) n n z ∧ w.heap.size < w'.heap.size ∧ TyI w' w.heap.size) ∨ (numsO ws = none ∧ e = .returned (.tuple #[.slice none 0 0, .bool false]))

set_option maxRecDepth 100000 in
set_option maxHeartbeats 1600000 in
theorem numbersOf_calls (a : Option Addr) (n c : Nat) (ws : List (List UInt8)) (w : World) (hl : LstS w a n c ws) (hn : n ≤ 70000) (hw : ∀ i, (ws.getD i []).length ≤ 70000) (hL : LD w) :
    Calls Tryz.prog 32 #[.slice a n c] w fun e w' => NumsR ws n w e w' ∧ Below w.heap.size w w' := by
  have HN : Hid (ws.length = n) := hl.len
  have HW : Hid (∀ i, (ws.getD i []).length ≤ 70000) := hw
  have hmk := run_make_row' (P := Tryz.prog) 66 3 (.int .i64 0) 8 Tryz.underlying66 infoIntX rfl .i64 .i64 n (by omega) (by omega)
  clear hw
  go_enter Tryz.func32, Tryz.ntmps32
  go_wp2
  go_loopw [14] (fun i wr => ∃ k : Nat, k ≤ n ∧ i = .int .i64 k ∧ Hid (∀ j, j < k → (numO (ws.getD j [])).isSome = true) ∧ wr.rowIs w.heap.size 3 n (rowTo (zv ws) k) ∧ Below w.heap.size w wr) (fun i _ => n - (intOf i).toNat)
  case atStart => exact ⟨0, Nat.zero_le _, rfl, fun j hj => by omega, rowTo_made (World.rowIs_made _ _ _ _), (Below.refl _ _).alloc (Nat.le_refl _) _⟩
  case round =>
    obtain ⟨k, hk, rfl, HG, R, hB⟩ := hrel
    by_cases hlt : k < n
    · obtain ⟨b1, o1, rfl, g1, c1⟩ := hl.at1b hB (Nat.le_refl _) hlt
      have hx := HW.out k
      have LR := hL.below hB (Nat.le_refl _)
      have HU := Lib.hid (numberOf_calls (ws.getD k []) (by omega) wr LR)
      obtain ⟨X, HX⟩ : ∃ X : ByteArray, Hid ((⟨(ws.getD k []).toArray⟩ : ByteArray) = X) := ⟨_, rfl⟩
      rw [HX.out] at c1 HU
      clear hx
      go_wp2_with fail
      refine HU.out.mono ?_
      rintro e w2 ⟨hu, hw2⟩
      have R2 := R.of_block (hw2.block _ R.lt)
      have hB2 := hB.trans (hw2.mono hB.size)
      rcases hu with ⟨v, hv, rfl⟩ | ⟨hv, rfl⟩
      · have d3 := rowTo_cell R2 hlt
        have z3 := R2.frozen k
        have HZ : Hid (zv ws k = v) := by show _ = _; unfold zv; rw [hv]; rfl
        have HG2 : Hid (∀ j, j < k + 1 → (numO (ws.getD j [])).isSome = true) := fun j hj => by
          by_cases e : j = k
          · subst e; rw [hv]; rfl
          · exact HG.out j (by omega)
        have HR3 : Hid ((w2.setCell ⟨w.heap.size, k, none⟩ (.int .i64 v)).rowIs w.heap.size 3 n (rowTo (zv ws) (k + 1))) := by
          have := rowTo_step R2
          rw [HZ.out] at this
          exact this
        clear hv
        go_wp2_with fail
        go_roundw
        case rel => exact ⟨k + 1, by omega, by go_num, HG2, HR3.out, hB2.setCell (p := ⟨w.heap.size, k, none⟩) (Nat.le_refl _) _⟩
        case measure => simp [intOf]; omega
      · have HE : Hid (numsO ws = none) := numsO_none ws k (by rw [HN.out]; exact hlt) hv
        clear hv
        go_wp2_with fail
        go_ret2
        exact ⟨.inr ⟨HE.out, rfl⟩, hB2⟩
    · obtain rfl : k = n := by omega
      have LW := rowTo_lst R
      have HE : Hid (numsO ws = some ((List.range k).map (zv ws))) := by
        have := numsO_all ws (fun i hi => HG.out i (by rw [HN.out] at hi; exact hi))
        rw [HN.out] at this
        exact this
      go_wp2_with fail
      go_ret2
      exact ⟨.inl ⟨_, HE.out, rfl, LW, R.lt, TyI.row R⟩, hB⟩

/-- What the reading of an example tells. -/
def ExR (ws : List (List UInt8)) (w : World) (e : Ending) (w' : World) : Prop :=
  (∃ x I O, exO ws = some (I, O) ∧ e = .returned (.tuple #[Exm.val x, .bool true]) ∧ InEx w' x I O ∧ (∀ g o, x.a = some ⟨g, o, none⟩ → w.heap.size ≤ g ∧ TyI w' g) ∧ (∀ g o, x.b = some ⟨g, o, none⟩ → w.heap.size ≤ g ∧ TyI w' g)) ∨ (exO ws = none ∧ e = .returned (.tuple #[.agg #[.slice none 0 0, .slice none 0 0], .bool false]))
theorem exO_bad {ws : List (List UInt8)} {k : Nat} (hk : slashAt ws = (k : Int)) (h : numsO (ws.take k) = none ∨ numsO (ws.drop (k + 1)) = none) : exO ws = none := by
  unfold exO
  rw [if_neg (by omega), hk]
  rw [Int.toNat_natCast]
  rcases h with h | h
  · rw [h]
  · rw [h]
    cases numsO (ws.take k) <;> rfl
theorem exO_good {ws : List (List UInt8)} {k : Nat} (hk : slashAt ws = (k : Int)) {I O : List Int} (h1 : numsO (ws.take k) = some I) (h2 : numsO (ws.drop (k + 1)) = some O) : exO ws = some (I, O) := by
  unfold exO
  rw [if_neg (by omega), hk]
  rw [Int.toNat_natCast, h1, h2]
theorem idxFrom_le (x : ByteArray) : ∀ (zs : List ByteArray) (i : Nat), Lib.idxFromS zs x i = -1 ∨ ∃ k : Nat, Lib.idxFromS zs x i = ((i + k : Nat) : Int) ∧ k < zs.length
  | [], i => .inl rfl
  | z :: zs, i => by
    unfold Lib.idxFromS
    split
    · exact .inr ⟨0, rfl, by simp⟩
    · rcases idxFrom_le x zs (i + 1) with h | ⟨k, h, hk⟩
      · exact .inl h
      · exact .inr ⟨k + 1, by rw [h]; congr 1; omega, by simp; omega⟩
theorem slash_ways (ws : List (List UInt8)) : slashAt ws = -1 ∨ ∃ k : Nat, slashAt ws = (k : Int) ∧ k < ws.length := by
  unfold slashAt Lib.idxOfS
  rcases idxFrom_le ⟨#[47]⟩ (bas ws) 0 with h | ⟨k, h, hk⟩
  · exact .inl h
  · exact .inr ⟨k, by rw [h]; simp, by unfold bas at hk; simpa using hk⟩
end Go.Proofs.YthmiojmlaclgaaaGreatDoor.Fx
