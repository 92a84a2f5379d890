/- What coachkeep.pairs tells, in plain numbers, and that two ways to one root are a collision (Merkle); no function of the program is spoken of. -/
import Derived.Test.YtkikhfdkibekgaaGreatJ20
import Derived.Test.YtkikhfdkibekgaaGreatJ08
import Derived.Test.YtkikhfdkibekgaaGreatJ22
import Derived.Deep.DeepCutAuto
import Derived.Deep.CutBlock
import Derived.Test.YtkikhfdkibekgaaGreatJ07
import Derived.Test.YtkikhfdkibekgaaGreatJ25
import Derived.BigRegion
import Derived.Deep.RegionHeld3
namespace Go.Proofs.YtkikhfdkibekgaaGreat.Fx
open Go.RowKit

/-- The turns from the root down: is it the right one? -/
def turnF : Nat → Nat → Nat → List Bool
  | 0, _, _ => []
  | f + 1, k, m => if m ≤ 1 then [] else (if cutN m ≤ k then true :: turnF f (k - cutN m) (m - cutN m) else false :: turnF f k (cutN m))
theorem turnF_same : ∀ (f g k m : Nat), m ≤ f → m ≤ g → turnF f k m = turnF g k m
  | 0, 0, _, _, _, _ => rfl
  | 0, g + 1, k, m, h, _ => by unfold turnF; rw [if_pos (by omega)]
  | f + 1, 0, k, m, _, h => by unfold turnF; rw [if_pos (by omega)]
  | f + 1, g + 1, k, m, h1, h2 => by
    unfold turnF
    by_cases h : m ≤ 1
    · rw [if_pos h, if_pos h]
    · obtain ⟨c1, c2, c3⟩ := cutN_lt (show 2 ≤ m by omega)
      rw [if_neg h, if_neg h, turnF_same f g (k - cutN m) (m - cutN m) (by omega) (by omega), turnF_same f g k (cutN m) (by omega) (by omega)]
def turnP (k m : Nat) : List Bool := turnF m k m
theorem turnP_one {m : Nat} (h : m ≤ 1) (k : Nat) : turnP k m = [] := by
  unfold turnP
  cases m with
  | zero => rfl
  | succ m => unfold turnF; rw [if_pos h]
theorem turnP_right {k m : Nat} (h : 2 ≤ m) (hk : cutN m ≤ k) : turnP k m = true :: turnP (k - cutN m) (m - cutN m) := by
  obtain ⟨c1, c2, c3⟩ := cutN_lt h
  unfold turnP
  cases m with
  | zero => omega
  | succ m =>
    rw [turnF, if_neg (by omega), if_pos hk, turnF_same m (m + 1 - cutN (m + 1)) _ _ (by omega) (Nat.le_refl _)]
theorem turnP_left {k m : Nat} (h : 2 ≤ m) (hk : ¬ cutN m ≤ k) : turnP k m = false :: turnP k (cutN m) := by
  obtain ⟨c1, c2, c3⟩ := cutN_lt h
  unfold turnP
  cases m with
  | zero => omega
  | succ m =>
    rw [turnF, if_neg (by omega), if_neg hk, turnF_same m (cutN (m + 1)) _ _ (by omega) (Nat.le_refl _)]
theorem turnP_len : ∀ (f k m : Nat), m ≤ f → k < m → (turnP k m).length = deepP k m
  | 0, k, m, h, hk => by omega
  | f + 1, k, m, h, hk => by
    by_cases h1 : m ≤ 1
    · rw [turnP_one h1, deepP_one h1]; rfl
    · obtain ⟨c1, c2, c3⟩ := cutN_lt (show 2 ≤ m by omega)
      by_cases h2 : cutN m ≤ k
      · rw [turnP_right (by omega) h2, deepP_right (by omega) (by omega), List.length_cons, turnP_len f _ _ (by omega) (by omega)]; omega
      · rw [turnP_left (by omega) h2, deepP_left (by omega) (by omega), List.length_cons, turnP_len f _ _ (by omega) (by omega)]; omega

/-- What stands below at each height: from the leaf on, by the turns (the lowest is the last of them). -/
def nowB (ts : List Bool) (x : Int) (ps : List Int) : Nat → Int
  | 0 => x
  | j + 1 => if ts.getD (ts.length - 1 - j) false = true then ofP 3 [ps.getD j 0 % 2305843009213693951, nowB ts x ps j] else ofP 3 [nowB ts x ps j, ps.getD j 0 % 2305843009213693951]
/-- What is digested at each height. -/
def pairB (ts : List Bool) (x : Int) (ps : List Int) (j : Nat) : List Int :=
  if ts.getD (ts.length - 1 - j) false = true then [3, ps.getD j 0 % 2305843009213693951, nowB ts x ps j] else [3, nowB ts x ps j, ps.getD j 0 % 2305843009213693951]
/-- All that is digested, from the chunk to the root. -/
def allB (n : Int) (ts : List Bool) (low : List Int) (x : Int) (ps : List Int) (k : Nat) : List Int :=
  if k = 0 then 4 :: low else if k ≤ ps.length then pairB ts x ps (k - 1) else [3, n, nowB ts x ps ps.length]
def madeP (l : List Int) : Int := ofP (l.headD 0) l.tail
theorem made_pair (ts : List Bool) (x : Int) (ps : List Int) (j : Nat) : madeP (pairB ts x ps j) = nowB ts x ps (j + 1) := by
  unfold pairB
  rw [nowB]
  by_cases h : ts.getD (ts.length - 1 - j) false = true
  · rw [if_pos h, if_pos h]; rfl
  · rw [if_neg h, if_neg h]; rfl
/-- Where no two unlike lists make the same, and the same is made at the root, the chunks are the same. -/
theorem binds (n : Int) (ts : List Bool) (l1 l2 : List Int) (x1 x2 : Int) (p1 p2 : List Int) (h1 : madeP (4 :: l1) = x1) (h2 : madeP (4 :: l2) = x2) (hl : p1.length = p2.length)
    (hr : madeP [3, n, nowB ts x1 p1 p1.length] = madeP [3, n, nowB ts x2 p2 p2.length])
    (hno : ∀ k, k < p1.length + 2 → allB n ts l1 x1 p1 k = allB n ts l2 x2 p2 k ∨ madeP (allB n ts l1 x1 p1 k) ≠ madeP (allB n ts l2 x2 p2 k)) : l1 = l2 := by
  have top : nowB ts x1 p1 p1.length = nowB ts x2 p2 p2.length := by
    have h := hno (p1.length + 1) (by omega)
    have e1 : allB n ts l1 x1 p1 (p1.length + 1) = [3, n, nowB ts x1 p1 p1.length] := by unfold allB; rw [if_neg (by omega), if_neg (by omega)]
    have e2 : allB n ts l2 x2 p2 (p1.length + 1) = [3, n, nowB ts x2 p2 p2.length] := by unfold allB; rw [if_neg (by omega), if_neg (by omega)]
    rw [e1, e2] at h
    rcases h with h | h
    · simpa using h
    · exact absurd hr h
  have down : ∀ d, d ≤ p1.length → nowB ts x1 p1 (p1.length - d) = nowB ts x2 p2 (p1.length - d) := by
    intro d
    induction d with
    | zero => intro _; rw [Nat.sub_zero, top, hl]
    | succ d ih =>
      intro hd
      have ih1 := ih (by omega)
      obtain ⟨j, hj⟩ : ∃ j, p1.length - d = j + 1 := ⟨p1.length - d - 1, by omega⟩
      have hj2 : p1.length - (d + 1) = j := by omega
      rw [hj2]
      rw [hj] at ih1
      have h := hno (j + 1) (by omega)
      have e1 : allB n ts l1 x1 p1 (j + 1) = pairB ts x1 p1 j := by unfold allB; rw [if_neg (by omega), if_pos (by omega)]; rfl
      have e2 : allB n ts l2 x2 p2 (j + 1) = pairB ts x2 p2 j := by unfold allB; rw [if_neg (by omega), if_pos (by omega)]; rfl
      rw [e1, e2, made_pair, made_pair] at h
      rcases h with h | h
      · unfold pairB at h
        by_cases ht : ts.getD (ts.length - 1 - j) false = true
        · rw [if_pos ht, if_pos ht] at h
          simp only [List.cons.injEq, true_and, and_true] at h
          exact h.2
        · rw [if_neg ht, if_neg ht] at h
          simp only [List.cons.injEq, true_and, and_true] at h
          exact h.1
      · exact absurd ih1 h
  have bot := down p1.length (Nat.le_refl _)
  rw [Nat.sub_self] at bot
  have hx : x1 = x2 := bot
  have h := hno 0 (by omega)
  have e1 : allB n ts l1 x1 p1 0 = 4 :: l1 := by unfold allB; rw [if_pos rfl]
  have e2 : allB n ts l2 x2 p2 0 = 4 :: l2 := by unfold allB; rw [if_pos rfl]
  rw [e1, e2, h1, h2] at h
  rcases h with h | h
  · simpa using h
  · exact absurd hx h
/-- A digest takes its numbers by P. -/
theorem ofTo_mod (kind : Int) (l1 l2 : List Int) (hl : l1.length = l2.length) : ∀ k, (∀ i, i < k → l1.getD i 0 % 2305843009213693951 = l2.getD i 0 % 2305843009213693951) → ofTo kind l1 k = ofTo kind l2 k
  | 0, _ => by unfold ofTo; rw [hl]
  | k + 1, h => by
    have ih := ofTo_mod kind l1 l2 hl k (fun i hi => h i (by omega))
    have e : ∀ a, addP a (l1.getD k 0) = addP a (l2.getD k 0) := fun a => by rw [← addP_mod a (l1.getD k 0), h k (by omega), addP_mod]
    rw [ofTo, ofTo, ih, e]
theorem ofP_two_mod (kind a b c d : Int) (h1 : a % 2305843009213693951 = c % 2305843009213693951) (h2 : b % 2305843009213693951 = d % 2305843009213693951) : ofP kind [a, b] = ofP kind [c, d] := by
  unfold ofP
  rw [show ([a, b] : List Int).length = 2 from rfl, show ([c, d] : List Int).length = 2 from rfl]
  rw [ofTo_mod kind [a, b] [c, d] rfl 2 (fun i hi => by
    rcases (show i = 0 ∨ i = 1 by omega) with rfl | rfl
    · exact h1
    · exact h2)]
theorem now_tail (t : Bool) (ts : List Bool) (x : Int) (ps : List Int) : ∀ j, j ≤ ts.length → nowB (t :: ts) x ps j = nowB ts x (ps.take ts.length) j
  | 0, _ => rfl
  | j + 1, h => by
    have ih := now_tail t ts x ps j (by omega)
    have e1 : (t :: ts).getD ((t :: ts).length - 1 - j) false = ts.getD (ts.length - 1 - j) false := by
      rw [List.length_cons, show ts.length + 1 - 1 - j = (ts.length - 1 - j) + 1 by omega]
      rfl
    have e2 : (ps.take ts.length).getD j 0 = ps.getD j 0 := by
      rw [List.getD_eq_getElem?_getD, List.getElem?_take_of_lt (by omega), ← List.getD_eq_getElem?_getD]
    rw [nowB, nowB, ih, e1, e2]
/-- By the turns one comes to the top of the tree. -/
theorem now_up : ∀ (f i m : Nat) (x : Int) (ps : List Int), m ≤ f → i < m → ps.length = deepP i m → nowB (turnP i m) x ps ps.length = upP i m x ps
  | 0, i, m, x, ps, h, hi, _ => by omega
  | f + 1, i, m, x, ps, h, hi, hp => by
    by_cases h1 : m ≤ 1
    · rw [deepP_one h1] at hp
      rw [hp, upP_one h1]; rfl
    · obtain ⟨c1, c2, c3⟩ := cutN_lt (show 2 ≤ m by omega)
      by_cases h2 : cutN m ≤ i
      · have hd := deepP_right (i := i) (n := m) (by omega) (by omega)
        have hl := turnP_len f (i - cutN m) (m - cutN m) (by omega) (by omega)
        obtain ⟨L, hL⟩ : ∃ L, ps.length = L + 1 := ⟨deepP (i - cutN m) (m - cutN m), by omega⟩
        have hLt : (turnP (i - cutN m) (m - cutN m)).length = L := by omega
        have hpl : (ps.take L).length = L := by rw [List.length_take]; omega
        have ih := now_up f (i - cutN m) (m - cutN m) x (ps.take L) (by omega) (by omega) (by omega)
        rw [hpl] at ih
        rw [turnP_right (by omega) h2, hL, upP_right (by omega) (by omega), hL, Nat.add_sub_cancel, nowB, now_tail true _ x ps L (by omega), hLt, ih]
        rw [if_pos (by rw [List.length_cons, hLt, show L + 1 - 1 - L = 0 by omega]; rfl)]
        exact ofP_two_mod 3 _ _ _ _ (by omega) rfl
      · have hd := deepP_left (i := i) (n := m) (by omega) (by omega)
        have hl := turnP_len f i (cutN m) (by omega) (by omega)
        obtain ⟨L, hL⟩ : ∃ L, ps.length = L + 1 := ⟨deepP i (cutN m), by omega⟩
        have hLt : (turnP i (cutN m)).length = L := by omega
        have hpl : (ps.take L).length = L := by rw [List.length_take]; omega
        have ih := now_up f i (cutN m) x (ps.take L) (by omega) (by omega) (by omega)
        rw [hpl] at ih
        rw [turnP_left (by omega) h2, hL, upP_left (by omega) (by omega), hL, Nat.add_sub_cancel, nowB, now_tail false _ x ps L (by omega), hLt, ih]
        rw [if_neg (by rw [List.length_cons, hLt, show L + 1 - 1 - L = 0 by omega]; exact Bool.false_ne_true)]
        exact ofP_two_mod 3 _ _ _ _ rfl (by omega)
end Go.Proofs.YtkikhfdkibekgaaGreat.Fx

/- What a record's chain is made of, by P; that chains which come to one are of the same numbers, or somewhere unlike lists make the same. No function of the program is spoken of. -/
namespace Go.Proofs.YtkikhfdkibekgaaGreat.Fx
open Go.RowKit

def restP (x : Int) : Int := x % 2305843009213693951
def wordsP (before step rate root : Int) (bs : List Int) : List Int := [restP before, restP step, restP rate, restP root, (bs.length : Int)] ++ bs.map restP
theorem restP_ok (x : Int) : okP (restP x) := by unfold okP restP; omega
theorem restP_same {x : Int} (h : okP x) : restP x = x := by unfold restP; exact Int.emod_eq_of_lt h.1 h.2
theorem ofP_mod (kind : Int) (l1 l2 : List Int) (hl : l1.length = l2.length) (h : ∀ i, i < l1.length → l1.getD i 0 % 2305843009213693951 = l2.getD i 0 % 2305843009213693951) : ofP kind l1 = ofP kind l2 := by
  unfold ofP
  rw [← hl, ofTo_mod kind l1 l2 hl l1.length h]
theorem words_chain (before step rate root : Int) (bs : List Int) : ofP 6 (wordsP before step rate root bs) = chainP before step rate root bs := by
  unfold chainP
  refine ofP_mod 6 _ _ (by unfold wordsP chainL; simp) (fun i hi => ?_)
  unfold wordsP chainL restP
  rcases Nat.lt_or_ge i 5 with h5 | h5
  · rcases (show i = 0 ∨ i = 1 ∨ i = 2 ∨ i = 3 ∨ i = 4 by omega) with rfl | rfl | rfl | rfl | rfl <;> simp [Int.emod_emod_of_dvd]
  · rw [List.getD_eq_getElem?_getD, List.getD_eq_getElem?_getD, List.getElem?_append_right (by simpa using h5), List.getElem?_append_right (by simpa using h5), List.getElem?_map]
    cases e : bs[i - [before, step, rate, root, (bs.length : Int)].length]? with
    | none => simp
    | some x => simp
theorem wordsP_tail {b1 s1 r1 t1 b2 s2 r2 t2 : Int} {l1 l2 : List Int} (h : wordsP b1 s1 r1 t1 l1 = wordsP b2 s2 r2 t2 l2) (b : Int) : restP b1 = restP b2 ∧ wordsP b s1 r1 t1 l1 = wordsP b s2 r2 t2 l2 := by
  unfold wordsP at h ⊢
  simp only [List.cons_append, List.nil_append, List.cons.injEq] at h ⊢
  exact ⟨h.1, trivial, h.2⟩
/-- Chains from one head (below P) that come to one, with no two unlike lists that make the same: all the lists are the same. -/
theorem chains_bind (n : Nat) (U V : Nat → List Int) (x y : Nat → Int) (hUV : ∀ i, i < n → U i = V i → restP (x i) = restP (y i)) (hxP : ∀ i, i ≤ n → okP (x i)) (hyP : ∀ i, i ≤ n → okP (y i))
    (hlast : x n = y n) (hno : ∀ i, i < n → U i = V i ∨ x (i + 1) ≠ y (i + 1)) : ∀ i, i < n → U i = V i := by
  have down : ∀ d, d ≤ n → x (n - d) = y (n - d) := by
    intro d
    induction d with
    | zero => intro _; exact hlast
    | succ d ih =>
      intro hd
      have ih1 := ih (by omega)
      obtain ⟨j, hj⟩ : ∃ j, n - d = j + 1 := ⟨n - d - 1, by omega⟩
      have hj2 : n - (d + 1) = j := by omega
      rw [hj2]
      rw [hj] at ih1
      rcases hno j (by omega) with h | h
      · have := hUV j (by omega) h
        rw [restP_same (hxP j (by omega)), restP_same (hyP j (by omega))] at this
        exact this
      · exact absurd ih1 h
  intro i hi
  rcases hno i hi with h | h
  · exact h
  · have e := down (n - (i + 1)) (by omega)
    rw [show n - (n - (i + 1)) = i + 1 by omega] at e
    exact absurd e h
end Go.Proofs.YtkikhfdkibekgaaGreat.Fx

/- What coachtop.words returns: what a record's chain is made of, by P. -/
namespace Go.Proofs.YtkikhfdkibekgaaGreat.Fx
open Go.RowKit
end Go.Proofs.YtkikhfdkibekgaaGreat.Fx

/- What coachtop.chained returns: records with the chains that belong to them. -/
namespace Go.Proofs.YtkikhfdkibekgaaGreat.Fx
open Go.RowKit

def chainR (x : Rcm) (ch : Int) : Rcm := ⟨x.s, x.a, x.n, x.k, x.r, x.root, ch⟩
/-- The chain behind the first k records. -/
def chnP (head : Int) (L : Nat → Rcm) (DL : Nat → List Int) : Nat → Int
  | 0 => head
  | k + 1 => chV (chnP head L DL k) (L k).s (L k).r (L k).root (L k).n (DL k)
/-- The first k records have the chains that belong to them. -/
def doneR (head : Int) (L : Nat → Rcm) (DL : Nat → List Int) (k j : Nat) : Rcm := if j < k then chainR (L j) (chnP head L DL (j + 1)) else L j
theorem doneR_put (head : Int) (L : Nat → Rcm) (DL : Nat → List Int) (k : Nat) : bentR (doneR head L DL k) k (chainR (L k) (chnP head L DL (k + 1))) = doneR head L DL (k + 1) := by
  funext j
  unfold bentR
  by_cases e : j = k
  · subst e; rw [if_pos rfl]; unfold doneR; rw [if_pos (by omega)]
  · rw [if_neg e]
    unfold doneR
    by_cases hj : j < k
    · rw [if_pos hj, if_pos (by omega)]
    · rw [if_neg hj, if_neg (by omega)]
theorem RowR.chain {w : World} {gb cap N K : Nat} {Rb : Nat → Rcm} (h : RowR w gb cap N Rb) (x : Int) (_hK : K < N) : RowR (w.setCell ⟨gb, K * 5 + 4, none⟩ (.int .u64 x)) gb cap N (bentR Rb K (chainR (Rb K) x)) := by
  obtain ⟨hc, F, hr, hf⟩ := h
  refine ⟨hc, _, hr.set (K * 5 + 4) (.int .u64 x), fun i hi => ?_⟩
  by_cases e : i / 5 = K
  · have hb : bentR Rb K (chainR (Rb K) x) (i / 5) = chainR (Rb K) x := by unfold bentR; rw [if_pos e]
    rw [hb]
    rcases lt5 (Nat.mod_lt i (show 0 < 5 by omega)) with hm | hm | hm | hm | hm
    · rw [if_neg (by omega), hf i hi, e, hm]; rfl
    · rw [if_neg (by omega), hf i hi, e, hm]; rfl
    · rw [if_neg (by omega), hf i hi, e, hm]; rfl
    · rw [if_neg (by omega), hf i hi, e, hm]; rfl
    · rw [if_pos (by omega), hm]; rfl
  · have hb : bentR Rb K (chainR (Rb K) x) (i / 5) = Rb (i / 5) := by unfold bentR; rw [if_neg e]
    rw [hb, if_neg (by omega)]
    exact hf i hi

section
variable {w' W0 : World} {ops : Array Oper} {o : Oper} {a : Act} {Q : Exit → Act → World → Prop}
theorem run_append_anyR (ty : TypeId) (g c N : Nat) (R : Nat → Rcm) (w : World) (hr : ∀ j t, j < N → t < 5 → w.cell? ⟨g, j * 5 + t, none⟩ = some (recC (R j) t)) (hN : N ≤ 1000) :
    ∃ gb cap w1, (Builtin.append_ #[35, 35] ty #[.slice (some ⟨w.heap.size, 0, none⟩) 0 0, .slice (some ⟨g, 0, none⟩) N c]).run Tryz.prog (w.alloc (.cells #[] 30)) = .ok (.slice (some ⟨gb, 0, none⟩) N cap) w1 ∧ w.heap.size ≤ gb ∧ RowR w1 gb cap N R ∧ cap ≤ maxLen ∧ Below w.heap.size w w1 := by
  obtain ⟨i0, hi, hz0, hz1, hz2⟩ := info_parts infoR
  have hal := low_alloc w (.cells #[] 30)
  obtain ⟨v', w1, hrun, h1, h2, h3, _⟩ := run_append_own_at (P := Tryz.prog) (w.alloc (.cells #[] 30)) w.heap.size 35 ty 30 i0 (.agg #[.int .i64 0, .slice none 0 0, .int .i64 0, .int .u64 0, .int .u64 0]) 5 56 Tryz.underlying35 hi hz0 hz1 hz2 rfl (by decide) (.slice (some ⟨w.heap.size, 0, none⟩) 0 0) 0 _ (OwnR.empty w R) ⟨g, 0, none⟩ N c (rcCells R N) (rcCells_len R N)
    (by intro j u hj
        obtain ⟨hj2, rfl⟩ := rcCells_rec R hj
        have hc := hr (j / 5) (j % 5) (by omega) (by omega)
        rw [show j / 5 * 5 + j % 5 = j by omega] at hc
        rw [Go.WideShapes.add_plain, Nat.zero_add]
        exact (hal.cell (p := ⟨g, j, none⟩) (cell_lt hc)).trans hc)
    (rcCells_one R N) (by unfold maxLen; omega) (by omega) (by simp)
  have hne : v' ≠ .slice none 0 0 := fun e => by
    have := (h3.1 e).1
    cases this
  rw [show rcCells R 0 ++ rcCells R N = rcCells R N from rfl, Nat.zero_add] at h1
  obtain ⟨gb, cap, rfl, hb, hrow, hm⟩ := OwnR.row (R := R) h1 hne
  refine ⟨gb, cap, w1, hrun, hb, hrow, hm, hal.grown h2 (by simp) ?_⟩
  intro k hk
  simp [Value.ownBlock] at hk
  omega
theorem wpList_append_anyR {rest : List Oper} (hgd : o.guard = none) (s x : Operand) (ho : o.op = .call { callee := .builtin .append, args := #[s, x], argTypes := #[35, 35] })
    (g c N : Nat) (R : Nat → Rcm) (w : World) (hs : a.eval s = .slice (some ⟨w.heap.size, 0, none⟩) 0 0) (hx : a.eval x = .slice (some ⟨g, 0, none⟩) N c) (hr : ∀ j t, j < N → t < 5 → w.cell? ⟨g, j * 5 + t, none⟩ = some (recC (R j) t)) (hN : N ≤ 1000)
    (h : ∀ gb cap w1, w.heap.size ≤ gb → RowR w1 gb cap N R → cap ≤ maxLen → Below w.heap.size w w1 → wpList Tryz.prog ops Q rest (a.put o.dst (.slice (some ⟨gb, 0, none⟩) N cap)) w1) : wpList Tryz.prog ops Q (o :: rest) a (w.alloc (.cells #[] 30)) := by
  obtain ⟨gb, cap, w1, hrun, h1, h2, h3, h4⟩ := run_append_anyR o.type g c N R w hr hN
  refine wpList_plain hgd fun K hK => ?_
  unfold Oper.wp
  simp [execOp, ho, resolve, invoke, builtin, hs, hx, hrun, Result.andThen]
  exact hK _ _ (h gb cap w1 h1 h2 h3 h4)
end
end Go.Proofs.YtkikhfdkibekgaaGreat.Fx

/- What slices.Equal says of two lists of words. -/
namespace Go.Proofs.YtkikhfdkibekgaaGreat.Fx
open Go.RowKit

theorem ret_boolW {a b : Bool} (h : a = b) : Ending.returned (.bool a) = .returned (.bool b) := by rw [h]

theorem weq_of_getD {xs ys : List Int} {n : Nat} (hx : xs.length = n) (hy : ys.length = n) (h : ∀ j, j < n → xs.getD j 0 = ys.getD j 0) : xs = ys := by
  refine List.ext_getElem (by omega) (fun i h1 h2 => ?_)
  have := h i (by omega)
  rw [List.getD_eq_getElem?_getD, List.getD_eq_getElem?_getD, List.getElem?_eq_getElem h1, List.getElem?_eq_getElem h2] at this
  exact this

set_option maxHeartbeats 400000 in
theorem weq_calls (a b : Option Addr) (la ca lb cb : Nat) (xs ys : List Int) (w : World) (ha : LstW w a la ca xs) (hb : LstW w b lb cb ys) (h63 : la ≤ 1000000000000000000) :
    Calls Tryz.prog 28 #[.slice a la ca, .slice b lb cb] w fun e w' => e = .returned (.bool (decide (xs = ys))) ∧ ∃ k, w' = w.drewN k := by
  by_cases hl : la = lb
  · subst hl
    have hab : ((la : Int) != (la : Int)) = false := by simp
    go_enter Tryz.func28, Tryz.ntmps28
    go_wp2
    go_loopw [13] (fun i wr => ∃ k n : Nat, k ≤ la ∧ i = .int .i64 k ∧ Hid (∀ j, j < k → xs.getD j 0 = ys.getD j 0) ∧ wr = w.drewN n) (fun i _ => la - (intOf i).toNat)
    case atStart => exact ⟨0, 0, Nat.zero_le _, rfl, fun j hj => by omega, rfl⟩
    case round =>
      obtain ⟨k, n, hk, rfl, he, rfl⟩ := hrel
      by_cases hlt : k < la
      · obtain ⟨b1, o1, x, rfl, _, c1, HX⟩ := ha.at1 hlt
        obtain ⟨b2, o2, y, rfl, _, c2, HY⟩ := hb.at1 hlt
        by_cases hxy : x = y
        · subst hxy
          have hne : (x != x) = false := by simp
          go_wp2
          go_quiet (fail)
          go_wp2
          go_roundw
          case rel => exact ⟨k + 1, _, by omega, by go_num, fun j hj => by
            by_cases e : j = k
            · subst e; rw [HX.out, HY.out]
            · exact he.out j (by omega), rfl⟩
          case measure => simp [intOf]; omega
        · have hne : (x != y) = true := by simpa using hxy
          go_wp2
          go_quiet (fail)
          go_wp2
          go_ret
          refine ⟨ret_boolW ?_, _, World.drewN_drewN _ _ _⟩
          exact (decide_eq_false (fun e => hxy (by rw [← HX.out, ← HY.out, e]))).symm
      · go_wp2
        go_ret
        refine ⟨ret_boolW ?_, _, rfl⟩
        exact (decide_eq_true (weq_of_getD ha.len hb.len (fun j hj => he.out j (by omega)))).symm
  · have hab : ((la : Int) != (lb : Int)) = true := by rw [bne_iff_ne]; omega
    go_enter Tryz.func28, Tryz.ntmps28
    go_wp2
    go_ret
    refine ⟨ret_boolW ?_, 0, rfl⟩
    exact (decide_eq_false (fun e => hl (by rw [← ha.len, ← hb.len, e]))).symm

end Go.Proofs.YtkikhfdkibekgaaGreat.Fx

/- What coachtop.alike returns: are all numbers the same by P? -/
namespace Go.Proofs.YtkikhfdkibekgaaGreat.Fx
open Go.RowKit

/-- Of that record the words can be told. -/
structure WdOk (x : Rcm) (bs : List Int) : Prop where
  s : 0 ≤ x.s ∧ x.s ≤ 9223372036854775807
  r : 0 ≤ x.r ∧ x.r ≤ 9223372036854775807
  root : okW x.root
  n : x.n ≤ 8
  bd : ∀ j, j < x.n → 0 ≤ bs.getD j 0 ∧ bs.getD j 0 ≤ 9223372036854775807
def wdR (before : Int) (x : Rcm) (bs : List Int) : List Int := wordsP before x.s x.r x.root bs
theorem Recs.at0 {w : World} {g n c : Nat} {R : Nat → Rcm} {D : Nat → List Int} (h : Recs w (some ⟨g, 0, none⟩) n c R D) {i : Nat} (hi : i < n) : w.cell? ⟨g, i * 5, none⟩ = some (.int .i64 (R i).s) ∧ w.cell? ⟨g, i * 5 + 1, none⟩ = some (.slice (R i).a (R i).n (R i).k) ∧ w.cell? ⟨g, i * 5 + 2, none⟩ = some (.int .i64 (R i).r) ∧ w.cell? ⟨g, i * 5 + 3, none⟩ = some (.int .u64 (R i).root) ∧ w.cell? ⟨g, i * 5 + 4, none⟩ = some (.int .u64 (R i).chain) ∧ Lst w (R i).a (R i).n (R i).k (D i) := by
  obtain ⟨b, off, e, hc⟩ := h.at (by omega)
  simp only [Option.some.injEq, Addr.mk.injEq, and_true] at e
  obtain ⟨rfl, rfl⟩ := e
  have hh := hc i hi
  rw [Nat.zero_add] at hh
  exact hh
end Go.Proofs.YtkikhfdkibekgaaGreat.Fx
