/- What coachkeep.pairs tells, in plain numbers, and that two ways to one root are a collision (Merkle); no function of the program is spoken of. -/
import Derived.Test.YtfkalnehomgccaaTreeF
namespace Go.Proofs.Ytfkalnehomgccaa.Fx
open Go.RowKit

/-- The turns from the root down: is it the right one? -/
def turnF : Nat → Nat → Nat → List Bool
  | 0, _, _ => []
  | f + 1, k, m => if m ≤ 1 then [] else (if cutN m ≤ k then true :: turnF f (k - cutN m) (m - cutN m) else false :: turnF f k (cutN m))
theorem turnF_same : ∀ (f g k m : Nat), m ≤ f → m ≤ g → turnF f k m = turnF g k m
  | 0, 0, _, _, _, _ => rfl
  | 0, g + 1, k, m, h, _ => by unfold turnF; rw [if_pos (by omega)]
  | f + 1, 0, k, m, _, h => by unfold turnF; rw [if_pos (by omega)]
  | f + 1, g + 1, k, m, h1, h2 => by
    unfold turnF
    by_cases h : m ≤ 1
    · rw [if_pos h, if_pos h]
    · obtain ⟨c1, c2, c3⟩ := cutN_lt (show 2 ≤ m by omega)
      rw [if_neg h, if_neg h, turnF_same f g (k - cutN m) (m - cutN m) (by omega) (by omega), turnF_same f g k (cutN m) (by omega) (by omega)]
def turnP (k m : Nat) : List Bool := turnF m k m
theorem turnP_one {m : Nat} (h : m ≤ 1) (k : Nat) : turnP k m = [] := by
  unfold turnP
  cases m with
  | zero => rfl
  | succ m => unfold turnF; rw [if_pos h]
theorem turnP_right {k m : Nat} (h : 2 ≤ m) (hk : cutN m ≤ k) : turnP k m = true :: turnP (k - cutN m) (m - cutN m) := by
  obtain ⟨c1, c2, c3⟩ := cutN_lt h
  unfold turnP
  cases m with
  | zero => omega
  | succ m =>
    rw [turnF, if_neg (by omega), if_pos hk, turnF_same m (m + 1 - cutN (m + 1)) _ _ (by omega) (Nat.le_refl _)]
theorem turnP_left {k m : Nat} (h : 2 ≤ m) (hk : ¬ cutN m ≤ k) : turnP k m = false :: turnP k (cutN m) := by
  obtain ⟨c1, c2, c3⟩ := cutN_lt h
  unfold turnP
  cases m with
  | zero => omega
  | succ m =>
    rw [turnF, if_neg (by omega), if_neg hk, turnF_same m (cutN (m + 1)) _ _ (by omega) (Nat.le_refl _)]
theorem turnP_len : ∀ (f k m : Nat), m ≤ f → k < m → (turnP k m).length = deepP k m
  | 0, k, m, h, hk => by omega
  | f + 1, k, m, h, hk => by
    by_cases h1 : m ≤ 1
    · rw [turnP_one h1, deepP_one h1]; rfl
    · obtain ⟨c1, c2, c3⟩ := cutN_lt (show 2 ≤ m by omega)
      by_cases h2 : cutN m ≤ k
      · rw [turnP_right (by omega) h2, deepP_right (by omega) (by omega), List.length_cons, turnP_len f _ _ (by omega) (by omega)]; omega
      · rw [turnP_left (by omega) h2, deepP_left (by omega) (by omega), List.length_cons, turnP_len f _ _ (by omega) (by omega)]; omega

/-- What stands below at each height: from the leaf on, by the turns (the lowest is the last of them). -/
def nowB (ts : List Bool) (x : Int) (ps : List Int) : Nat → Int
  | 0 => x
  | j + 1 => if ts.getD (ts.length - 1 - j) false = true then ofP 3 [ps.getD j 0 % 2305843009213693951, nowB ts x ps j] else ofP 3 [nowB ts x ps j, ps.getD j 0 % 2305843009213693951]
/-- What is digested at each height. -/
def pairB (ts : List Bool) (x : Int) (ps : List Int) (j : Nat) : List Int :=
  if ts.getD (ts.length - 1 - j) false = true then [3, ps.getD j 0 % 2305843009213693951, nowB ts x ps j] else [3, nowB ts x ps j, ps.getD j 0 % 2305843009213693951]
/-- All that is digested, from the chunk to the root. -/
def allB (n : Int) (ts : List Bool) (low : List Int) (x : Int) (ps : List Int) (k : Nat) : List Int :=
  if k = 0 then 4 :: low else if k ≤ ps.length then pairB ts x ps (k - 1) else [3, n, nowB ts x ps ps.length]
def madeP (l : List Int) : Int := ofP (l.headD 0) l.tail
theorem made_pair (ts : List Bool) (x : Int) (ps : List Int) (j : Nat) : madeP (pairB ts x ps j) = nowB ts x ps (j + 1) := by
  unfold pairB
  rw [nowB]
  by_cases h : ts.getD (ts.length - 1 - j) false = true
  · rw [if_pos h, if_pos h]; rfl
  · rw [if_neg h, if_neg h]; rfl
/-- Where no two unlike lists make the same, and the same is made at the root, the chunks are the same. -/
theorem binds (n : Int) (ts : List Bool) (l1 l2 : List Int) (x1 x2 : Int) (p1 p2 : List Int) (h1 : madeP (4 :: l1) = x1) (h2 : madeP (4 :: l2) = x2) (hl : p1.length = p2.length)
    (hr : madeP [3, n, nowB ts x1 p1 p1.length] = madeP [3, n, nowB ts x2 p2 p2.length])
    (hno : ∀ k, k < p1.length + 2 → allB n ts l1 x1 p1 k = allB n ts l2 x2 p2 k ∨ madeP (allB n ts l1 x1 p1 k) ≠ madeP (allB n ts l2 x2 p2 k)) : l1 = l2 := by
  have top : nowB ts x1 p1 p1.length = nowB ts x2 p2 p2.length := by
    have h := hno (p1.length + 1) (by omega)
    have e1 : allB n ts l1 x1 p1 (p1.length + 1) = [3, n, nowB ts x1 p1 p1.length] := by unfold allB; rw [if_neg (by omega), if_neg (by omega)]
    have e2 : allB n ts l2 x2 p2 (p1.length + 1) = [3, n, nowB ts x2 p2 p2.length] := by unfold allB; rw [if_neg (by omega), if_neg (by omega)]
    rw [e1, e2] at h
    rcases h with h | h
    · simpa using h
    · exact absurd hr h
  have down : ∀ d, d ≤ p1.length → nowB ts x1 p1 (p1.length - d) = nowB ts x2 p2 (p1.length - d) := by
    intro d
    induction d with
    | zero => intro _; rw [Nat.sub_zero, top, hl]
    | succ d ih =>
      intro hd
      have ih1 := ih (by omega)
      obtain ⟨j, hj⟩ : ∃ j, p1.length - d = j + 1 := ⟨p1.length - d - 1, by omega⟩
      have hj2 : p1.length - (d + 1) = j := by omega
      rw [hj2]
      rw [hj] at ih1
      have h := hno (j + 1) (by omega)
      have e1 : allB n ts l1 x1 p1 (j + 1) = pairB ts x1 p1 j := by unfold allB; rw [if_neg (by omega), if_pos (by omega)]; rfl
      have e2 : allB n ts l2 x2 p2 (j + 1) = pairB ts x2 p2 j := by unfold allB; rw [if_neg (by omega), if_pos (by omega)]; rfl
      rw [e1, e2, made_pair, made_pair] at h
      rcases h with h | h
      · unfold pairB at h
        by_cases ht : ts.getD (ts.length - 1 - j) false = true
        · rw [if_pos ht, if_pos ht] at h
          simp only [List.cons.injEq, true_and, and_true] at h
          exact h.2
        · rw [if_neg ht, if_neg ht] at h
          simp only [List.cons.injEq, true_and, and_true] at h
          exact h.1
      · exact absurd ih1 h
  have bot := down p1.length (Nat.le_refl _)
  rw [Nat.sub_self] at bot
  have hx : x1 = x2 := bot
  have h := hno 0 (by omega)
  have e1 : allB n ts l1 x1 p1 0 = 4 :: l1 := by unfold allB; rw [if_pos rfl]
  have e2 : allB n ts l2 x2 p2 0 = 4 :: l2 := by unfold allB; rw [if_pos rfl]
  rw [e1, e2, h1, h2] at h
  rcases h with h | h
  · simpa using h
  · exact absurd hx h
/-- A digest takes its numbers by P. -/
theorem ofTo_mod (kind : Int) (l1 l2 : List Int) (hl : l1.length = l2.length) : ∀ k, (∀ i, i < k → l1.getD i 0 % 2305843009213693951 = l2.getD i 0 % 2305843009213693951) → ofTo kind l1 k = ofTo kind l2 k
  | 0, _ => by unfold ofTo; rw [hl]
  | k + 1, h => by
    have ih := ofTo_mod kind l1 l2 hl k (fun i hi => h i (by omega))
    have e : ∀ a, addP a (l1.getD k 0) = addP a (l2.getD k 0) := fun a => by rw [← addP_mod a (l1.getD k 0), h k (by omega), addP_mod]
    rw [ofTo, ofTo, ih, e]
theorem ofP_two_mod (kind a b c d : Int) (h1 : a % 2305843009213693951 = c % 2305843009213693951) (h2 : b % 2305843009213693951 = d % 2305843009213693951) : ofP kind [a, b] = ofP kind [c, d] := by
  unfold ofP
  rw [show ([a, b] : List Int).length = 2 from rfl, show ([c, d] : List Int).length = 2 from rfl]
  rw [ofTo_mod kind [a, b] [c, d] rfl 2 (fun i hi => by
    rcases (show i = 0 ∨ i = 1 by omega) with rfl | rfl
    · exact h1
    · exact h2)]
theorem now_tail (t : Bool) (ts : List Bool) (x : Int) (ps : List Int) : ∀ j, j ≤ ts.length → nowB (t :: ts) x ps j = nowB ts x (ps.take ts.length) j
  | 0, _ => rfl
  | j + 1, h => by
    have ih := now_tail t ts x ps j (by omega)
    have e1 : (t :: ts).getD ((t :: ts).length - 1 - j) false = ts.getD (ts.length - 1 - j) false := by
      rw [List.length_cons, show ts.length + 1 - 1 - j = (ts.length - 1 - j) + 1 by omega]
      rfl
    have e2 : (ps.take ts.length).getD j 0 = ps.getD j 0 := by
      rw [List.getD_eq_getElem?_getD, List.getElem?_take_of_lt (by omega), ← List.getD_eq_getElem?_getD]
    rw [nowB, nowB, ih, e1, e2]
/-- By the turns one comes to the top of the tree. -/
theorem now_up : ∀ (f i m : Nat) (x : Int) (ps : List Int), m ≤ f → i < m → ps.length = deepP i m → nowB (turnP i m) x ps ps.length = upP i m x ps
  | 0, i, m, x, ps, h, hi, _ => by omega
  | f + 1, i, m, x, ps, h, hi, hp => by
    by_cases h1 : m ≤ 1
    · rw [deepP_one h1] at hp
      rw [hp, upP_one h1]; rfl
    · obtain ⟨c1, c2, c3⟩ := cutN_lt (show 2 ≤ m by omega)
      by_cases h2 : cutN m ≤ i
      · have hd := deepP_right (i := i) (n := m) (by omega) (by omega)
        have hl := turnP_len f (i - cutN m) (m - cutN m) (by omega) (by omega)
        obtain ⟨L, hL⟩ : ∃ L, ps.length = L + 1 := ⟨deepP (i - cutN m) (m - cutN m), by omega⟩
        have hLt : (turnP (i - cutN m) (m - cutN m)).length = L := by omega
        have hpl : (ps.take L).length = L := by rw [List.length_take]; omega
        have ih := now_up f (i - cutN m) (m - cutN m) x (ps.take L) (by omega) (by omega) (by omega)
        rw [hpl] at ih
        rw [turnP_right (by omega) h2, hL, upP_right (by omega) (by omega), hL, Nat.add_sub_cancel, nowB, now_tail true _ x ps L (by omega), hLt, ih]
        rw [if_pos (by rw [List.length_cons, hLt, show L + 1 - 1 - L = 0 by omega]; rfl)]
        exact ofP_two_mod 3 _ _ _ _ (by omega) rfl
      · have hd := deepP_left (i := i) (n := m) (by omega) (by omega)
        have hl := turnP_len f i (cutN m) (by omega) (by omega)
        obtain ⟨L, hL⟩ : ∃ L, ps.length = L + 1 := ⟨deepP i (cutN m), by omega⟩
        have hLt : (turnP i (cutN m)).length = L := by omega
        have hpl : (ps.take L).length = L := by rw [List.length_take]; omega
        have ih := now_up f i (cutN m) x (ps.take L) (by omega) (by omega) (by omega)
        rw [hpl] at ih
        rw [turnP_left (by omega) h2, hL, upP_left (by omega) (by omega), hL, Nat.add_sub_cancel, nowB, now_tail false _ x ps L (by omega), hLt, ih]
        rw [if_neg (by rw [List.length_cons, hLt, show L + 1 - 1 - L = 0 by omega]; exact Bool.false_ne_true)]
        exact ofP_two_mod 3 _ _ _ _ rfl (by omega)
end Go.Proofs.Ytfkalnehomgccaa.Fx
