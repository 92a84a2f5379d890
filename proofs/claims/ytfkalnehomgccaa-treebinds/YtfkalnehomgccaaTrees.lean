/- The plain trees of package tree: where leaves are cut, the tree of a list, the way of one leaf, how deep it lies, and the way up; from each leaf by its way one comes to the tree. Nothing here speaks of the program. -/
import Derived.Test.YtfkalnehomgccaaDig
namespace Go.Proofs.Ytfkalnehomgccaa.Fx

theorem okL_take {xs : List Int} (h : okL xs) (k : Nat) : okL (xs.take k) := by
  intro i hi
  rw [List.length_take] at hi
  have e : (xs.take k).getD i 0 = xs.getD i 0 := by
    rw [List.getD_eq_getElem?_getD, List.getElem?_take_of_lt (by omega), ← List.getD_eq_getElem?_getD]
  rw [e]; exact h i (by omega)
theorem okL_drop {xs : List Int} (h : okL xs) (k : Nat) : okL (xs.drop k) := by
  intro i hi
  rw [List.length_drop] at hi
  have e : (xs.drop k).getD i 0 = xs.getD (k + i) 0 := by
    rw [List.getD_eq_getElem?_getD, List.getElem?_drop, ← List.getD_eq_getElem?_getD]
  rw [e]; exact h _ (by omega)
theorem okL_snoc {xs : List Int} {x : Int} (h : okL xs) (hx : okW x) : okL (xs ++ [x]) := by
  intro i hi
  rw [List.length_append] at hi
  simp at hi
  rw [List.getD_eq_getElem?_getD]
  by_cases c : i < xs.length
  · rw [List.getElem?_append_left c, ← List.getD_eq_getElem?_getD]; exact h i c
  · obtain rfl : i = xs.length := by omega
    simpa using hx
theorem okW_of_P {n : Int} (h : okP n) : okW n := ⟨h.1, by have := h.2; omega⟩

def cutN (n : Nat) : Nat := 2 ^ Nat.log2 (n - 1)
theorem cutN_lt {n : Nat} (h : 2 ≤ n) : 1 ≤ cutN n ∧ cutN n < n ∧ n ≤ cutN n + cutN n := by
  have h1 : 2 ^ Nat.log2 (n - 1) ≤ n - 1 := Nat.log2_self_le (by omega)
  have h2 : n - 1 < 2 ^ (Nat.log2 (n - 1) + 1) := Nat.lt_log2_self
  have h3 : 0 < 2 ^ Nat.log2 (n - 1) := Nat.pow_pos (by omega)
  rw [Nat.pow_succ] at h2
  unfold cutN
  omega
/-- A power of two that is less than n, and no less than half of it, is the cut. -/
theorem cutN_is {n j : Nat} (h : 2 ^ j < n) (h2 : n ≤ 2 ^ j + 2 ^ j) : cutN n = 2 ^ j := by
  unfold cutN
  have e : Nat.log2 (n - 1) = j := by
    rw [Nat.log2_eq_iff (by have : 0 < 2 ^ j := Nat.pow_pos (by omega)
                            omega)]
    rw [Nat.pow_succ]
    omega
  rw [e]

def treeF : Nat → List Int → Int
  | 0, l => l.getD 0 0
  | f + 1, l => if l.length ≤ 1 then l.getD 0 0 else ofP 3 [treeF f (l.take (cutN l.length)), treeF f (l.drop (cutN l.length))]
theorem treeF_same : ∀ (f g : Nat) (l : List Int), l.length ≤ f → l.length ≤ g → treeF f l = treeF g l
  | 0, 0, _, _, _ => rfl
  | 0, g + 1, l, h, _ => by unfold treeF; rw [if_pos (by omega)]
  | f + 1, 0, l, _, h => by unfold treeF; rw [if_pos (by omega)]
  | f + 1, g + 1, l, h1, h2 => by
    unfold treeF
    by_cases c : l.length ≤ 1
    · rw [if_pos c, if_pos c]
    · rw [if_neg c, if_neg c]
      have := cutN_lt (n := l.length) (by omega)
      rw [treeF_same f g (l.take _) (by rw [List.length_take]; omega) (by rw [List.length_take]; omega), treeF_same f g (l.drop _) (by rw [List.length_drop]; omega) (by rw [List.length_drop]; omega)]
/-- The tree of a list of leaves. -/
def treeP (l : List Int) : Int := treeF l.length l
theorem treeP_one {l : List Int} (h : l.length ≤ 1) : treeP l = l.getD 0 0 := by
  unfold treeP
  rw [treeF_same l.length (l.length + 1) l (Nat.le_refl _) (by omega)]
  unfold treeF
  rw [if_pos h]
theorem treeP_two {l : List Int} (h : 2 ≤ l.length) : treeP l = ofP 3 [treeP (l.take (cutN l.length)), treeP (l.drop (cutN l.length))] := by
  have := cutN_lt h
  have e : treeP l = treeF (l.length + 1) l := treeF_same _ _ l (Nat.le_refl _) (by omega)
  rw [e]
  rw [treeF, if_neg (by omega)]
  unfold treeP
  rw [treeF_same l.length (l.take _).length (l.take _) (by rw [List.length_take]; omega) (Nat.le_refl _), treeF_same l.length (l.drop _).length (l.drop _) (by rw [List.length_drop]; omega) (Nat.le_refl _)]
theorem treeP_ok {l : List Int} (h : okL l) (h1 : 1 ≤ l.length) : okW (treeP l) := by
  by_cases c : l.length ≤ 1
  · rw [treeP_one c]; exact h 0 (by omega)
  · rw [treeP_two (by omega)]; exact okW_of_P (ofP_ok _ _)

def wayF : Nat → List Int → Nat → List Int
  | 0, _, _ => []
  | f + 1, l, i => if l.length ≤ 1 then [] else if i < cutN l.length then wayF f (l.take (cutN l.length)) i ++ [treeP (l.drop (cutN l.length))] else wayF f (l.drop (cutN l.length)) (i - cutN l.length) ++ [treeP (l.take (cutN l.length))]
theorem wayF_same : ∀ (f g : Nat) (l : List Int) (i : Nat), l.length ≤ f → l.length ≤ g → wayF f l i = wayF g l i
  | 0, 0, _, _, _, _ => rfl
  | 0, g + 1, l, i, h, _ => by unfold wayF; rw [if_pos (by omega)]
  | f + 1, 0, l, i, _, h => by unfold wayF; rw [if_pos (by omega)]
  | f + 1, g + 1, l, i, h1, h2 => by
    unfold wayF
    by_cases c : l.length ≤ 1
    · rw [if_pos c, if_pos c]
    · rw [if_neg c, if_neg c]
      have := cutN_lt (n := l.length) (by omega)
      rw [wayF_same f g (l.take _) _ (by rw [List.length_take]; omega) (by rw [List.length_take]; omega), wayF_same f g (l.drop _) _ (by rw [List.length_drop]; omega) (by rw [List.length_drop]; omega)]
/-- The way of leaf i. -/
def wayP (l : List Int) (i : Nat) : List Int := wayF l.length l i
theorem wayP_one {l : List Int} (h : l.length ≤ 1) (i : Nat) : wayP l i = [] := by
  unfold wayP
  rw [wayF_same l.length (l.length + 1) l i (Nat.le_refl _) (by omega)]
  unfold wayF
  rw [if_pos h]
theorem wayP_left {l : List Int} (h : 2 ≤ l.length) {i : Nat} (hi : i < cutN l.length) : wayP l i = wayP (l.take (cutN l.length)) i ++ [treeP (l.drop (cutN l.length))] := by
  have := cutN_lt h
  have e : wayP l i = wayF (l.length + 1) l i := wayF_same _ _ l i (Nat.le_refl _) (by omega)
  rw [e]
  rw [wayF, if_neg (by omega), if_pos hi]
  unfold wayP
  rw [wayF_same l.length (l.take _).length (l.take _) _ (by rw [List.length_take]; omega) (Nat.le_refl _)]
theorem wayP_right {l : List Int} (h : 2 ≤ l.length) {i : Nat} (hi : ¬ i < cutN l.length) : wayP l i = wayP (l.drop (cutN l.length)) (i - cutN l.length) ++ [treeP (l.take (cutN l.length))] := by
  have := cutN_lt h
  have e : wayP l i = wayF (l.length + 1) l i := wayF_same _ _ l i (Nat.le_refl _) (by omega)
  rw [e]
  rw [wayF, if_neg (by omega), if_neg hi]
  unfold wayP
  rw [wayF_same l.length (l.drop _).length (l.drop _) _ (by rw [List.length_drop]; omega) (Nat.le_refl _)]

def deepF : Nat → Nat → Nat → Nat
  | 0, _, _ => 0
  | f + 1, i, n => if n ≤ 1 then 0 else if i < cutN n then 1 + deepF f i (cutN n) else 1 + deepF f (i - cutN n) (n - cutN n)
theorem deepF_same : ∀ (f g i n : Nat), n ≤ f → n ≤ g → deepF f i n = deepF g i n
  | 0, 0, _, _, _, _ => rfl
  | 0, g + 1, i, n, h, _ => by unfold deepF; rw [if_pos (by omega)]
  | f + 1, 0, i, n, _, h => by unfold deepF; rw [if_pos (by omega)]
  | f + 1, g + 1, i, n, h1, h2 => by
    unfold deepF
    by_cases c : n ≤ 1
    · rw [if_pos c, if_pos c]
    · rw [if_neg c, if_neg c]
      have := cutN_lt (n := n) (by omega)
      rw [deepF_same f g i (cutN n) (by omega) (by omega), deepF_same f g (i - cutN n) (n - cutN n) (by omega) (by omega)]
/-- How long the way of leaf i of n is. -/
def deepP (i n : Nat) : Nat := deepF n i n
theorem deepP_one {n : Nat} (h : n ≤ 1) (i : Nat) : deepP i n = 0 := by
  unfold deepP
  rw [deepF_same n (n + 1) i n (Nat.le_refl _) (by omega)]
  unfold deepF
  rw [if_pos h]
theorem deepP_left {i n : Nat} (h : 2 ≤ n) (hi : i < cutN n) : deepP i n = 1 + deepP i (cutN n) := by
  have := cutN_lt h
  have e : deepP i n = deepF (n + 1) i n := deepF_same _ _ i n (Nat.le_refl _) (by omega)
  rw [e]
  rw [deepF, if_neg (by omega), if_pos hi]
  unfold deepP
  rw [deepF_same n (cutN n) i (cutN n) (by omega) (Nat.le_refl _)]
theorem deepP_right {i n : Nat} (h : 2 ≤ n) (hi : ¬ i < cutN n) : deepP i n = 1 + deepP (i - cutN n) (n - cutN n) := by
  have := cutN_lt h
  have e : deepP i n = deepF (n + 1) i n := deepF_same _ _ i n (Nat.le_refl _) (by omega)
  rw [e]
  rw [deepF, if_neg (by omega), if_neg hi]
  unfold deepP
  rw [deepF_same n (n - cutN n) _ (n - cutN n) (by omega) (Nat.le_refl _)]
theorem deepF_le : ∀ (f i n : Nat), deepF f i n ≤ f
  | 0, _, _ => Nat.le_refl _
  | f + 1, i, n => by
    unfold deepF
    have h1 := deepF_le f i (cutN n)
    have h2 := deepF_le f (i - cutN n) (n - cutN n)
    by_cases c : n ≤ 1
    · rw [if_pos c]; omega
    · rw [if_neg c]
      by_cases d : i < cutN n
      · rw [if_pos d]; omega
      · rw [if_neg d]; omega
theorem deepP_le (i n : Nat) : deepP i n ≤ n := deepF_le n i n

def upF : Nat → Nat → Nat → Int → List Int → Int
  | 0, _, _, x, _ => x
  | f + 1, i, n, x, p => if n ≤ 1 then x else if i < cutN n then ofP 3 [upF f i (cutN n) x (p.take (p.length - 1)), p.getD (p.length - 1) 0] else ofP 3 [p.getD (p.length - 1) 0, upF f (i - cutN n) (n - cutN n) x (p.take (p.length - 1))]
theorem upF_same : ∀ (f g i n : Nat) (x : Int) (p : List Int), n ≤ f → n ≤ g → upF f i n x p = upF g i n x p
  | 0, 0, _, _, _, _, _, _ => rfl
  | 0, g + 1, i, n, x, p, h, _ => by unfold upF; rw [if_pos (by omega)]
  | f + 1, 0, i, n, x, p, _, h => by unfold upF; rw [if_pos (by omega)]
  | f + 1, g + 1, i, n, x, p, h1, h2 => by
    unfold upF
    by_cases c : n ≤ 1
    · rw [if_pos c, if_pos c]
    · rw [if_neg c, if_neg c]
      have := cutN_lt (n := n) (by omega)
      rw [upF_same f g i (cutN n) x _ (by omega) (by omega), upF_same f g (i - cutN n) (n - cutN n) x _ (by omega) (by omega)]
/-- The tree of n leaves, by leaf i and its way. -/
def upP (i n : Nat) (x : Int) (p : List Int) : Int := upF n i n x p
theorem upP_one {n : Nat} (h : n ≤ 1) (i : Nat) (x : Int) (p : List Int) : upP i n x p = x := by
  unfold upP
  rw [upF_same n (n + 1) i n x p (Nat.le_refl _) (by omega)]
  unfold upF
  rw [if_pos h]
theorem upP_left {i n : Nat} (h : 2 ≤ n) (hi : i < cutN n) (x : Int) (p : List Int) : upP i n x p = ofP 3 [upP i (cutN n) x (p.take (p.length - 1)), p.getD (p.length - 1) 0] := by
  have := cutN_lt h
  have e : upP i n x p = upF (n + 1) i n x p := upF_same _ _ i n x p (Nat.le_refl _) (by omega)
  rw [e]
  rw [upF, if_neg (by omega), if_pos hi]
  unfold upP
  rw [upF_same n (cutN n) i (cutN n) x _ (by omega) (Nat.le_refl _)]
theorem upP_right {i n : Nat} (h : 2 ≤ n) (hi : ¬ i < cutN n) (x : Int) (p : List Int) : upP i n x p = ofP 3 [p.getD (p.length - 1) 0, upP (i - cutN n) (n - cutN n) x (p.take (p.length - 1))] := by
  have := cutN_lt h
  have e : upP i n x p = upF (n + 1) i n x p := upF_same _ _ i n x p (Nat.le_refl _) (by omega)
  rw [e]
  rw [upF, if_neg (by omega), if_neg hi]
  unfold upP
  rw [upF_same n (n - cutN n) _ (n - cutN n) x _ (by omega) (Nat.le_refl _)]
theorem upP_ok {i n : Nat} {x : Int} {p : List Int} (hx : okW x) : okW (upP i n x p) := by
  by_cases c : n ≤ 1
  · rw [upP_one c]; exact hx
  · by_cases d : i < cutN n
    · rw [upP_left (by omega) d]; exact okW_of_P (ofP_ok _ _)
    · rw [upP_right (by omega) d]; exact okW_of_P (ofP_ok _ _)

theorem take_len {l : List Int} (h : 2 ≤ l.length) : (l.take (cutN l.length)).length = cutN l.length := by
  have := cutN_lt h
  rw [List.length_take]; omega
theorem snoc_last (p : List Int) (x : Int) : (p ++ [x]).getD ((p ++ [x]).length - 1) 0 = x ∧ (p ++ [x]).take ((p ++ [x]).length - 1) = p := by
  constructor <;> simp

/-- The way is as long as it is said to be, and of words. -/
theorem way_deep : ∀ (m : Nat) (l : List Int) (i : Nat), l.length ≤ m → okL l → (wayP l i).length = deepP i l.length ∧ okL (wayP l i)
  | 0, l, i, h, _ => by rw [wayP_one (by omega), deepP_one (by omega)]; exact ⟨rfl, fun i hi => by simp at hi⟩
  | m + 1, l, i, h, hl => by
    by_cases c : l.length ≤ 1
    · rw [wayP_one c, deepP_one c]; exact ⟨rfl, fun i hi => by simp at hi⟩
    · have h2 : 2 ≤ l.length := by omega
      have hc := cutN_lt h2
      by_cases d : i < cutN l.length
      · obtain ⟨e1, e2⟩ := way_deep m (l.take (cutN l.length)) i (by rw [take_len h2]; omega) (okL_take hl _)
        rw [wayP_left h2 d, deepP_left h2 d]
        rw [take_len h2] at e1
        exact ⟨by rw [List.length_append, e1, Nat.add_comm]; rfl, okL_snoc e2 (treeP_ok (okL_drop hl _) (by rw [List.length_drop]; omega))⟩
      · obtain ⟨e1, e2⟩ := way_deep m (l.drop (cutN l.length)) (i - cutN l.length) (by rw [List.length_drop]; omega) (okL_drop hl _)
        rw [wayP_right h2 d, deepP_right h2 d]
        rw [List.length_drop] at e1
        exact ⟨by rw [List.length_append, e1, Nat.add_comm]; rfl, okL_snoc e2 (treeP_ok (okL_take hl _) (by rw [take_len h2]; omega))⟩
/-- Merkle: from each leaf by its way one comes to the tree. -/
theorem way_up : ∀ (m : Nat) (l : List Int) (i : Nat), l.length ≤ m → i < l.length → upP i l.length (l.getD i 0) (wayP l i) = treeP l
  | 0, l, i, h, h1 => by omega
  | m + 1, l, i, h, h1 => by
    by_cases c : l.length ≤ 1
    · obtain rfl : i = 0 := by omega
      rw [upP_one c, treeP_one c]
    · have h2 : 2 ≤ l.length := by omega
      have hc := cutN_lt h2
      by_cases d : i < cutN l.length
      · have e := way_up m (l.take (cutN l.length)) i (by rw [take_len h2]; omega) (by rw [take_len h2]; omega)
        rw [take_len h2] at e
        have e3 : (l.take (cutN l.length)).getD i 0 = l.getD i 0 := by
          rw [List.getD_eq_getElem?_getD, List.getElem?_take_of_lt d, ← List.getD_eq_getElem?_getD]
        rw [e3] at e
        rw [upP_left h2 d, wayP_left h2 d, (snoc_last _ _).1, (snoc_last _ _).2, e, ← treeP_two h2]
      · have e := way_up m (l.drop (cutN l.length)) (i - cutN l.length) (by rw [List.length_drop]; omega) (by rw [List.length_drop]; omega)
        rw [List.length_drop] at e
        have e3 : (l.drop (cutN l.length)).getD (i - cutN l.length) 0 = l.getD i 0 := by
          rw [List.getD_eq_getElem?_getD, List.getElem?_drop, ← List.getD_eq_getElem?_getD]
          congr 1; omega
        rw [e3] at e
        rw [upP_right h2 d, wayP_right h2 d, (snoc_last _ _).1, (snoc_last _ _).2, e, ← treeP_two h2]

end Go.Proofs.Ytfkalnehomgccaa.Fx
