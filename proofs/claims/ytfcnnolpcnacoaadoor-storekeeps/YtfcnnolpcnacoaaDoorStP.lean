/- Lines of a journal as plain lists of bytes: how a record's line is told, and that a text begins with the line of one record at most; no function of the program is spoken of. -/
import Derived.Test.YtfcnnolpcnacoaaDoorLists
import Derived.Lib.ItoaNum
import Derived.Lib.ItoaLen
import Derived.Lib.Join
import Derived.Lib.IndexMore
import Derived.Lib.ParseIntBCases
import Derived.Lib.SplitLaws
namespace Go.Proofs.YtfcnnolpcnacoaaDoor.Fx
open Go.RowKit

/-! Numerals. -/

/-- A number's digits. -/
def dg (z : Int) : List UInt8 := Lib.decDigits z.toNat
theorem digit_toNat {u : Nat} (h : u < 10) : (UInt8.ofNat (48 + u)).toNat = 48 + u := by
  rw [UInt8.toNat_ofNat']; exact Nat.mod_eq_of_lt (by omega)
theorem dec_digit (u : Nat) : ∀ c ∈ Lib.decDigits u, 48 ≤ c.toNat ∧ c.toNat ≤ 57 := by
  induction u using Nat.strongRecOn with
  | _ u ih =>
    intro c hc
    rw [Lib.decDigits] at hc
    split at hc
    · rename_i h
      rw [List.mem_singleton] at hc
      rw [hc, digit_toNat h]; omega
    · rcases List.mem_append.1 hc with h | h
      · exact ih (u / 10) (by omega) c h
      · rw [List.mem_singleton] at h
        rw [h, digit_toNat (by omega)]; omega
theorem dec_ne (u : Nat) : Lib.decDigits u ≠ [] := by
  intro h
  have := congrArg List.length h
  rw [Lib.decDigits_length] at this
  have := Lib.nDigits_pos u
  simp at *
  omega
theorem dec_parse (u : Nat) (r : List UInt8) (h : u < 18446744073709551616) : Lib.parseUint10 0 (Lib.decDigits u ++ r) = Lib.parseUint10 u r := by
  induction u using Nat.strongRecOn generalizing r with
  | _ u ih =>
    rw [Lib.decDigits]
    split
    · rename_i h1
      rw [List.singleton_append, Lib.parseUint10, digit_toNat h1, if_pos (by omega), if_neg (by omega), if_neg (by omega)]
      congr 1; omega
    · rw [List.append_assoc, ih (u / 10) (by omega) _ (by omega), List.singleton_append, Lib.parseUint10, digit_toNat (by omega), if_pos (by omega), if_neg (by omega), if_neg (by omega)]
      congr 1; omega
theorem dec_parseB (u : Nat) (h : u < 18446744073709551616) : Lib.parseUintB 64 (Lib.decDigits u) = .ok u := by
  rw [Lib.parseUintB_64, Lib.parseMag, if_neg (dec_ne u)]
  have := dec_parse u [] h
  rw [List.append_nil] at this
  rw [this]; rfl
theorem dec_inj {u v : Nat} (hu : u < 18446744073709551616) (hv : v < 18446744073709551616) (h : Lib.decDigits u = Lib.decDigits v) : u = v := by
  have a := dec_parseB u hu
  rw [h, dec_parseB v hv] at a
  injection a with a
  exact a.symm
theorem dec_short {u k : Nat} (hk : 1 ≤ k) (h : u < 10 ^ k) : (Lib.decDigits u).length ≤ k := by
  rw [Lib.decDigits_length]
  induction k generalizing u with
  | zero => omega
  | succ k ih =>
    by_cases h1 : u < 10
    · rw [Lib.nDigits_small h1]; omega
    · rw [Lib.nDigits_big h1]
      by_cases hk0 : k = 0
      · subst hk0; simp at h; omega
      · have := @ih (u / 10) (by omega) (by rw [Nat.pow_succ] at h; omega)
        omega
theorem itoa_dg {z : Int} (h : 0 ≤ z) : Lib.itoa z = dg z := by rw [Lib.itoa, if_neg (by omega)]; rfl

/-! Words between bytes b. -/

/-- Words, each with a b behind it, and what is left. -/
def glue (b : UInt8) (ws : List (List UInt8)) (p : List UInt8) : List UInt8 := (ws.map (· ++ [b])).flatten ++ p
def psStep (b : UInt8) (x : List (List UInt8) × List UInt8) (c : UInt8) : List (List UInt8) × List UInt8 := if c = b then (x.1 ++ [x.2], []) else (x.1, x.2 ++ [c])
/-- A text's words. -/
def ps (b : UInt8) (l : List UInt8) : List (List UInt8) × List UInt8 := l.foldl (psStep b) ([], [])
theorem ps_snoc (b : UInt8) (l : List UInt8) (c : UInt8) : ps b (l ++ [c]) = psStep b (ps b l) c := by simp [ps]
theorem glue_snoc (b : UInt8) (ws : List (List UInt8)) (p : List UInt8) : glue b (ws ++ [p]) [] = glue b ws p ++ [b] := by simp [glue]
theorem ps_glue (b : UInt8) (l : List UInt8) : glue b (ps b l).1 (ps b l).2 = l := by
  suffices h : ∀ k, k ≤ l.length → glue b (ps b (l.take k)).1 (ps b (l.take k)).2 = l.take k by
    have := h l.length (Nat.le_refl _); rwa [List.take_length] at this
  intro k
  induction k with
  | zero => intro _; simp [ps, glue]
  | succ k ih =>
    intro hk
    rw [List.take_add_one, List.getElem?_eq_getElem (by omega), Option.toList_some, ps_snoc, psStep]
    split
    · rename_i h
      rw [glue_snoc, ih (by omega), h]
    · rw [show glue b (ps b (List.take k l)).1 ((ps b (List.take k l)).2 ++ [l[k]]) = glue b (ps b (List.take k l)).1 (ps b (List.take k l)).2 ++ [l[k]] by simp [glue], ih (by omega)]
theorem fold_in (b : UInt8) : ∀ (p : List UInt8) (x : List (List UInt8) × List UInt8), b ∉ p → p.foldl (psStep b) x = (x.1, x.2 ++ p)
  | [], x, _ => by simp
  | c :: p, x, h => by
    have hc : ¬ c = b := fun e => h (by simp [e])
    rw [List.foldl_cons, psStep, if_neg hc, fold_in b p _ (fun e => h (List.mem_cons_of_mem _ e))]
    simp
theorem fold_glue (b : UInt8) : ∀ (ws : List (List UInt8)) (p : List UInt8) (xs : List (List UInt8)), (∀ w ∈ ws, b ∉ w) → b ∉ p → (glue b ws p).foldl (psStep b) (xs, []) = (xs ++ ws, p)
  | [], p, xs, _, hp => by simp [glue, fold_in b p _ hp]
  | w :: ws, p, xs, hw, hp => by
    have e : glue b (w :: ws) p = w ++ (b :: glue b ws p) := by simp [glue]
    rw [e, List.foldl_append, fold_in b w _ (hw w (by simp)), List.foldl_cons, psStep, if_pos rfl]
    simp only [List.nil_append]
    rw [fold_glue b ws p _ (fun x hx => hw x (List.mem_cons_of_mem _ hx)) hp]
    simp
theorem ps_of_glue (b : UInt8) (ws : List (List UInt8)) (p : List UInt8) (hw : ∀ w ∈ ws, b ∉ w) (hp : b ∉ p) : ps b (glue b ws p) = (ws, p) := by
  rw [ps, fold_glue b ws p [] hw hp]; simp
theorem ps_in (b : UInt8) (l : List UInt8) : (∀ w ∈ (ps b l).1, b ∉ w) ∧ b ∉ (ps b l).2 := by
  suffices h : ∀ k, k ≤ l.length → (∀ w ∈ (ps b (l.take k)).1, b ∉ w) ∧ b ∉ (ps b (l.take k)).2 by
    have := h l.length (Nat.le_refl _); rwa [List.take_length] at this
  intro k
  induction k with
  | zero => intro _; simp [ps]
  | succ k ih =>
    intro hk
    obtain ⟨h1, h2⟩ := ih (by omega)
    rw [List.take_add_one, List.getElem?_eq_getElem (by omega), Option.toList_some, ps_snoc, psStep]
    split
    · refine ⟨fun w hw => ?_, by simp⟩
      rcases List.mem_append.1 hw with h | h
      · exact h1 w h
      · rw [List.mem_singleton] at h; rw [h]; exact h2
    · rename_i hne
      refine ⟨h1, fun hm => ?_⟩
      rcases List.mem_append.1 hm with h | h
      · exact h2 h
      · rw [List.mem_singleton] at h; exact hne h.symm
/-- The words as one list. -/
def wordsOf (b : UInt8) (l : List UInt8) : List (List UInt8) := (ps b l).1 ++ [(ps b l).2]
theorem join_glue (b : UInt8) : ∀ (ws : List (List UInt8)) (p : List UInt8), Lib.join (ws ++ [p]) [b] = glue b ws p
  | [], p => by simp [Lib.join_one, glue]
  | [w], p => by simp [Lib.join, List.intercalate, List.intersperse, glue]
  | w :: x :: ws, p => by
    have h := join_glue b (x :: ws) p
    rw [Lib.join, List.intercalate] at *
    simp only [List.cons_append, List.intersperse_cons_cons, List.flatten_cons] at *
    rw [h]; simp [glue]
theorem join_wordsOf (b : UInt8) (l : List UInt8) : Lib.join (wordsOf b l) [b] = l := by rw [wordsOf, join_glue, ps_glue]
theorem wordsOf_join (b : UInt8) (ws : List (List UInt8)) (hne : ws ≠ []) (hw : ∀ w ∈ ws, b ∉ w) : wordsOf b (Lib.join ws [b]) = ws := by
  have e := List.dropLast_concat_getLast hne
  rw [← e, join_glue, wordsOf, ps_of_glue b _ _ (fun w h => hw w (List.dropLast_subset _ h)) (hw _ (List.getLast_mem hne))]

/-! The library's searches for one byte. -/
theorem index_at (b : UInt8) : ∀ (w r : List UInt8), b ∉ w → Lib.index (w ++ b :: r) [b] = w.length
  | [], r, _ => by simp [Lib.index, List.isPrefixOf]
  | c :: w, r, h => by
    have hc : ¬ b = c := fun e => h (by simp [e])
    have ih := index_at b w r (fun e => h (List.mem_cons_of_mem _ e))
    rw [List.cons_append, Lib.index, ih]
    simp [List.isPrefixOf, hc]
theorem index_not (b : UInt8) : ∀ (w : List UInt8), b ∉ w → Lib.index w [b] = -1
  | [], _ => by simp [Lib.index]
  | c :: w, h => by
    have hc : ¬ b = c := fun e => h (by simp [e])
    rw [Lib.index, index_not b w (fun e => h (List.mem_cons_of_mem _ e))]
    simp [List.isPrefixOf, hc]
theorem cut_at (b : UInt8) (w r : List UInt8) (h : b ∉ w) : Lib.cut (w ++ b :: r) [b] = (w, r, true) := by
  rw [Lib.cut, index_at b w r h, if_pos (by omega)]
  simp
theorem cut_not (b : UInt8) (w : List UInt8) (h : b ∉ w) : Lib.cut w [b] = (w, [], false) := by
  rw [Lib.cut, index_not b w h, if_neg (by omega)]
theorem first_at {b : UInt8} {s : List UInt8} (h : b ∈ s) : ∃ w r, s = w ++ b :: r ∧ b ∉ w := by
  induction s with
  | nil => simp at h
  | cons c s ih =>
    by_cases hc : c = b
    · exact ⟨[], s, by simp [hc], by simp⟩
    · obtain ⟨w, r, e, hw⟩ := ih ((List.mem_cons.1 h).resolve_left fun e => hc e.symm)
      refine ⟨c :: w, r, by simp [e], fun hm => ?_⟩
      rcases List.mem_cons.1 hm with h | h
      · exact hc h.symm
      · exact hw h
theorem split_glue (b : UInt8) : ∀ (ws : List (List UInt8)) (p : List UInt8), (∀ w ∈ ws, b ∉ w) → b ∉ p → Lib.splitK [b] 0 (Lib.count (glue b ws p) [b]) (glue b ws p) = ws ++ [p]
  | [], p, _, hp => by
    rw [Lib.count_one, show glue b [] p = p by simp [glue], List.count_eq_zero_of_not_mem hp]
    rfl
  | w :: ws, p, hw, hp => by
    have e : glue b (w :: ws) p = w ++ (b :: glue b ws p) := by simp [glue]
    have ih := split_glue b ws p (fun x hx => hw x (List.mem_cons_of_mem _ hx)) hp
    rw [Lib.count_one] at *
    have hc : List.count b (glue b (w :: ws) p) = List.count b (glue b ws p) + 1 := by
      rw [e, List.count_append, List.count_eq_zero_of_not_mem (hw w (by simp))]; simp
    rw [hc, Lib.splitK, e, index_at b w _ (hw w (by simp)), if_neg (by simp)]
    simp only [Int.toNat_natCast, Nat.add_zero, List.length_singleton, List.take_left', List.cons_append]
    rw [show List.drop (w.length + 1) (w ++ b :: glue b ws p) = glue b ws p by simp [List.drop_append], ih]
theorem split_words (b : UInt8) (l : List UInt8) : Lib.splitK [b] 0 (Lib.count l [b]) l = wordsOf b l := by
  have h := split_glue b (ps b l).1 (ps b l).2 (ps_in b l).1 (ps_in b l).2
  rw [ps_glue] at h
  exact h

/-! Lines. -/

/-- A record that may be told, as plain numbers: Step, Rate, Root, Chain, Batch. -/
structure Ln where
  s : Int
  r : Int
  root : Int
  chain : Int
  b : List Int
structure Ln.ok (l : Ln) : Prop where
  s : 0 ≤ l.s ∧ l.s ≤ 99
  r : 0 ≤ l.r ∧ l.r ≤ 2147483647
  root : 0 ≤ l.root ∧ l.root < 2305843009213693951
  chain : 0 ≤ l.chain ∧ l.chain < 2305843009213693951
  n : l.b.length ≤ 8
  b : ∀ z ∈ l.b, 0 ≤ z ∧ z ≤ 99
def Ln.nums (l : Ln) : List Int := [l.s, l.r, l.root, l.chain] ++ l.b
def Ln.words (l : Ln) : List (List UInt8) := l.nums.map dg
def Ln.line (l : Ln) : List UInt8 := Lib.join l.words [32]
def Ln.text (l : Ln) : List UInt8 := l.line ++ [10]
theorem dg_in (z : Int) : (32 : UInt8) ∉ dg z ∧ (10 : UInt8) ∉ dg z := by
  constructor <;> intro h <;> have := dec_digit _ _ h <;> revert this <;> decide
theorem Ln.words_ne (l : Ln) : l.words ≠ [] := by simp [Ln.words, Ln.nums]
theorem Ln.words_len (l : Ln) : l.words.length = l.b.length + 4 := by simp [Ln.words, Ln.nums]
theorem Ln.wordsOf (l : Ln) : Fx.wordsOf 32 l.line = l.words :=
  wordsOf_join 32 _ l.words_ne (fun w h => by
    obtain ⟨z, _, rfl⟩ := List.mem_map.1 h
    exact (dg_in z).1)
theorem join_not (b c : UInt8) (hbc : c ≠ b) (ws : List (List UInt8)) (h : ∀ w ∈ ws, c ∉ w) : c ∉ Lib.join ws [b] := by
  intro hm
  rw [Lib.join, List.intercalate] at hm
  obtain ⟨x, hx, hc⟩ := List.mem_flatten.1 hm
  induction ws with
  | nil => simp at hx
  | cons w ws ih =>
    cases ws with
    | nil => simp at hx; subst hx; exact h _ (by simp) hc
    | cons y ys =>
      rw [List.intersperse_cons_cons] at hx
      rcases List.mem_cons.1 hx with e | hx
      · subst e; exact h _ (by simp) hc
      · rcases List.mem_cons.1 hx with e | hx
        · subst e; rw [List.mem_singleton] at hc; exact hbc hc
        · refine ih (fun w hw => h w (List.mem_cons_of_mem _ hw)) ?_ hx
          exact List.mem_flatten.2 ⟨x, hx, hc⟩
theorem Ln.line_not (l : Ln) : (10 : UInt8) ∉ l.line :=
  join_not 32 10 (by decide) _ (fun w h => by
    obtain ⟨z, _, rfl⟩ := List.mem_map.1 h
    exact (dg_in z).2)
theorem Ln.ok.nums {l : Ln} (h : l.ok) : ∀ z ∈ l.nums, 0 ≤ z ∧ z < 2305843009213693951 := by
  intro z hz
  simp only [Ln.nums, List.cons_append, List.nil_append, List.mem_cons] at hz
  have := h.s; have := h.r; have := h.root; have := h.chain
  rcases hz with rfl | rfl | rfl | rfl | hz
  · omega
  · omega
  · omega
  · omega
  · have := h.b z hz; omega
theorem dg_inj {y z : Int} (hy : 0 ≤ y ∧ y < 2305843009213693951) (hz : 0 ≤ z ∧ z < 2305843009213693951) (h : dg y = dg z) : y = z := by
  have := dec_inj (by omega) (by omega) h
  omega
theorem map_dg_inj : ∀ {xs ys : List Int}, (∀ z ∈ xs, 0 ≤ z ∧ z < 2305843009213693951) → (∀ z ∈ ys, 0 ≤ z ∧ z < 2305843009213693951) → xs.map dg = ys.map dg → xs = ys
  | [], [], _, _, _ => rfl
  | [], _ :: _, _, _, h => by simp at h
  | _ :: _, [], _, _, h => by simp at h
  | x :: xs, y :: ys, hx, hy, h => by
    simp only [List.map_cons, List.cons.injEq] at h
    rw [dg_inj (hx x (by simp)) (hy y (by simp)) h.1, map_dg_inj (fun z hz => hx z (List.mem_cons_of_mem _ hz)) (fun z hz => hy z (List.mem_cons_of_mem _ hz)) h.2]
theorem Ln.nums_inj {l m : Ln} (h : l.nums = m.nums) : l = m := by
  cases l; cases m
  simp only [Ln.nums, List.cons_append, List.nil_append, List.cons.injEq] at h
  obtain ⟨rfl, rfl, rfl, rfl, rfl⟩ := h
  rfl
/-- A text begins with a record's line. -/
def IsLine (s : List UInt8) (l : Ln) : Prop := l.ok ∧ l.text <+: s
theorem first_eq {b : UInt8} {s w v : List UInt8} (hw : b ∉ w) (hv : b ∉ v) (h1 : w ++ [b] <+: s) (h2 : v ++ [b] <+: s) : w = v := by
  obtain ⟨r, rfl⟩ := h1
  obtain ⟨t, e⟩ := h2
  have a := index_at b w r hw
  have c := index_at b v t hv
  rw [List.append_assoc, List.singleton_append] at e
  rw [List.append_assoc, List.singleton_append] at e
  rw [e, a] at c
  have hl : w.length = v.length := by omega
  exact ((List.append_inj e hl.symm).1).symm
theorem line_unique {s w : List UInt8} {l : Ln} (h : IsLine s l) (hw : (10 : UInt8) ∉ w) (h1 : w ++ [10] <+: s) : l.line = w := first_eq l.line_not hw h.2 h1
theorem IsLine.unique {s : List UInt8} {l m : Ln} (h : IsLine s l) (k : IsLine s m) : l = m := by
  have e : l.line = m.line := first_eq l.line_not m.line_not h.2 k.2
  have e2 : l.words = m.words := by rw [← l.wordsOf, ← m.wordsOf, e]
  exact Ln.nums_inj (map_dg_inj h.1.nums k.1.nums e2)
theorem dg_short {z : Int} {k : Nat} (hk : 1 ≤ k) (h0 : 0 ≤ z) (h : z < (10 ^ k : Nat)) : (dg z).length ≤ k := dec_short hk (by omega)
theorem lens_small : ∀ (b : List Int), (∀ z ∈ b, 0 ≤ z ∧ z ≤ 99) → Lib.lens (b.map dg) ≤ 2 * b.length
  | [], _ => by simp [Lib.lens]
  | z :: b, h => by
    have := lens_small b (fun x hx => h x (List.mem_cons_of_mem _ hx))
    have h2 := dg_short (z := z) (k := 2) (by omega) (h z (by simp)).1 (by have := (h z (by simp)).2; omega)
    simp only [List.map_cons, List.length_cons]
    rw [show Lib.lens (dg z :: b.map dg) = (dg z).length + Lib.lens (b.map dg) by simp [Lib.lens]]
    omega
theorem Ln.ok.short {l : Ln} (h : l.ok) : l.text.length ≤ 78 := by
  have h1 := dg_short (z := l.s) (k := 2) (by omega) h.s.1 (by have := h.s.2; omega)
  have h2 := dg_short (z := l.r) (k := 10) (by omega) h.r.1 (by have := h.r.2; omega)
  have h3 := dg_short (z := l.root) (k := 19) (by omega) h.root.1 (by have := h.root.2; omega)
  have h4 := dg_short (z := l.chain) (k := 19) (by omega) h.chain.1 (by have := h.chain.2; omega)
  have h5 := lens_small l.b h.b
  have := h.n
  have e : l.line.length = 1 * (l.b.length + 3) + ((dg l.s).length + ((dg l.r).length + ((dg l.root).length + ((dg l.chain).length + Lib.lens (l.b.map dg))))) := by
    rw [Ln.line, Ln.words, Ln.nums]
    simp only [List.cons_append, List.nil_append, List.map_cons]
    rw [Lib.join_length]
    simp [Lib.lens]
  rw [Ln.text, List.length_append, e]
  simp
  omega
theorem IsLine.take {s : List UInt8} {l : Ln} (h : IsLine s l) {k : Nat} (hk : 78 ≤ k) : l.text <+: s.take k :=
  List.prefix_take_iff.2 ⟨h.2, Nat.le_trans h.1.short hk⟩
theorem text_ne (l : Ln) : 1 ≤ l.text.length := by simp [Ln.text]
end Go.Proofs.YtfcnnolpcnacoaaDoor.Fx
