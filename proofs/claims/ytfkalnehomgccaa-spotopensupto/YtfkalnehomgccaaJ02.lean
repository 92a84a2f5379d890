/- What math/bits.Len says of a small number, and what tree.split returns: where a tree is cut. -/
import Derived.Test.YtfkalnehomgccaaJ01
import Derived.Test.YtfkalnehomgccaaJ00
import Derived.Deep.RegionHeld3
import Derived.Deep.AppendLies
namespace Go.Proofs.Ytfkalnehomgccaa.Fx
open Go.RowKit

set_option maxHeartbeats 8000000 in
set_option maxRecDepth 100000 in
theorem len64_low (x : Int) (h1 : 1 ≤ x) (h2 : x ≤ 49) (w : World) : Calls Try.prog 50 #[.int .u64 x] w fun e w' => e = .returned (.int .i64 ((Nat.log2 x.toNat : Nat) + 1)) ∧ w' = w := by
  have h : x = 1 ∨ x = 2 ∨ x = 3 ∨ x = 4 ∨ x = 5 ∨ x = 6 ∨ x = 7 ∨ x = 8 ∨ x = 9 ∨ x = 10 ∨ x = 11 ∨ x = 12 ∨ x = 13 ∨ x = 14 ∨ x = 15 ∨ x = 16 ∨ x = 17 ∨ x = 18 ∨ x = 19 ∨ x = 20 ∨ x = 21 ∨ x = 22 ∨ x = 23 ∨ x = 24 ∨ x = 25 ∨ x = 26 ∨ x = 27 ∨ x = 28 ∨ x = 29 ∨ x = 30 ∨ x = 31 ∨ x = 32 ∨ x = 33 ∨ x = 34 ∨ x = 35 ∨ x = 36 ∨ x = 37 ∨ x = 38 ∨ x = 39 ∨ x = 40 ∨ x = 41 ∨ x = 42 ∨ x = 43 ∨ x = 44 ∨ x = 45 ∨ x = 46 ∨ x = 47 ∨ x = 48 ∨ x = 49 := by omega
  clear h1 h2
  rcases h with rfl | rfl | rfl | rfl | rfl | rfl | rfl | rfl | rfl | rfl | rfl | rfl | rfl | rfl | rfl | rfl | rfl | rfl | rfl | rfl | rfl | rfl | rfl | rfl | rfl | rfl | rfl | rfl | rfl | rfl | rfl | rfl | rfl | rfl | rfl | rfl | rfl | rfl | rfl | rfl | rfl | rfl | rfl | rfl | rfl | rfl | rfl | rfl | rfl
  all_goals
    go_enter Try.func50, Try.ntmps50
    go_wp2
    go_ret
    exact ⟨by kernel_rfl, rfl⟩

theorem len_low (x : Int) (h1 : 1 ≤ x) (h2 : x ≤ 49) (w : World) : Calls Try.prog 47 #[.int .u64 x] w fun e w' => e = .returned (.int .i64 ((Nat.log2 x.toNat : Nat) + 1)) ∧ w' = w := by
  go_enter Try.func47, Try.ntmps47
  go_wp2_with (go_at_call 50; refine (len64_low _ h1 h2 _).mono ?_; rintro e w' ⟨rfl, hw'⟩; replace hw' := hw'.symm; subst hw')
  go_ret
  exact ⟨rfl, rfl⟩

theorem log2_low : ∀ x : Nat, x < 50 → 0 < x → Nat.log2 x < 6 := by decide +kernel

theorem split_calls (n : Nat) (h1 : 2 ≤ n) (h2 : n ≤ 50) (w : World) : Calls Try.prog 44 #[.int .i64 n] w fun e w' => e = .returned (.int .i64 (cutN n)) ∧ w' = w := by
  unfold cutN
  obtain ⟨j, hj⟩ : ∃ j, Nat.log2 (n - 1) = j := ⟨_, rfl⟩
  have hj6 : j < 6 := by rw [← hj]; exact log2_low _ (by omega) (by omega)
  have HJ : Hid (Nat.log2 ((n : Int) - 1).toNat = j) := by rw [show ((n : Int) - 1).toNat = n - 1 from by omega]; exact hj
  rw [hj]
  clear hj
  rcases (show j = 0 ∨ j = 1 ∨ j = 2 ∨ j = 3 ∨ j = 4 ∨ j = 5 from by omega) with rfl | rfl | rfl | rfl | rfl | rfl
  all_goals
    go_enter Try.func44, Try.ntmps44
    go_wp2_with (go_at_call 47; refine (len_low _ (by omega) (by omega) _).mono ?_; rintro e w' ⟨rfl, hw'⟩; replace hw' := hw'.symm; subst hw'; rw [HJ.out])
    go_ret
    exact ⟨rfl, rfl⟩

end Go.Proofs.Ytfkalnehomgccaa.Fx

/- The first words of a list that lies in memory, and the others. -/
namespace Go.Proofs.Ytfkalnehomgccaa.Fx
open Go.RowKit

theorem LstW.head {w : World} {b off n c : Nat} {xs : List Int} (h : LstW w (some ⟨b, off, none⟩) n c xs) (hn : 0 < n) {k : Nat} (hk : k ≤ n) : LstW w (some ⟨b, off, none⟩) k c (xs.take k) := by
  simpa using h.sub hn 0 k (Nat.zero_le _) hk
theorem LstW.tail {w : World} {b off n c : Nat} {xs : List Int} (h : LstW w (some ⟨b, off, none⟩) n c xs) (hn : 0 < n) {k : Nat} (hk : k ≤ n) : LstW w (some ⟨b, off + k, none⟩) (n - k) (c - k) (xs.drop k) := by
  have h1 := h.sub hn k n hk (Nat.le_refl _)
  rwa [List.take_of_length_le (by rw [List.length_drop, h.len]; exact Nat.le_refl _)] at h1

end Go.Proofs.Ytfkalnehomgccaa.Fx

/- What tree.top returns: the tree of its leaves. -/
namespace Go.Proofs.Ytfkalnehomgccaa.Fx
open Go.RowKit

theorem top_calls : ∀ (m : Nat) (a : Option Addr) (n c : Nat) (xs : List Int) (w : World), n ≤ m → 1 ≤ n → n ≤ 50 → LstW w a n c xs → okL xs →
    Calls Try.prog 41 #[.slice a n c] w fun e w' => e = .returned (.int .u64 (treeP xs)) ∧ Below w.heap.size w w'
  | 0, a, n, c, xs, w, h, h1, h2, ha, hx => by omega
  | m + 1, a, n, c, xs, w, h, h1, h2, ha, hx => by
    have IH : Hid (∀ (a : Option Addr) (n c : Nat) (xs : List Int) (w : World), n ≤ m → 1 ≤ n → n ≤ 50 → LstW w a n c xs → okL xs →
      Calls Try.prog 41 #[.slice a n c] w fun e w' => e = .returned (.int .u64 (treeP xs)) ∧ Below w.heap.size w w') := top_calls m
    have HL := ha.len
    have HK := ha.cap
    obtain ⟨b, off, x, rfl, hb, h0, HX⟩ := ha.at1 (k := 0) (by omega)
    rw [Nat.add_zero] at h0
    by_cases h3 : n = 1
    · have n1 : ((n : Int) == 1) = true := by rw [beq_iff_eq]; omega
      have HT : Hid (treeP xs = x) := by rw [treeP_one (by omega)]; exact HX.out
      clear ha h3
      go_enter Try.func41, Try.ntmps41
      go_wp2
      go_ret
      exact ⟨ret_word HT.out.symm, Below.refl _ _⟩
    · have hc := cutN_lt (n := n) (by omega)
      have HT : Hid (treeP xs = ofP 3 [treeP (xs.take (cutN n)), treeP (xs.drop (cutN n))]) := by rw [← HL]; exact treeP_two (by omega)
      have HC : Hid (∀ w, Calls Try.prog 44 #[.int .i64 n] w fun e w' => e = .returned (.int .i64 (cutN n)) ∧ w' = w) := split_calls n (by omega) (by omega)
      generalize cutN n = k at *
      have hA := ha.head (by omega) (k := k) (by omega)
      have hB := ha.tail (by omega) (k := k) (by omega)
      have oA := okL_take hx k
      have oB := okL_drop hx k
      have tA : Hid (okW (treeP (xs.take k))) := treeP_ok oA (by rw [hA.len]; omega)
      have tB : Hid (okW (treeP (xs.drop k))) := treeP_ok oB (by rw [hB.len]; omega)
      have n1 : ((n : Int) == 1) = false := by rw [beq_eq_false_iff_ne]; omega
      have k0 : (0 : Int) ≤ (k : Int) := by omega
      have k1 : (k : Int) ≤ (n : Int) := by omega
      have k2 : (n : Int) ≤ (c : Int) := by omega
      have k3 : (k : Int) ≤ (c : Int) := by omega
      have k4 : ¬ c = k := by omega
      clear ha
      go_enter Try.func41, Try.ntmps41
      go_wp2_with (go_at_call 44; refine (HC.out _).mono ?_; rintro e w' ⟨rfl, hw'⟩; replace hw' := hw'.symm; subst hw')
      go_region_held3 (fun _ => True) (exact True.intro) (first | (go_at_call 41; refine (IH.out _ _ _ (xs.take k) _ (by omega) (by omega) (by omega) (by first | exact hA | exact hA.drewN _) oA).mono ?_; rintro e w1 ⟨rfl, hw1⟩) | (go_at_call 41; refine (IH.out _ _ _ (xs.drop k) _ (by omega) (by omega) (by omega) (by first | exact hB.below hw1 (Nat.le_refl _) | exact (hB.drewN _).below hw1 (Nat.le_refl _)) oB).mono ?_; rintro e w2 ⟨rfl, hw2⟩) | (go_at_call 32; refine (dPair_calls _ _ tA.out tB.out _).mono ?_; rintro e w3 ⟨rfl, hw3⟩))
      go_wp2
      go_ret
      have e1 : Below w.heap.size w w1 := (below_drewN (Below.refl _ _) 1).trans hw1
      have e2 := e1.trans (hw2.mono e1.size)
      exact ⟨ret_word HT.out.symm, e2.trans (hw3.mono e2.size)⟩

end Go.Proofs.Ytfkalnehomgccaa.Fx

/- A list of words that the program itself makes by append: what is known of it, and what one append more leaves. -/
namespace Go.Proofs.Ytfkalnehomgccaa.Fx
open Go.RowKit

/-- The slice value v, made from block number base on, owns the words xs. -/
def OwnW (base : Nat) (w : World) (v : Value) (xs : List Int) : Prop := w.ownsRow base 25 1 v xs.length (xs.map (Value.int .u64))

theorem OwnW.nil (base : Nat) (w : World) : OwnW base w (.slice none 0 0) [] := World.ownsRow_nil _ _ _ _
theorem OwnW.drew {base : Nat} {w : World} {v : Value} {xs : List Int} (h : OwnW base w v xs) : OwnW base w.drew v xs := h
theorem OwnW.drewN {base : Nat} {w : World} {v : Value} {xs : List Int} (h : OwnW base w v xs) (n : Nat) : OwnW base (w.drewN n) v xs := h
theorem OwnW.alloc {base : Nat} {w : World} {v : Value} {xs : List Int} (h : OwnW base w v xs) (o : Obj) : OwnW base (w.alloc o) v xs := World.ownsRow.alloc h o
theorem OwnW.below {base : Nat} {w w' : World} {v : Value} {xs : List Int} (h : OwnW base w v xs) (hb : Below w.heap.size w w') : OwnW base w' v xs := by
  refine ⟨h.1, ?_⟩
  rcases h.2 with h0 | ⟨g, cap, cur, hv, hg, hh, r⟩
  · exact .inl h0
  · exact .inr ⟨g, cap, cur, hv, hg, by rw [hb.block g (Array.getElem?_eq_some_iff.1 hh).1]; exact hh, r⟩
theorem OwnW.lst {base : Nat} {w : World} {v : Value} {xs : List Int} (h : OwnW base w v xs) : ∃ a c, v = .slice a xs.length c ∧ LstW w a xs.length c xs := LstW.owned h
theorem OwnW.lst' {base : Nat} {w : World} {v : Value} {xs : List Int} {n : Nat} (h : OwnW base w v xs) (hn : xs.length = n) : ∃ a c, v = .slice a n c ∧ LstW w a n c xs := by
  subst hn; exact LstW.owned h
theorem OwnW.congr {base : Nat} {w : World} {v : Value} {xs ys : List Int} (h : OwnW base w v xs) (e : xs = ys) : OwnW base w v ys := e ▸ h
theorem range_snocW (g : Nat → Int) (k : Nat) (x : Int) (h : g k = x) : (List.range k).map g ++ [x] = (List.range (k + 1)).map g := by
  rw [List.range_succ, List.map_append, List.map_singleton, h]

section
variable {w' W0 : World} {ops : Array Oper} {o : Oper} {a : Act} {Q : Exit → Act → World → Prop}

theorem run_append_word (ty : TypeId) (base : Nat) (v : Value) (xs : List Int) (z : Int) (g : Nat) (hown : OwnW base w' v xs) (hc : w'.cell? ⟨g, 0, none⟩ = some (.int .u64 z))
    (hn : (xs.length + 1) * 8 ≤ 140737488355328) (hbase : base ≤ w'.heap.size) (hB : Below base W0 w') :
    ∃ v' w1, (Builtin.append_ #[26, 26] ty #[v, .slice (some ⟨g, 0, none⟩) 1 1]).run Try.prog w' = .ok v' w1 ∧ OwnW base w1 v' (xs ++ [z]) ∧ Below base W0 w1 := by
  obtain ⟨i0, hi, hz0, hz1, hz2⟩ := info_parts infoW
  obtain ⟨v', w1, hrun, h1, h2, _⟩ := run_append_own (P := Try.prog) w' base 26 ty 25 i0 (.int .u64 0) 1 8 Try.underlying26 hi hz0 hz1 hz2 rfl (by decide) v xs.length _ hown ⟨g, 0, none⟩ 1 1 [.int .u64 z] rfl
    (by intro j u hj
        match j, hj with
        | 0, hj => simp at hj; subst hj; simpa [Addr.add] using hc)
    (by intro u hu; simp at hu; subst hu; rfl) (by unfold maxLen; omega) hn hbase
  refine ⟨v', w1, hrun, by unfold OwnW; rw [List.length_append, List.map_append]; exact h1, hB.grown h2 hbase ?_⟩
  intro k hk
  rcases hown.2 with ⟨rfl, _⟩ | ⟨g', cap, cur, rfl, hg, _⟩
  · simp [Value.ownBlock] at hk
  · simp [Value.ownBlock] at hk; omega

theorem wpList_append_word {rest : List Oper} (hgd : o.guard = none) (s x : Operand) (ho : o.op = .call { callee := .builtin .append, args := #[s, x], argTypes := #[26, 26] })
    (base : Nat) (v : Value) (xs : List Int) (z : Int) (g : Nat) (W0 : World) (hs : a.eval s = v) (hx : a.eval x = .slice (some ⟨g, 0, none⟩) 1 1) (hown : OwnW base w' v xs) (hc : w'.cell? ⟨g, 0, none⟩ = some (.int .u64 z))
    (hn : (xs.length + 1) * 8 ≤ 140737488355328) (hbase : base ≤ w'.heap.size) (hB : Below base W0 w')
    (h : ∀ v' w1, OwnW base w1 v' (xs ++ [z]) → Below base W0 w1 → wpList Try.prog ops Q rest (a.put o.dst v') w1) : wpList Try.prog ops Q (o :: rest) a w' := by
  obtain ⟨v', w1, hrun, h1, h2⟩ := run_append_word o.type base v xs z g hown hc hn hbase hB
  refine wpList_plain hgd fun K hK => ?_
  unfold Oper.wp
  simp [execOp, ho, resolve, invoke, builtin, hs, hx, hrun, Result.andThen]
  exact hK _ _ (h v' w1 h1 h2)

theorem step_append_word {K : Act → World → Prop} {E : Prop} (hgd : o.guard = none) (s x : Operand) (ho : o.op = .call { callee := .builtin .append, args := #[s, x], argTypes := #[26, 26] })
    (base : Nat) (v : Value) (xs : List Int) (z : Int) (g : Nat) (W0 : World) (hs : a.eval s = v) (hx : a.eval x = .slice (some ⟨g, 0, none⟩) 1 1) (hown : OwnW base w' v xs) (hc : w'.cell? ⟨g, 0, none⟩ = some (.int .u64 z))
    (hn : (xs.length + 1) * 8 ≤ 140737488355328) (hbase : base ≤ w'.heap.size) (hB : Below base W0 w')
    (h : ∀ v' w1, OwnW base w1 v' (xs ++ [z]) → Below base W0 w1 → K (a.put o.dst v') w1) :
    if Region.wanted o (yielded ops a.tmps) = true then Oper.wp Try.prog o a w' K Q else E := by
  obtain ⟨v', w1, hrun, h1, h2⟩ := run_append_word o.type base v xs z g hown hc hn hbase hB
  have hw : Region.wanted o (yielded ops a.tmps) = true := by simp [Region.wanted, hgd]
  rw [if_pos hw]
  unfold Oper.wp
  simp [execOp, ho, resolve, invoke, builtin, hs, hx, hrun, Result.andThen]
  exact h v' w1 h1 h2
end
end Go.Proofs.Ytfkalnehomgccaa.Fx

/- What tree.pairs and tree.beside return: how deep a leaf lies, and its way. -/
namespace Go.Proofs.Ytfkalnehomgccaa.Fx
open Go.RowKit

theorem pairs_calls : ∀ (m i n : Nat) (w : World), n ≤ m → 1 ≤ n → n ≤ 50 → i < n →
    Calls Try.prog 38 #[.int .i64 i, .int .i64 n] w fun e w' => e = .returned (.int .i64 (deepP i n)) ∧ w' = w
  | 0, i, n, w, h, h1, h2, h3 => by omega
  | m + 1, i, n, w, h, h1, h2, h3 => by
    have IH : Hid (∀ (i n : Nat) (w : World), n ≤ m → 1 ≤ n → n ≤ 50 → i < n →
      Calls Try.prog 38 #[.int .i64 i, .int .i64 n] w fun e w' => e = .returned (.int .i64 (deepP i n)) ∧ w' = w) := pairs_calls m
    by_cases h4 : n = 1
    · have n1 : ((n : Int) == 1) = true := by rw [beq_iff_eq]; omega
      have HT : Hid (deepP i n = 0) := deepP_one (by omega) i
      clear h4
      go_enter Try.func38, Try.ntmps38
      go_wp2
      go_ret
      exact ⟨ret_word (by rw [HT.out]; rfl), rfl⟩
    · have hc := cutN_lt (n := n) (by omega)
      have HC : Hid (∀ w, Calls Try.prog 44 #[.int .i64 n] w fun e w' => e = .returned (.int .i64 (cutN n)) ∧ w' = w) := split_calls n (by omega) (by omega)
      have HL : Hid (i < cutN n → deepP i n = 1 + deepP i (cutN n)) := deepP_left (by omega)
      have HR : Hid (¬ i < cutN n → deepP i n = 1 + deepP (i - cutN n) (n - cutN n)) := deepP_right (by omega)
      have n1 : ((n : Int) == 1) = false := by rw [beq_eq_false_iff_ne]; omega
      generalize cutN n = k at *
      by_cases h5 : i < k
      · have HD := HL.out h5
        have hd := deepP_le i k
        generalize hq : deepP i k = q at *
        have HQ : Hid (deepP i k = q) := hq
        clear HL HR hq
        go_enter Try.func38, Try.ntmps38
        go_wp2_with (first | (go_at_call 44; refine (HC.out _).mono ?_; rintro e w' ⟨rfl, hw'⟩; replace hw' := hw'.symm; subst hw') | (go_at_call 38; refine (IH.out _ _ _ (by omega) (by omega) (by omega) (by omega)).mono ?_; rintro e w' ⟨rfl, hw'⟩; replace hw' := hw'.symm; subst hw'; rw [HQ.out]))
        go_ret
        exact ⟨ret_word (by rw [HD]; omega), rfl⟩
      · have HD := HR.out h5
        have hd := deepP_le (i - k) (n - k)
        generalize hq : deepP (i - k) (n - k) = q at *
        have HQ : Hid (deepP (i - k) (n - k) = q) := hq
        have e1 : (i : Int) - (k : Int) = ((i - k : Nat) : Int) := by omega
        have e2 : (n : Int) - (k : Int) = ((n - k : Nat) : Int) := by omega
        clear HL HR hq
        go_enter Try.func38, Try.ntmps38
        go_wp2_with (first | (go_at_call 44; refine (HC.out _).mono ?_; rintro e w' ⟨rfl, hw'⟩; replace hw' := hw'.symm; subst hw') | (go_at_call 38; refine (IH.out _ _ _ (by omega) (by omega) (by omega) (by omega)).mono ?_; rintro e w' ⟨rfl, hw'⟩; replace hw' := hw'.symm; subst hw'; rw [HQ.out]))
        go_ret
        exact ⟨ret_word (by rw [HD]; omega), rfl⟩

set_option maxRecDepth 100000 in
theorem beside_calls : ∀ (m : Nat) (a : Option Addr) (n c : Nat) (xs : List Int) (i : Nat) (w : World), n ≤ m → 1 ≤ n → n ≤ 50 → i < n → LstW w a n c xs → okL xs →
    Calls Try.prog 36 #[.slice a n c, .int .i64 i] w fun e w' => ∃ v, e = .returned v ∧ OwnW w.heap.size w' v (wayP xs i) ∧ Below w.heap.size w w'
  | 0, a, n, c, xs, i, w, h, h1, h2, h3, ha, hx => by omega
  | m + 1, a, n, c, xs, i, w, h, h1, h2, h3, ha, hx => by
    have IH : Hid (∀ (a : Option Addr) (n c : Nat) (xs : List Int) (i : Nat) (w : World), n ≤ m → 1 ≤ n → n ≤ 50 → i < n → LstW w a n c xs → okL xs →
      Calls Try.prog 36 #[.slice a n c, .int .i64 i] w fun e w' => ∃ v, e = .returned v ∧ OwnW w.heap.size w' v (wayP xs i) ∧ Below w.heap.size w w') := beside_calls m
    have HL := ha.len
    have HK := ha.cap
    obtain ⟨b, off, x, rfl, hb, h0, HX⟩ := ha.at1 (k := 0) (by omega)
    by_cases h4 : n = 1
    · have n1 : ((n : Int) == 1) = true := by rw [beq_iff_eq]; omega
      have HT : Hid (wayP xs i = []) := wayP_one (by omega) i
      clear ha h4
      go_enter Try.func36, Try.ntmps36
      go_wp2
      go_ret
      exact ⟨_, rfl, by rw [HT.out]; exact OwnW.nil _ _, Below.refl _ _⟩
    · have hc := cutN_lt (n := n) (by omega)
      have HC : Hid (∀ w, Calls Try.prog 44 #[.int .i64 n] w fun e w' => e = .returned (.int .i64 (cutN n)) ∧ w' = w) := split_calls n (by omega) (by omega)
      have WL : Hid (i < cutN n → wayP xs i = wayP (xs.take (cutN n)) i ++ [treeP (xs.drop (cutN n))]) := by rw [← HL]; exact wayP_left (by omega)
      have WR : Hid (¬ i < cutN n → wayP xs i = wayP (xs.drop (cutN n)) (i - cutN n) ++ [treeP (xs.take (cutN n))]) := by rw [← HL]; exact wayP_right (by omega)
      have n1 : ((n : Int) == 1) = false := by rw [beq_eq_false_iff_ne]; omega
      generalize cutN n = k at *
      have hA := ha.head (by omega) (k := k) (by omega)
      have hB := ha.tail (by omega) (k := k) (by omega)
      have oA := okL_take hx k
      have oB := okL_drop hx k
      have k0 : (0 : Int) ≤ (k : Int) := by omega
      have k1 : (k : Int) ≤ (n : Int) := by omega
      have k2 : (n : Int) ≤ (c : Int) := by omega
      have k3 : (k : Int) ≤ (c : Int) := by omega
      have k4 : ¬ c = k := by omega
      have lA := (way_deep _ (xs.take k) i (Nat.le_refl _) oA).1
      have lB := (way_deep _ (xs.drop k) (i - k) (Nat.le_refl _) oB).1
      have dA := deepP_le i (xs.take k).length
      have dB := deepP_le (i - k) (xs.drop k).length
      rw [← lA, hA.len] at dA
      rw [← lB, hB.len] at dB
      have TOP := top_calls 50
      have HTOP : Hid (∀ (a : Option Addr) (n c : Nat) (xs : List Int) (w : World), n ≤ 50 → 1 ≤ n → n ≤ 50 → LstW w a n c xs → okL xs →
        Calls Try.prog 41 #[.slice a n c] w fun e w' => e = .returned (.int .u64 (treeP xs)) ∧ Below w.heap.size w w') := TOP
      clear ha lA lB TOP
      by_cases h5 : i < k
      · have HW : Hid (wayP xs i = wayP (xs.take k) i ++ [treeP (xs.drop k)]) := WL.out h5
        clear WL WR
        go_enter Try.func36, Try.ntmps36
        go_wp2_with (go_at_call 44; refine (HC.out _).mono ?_; rintro e w' ⟨rfl, hw'⟩; replace hw' := hw'.symm; subst hw')
        go_region_held3 (fun _ => True) (exact True.intro) (first | (refine step_append_word (by rfl) _ _ (by rfl) w.heap.size _ (wayP (xs.take k) i) (treeP (xs.drop k)) w2.heap.size w (by rfl) (by rfl) (by exact hown2.alloc _) (by exact cell_new _ _ _) (by omega) (by simp; omega) (by exact hbel2.alloc hsz3 _) ?_; intro v3 w3 hown3 hbel3) | (go_at_call 36; refine (IH.out _ _ _ (xs.take k) i _ (by omega) (by omega) (by omega) h5 (by first | exact hA | exact hA.drewN _) oA).mono ?_; rintro e w1 ⟨v1, rfl, hown1, hw1⟩) | (go_at_call 41; refine (HTOP.out _ _ _ (xs.drop k) _ (by omega) (by omega) (by omega) (by first | exact hB.below hw1 (Nat.le_refl _) | exact (hB.drewN _).below hw1 (Nat.le_refl _)) oB).mono ?_; rintro e w2 ⟨rfl, hw2⟩; have hown2 := hown1.below hw2; have hbel1 : Below w.heap.size w w1 := (below_drewN (Below.refl _ _) 1).trans hw1; have hbel2 := hbel1.trans (hw2.mono hbel1.size); have hsz3 := hbel2.size))
        go_wp2
        go_ret
        exact ⟨_, rfl, hown3.congr HW.out.symm, hbel3⟩
      · have HW : Hid (wayP xs i = wayP (xs.drop k) (i - k) ++ [treeP (xs.take k)]) := WR.out h5
        clear WL WR
        have e1 : IntKind.i64.wrap ((i : Int) - (k : Int)) = ((i - k : Nat) : Int) := by rw [wrap_in _ (by omega) (by omega)]; omega
        go_enter Try.func36, Try.ntmps36
        go_wp2_with (go_at_call 44; refine (HC.out _).mono ?_; rintro e w' ⟨rfl, hw'⟩; replace hw' := hw'.symm; subst hw')
        go_region_held3 (fun _ => True) (exact True.intro) (first | (refine step_append_word (by rfl) _ _ (by rfl) w.heap.size _ (wayP (xs.drop k) (i - k)) (treeP (xs.take k)) w2.heap.size w (by rfl) (by rfl) (by exact hown2.alloc _) (by exact cell_new _ _ _) (by omega) (by simp; omega) (by exact hbel2.alloc hsz3 _) ?_; intro v3 w3 hown3 hbel3) | (go_at_call 36; refine (IH.out _ _ _ (xs.drop k) (i - k) _ (by omega) (by omega) (by omega) (by omega) (by first | exact hB | exact hB.drewN _) oB).mono ?_; rintro e w1 ⟨v1, rfl, hown1, hw1⟩) | (go_at_call 41; refine (HTOP.out _ _ _ (xs.take k) _ (by omega) (by omega) (by omega) (by first | exact hA.below hw1 (Nat.le_refl _) | exact (hA.drewN _).below hw1 (Nat.le_refl _)) oA).mono ?_; rintro e w2 ⟨rfl, hw2⟩; have hown2 := hown1.below hw2; have hbel1 : Below w.heap.size w w1 := (below_drewN (Below.refl _ _) 1).trans hw1; have hbel2 := hbel1.trans (hw2.mono hbel1.size); have hsz3 := hbel2.size))
        go_wp2
        go_ret
        exact ⟨_, rfl, hown3.congr HW.out.symm, hbel3⟩

end Go.Proofs.Ytfkalnehomgccaa.Fx
