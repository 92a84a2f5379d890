/- What math/bits.Len says of a small number, and what tree.split returns: where a tree is cut. -/
import Derived.Test.YtkikhfdkibekgaaGreatJ02
import Derived.Test.YtkikhfdkibekgaaGreatJ08
import Derived.Test.YtkikhfdkibekgaaGreatJ01
import Derived.Deep.RegionHeld3
import Derived.Deep.AppendLies
namespace Go.Proofs.YtkikhfdkibekgaaGreat.Fx
open Go.RowKit

set_option maxHeartbeats 8000000 in
set_option maxRecDepth 100000 in
theorem len64_low (x : Int) (h1 : 1 ≤ x) (h2 : x ≤ 49) (w : World) : Calls Tryz.prog 108 #[.int .u64 x] w fun e w' => e = .returned (.int .i64 ((Nat.log2 x.toNat : Nat) + 1)) ∧ w' = w := by
  have h : x = 1 ∨ x = 2 ∨ x = 3 ∨ x = 4 ∨ x = 5 ∨ x = 6 ∨ x = 7 ∨ x = 8 ∨ x = 9 ∨ x = 10 ∨ x = 11 ∨ x = 12 ∨ x = 13 ∨ x = 14 ∨ x = 15 ∨ x = 16 ∨ x = 17 ∨ x = 18 ∨ x = 19 ∨ x = 20 ∨ x = 21 ∨ x = 22 ∨ x = 23 ∨ x = 24 ∨ x = 25 ∨ x = 26 ∨ x = 27 ∨ x = 28 ∨ x = 29 ∨ x = 30 ∨ x = 31 ∨ x = 32 ∨ x = 33 ∨ x = 34 ∨ x = 35 ∨ x = 36 ∨ x = 37 ∨ x = 38 ∨ x = 39 ∨ x = 40 ∨ x = 41 ∨ x = 42 ∨ x = 43 ∨ x = 44 ∨ x = 45 ∨ x = 46 ∨ x = 47 ∨ x = 48 ∨ x = 49 := by omega
  clear h1 h2
  rcases h with rfl | rfl | rfl | rfl | rfl | rfl | rfl | rfl | rfl | rfl | rfl | rfl | rfl | rfl | rfl | rfl | rfl | rfl | rfl | rfl | rfl | rfl | rfl | rfl | rfl | rfl | rfl | rfl | rfl | rfl | rfl | rfl | rfl | rfl | rfl | rfl | rfl | rfl | rfl | rfl | rfl | rfl | rfl | rfl | rfl | rfl | rfl | rfl | rfl
  all_goals
    go_enter Tryz.func108, Tryz.ntmps108
    go_wp2
    go_ret
    exact ⟨by kernel_rfl, rfl⟩

theorem len_low (x : Int) (h1 : 1 ≤ x) (h2 : x ≤ 49) (w : World) : Calls Tryz.prog 104 #[.int .u64 x] w fun e w' => e = .returned (.int .i64 ((Nat.log2 x.toNat : Nat) + 1)) ∧ w' = w := by
  go_enter Tryz.func104, Tryz.ntmps104
  go_wp2_with (go_at_call 108; refine (len64_low _ h1 h2 _).mono ?_; rintro e w' ⟨rfl, hw'⟩; replace hw' := hw'.symm; subst hw')
  go_ret
  exact ⟨rfl, rfl⟩

theorem log2_low : ∀ x : Nat, x < 50 → 0 < x → Nat.log2 x < 6 := by decide +kernel

theorem split_calls (n : Nat) (h1 : 2 ≤ n) (h2 : n ≤ 50) (w : World) : Calls Tryz.prog 95 #[.int .i64 n] w fun e w' => e = .returned (.int .i64 (cutN n)) ∧ w' = w := by
  unfold cutN
  obtain ⟨j, hj⟩ : ∃ j, Nat.log2 (n - 1) = j := ⟨_, rfl⟩
  have hj6 : j < 6 := by rw [← hj]; exact log2_low _ (by omega) (by omega)
  have HJ : Hid (Nat.log2 ((n : Int) - 1).toNat = j) := by rw [show ((n : Int) - 1).toNat = n - 1 from by omega]; exact hj
  rw [hj]
  clear hj
  rcases (show j = 0 ∨ j = 1 ∨ j = 2 ∨ j = 3 ∨ j = 4 ∨ j = 5 from by omega) with rfl | rfl | rfl | rfl | rfl | rfl
  all_goals
    go_enter Tryz.func95, Tryz.ntmps95
    go_wp2_with (go_at_call 104; refine (len_low _ (by omega) (by omega) _).mono ?_; rintro e w' ⟨rfl, hw'⟩; replace hw' := hw'.symm; subst hw'; rw [HJ.out])
    go_ret
    exact ⟨rfl, rfl⟩

end Go.Proofs.YtkikhfdkibekgaaGreat.Fx

/- The first words of a list that lies in memory, and the others. -/
namespace Go.Proofs.YtkikhfdkibekgaaGreat.Fx
open Go.RowKit

theorem LstW.head {w : World} {b off n c : Nat} {xs : List Int} (h : LstW w (some ⟨b, off, none⟩) n c xs) (hn : 0 < n) {k : Nat} (hk : k ≤ n) : LstW w (some ⟨b, off, none⟩) k c (xs.take k) := by
  simpa using h.sub hn 0 k (Nat.zero_le _) hk
theorem LstW.tail {w : World} {b off n c : Nat} {xs : List Int} (h : LstW w (some ⟨b, off, none⟩) n c xs) (hn : 0 < n) {k : Nat} (hk : k ≤ n) : LstW w (some ⟨b, off + k, none⟩) (n - k) (c - k) (xs.drop k) := by
  have h1 := h.sub hn k n hk (Nat.le_refl _)
  rwa [List.take_of_length_le (by rw [List.length_drop, h.len]; exact Nat.le_refl _)] at h1

end Go.Proofs.YtkikhfdkibekgaaGreat.Fx

/- What tree.top returns: the tree of its leaves. -/
namespace Go.Proofs.YtkikhfdkibekgaaGreat.Fx
open Go.RowKit

theorem top_calls : ∀ (m : Nat) (a : Option Addr) (n c : Nat) (xs : List Int) (w : World), n ≤ m → 1 ≤ n → n ≤ 50 → LstW w a n c xs → okL xs →
    Calls Tryz.prog 73 #[.slice a n c] w fun e w' => e = .returned (.int .u64 (treeP xs)) ∧ Below w.heap.size w w'
  | 0, a, n, c, xs, w, h, h1, h2, ha, hx => by omega
  | m + 1, a, n, c, xs, w, h, h1, h2, ha, hx => by
    have IH : Hid (∀ (a : Option Addr) (n c : Nat) (xs : List Int) (w : World), n ≤ m → 1 ≤ n → n ≤ 50 → LstW w a n c xs → okL xs →
      Calls Tryz.prog 73 #[.slice a n c] w fun e w' => e = .returned (.int .u64 (treeP xs)) ∧ Below w.heap.size w w') := top_calls m
    have HL := ha.len
    have HK := ha.cap
    obtain ⟨b, off, x, rfl, hb, h0, HX⟩ := ha.at1 (k := 0) (by omega)
    rw [Nat.add_zero] at h0
    by_cases h3 : n = 1
    · have n1 : ((n : Int) == 1) = true := by rw [beq_iff_eq]; omega
      have HT : Hid (treeP xs = x) := by rw [treeP_one (by omega)]; exact HX.out
      clear ha h3
      go_enter Tryz.func73, Tryz.ntmps73
      go_wp2
      go_ret
      exact ⟨ret_word HT.out.symm, Below.refl _ _⟩
    · have hc := cutN_lt (n := n) (by omega)
      have HT : Hid (treeP xs = ofP 3 [treeP (xs.take (cutN n)), treeP (xs.drop (cutN n))]) := by rw [← HL]; exact treeP_two (by omega)
      have HC : Hid (∀ w, Calls Tryz.prog 95 #[.int .i64 n] w fun e w' => e = .returned (.int .i64 (cutN n)) ∧ w' = w) := split_calls n (by omega) (by omega)
      generalize cutN n = k at *
      have hA := ha.head (by omega) (k := k) (by omega)
      have hB := ha.tail (by omega) (k := k) (by omega)
      have oA := okL_take hx k
      have oB := okL_drop hx k
      have tA : Hid (okW (treeP (xs.take k))) := treeP_ok oA (by rw [hA.len]; omega)
      have tB : Hid (okW (treeP (xs.drop k))) := treeP_ok oB (by rw [hB.len]; omega)
      have n1 : ((n : Int) == 1) = false := by rw [beq_eq_false_iff_ne]; omega
      have k0 : (0 : Int) ≤ (k : Int) := by omega
      have k1 : (k : Int) ≤ (n : Int) := by omega
      have k2 : (n : Int) ≤ (c : Int) := by omega
      have k3 : (k : Int) ≤ (c : Int) := by omega
      have k4 : ¬ c = k := by omega
      clear ha
      go_enter Tryz.func73, Tryz.ntmps73
      go_wp2_with (go_at_call 95; refine (HC.out _).mono ?_; rintro e w' ⟨rfl, hw'⟩; replace hw' := hw'.symm; subst hw')
      go_region_held3 (fun _ => True) (exact True.intro) (first | (go_at_call 73; refine (IH.out _ _ _ (xs.take k) _ (by omega) (by omega) (by omega) (by first | exact hA | exact hA.drewN _) oA).mono ?_; rintro e w1 ⟨rfl, hw1⟩) | (go_at_call 73; refine (IH.out _ _ _ (xs.drop k) _ (by omega) (by omega) (by omega) (by first | exact hB.below hw1 (Nat.le_refl _) | exact (hB.drewN _).below hw1 (Nat.le_refl _)) oB).mono ?_; rintro e w2 ⟨rfl, hw2⟩) | (go_at_call 72; refine (dPair_calls _ _ tA.out tB.out _).mono ?_; rintro e w3 ⟨rfl, hw3⟩))
      go_wp2
      go_ret
      have e1 : Below w.heap.size w w1 := (below_drewN (Below.refl _ _) 1).trans hw1
      have e2 := e1.trans (hw2.mono e1.size)
      exact ⟨ret_word HT.out.symm, e2.trans (hw3.mono e2.size)⟩

end Go.Proofs.YtkikhfdkibekgaaGreat.Fx

/- A list of words that the program itself makes by append: what is known of it, and what one append more leaves. -/
namespace Go.Proofs.YtkikhfdkibekgaaGreat.Fx
open Go.RowKit

/-- The slice value v, made from block number base on, owns the words xs. -/
def OwnW (base : Nat) (w : World) (v : Value) (xs : List Int) : Prop := w.ownsRow base 22 1 v xs.length (xs.map (Value.int .u64))

theorem OwnW.nil (base : Nat) (w : World) : OwnW base w (.slice none 0 0) [] := World.ownsRow_nil _ _ _ _
theorem OwnW.drew {base : Nat} {w : World} {v : Value} {xs : List Int} (h : OwnW base w v xs) : OwnW base w.drew v xs := h
theorem OwnW.drewN {base : Nat} {w : World} {v : Value} {xs : List Int} (h : OwnW base w v xs) (n : Nat) : OwnW base (w.drewN n) v xs := h
theorem OwnW.alloc {base : Nat} {w : World} {v : Value} {xs : List Int} (h : OwnW base w v xs) (o : Obj) : OwnW base (w.alloc o) v xs := World.ownsRow.alloc h o
theorem OwnW.below {base : Nat} {w w' : World} {v : Value} {xs : List Int} (h : OwnW base w v xs) (hb : Below w.heap.size w w') : OwnW base w' v xs := by
  refine ⟨h.1, ?_⟩
  rcases h.2 with h0 | ⟨g, cap, cur, hv, hg, hh, r⟩
  · exact .inl h0
  · exact .inr ⟨g, cap, cur, hv, hg, by rw [hb.block g (Array.getElem?_eq_some_iff.1 hh).1]; exact hh, r⟩
theorem OwnW.lst {base : Nat} {w : World} {v : Value} {xs : List Int} (h : OwnW base w v xs) : ∃ a c, v = .slice a xs.length c ∧ LstW w a xs.length c xs := LstW.owned h
theorem OwnW.lst' {base : Nat} {w : World} {v : Value} {xs : List Int} {n : Nat} (h : OwnW base w v xs) (hn : xs.length = n) : ∃ a c, v = .slice a n c ∧ LstW w a n c xs := by
  subst hn; exact LstW.owned h
theorem OwnW.congr {base : Nat} {w : World} {v : Value} {xs ys : List Int} (h : OwnW base w v xs) (e : xs = ys) : OwnW base w v ys := e ▸ h
theorem range_snocW (g : Nat → Int) (k : Nat) (x : Int) (h : g k = x) : (List.range k).map g ++ [x] = (List.range (k + 1)).map g := by
  rw [List.range_succ, List.map_append, List.map_singleton, h]

section
variable {w' W0 : World} {ops : Array Oper} {o : Oper} {a : Act} {Q : Exit → Act → World → Prop}

theorem run_append_word (ty : TypeId) (base : Nat) (v : Value) (xs : List Int) (z : Int) (g : Nat) (hown : OwnW base w' v xs) (hc : w'.cell? ⟨g, 0, none⟩ = some (.int .u64 z))
    (hn : (xs.length + 1) * 8 ≤ 140737488355328) (hbase : base ≤ w'.heap.size) (hB : Below base W0 w') :
    ∃ v' w1, (Builtin.append_ #[67, 67] ty #[v, .slice (some ⟨g, 0, none⟩) 1 1]).run Tryz.prog w' = .ok v' w1 ∧ OwnW base w1 v' (xs ++ [z]) ∧ Below base W0 w1 := by
  obtain ⟨i0, hi, hz0, hz1, hz2⟩ := info_parts infoW
  obtain ⟨v', w1, hrun, h1, h2, _⟩ := run_append_own (P := Tryz.prog) w' base 67 ty 22 i0 (.int .u64 0) 1 8 Tryz.underlying67 hi hz0 hz1 hz2 rfl (by decide) v xs.length _ hown ⟨g, 0, none⟩ 1 1 [.int .u64 z] rfl
    (by intro j u hj
        match j, hj with
        | 0, hj => simp at hj; subst hj; simpa [Addr.add] using hc)
    (by intro u hu; simp at hu; subst hu; rfl) (by unfold maxLen; omega) hn hbase
  refine ⟨v', w1, hrun, by unfold OwnW; rw [List.length_append, List.map_append]; exact h1, hB.grown h2 hbase ?_⟩
  intro k hk
  rcases hown.2 with ⟨rfl, _⟩ | ⟨g', cap, cur, rfl, hg, _⟩
  · simp [Value.ownBlock] at hk
  · simp [Value.ownBlock] at hk; omega

theorem wpList_append_word {rest : List Oper} (hgd : o.guard = none) (s x : Operand) (ho : o.op = .call { callee := .builtin .append, args := #[s, x], argTypes := #[67, 67] })
    (base : Nat) (v : Value) (xs : List Int) (z : Int) (g : Nat) (W0 : World) (hs : a.eval s = v) (hx : a.eval x = .slice (some ⟨g, 0, none⟩) 1 1) (hown : OwnW base w' v xs) (hc : w'.cell? ⟨g, 0, none⟩ = some (.int .u64 z))
    (hn : (xs.length + 1) * 8 ≤ 140737488355328) (hbase : base ≤ w'.heap.size) (hB : Below base W0 w')
    (h : ∀ v' w1, OwnW base w1 v' (xs ++ [z]) → Below base W0 w1 → wpList Tryz.prog ops Q rest (a.put o.dst v') w1) : wpList Tryz.prog ops Q (o :: rest) a w' := by
  obtain ⟨v', w1, hrun, h1, h2⟩ := run_append_word o.type base v xs z g hown hc hn hbase hB
  refine wpList_plain hgd fun K hK => ?_
  unfold Oper.wp
  simp [execOp, ho, resolve, invoke, builtin, hs, hx, hrun, Result.andThen]
  exact hK _ _ (h v' w1 h1 h2)

theorem step_append_word {K : Act → World → Prop} {E : Prop} (hgd : o.guard = none) (s x : Operand) (ho : o.op = .call { callee := .builtin .append, args := #[s, x], argTypes := #[67, 67] })
    (base : Nat) (v : Value) (xs : List Int) (z : Int) (g : Nat) (W0 : World) (hs : a.eval s = v) (hx : a.eval x = .slice (some ⟨g, 0, none⟩) 1 1) (hown : OwnW base w' v xs) (hc : w'.cell? ⟨g, 0, none⟩ = some (.int .u64 z))
    (hn : (xs.length + 1) * 8 ≤ 140737488355328) (hbase : base ≤ w'.heap.size) (hB : Below base W0 w')
    (h : ∀ v' w1, OwnW base w1 v' (xs ++ [z]) → Below base W0 w1 → K (a.put o.dst v') w1) :
    if Region.wanted o (yielded ops a.tmps) = true then Oper.wp Tryz.prog o a w' K Q else E := by
  obtain ⟨v', w1, hrun, h1, h2⟩ := run_append_word o.type base v xs z g hown hc hn hbase hB
  have hw : Region.wanted o (yielded ops a.tmps) = true := by simp [Region.wanted, hgd]
  rw [if_pos hw]
  unfold Oper.wp
  simp [execOp, ho, resolve, invoke, builtin, hs, hx, hrun, Result.andThen]
  exact h v' w1 h1 h2
end
end Go.Proofs.YtkikhfdkibekgaaGreat.Fx

/- What tree.pairs and tree.beside return: how deep a leaf lies, and its way. -/
namespace Go.Proofs.YtkikhfdkibekgaaGreat.Fx
open Go.RowKit

end Go.Proofs.YtkikhfdkibekgaaGreat.Fx

/- What tree.climb returns: the way up. -/
namespace Go.Proofs.YtkikhfdkibekgaaGreat.Fx
open Go.RowKit

end Go.Proofs.YtkikhfdkibekgaaGreat.Fx

/- What tree.Leaves, Root, Path and Climb return, whatever is handed in. -/
namespace Go.Proofs.YtkikhfdkibekgaaGreat.Fx
open Go.RowKit

def errL (n : Nat) : Int := if n = 0 then 1 else if 200 < n then 2 else 0
def leavesL (xs : List Int) (n : Nat) : List Int := if n = 0 ∨ 200 < n then [] else leavesP xs n
def rootL (xs : List Int) (n : Nat) : Int := if n = 0 ∨ 200 < n then 0 else ofP 3 [(n : Int), treeP (leavesP xs n)]
def errP (i : Int) (n : Nat) : Int := if n = 0 ∨ 200 < n then errL n else if 0 ≤ i ∧ i < ((n + 3) / 4 : Nat) then 0 else 1
def wayL (xs : List Int) (n : Nat) (i : Int) : List Int := if ¬ (n = 0 ∨ 200 < n) ∧ 0 ≤ i ∧ i < ((n + 3) / 4 : Nat) then wayP (leavesP xs n) i.toNat else []
def okC (i n : Int) : Prop := 1 ≤ n ∧ n ≤ 200 ∧ 0 ≤ i ∧ i < (n + 3) / 4
instance (i n : Int) : Decidable (okC i n) := by unfold okC; infer_instance
def dpC (i n : Int) : Nat := deepP i.toNat ((n.toNat + 3) / 4)
def errC (i n : Int) (len : Nat) : Int := if okC i n then (if len = dpC i n then 0 else 5) else 1
def upL (i n x : Int) (ps : List Int) (len : Nat) : Int := if okC i n ∧ len = dpC i n then ofP 3 [n, upP i.toNat ((n.toNat + 3) / 4) x ps] else 0

theorem leaves_bad (a : Option Addr) (n c : Nat) (w : World) (h : n = 0 ∨ 200 < n) :
    Calls Tryz.prog 71 #[.slice a n c] w fun e w' => e = .returned (.tuple #[.slice none 0 0, .int .i64 (errL n)]) ∧ w' = w := by
  by_cases h0 : n = 0
  · have HE : Hid (errL n = 1) := if_pos h0
    have n0 : ((n : Int) == 0) = true := by rw [beq_iff_eq]; omega
    go_enter Tryz.func71, Tryz.ntmps71
    go_wp2
    go_ret2
    exact ⟨by rw [HE.out]; rfl, rfl⟩
  · have HE : Hid (errL n = 2) := by show errL n = 2; unfold errL; rw [if_neg h0, if_pos (by omega)]
    have n0 : ((n : Int) == 0) = false := by rw [beq_eq_false_iff_ne]; omega
    have n2 : 200 < n := by omega
    go_enter Tryz.func71, Tryz.ntmps71
    go_wp2
    go_ret2
    exact ⟨by rw [HE.out]; rfl, rfl⟩

theorem Leaves_calls (a : Option Addr) (n c : Nat) (xs : List Int) (w : World) (ha : Lst w a n c xs) :
    Calls Tryz.prog 71 #[.slice a n c] w fun e w' => ∃ a' N, e = .returned (.tuple #[.slice a' N N, .int .i64 (errL n)]) ∧ N ≤ 50 ∧ LstW w' a' N N (leavesL xs n) ∧ Below w.heap.size w w' := by
  unfold leavesL
  by_cases h : n = 0 ∨ 200 < n
  · rw [if_pos h]
    refine (leaves_bad a n c w h).mono ?_
    rintro e w' ⟨rfl, rfl⟩
    exact ⟨_, _, rfl, by omega, LstW.nil _ _ _, Below.refl _ _⟩
  · rw [if_neg h]
    refine (leaves_calls a n c xs w ha (by omega) (by omega)).mono ?_
    rintro e w' ⟨a', rfl, h1, h2⟩
    exact ⟨_, _, by unfold errL; rw [if_neg (by omega), if_neg (by omega)], by omega, h1, h2⟩

theorem root_good (a : Option Addr) (n c : Nat) (xs : List Int) (w : World) (ha : Lst w a n c xs) (h1 : 1 ≤ n) (h2 : n ≤ 200) :
    Calls Tryz.prog 45 #[.slice a n c] w fun e w' => e = .returned (.tuple #[.int .u64 (ofP 3 [(n : Int), treeP (leavesP xs n)]), .int .i64 0]) ∧ Below w.heap.size w w' := by
  have ht := treeP_ok (leavesP_ok xs n) (by rw [leavesP_len]; omega)
  have hn : okW (n : Int) := ⟨by omega, by omega⟩
  go_enter Tryz.func45, Tryz.ntmps45
  go_wp2_with (first | (go_at_call 71; refine (leaves_calls _ _ _ xs _ ha h1 h2).mono ?_; rintro e w1 ⟨a1, rfl, hl1, hw1⟩) | (go_at_call 73; refine (top_calls 50 _ _ _ (leavesP xs n) _ (by omega) (by omega) (by omega) hl1 (leavesP_ok _ _)).mono ?_; rintro e w2 ⟨rfl, hw2⟩) | (go_at_call 72; refine (dPair_calls _ _ hn ht _).mono ?_; rintro e w3 ⟨rfl, hw3⟩))
  go_ret2
  have e2 := hw1.trans (hw2.mono hw1.size)
  exact ⟨rfl, e2.trans (hw3.mono e2.size)⟩

theorem errL_ne {n : Nat} (h : n = 0 ∨ 200 < n) : (errL n != 0) = true := by
  unfold errL
  by_cases h0 : n = 0
  · rw [if_pos h0]; rfl
  · rw [if_neg h0, if_pos (by omega)]; rfl

theorem Root_calls (a : Option Addr) (n c : Nat) (xs : List Int) (w : World) (ha : Lst w a n c xs) :
    Calls Tryz.prog 45 #[.slice a n c] w fun e w' => e = .returned (.tuple #[.int .u64 (rootL xs n), .int .i64 (errL n)]) ∧ Below w.heap.size w w' := by
  unfold rootL
  by_cases h : n = 0 ∨ 200 < n
  · rw [if_pos h]
    have he := errL_ne h
    have HB : Hid (∀ w, Calls Tryz.prog 71 #[.slice a n c] w fun e w' => e = .returned (.tuple #[.slice none 0 0, .int .i64 (errL n)]) ∧ w' = w) := fun w => leaves_bad a n c w h
    generalize errL n = E at *
    clear h
    go_enter Tryz.func45, Tryz.ntmps45
    go_wp2_with (go_at_call 71; refine (HB.out _).mono ?_; rintro e w' ⟨rfl, hw'⟩; replace hw' := hw'.symm; subst hw')
    go_ret2
    exact ⟨rfl, Below.refl _ _⟩
  · rw [if_neg h]
    refine (root_good a n c xs w ha (by omega) (by omega)).mono ?_
    rintro e w' ⟨rfl, h2⟩
    exact ⟨by unfold errL; rw [if_neg (by omega), if_neg (by omega)], h2⟩

end Go.Proofs.YtkikhfdkibekgaaGreat.Fx
