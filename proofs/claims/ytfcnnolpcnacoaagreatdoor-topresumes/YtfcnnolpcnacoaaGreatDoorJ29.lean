/- A list of words as a literal, the first numbers of a list, and what a head is a digest of: no function of the program is spoken of. -/
import Derived.Test.YtfcnnolpcnacoaaGreatDoorJ28
import Derived.Test.YtfcnnolpcnacoaaGreatDoorJ26
import Derived.Test.YtfcnnolpcnacoaaGreatDoorJ11
import Derived.Test.YtfcnnolpcnacoaaGreatDoorJ15
import Derived.Test.YtfcnnolpcnacoaaGreatDoorJ22
namespace Go.Proofs.YtfcnnolpcnacoaaGreatDoor.Fx
open Go.RowKit

theorem OwnW.lit (w : World) (xs : List Int) (hm : xs.length ≤ 1000) : OwnW w.heap.size (w.alloc (.cells (xs.map (Value.int .u64)).toArray 22)) (.slice (some ⟨w.heap.size, 0, none⟩) xs.length xs.length) xs :=
  ⟨by simp, .inr ⟨w.heap.size, xs.length, _, rfl, Nat.le_refl _, Go.Deep.blk_alloc_new _ _, Nat.le_refl _, by unfold maxLen; omega, by simp, by simp; exact List.take_of_length_le (by simp)⟩⟩
theorem OwnW.mono {base b2 : Nat} {w : World} {v : Value} {xs : List Int} (h : OwnW base w v xs) (hb : b2 ≤ base) : OwnW b2 w v xs := by
  refine ⟨h.1, ?_⟩
  rcases h.2 with h0 | ⟨g, cap, cur, hv, hg, r⟩
  · exact .inl h0
  · exact .inr ⟨g, cap, cur, hv, by omega, r⟩
theorem take_snocI {xs : List Int} {t : Nat} {x : Int} (h : t < xs.length) (hx : xs.getD t 0 = x) : xs.take t ++ [x] = xs.take (t + 1) := by
  rw [List.take_succ_eq_append_getElem h]
  rw [List.getD_eq_getElem?_getD, List.getElem?_eq_getElem h, Option.getD_some] at hx
  rw [hx]

theorem rootP_W (ws ms : List Int) (n : Nat) : okW (rootP ws ms n) := okP_W (ofP_ok _ _)
def exRoot (DI DO : Nat → List Int) (j : Nat) : Int := rootP (DI j) (DO j) ((DI j).length + (DO j).length)
theorem headL_ok {c : Cfg} (hc : cfgB c = true) (hs : okW c.seed) (n : Nat) (DI DO : Nat → List Int) (N : Nat) : okL (headL c n DI DO N) := by
  obtain ⟨⟨i1, i2⟩, ⟨h1, h2⟩, ⟨o1, o2⟩, ⟨b1, b2⟩, ⟨s1, s2⟩, ⟨r1, r2⟩, ⟨d1, d2⟩, ⟨w1, w2⟩, ⟨k1, k2⟩, ⟨q1, q2⟩⟩ := cfgB_is hc
  unfold headL
  refine okL_app (okL_app ?_ ?_) ?_
  · intro i hi
    have h11 : i < 11 := by simpa using hi
    rcases (show i = 0 ∨ i = 1 ∨ i = 2 ∨ i = 3 ∨ i = 4 ∨ i = 5 ∨ i = 6 ∨ i = 7 ∨ i = 8 ∨ i = 9 ∨ i = 10 by omega) with rfl | rfl | rfl | rfl | rfl | rfl | rfl | rfl | rfl | rfl | rfl
    · exact ⟨by simp; omega, by simp; omega⟩
    · exact ⟨by simp; omega, by simp; omega⟩
    · exact ⟨by simp; omega, by simp; omega⟩
    · exact hs
    · exact ⟨by simp; omega, by simp; omega⟩
    · exact ⟨by simp; omega, by simp; omega⟩
    · exact ⟨by simp; omega, by simp; omega⟩
    · exact ⟨by simp; omega, by simp; omega⟩
    · exact ⟨by simp; omega, by simp; omega⟩
    · exact ⟨by simp; omega, by simp; omega⟩
    · exact ⟨by simp; omega, by simp; omega⟩
  · intro i hi
    have hi' : i < n := by simpa using hi
    rw [getD_range _ hi']
    exact rootP_W _ _ _
  · intro i hi
    obtain rfl : i = 0 := by simpa using hi
    exact rootP_W _ _ _
end Go.Proofs.YtfcnnolpcnacoaaGreatDoor.Fx

/- What journal.chain returns, of a record that may be chained, and what journal.Chain returns, whatever is handed in. -/
namespace Go.Proofs.YtfcnnolpcnacoaaGreatDoor.Fx
open Go.RowKit

set_option maxRecDepth 100000 in
set_option maxHeartbeats 3200000 in
theorem jchain_calls (before : Int) (hbf : okW before) (x : Rcm) (bs : List Int) (w : World) (l : Lst w x.a x.n x.k bs) (hs : 0 ≤ x.s ∧ x.s ≤ 9223372036854775807) (hr : 0 ≤ x.r ∧ x.r ≤ 9223372036854775807) (hroot : okW x.root) (h8 : x.n ≤ 8) (hbs : ∀ j, j < x.n → 0 ≤ bs.getD j 0 ∧ bs.getD j 0 ≤ 9223372036854775807) :
    Calls Tryz.prog 36 #[.int .u64 before, x.val] w fun e w' => e = .returned (.int .u64 (chainP before x.s x.r x.root bs)) ∧ Below w.heap.size w w' := by
  have hal := low_alloc w (.cells x.cells 40)
  have l' := l.below hal (Nat.le_refl _)
  have hlen := l.len
  have row := fn5_alloc w (.int .i64 x.s) (.slice x.a x.n x.k) (.int .i64 x.r) (.int .u64 x.root) (.int .u64 x.chain) 40
  obtain ⟨s, a, n, k, r, root, chain⟩ := x
  simp only [Rcm.val, Rcm.cells] at *
  obtain ⟨s0, s1⟩ := hs
  obtain ⟨r0, r1⟩ := hr
  have HBS : Hid (∀ j, j < n → 0 ≤ bs.getD j 0 ∧ bs.getD j 0 ≤ 9223372036854775807) := hbs
  have HOK : Hid (okL (chainL before s r root bs)) := by
    show okL _
    unfold chainL
    refine okL_app ?_ (fun i hi => ⟨(hbs i (by omega)).1, by have := (hbs i (by omega)).2; omega⟩)
    intro i hi
    have h5 : i < 5 := by simpa using hi
    rcases lt5 h5 with rfl | rfl | rfl | rfl | rfl
    · exact hbf
    · exact ⟨s0, by simp; omega⟩
    · exact ⟨r0, by simp; omega⟩
    · exact hroot
    · exact ⟨by simp, by simp; omega⟩
  obtain ⟨W, HW⟩ : ∃ q, Hid (q = w.alloc (.cells #[.int .i64 s, .slice a n k, .int .i64 r, .int .u64 root, .int .u64 chain] 40)) := ⟨_, rfl⟩
  have HWS : Hid (w.heap.size + 1 = W.heap.size) := by show _ = _; rw [HW.out]; simp
  rw [← HW.out] at hal l' row
  obtain ⟨c0, c1, c2, c3, c4⟩ := fn5_box row
  have own0 := OwnW.lit W [before, s, r, root, (n : Int)] (by simp)
  have hl0 := low_alloc W (.cells #[.int .u64 before, .int .u64 s, .int .u64 r, .int .u64 root, .int .u64 (n : Int)] 22)
  have KC : Hid (∀ q, Below W.heap.size W q → q.cell? ⟨w.heap.size, 1, none⟩ = some (.slice a n k)) := fun q hq => (fn5_box (row.of_block (hq.block _ row.lt))).c1
  have hlt0 := row.lt
  have d1 := KC.out _ hl0
  clear hbs l hbf hroot
  go_enter Tryz.func36, Tryz.ntmps36
  go_wp2_with fail
  rw [← HW.out]
  clear HW
  go_loopw [5, 27] (fun v i wr => ∃ j : Nat, j ≤ n ∧ i = .int .i64 j ∧ OwnW W.heap.size wr v ([before, s, r, root, (n : Int)] ++ bs.take j) ∧ Below W.heap.size W wr) (fun _ i _ => n - (intOf i).toNat)
  case atStart => exact ⟨0, Nat.zero_le _, rfl, by rw [HWS.out]; simpa using own0, hl0⟩
  case round =>
    clear own0 hl0 c0 c1 c2 c3 c4 d1
    obtain ⟨j, hj, rfl, hown, hbel⟩ := hrel
    have hsz := hbel.size
    by_cases hlt : j < n
    · obtain ⟨b1, o1, y, rfl, _, c5, HX⟩ := l'.at1b hbel (Nat.le_refl _) hlt
      have hy := HBS.out j hlt
      rw [HX.out] at hy
      obtain ⟨y0, y1⟩ := hy
      have hl2 : ([before, s, r, root, (n : Int)] ++ bs.take j).length = 5 + j := by simp; omega
      have al1 := hown.below (low_alloc wr (.cells #[.int .u64 y] 22))
      have bl1 := hbel.alloc hbel.size (.cells #[.int .u64 y] 22)
      have cn := cell_new wr (.int .u64 y) 22
      have HH : Hid (wr.heap.size + 1 = (wr.alloc (.cells #[.int .u64 y] 22)).heap.size) := by show _ = _; simp
      go_wp2_with (at_builtin; refine wpList_append_word (by rfl) _ _ (by rfl) W.heap.size _ ([before, s, r, root, (n : Int)] ++ bs.take j) y wr.heap.size W (by rfl) (by rfl) (by exact al1) (by exact cn) (by rw [hl2]; omega) (by exact bl1.size) (by exact bl1) ?_; intro v1 w2 hown1 hbel1)
      go_roundw
      case rel => exact ⟨j + 1, by omega, by go_num, hown1.congr (by rw [List.append_assoc, take_snocI (by omega) HX.out]), hbel1⟩
      case measure => simp [intOf]; omega
    · obtain rfl : j = n := by omega
      obtain ⟨av, cv, rfl, lw⟩ := hown.lst' (n := 5 + j) (by simp; omega)
      have hl3 : [before, s, r, root, (j : Int)] ++ bs.take j = chainL before s r root bs := by unfold chainL; rw [List.take_of_length_le (by omega), hlen]
      rw [hl3] at lw
      have HO := dOf_calls 6 ⟨by omega, by omega⟩ _ _ _ _ _ lw HOK.out
      rw [show ofA 6 (chainL before s r root bs) (5 + j) = chainP before s r root bs from if_neg (by omega), show bigI (5 + j) = 0 from if_neg (by omega)] at HO
      go_wp2_with fail
      refine HO.mono ?_
      rintro e w3 ⟨rfl, hw3⟩
      go_wp2_with fail
      go_ret
      exact ⟨rfl, hal.trans ((hbel.trans (hw3.mono hbel.size)).mono hal.size)⟩

end Go.Proofs.YtfcnnolpcnacoaaGreatDoor.Fx

/- An append of a whole list of integers, which may be empty, to one that the program itself makes. -/
namespace Go.Proofs.YtfcnnolpcnacoaaGreatDoor.Fx
open Go.RowKit

section
variable {w' W0 : World} {ops : Array Oper} {o : Oper} {a : Act} {Q : Exit → Act → World → Prop}
theorem run_append_zero (w' : World) (ty : TypeId) (base src : Option Addr) (l c d : Nat) (hle : l ≤ c) : (Builtin.append_ #[26, 26] ty #[.slice base l c, .slice src 0 d]).run Tryz.prog w' = .ok (.slice base l c) w' := by
  obtain ⟨i0, hi, _⟩ := info_parts info3
  cases base <;> cases src <;> simp [Builtin.append_, run_underlying Tryz.underlying26, sizeOf, typeInfo, hi, Builtin.lenOf, Builtin.firstCells, hle, storeCells, loadCells, loadCellsFrom]
theorem run_append_any (ty : TypeId) (base : Nat) (v : Value) (xs zs : List Int) (src : Option Addr) (m c : Nat) (hown : OwnI base w' v xs) (hz : Lst w' src m c zs) (hn : (xs.length + m) * 8 ≤ 140737488355328) (hbase : base ≤ w'.heap.size) (hB : Below base W0 w') :
    ∃ v' w1, (Builtin.append_ #[26, 26] ty #[v, .slice src m c]).run Tryz.prog w' = .ok v' w1 ∧ OwnI base w1 v' (xs ++ zs) ∧ Below base W0 w1 := by
  by_cases h0 : m = 0
  · subst h0
    have hz0 : zs = [] := List.length_eq_zero_iff.1 hz.len
    subst hz0
    obtain ⟨av, cv, hv, lv⟩ := hown.lst
    refine ⟨v, w', ?_, by rw [List.append_nil]; exact hown, hB⟩
    rw [hv]
    exact run_append_zero w' ty av src xs.length cv c lv.cap
  · obtain ⟨b, off, rfl, _, _⟩ := hz.at (by omega)
    exact run_append_all ty base v xs zs b off m c hown hz hn hbase hB

theorem step_append_any {K : Act → World → Prop} {E : Prop} (hgd : o.guard = none) (s x : Operand) (ho : o.op = .call { callee := .builtin .append, args := #[s, x], argTypes := #[26, 26] })
    (base : Nat) (v : Value) (xs zs : List Int) (src : Option Addr) (m c : Nat) (W0 : World) (hs : a.eval s = v) (hx : a.eval x = .slice src m c) (hown : OwnI base w' v xs) (hz : Lst w' src m c zs) (hn : (xs.length + m) * 8 ≤ 140737488355328) (hbase : base ≤ w'.heap.size) (hB : Below base W0 w')
    (h : ∀ v' w1, OwnI base w1 v' (xs ++ zs) → Below base W0 w1 → K (a.put o.dst v') w1) :
    if Region.wanted o (yielded ops a.tmps) = true then Oper.wp Tryz.prog o a w' K Q else E := by
  obtain ⟨v', w1, hrun, h1, h2⟩ := run_append_any o.type base v xs zs src m c hown hz hn hbase hB
  have hw : Region.wanted o (yielded ops a.tmps) = true := by simp [Region.wanted, hgd]
  rw [if_pos hw]
  unfold Oper.wp
  simp [execOp, ho, resolve, invoke, builtin, hs, hx, hrun, Result.andThen]
  exact h v' w1 h1 h2
theorem wpList_append_any {rest : List Oper} (hgd : o.guard = none) (s x : Operand) (ho : o.op = .call { callee := .builtin .append, args := #[s, x], argTypes := #[26, 26] })
    (base : Nat) (v : Value) (xs zs : List Int) (src : Option Addr) (m c : Nat) (W0 : World) (hs : a.eval s = v) (hx : a.eval x = .slice src m c) (hown : OwnI base w' v xs) (hz : Lst w' src m c zs) (hn : (xs.length + m) * 8 ≤ 140737488355328) (hbase : base ≤ w'.heap.size) (hB : Below base W0 w')
    (h : ∀ v' w1, OwnI base w1 v' (xs ++ zs) → Below base W0 w1 → wpList Tryz.prog ops Q rest (a.put o.dst v') w1) : wpList Tryz.prog ops Q (o :: rest) a w' := by
  obtain ⟨v', w1, hrun, h1, h2⟩ := run_append_any o.type base v xs zs src m c hown hz hn hbase hB
  refine wpList_plain hgd fun K hK => ?_
  unfold Oper.wp
  simp [execOp, ho, resolve, invoke, builtin, hs, hx, hrun, Result.andThen]
  exact hK _ _ (h v' w1 h1 h2)
end
end Go.Proofs.YtfcnnolpcnacoaaGreatDoor.Fx

/- What slices.Grow (of nil) and slices.Concat return, of lists that may be empty. -/
namespace Go.Proofs.YtfcnnolpcnacoaaGreatDoor.Fx
open Go.RowKit

theorem grow_any (n : Nat) (w : World) (h1 : n ≤ 1000) :
    Calls Tryz.prog 83 #[.slice none 0 0, .int .i64 n] w fun e w' => ∃ v, e = .returned v ∧ OwnI w.heap.size w' v [] ∧ Below w.heap.size w w' := by
  by_cases h0 : 0 < n
  · exact grow_calls n w h0 h1
  · have hz : ¬ (n : Int) > 0 := by omega
    have hz2 : ¬ (n : Int) < 0 := by omega
    have hz3 : ¬ 0 < n := h0
    go_enter Tryz.func83, Tryz.ntmps83
    go_wp2
    go_ret
    exact ⟨_, rfl, OwnI.nil _ _, Below.refl _ _⟩

set_option maxHeartbeats 1600000 in
theorem concat_any (n : Nat) (A : Nat → Option Addr) (L C : Nat → Nat) (X : Nat → List Int) (b : Nat) (w : World) (hb : b < w.heap.size) (hn0 : 0 < n) (hn : n ≤ 1000) (hc : ∀ i, i < n → w.cell? ⟨b, i, none⟩ = some (.slice (A i) (L i) (C i)))
    (hl : ∀ i, i < n → Lst w (A i) (L i) (C i) (X i)) (hs : lenTo L n ≤ 1000) :
    Calls Tryz.prog 62 #[.slice (some ⟨b, 0, none⟩) n n] w fun e w' => ∃ v, e = .returned v ∧ OwnI w.heap.size w' v (catTo X n) ∧ Below w.heap.size w w' := by
  have HC : Hid (∀ i, i < n → w.cell? ⟨b, i, none⟩ = some (.slice (A i) (L i) (C i))) := hc
  have HL : Hid (∀ i, i < n → Lst w (A i) (L i) (C i) (X i)) := hl
  clear hc hl
  go_enter Tryz.func62, Tryz.ntmps62
  go_wp2
  go_loopw [3, 11] (fun s i wr => ∃ k : Nat, k ≤ n ∧ i = .int .i64 k ∧ s = .int .i64 (lenTo L k) ∧ wr = w) (fun _ i _ => n - (intOf i).toNat)
  case atStart => exact ⟨0, Nat.zero_le _, rfl, rfl, rfl⟩
  case round =>
    obtain ⟨k, hk, rfl, rfl, hw⟩ := hrel
    replace hw := hw.symm
    subst hw
    by_cases hlt : k < n
    · have c := HC.out k hlt
      have b1 := lenTo_le L (k := k + 1) (n := n) (by omega)
      have b2 : lenTo L (k + 1) = lenTo L k + L k := rfl
      obtain ⟨l, hl⟩ : ∃ l, Hid (L k = l) := ⟨_, rfl⟩
      obtain ⟨T, hT⟩ : ∃ T, Hid (lenTo L k = T) := ⟨_, rfl⟩
      rw [hl.out] at c b2
      rw [hT.out] at b2
      have b3 : T + l ≤ 1000 := by omega
      rw [hT.out]
      clear b1 b2
      go_wp2
      go_roundw
      case rel => exact ⟨k + 1, by omega, by go_num, by rw [lenTo, hT.out, hl.out]; go_num, by trivial⟩
      case measure => simp [intOf]; omega
    · obtain rfl : k = n := by omega
      obtain ⟨T, hT⟩ : ∃ T, Hid (lenTo L k = T) := ⟨_, rfl⟩
      have HS : Hid (lenTo L k ≤ 1000) := hs
      rw [hT.out] at hs ⊢
      go_wp2_with fail
      refine (grow_any T _ hs).mono ?_
      rintro e w1 ⟨v0, rfl, hown, hw1⟩
      go_wp2
      go_loopw [6, 27] (fun v i wr => ∃ j : Nat, j ≤ k ∧ i = .int .i64 j ∧ OwnI w.heap.size wr v (catTo X j) ∧ Below w.heap.size w wr) (fun _ i _ => k - (intOf i).toNat)
      case atStart => exact ⟨0, Nat.zero_le _, rfl, hown, hw1⟩
      case round =>
        obtain ⟨j, hj, rfl, hown, hbel⟩ := hrel
        have hsz := hbel.size
        by_cases hlt2 : j < k
        · have c := (hbel.cell (p := ⟨b, j, none⟩) (by exact hb)).trans (HC.out j hlt2)
          have hx := (HL.out j hlt2).below hbel (Nat.le_refl _)
          have hlen : (catTo X j).length + L j ≤ 1000 := by
            rw [catTo_len X L j (fun i hi => (HL.out i (by omega)).len)]
            have b1 := lenTo_le L (k := j + 1) (n := k) (by omega)
            have b2 : lenTo L (j + 1) = lenTo L j + L j := rfl
            have := HS.out
            omega
          obtain ⟨l, hl⟩ : ∃ l, Hid (L j = l) := ⟨_, rfl⟩
          rw [hl.out] at c hx hlen
          go_wp2_with (at_builtin; refine wpList_append_any (by rfl) _ _ (by rfl) w.heap.size _ (catTo X j) (X j) (A j) l (C j) w (by rfl) (by rfl) (by exact hown) (by exact hx) (by omega) (by exact hsz) (by exact hbel) ?_; intro v1 w3 hown1 hbel1)
          go_roundw
          case rel => exact ⟨j + 1, by omega, by go_num, hown1, hbel1⟩
          case measure => simp [intOf]; omega
        · obtain rfl : j = k := by omega
          go_wp2
          go_ret
          exact ⟨_, rfl, hown, hbel⟩

def two {α : Type} (x0 x1 : α) (i : Nat) : α := if i = 0 then x0 else x1
theorem lt_two {i : Nat} (h : i < 2) : i = 0 ∨ i = 1 := by omega

theorem concat2 (a0 a1 : Option Addr) (l0 l1 c0 c1 : Nat) (x0 x1 : List Int) (g : Nat) (w : World) (hg : g = w.heap.size) (h0 : Lst w a0 l0 c0 x0) (h1 : Lst w a1 l1 c1 x1) (hs : l0 + l1 ≤ 1000) :
    Calls Tryz.prog 62 #[.slice (some ⟨g, 0, none⟩) 2 2] (w.alloc (.cells #[.slice a0 l0 c0, .slice a1 l1 c1] 26)) fun e w' => ∃ a c, e = .returned (.slice a (l0 + l1) c) ∧ Lst w' a (l0 + l1) c (x0 ++ x1) ∧ Below w.heap.size w w' := by
  subst hg
  have hal := (Below.refl w.heap.size w).alloc (Nat.le_refl _) (.cells #[.slice a0 l0 c0, .slice a1 l1 c1] 26)
  have hr := World.rowIs_alloc w #[.slice a0 l0 c0, .slice a1 l1 c1] 26 (fun i => .slice (two a0 a1 i) (two l0 l1 i) (two c0 c1 i)) (by
    intro i hi
    rcases lt_two hi with rfl | rfl <;> rfl)
  refine (concat_any 2 (two a0 a1) (two l0 l1) (two c0 c1) (two x0 x1) w.heap.size _ (by simp) (by omega) (by omega) (fun i hi => hr.cell hi) ?_ ?_).mono ?_
  · intro i hi
    rcases lt_two hi with rfl | rfl
    · exact h0.below hal (Nat.le_refl _)
    · exact h1.below hal (Nat.le_refl _)
  · show 0 + l0 + l1 ≤ 1000
    omega
  · rintro e w' ⟨v, rfl, hown, hb⟩
    have e1 : catTo (two x0 x1) 2 = x0 ++ x1 := by
      show ([] ++ x0) ++ x1 = _
      simp
    rw [e1] at hown
    have e2 : (x0 ++ x1).length = l0 + l1 := by rw [List.length_append, h0.len, h1.len]
    obtain ⟨a, c, rfl, hl⟩ := hown.lst
    rw [e2] at hl ⊢
    exact ⟨a, c, rfl, hl, hal.trans (hb.mono hal.size)⟩
end Go.Proofs.YtfcnnolpcnacoaaGreatDoor.Fx
