/- What store.isPlace, store.printable and coachref.Line return, whatever record lies there: whether its line may be told. -/
import Derived.Test.YthmiojmlaclgaaaGreatDoorJ20
import Derived.Test.YthmiojmlaclgaaaGreatDoorJ06
import Derived.Test.YthmiojmlaclgaaaGreatDoorJ01
import Derived.Test.YthmiojmlaclgaaaGreatDoorJ21
namespace Go.Proofs.YthmiojmlaclgaaaGreatDoor.Fx
open Go.RowKit

/-- A record's numbers. -/
def Rcm.ln (x : Rcm) (D : List Int) : Ln := ⟨x.s, x.r, x.root, x.chain, D⟩
theorem mem_getD {D : List Int} {z : Int} (h : z ∈ D) : ∃ j, j < D.length ∧ D.getD j 0 = z := by
  obtain ⟨j, hj, e⟩ := List.getElem_of_mem h
  exact ⟨j, hj, by rw [List.getD_eq_getElem?_getD, List.getElem?_eq_getElem hj, Option.getD_some, e]⟩
theorem getD_mem {D : List Int} {j : Nat} (h : j < D.length) : D.getD j 0 ∈ D := by
  rw [List.getD_eq_getElem?_getD, List.getElem?_eq_getElem h, Option.getD_some]; exact List.getElem_mem h
theorem box5 {w wr : World} {B : Nat} (v0 v1 v2 v3 v4 : Value) (t : TypeId) (hb : Below B (w.alloc (.cells #[v0, v1, v2, v3, v4] t)) wr) (hB : w.heap.size < B) : Box5 wr w.heap.size v0 v1 v2 v3 v4 := by
  have h := fn5_alloc w v0 v1 v2 v3 v4 t
  exact fn5_box (h.of_block (hb.block _ hB))

/-- That flag is set just where p holds. -/
def TF (b : Bool) (p : Prop) : Prop := b = true ↔ p
theorem TF.yes {p : Prop} (h : TF true p) : p := h.1 rfl
theorem TF.no {p : Prop} (h : TF false p) : ¬ p := fun e => by have := h.2 e; cases this
theorem TF.t {p : Prop} (h : p) : TF true p := ⟨fun _ => h, fun _ => rfl⟩
theorem TF.f {p : Prop} (h : ¬ p) : TF false p := ⟨fun e => (by cases e), fun e => absurd e h⟩
/-- A call that answers whether p holds. -/
def IsB (e : Ending) (p : Prop) : Prop := ∃ b : Bool, e = .returned (.bool b) ∧ TF b p
theorem IsB.t {p : Prop} {v : Value} (hv : v = .bool true) (h : p) : IsB (.returned v) p := ⟨true, by rw [hv], TF.t h⟩
theorem IsB.f {p : Prop} {v : Value} (hv : v = .bool false) (h : ¬ p) : IsB (.returned v) p := ⟨false, by rw [hv], TF.f h⟩

theorem isPlace_calls (z : Int) (w : World) : Calls Tryz.prog 170 #[.int .i64 z] w fun e w' => IsB e (0 ≤ z ∧ z ≤ 99) ∧ w' = w := by
  by_cases h1 : 0 ≤ z
  · by_cases h2 : z < 100
    · go_enter Tryz.func170, Tryz.ntmps170
      go_wp2
      go_ret
      exact ⟨IsB.t rfl (by omega), rfl⟩
    · go_enter Tryz.func170, Tryz.ntmps170
      go_wp2
      go_ret
      exact ⟨IsB.f rfl (by omega), rfl⟩
  · go_enter Tryz.func170, Tryz.ntmps170
    go_wp2
    go_ret
    exact ⟨IsB.f rfl (by omega), rfl⟩

set_option maxRecDepth 100000 in
set_option maxHeartbeats 3200000 in
theorem printable_calls (x : Rcm) (D : List Int) (w : World) (hl : Lst w x.a x.n x.k D) (hr : 0 ≤ x.root) (hc : 0 ≤ x.chain) :
    Calls Tryz.prog 120 #[x.val] w fun e w' => IsB e (x.ln D).ok ∧ Below w.heap.size w w' := by
  obtain ⟨s, a, n, k, r, root, chain⟩ := x
  simp only [Rcm.val, Rcm.cells, Rcm.ln] at *
  have hal := (Below.refl w.heap.size w).alloc (Nat.le_refl _) (.cells #[.int .i64 s, .slice a n k, .int .i64 r, .int .u64 root, .int .u64 chain] 111)
  have hl1 := hl.below hal (Nat.le_refl _)
  have HN : Hid (D.length = n) := hl.len
  clear hl
  go_enter Tryz.func120, Tryz.ntmps120
  go_wp2_with fail
  refine (isPlace_calls _ _).mono ?_
  rintro e w1 ⟨⟨b, rfl, H1⟩, hw1⟩
  replace hw1 := hw1.symm
  subst hw1
  cases b with
  | false =>
    go_wp2
    go_ret
    exact ⟨IsB.f rfl fun h => H1.no h.s, hal⟩
  | true =>
    by_cases h2 : r < 0
    · go_wp2
      go_ret
      exact ⟨IsB.f rfl fun h => by have := h.r; dsimp only at this; omega, hal⟩
    · by_cases h3 : r > 2147483647
      · go_wp2
        go_ret
        exact ⟨IsB.f rfl fun h => by have := h.r; dsimp only at this; omega, hal⟩
      · by_cases h4 : root ≥ 2305843009213693951
        · go_wp2
          go_ret
          exact ⟨IsB.f rfl fun h => by have := h.root; dsimp only at this; omega, hal⟩
        · by_cases h5 : chain ≥ 2305843009213693951
          · go_wp2
            go_ret
            exact ⟨IsB.f rfl fun h => by have := h.chain; dsimp only at this; omega, hal⟩
          · by_cases h6 : n > 8
            · go_wp2
              go_ret
              exact ⟨IsB.f rfl fun h => by have := h.n; have := HN.out; dsimp only at *; omega, hal⟩
            · go_wp2
              generalize hW : w.alloc (.cells #[.int .i64 s, .slice a n k, .int .i64 r, .int .u64 root, .int .u64 chain] 111) = W at *
              clear hW
              go_loopw [36] (fun i wr => ∃ q : Nat, q ≤ n ∧ i = .int .i64 q ∧ Hid (∀ j, j < q → 0 ≤ D.getD j 0 ∧ D.getD j 0 ≤ 99) ∧ wr = W) (fun i _ => n - (intOf i).toNat)
              case atStart => exact ⟨0, Nat.zero_le _, rfl, fun j hj => by omega, rfl⟩
              case round =>
                obtain ⟨q, hq, rfl, HG, hw⟩ := hrel
                replace hw := hw.symm
                subst hw
                by_cases hlt : q < n
                · obtain ⟨b1, o1, z, rfl, s1, c1, HX⟩ := hl1.at1 hlt
                  go_wp2_with fail
                  refine (isPlace_calls _ _).mono ?_
                  rintro e w1 ⟨⟨b, rfl, H2⟩, hw1⟩
                  replace hw1 := hw1.symm
                  subst hw1
                  cases b with
                  | false =>
                    go_wp2
                    go_ret
                    exact ⟨IsB.f rfl fun h => H2.no (by rw [← HX.out]; exact h.b _ (getD_mem (by rw [HN.out]; exact hlt))), hal⟩
                  | true =>
                    go_wp2
                    go_roundw
                    case rel => exact ⟨q + 1, by omega, by go_num, fun j hj => by
                      by_cases e : j = q
                      · subst e; rw [HX.out]; exact H2.yes
                      · exact HG.out j (by omega), by trivial⟩
                    case measure => simp [intOf]; omega
                · go_wp2
                  go_ret
                  refine ⟨IsB.t rfl ⟨H1.yes, ⟨by dsimp only; omega, by dsimp only; omega⟩, ⟨hr, by dsimp only; omega⟩, ⟨hc, by dsimp only; omega⟩, by dsimp only; rw [HN.out]; omega, fun z hz => ?_⟩, hal⟩
                  obtain ⟨j, hj, e⟩ := mem_getD hz
                  rw [← e]
                  exact HG.out j (by rw [HN.out] at hj; omega)

def inZ (n lo hi : Int) : Bool := decide (lo ≤ n) && decide (n ≤ hi)
theorem inZ_iff {n lo hi : Int} : inZ n lo hi = true ↔ lo ≤ n ∧ n ≤ hi := by unfold inZ; simp
/-- What is asked of a record ahead of its batch. -/
def headOk (s r root chain : Int) (n : Nat) : Prop := (0 ≤ s ∧ s ≤ 99) ∧ (0 ≤ r ∧ r ≤ 2147483647) ∧ root < 2305843009213693951 ∧ chain < 2305843009213693951 ∧ n ≤ 8
/-- .. and of the batch's first q numbers. -/
def LineTo (D : List Int) (s r root chain : Int) (n q : Nat) (b : Bool) : Prop := TF b (headOk s r root chain n ∧ ∀ j, j < q → 0 ≤ D.getD j 0 ∧ D.getD j 0 ≤ 99)
theorem LineTo.zero {D : List Int} {s r root chain : Int} {n : Nat} {b : Bool} (h : TF b (headOk s r root chain n)) : LineTo D s r root chain n 0 b :=
  ⟨fun e => ⟨h.1 e, fun j hj => by omega⟩, fun e => h.2 e.1⟩
theorem LineTo.yes {D : List Int} {s r root chain : Int} {n q : Nat} {x : Int} (h : LineTo D s r root chain n q true) (hx : D.getD q 0 = x) (hc : inZ x 0 99 = true) : LineTo D s r root chain n (q + 1) true := by
  refine TF.t ⟨(TF.yes h).1, fun j hj => ?_⟩
  by_cases e : j = q
  · subst e; rw [hx]; exact inZ_iff.1 hc
  · exact (TF.yes h).2 j (by omega)
theorem LineTo.no {D : List Int} {s r root chain : Int} {n q : Nat} {x : Int} (hx : D.getD q 0 = x) (hc : inZ x 0 99 = false) : LineTo D s r root chain n (q + 1) false := by
  refine TF.f fun h => ?_
  have := h.2 q (by omega)
  rw [hx, ← inZ_iff, hc] at this
  cases this
theorem LineTo.all {D : List Int} {s r root chain : Int} {n q : Nat} {b : Bool} (h : LineTo D s r root chain n q b) (hD : D.length = n) (hq : q = n) (hr : 0 ≤ root) (hc : 0 ≤ chain) : TF b (Ln.ok ⟨s, r, root, chain, D⟩) := by
  subst hq
  refine ⟨fun e => ?_, fun e => h.2 ⟨⟨e.s, e.r, e.root.2, e.chain.2, by have := e.n; dsimp only at this; omega⟩, fun j hj => e.b _ (getD_mem (by dsimp only; omega))⟩⟩
  obtain ⟨⟨h1, h2, h3, h4, h5⟩, h6⟩ := h.1 e
  refine ⟨h1, h2, ⟨hr, h3⟩, ⟨hc, h4⟩, by dsimp only; omega, fun z hz => ?_⟩
  obtain ⟨j, hj, e⟩ := mem_getD hz
  rw [← e]
  exact h6 j (by dsimp only at hj; omega)
end Go.Proofs.YthmiojmlaclgaaaGreatDoor.Fx

/- What store.Print returns, whatever record lies there: its line, or that it can't be told. -/
namespace Go.Proofs.YthmiojmlaclgaaaGreatDoor.Fx
open Go.RowKit

theorem undrewS {w w1 : World} (h : Below w.drew.heap.size w.drew w1) : Below w.heap.size w w1 := (Below.drew (Below.refl w.heap.size w)).trans h
/-- A record's line as Print tells it. -/
def PrintR (l : Ln) (e : Ending) : Prop := (l.ok ∧ e = .returned (.tuple #[.string ⟨l.text.toArray⟩, .int .i64 0])) ∨ (¬ l.ok ∧ e = .returned (.tuple #[.string ⟨#[]⟩, .int .i64 5]))
theorem cat_arr (x : List UInt8) (c : UInt8) : (⟨x.toArray⟩ : ByteArray) ++ ⟨#[c]⟩ = ⟨(x ++ [c]).toArray⟩ := by
  apply ByteArray.ext
  simp
theorem sz_arr (x : List UInt8) : (⟨x.toArray⟩ : ByteArray).size = x.length := rfl

set_option maxRecDepth 100000 in
set_option maxHeartbeats 6400000 in
theorem print_calls (x : Rcm) (D : List Int) (w : World) (hl : Lst w x.a x.n x.k D) (hr : 0 ≤ x.root) (hc : 0 ≤ x.chain) (hL : LD w) :
    Calls Tryz.prog 80 #[x.val] w fun e w' => PrintR (x.ln D) e ∧ Below w.heap.size w w' := by
  have PC := fun q (h : Below w.heap.size w q) => printable_calls x D q (hl.below h (Nat.le_refl _)) hr hc
  have HP : Hid (∀ q, Below w.heap.size w q → Calls Tryz.prog 120 #[x.val] q fun e w' => IsB e (x.ln D).ok ∧ Below q.heap.size q w') := PC
  clear PC
  obtain ⟨s, a, n, k, r, root, chain⟩ := x
  simp only [Rcm.val, Rcm.cells, Rcm.ln] at *
  have hal := (Below.refl w.heap.size w).alloc (Nat.le_refl _) (.cells #[.int .i64 s, .slice a n k, .int .i64 r, .int .u64 root, .int .u64 chain] 111)
  have HN : Hid (D.length = n) := hl.len
  go_enter Tryz.func80, Tryz.ntmps80
  go_wp2_with fail
  refine (HP.out _ hal).mono ?_
  rintro e w1 ⟨⟨b, rfl, H1⟩, hw1⟩
  have hb1 := hal.trans (hw1.mono hal.size)
  cases b with
  | false =>
    go_wp2
    go_ret2
    exact ⟨.inr ⟨H1.no, rfl⟩, hb1⟩
  | true =>
    have ok := H1.yes
    have HK : Hid (Ln.ok ⟨s, r, root, chain, D⟩) := ok
    have s0 := ok.s.1
    have s1 := ok.s.2
    have r0 := ok.r.1
    have r1 := ok.r.2
    have t1 := ok.root.2
    have u1 := ok.chain.2
    have n1 := ok.n
    dsimp only at s0 s1 r0 r1 t1 u1 n1
    rw [HN.out] at n1
    have s2 : s ≤ 9223372036854775807 := by omega
    have r2 : r ≤ 9223372036854775807 := by omega
    have t2 : root < 18446744073709551616 := by omega
    have u2 : chain < 18446744073709551616 := by omega
    clear ok H1
    have KB : Hid (∀ q, Below w1.heap.size w1 q → Box5 q w.heap.size (.int .i64 s) (.slice a n k) (.int .i64 r) (.int .u64 root) (.int .u64 chain)) := fun q hq => box5 _ _ _ _ _ 111 ((hw1.mono (by simp)).trans (hq.mono (Nat.le_trans (by simp) hw1.size))) (Nat.lt_succ_self _)
    have KS : Hid (∀ q, Below w1.heap.size w1 q → q.cell? ⟨w.heap.size, 0, none⟩ = some (.int .i64 s) ∧ q.cell? ⟨w.heap.size, 2, none⟩ = some (.int .i64 r) ∧ q.cell? ⟨w.heap.size, 3, none⟩ = some (.int .u64 root) ∧ q.cell? ⟨w.heap.size, 4, none⟩ = some (.int .u64 chain)) := fun q hq => ⟨(KB.out q hq).c0, (KB.out q hq).c2, (KB.out q hq).c3, (KB.out q hq).c4⟩
    have KL : Hid (∀ q, Below w1.heap.size w1 q → LD q) := fun q hq => hL.below (hb1.trans (hq.mono hb1.size)) (Nat.le_refl _)
    have hBd : Below w1.heap.size w1 w1.drew := Below.drew (Below.refl _ _)
    have S0 := KS.out _ hBd
    have L0 := KL.out _ hBd
    have l1 := hl.below hb1 (Nat.le_refl _)
    clear hL hl HP
    go_wp2_with fail
    go_region_held3 (fun q => q.cell? ⟨w.heap.size, 0, none⟩ = some (.int .i64 s) ∧ q.cell? ⟨w.heap.size, 2, none⟩ = some (.int .i64 r) ∧ q.cell? ⟨w.heap.size, 3, none⟩ = some (.int .u64 root) ∧ q.cell? ⟨w.heap.size, 4, none⟩ = some (.int .u64 chain)) (first | with_reducible exact S5 | with_reducible exact S4 | with_reducible exact S3 | with_reducible exact S2 | with_reducible exact S1 | with_reducible exact S0)
      (first | (go_at_call 102; refine (fmtu_calls chain hc u2 _ L3).mono ?_; rintro e q4 ⟨rfl, hq4⟩; have T4 := T3.trans (hq4.mono T3.size); have S4 := KS.out _ T4; have T5 := T4.alloc T4.size (.cells #[.string ⟨(dg s).toArray⟩, .string ⟨(dg r).toArray⟩, .string ⟨(dg root).toArray⟩, .string ⟨(dg chain).toArray⟩] 9); have S5 := KS.out _ T5) | (go_at_call 102; refine (fmtu_calls root hr t2 _ L2).mono ?_; rintro e q3 ⟨rfl, hq3⟩; have T3 := T2.trans (hq3.mono T2.size); have S3 := KS.out _ T3; have L3 := KL.out _ T3) | (go_at_call 28; refine (itoa_calls r r0 r2 _ L1).mono ?_; rintro e q2 ⟨rfl, hq2⟩; have T2 := T1.trans (hq2.mono T1.size); have S2 := KS.out _ T2; have L2 := KL.out _ T2) | (go_at_call 28; refine (itoa_calls s s0 s2 _ L0).mono ?_; rintro e q1 ⟨rfl, hq1⟩; have T1 := undrewS hq1; have S1 := KS.out _ T1; have L1 := KL.out _ T1))
    all_goals
      have O5 := (OwnX.lits 9 q4 [sv (dg s), sv (dg r), sv (dg root), sv (dg chain)] (by simp)).mono T4.size
      have C1 := (KB.out _ T5).c1
      have HV : Hid ([sv (dg s), sv (dg r), sv (dg root), sv (dg chain)] = ([s, r, root, chain] ++ D.take 0).map fun z => sv (dg z)) := rfl
      have O6 := O5.congr HV.out
      clear O5 HV S0 S1 S2 S3 S4 S5 L0 L1 L2 L3 hq1 hq2 hq3 hq4
      dsimp only [List.length_cons, List.length_nil, sv] at O6
      generalize hW5 : q4.alloc (.cells #[.string ⟨(dg s).toArray⟩, .string ⟨(dg r).toArray⟩, .string ⟨(dg root).toArray⟩, .string ⟨(dg chain).toArray⟩] 9) = W5 at *
      clear hW5
      go_wp2
      go_loopw [4, 26] (fun v i wr => ∃ q : Nat, q ≤ n ∧ i = .int .i64 q ∧ OwnX 9 w1.heap.size wr v (([s, r, root, chain] ++ D.take q).map fun z => sv (dg z)) ∧ Below w1.heap.size w1 wr) (fun _ i _ => n - (intOf i).toNat)
      case atStart => exact ⟨0, Nat.zero_le _, rfl, O6, T5⟩
      case round =>
        obtain ⟨q, hq, rfl, OR, TR⟩ := hrel
        by_cases hlt : q < n
        · obtain ⟨b1, o1, z, rfl, g1, c1, HX⟩ := l1.at1b TR (Nat.le_refl _) hlt
          have hz := HK.out.b z (by rw [← HX.out]; exact getD_mem (by dsimp only; rw [HN.out]; exact hlt))
          have z0 := hz.1
          have z1 : z ≤ 9223372036854775807 := by omega
          have LR := KL.out _ TR
          have HT : Hid (([s, r, root, chain] ++ D.take q).map (fun z => sv (dg z)) ++ [sv (dg z)] = ([s, r, root, chain] ++ D.take (q + 1)).map fun z => sv (dg z)) := by
            show _ = _
            have hqD : q < D.length := by rw [HN.out]; exact hlt
            rw [List.take_add_one, List.getElem?_eq_getElem hqD, Option.toList_some, ← List.append_assoc, List.map_append (l₂ := [D[q]]), ← HX.out, List.getD_eq_getElem?_getD, List.getElem?_eq_getElem hqD]
            rfl
          clear hz
          go_wp2_with (first | (go_at_call 28; refine (itoa_calls z z0 z1 _ LR).mono ?_; rintro e q6 ⟨rfl, hq6⟩; have T7 := hq6.alloc hq6.size (.cells #[.string ⟨(dg z).toArray⟩] 9); have O7 := OR.below T7; have T8 := TR.trans (T7.mono TR.size)) | (at_builtin; refine wpList_append_x Tryz.underlying24 infoStr rfl (by decide) (by rfl) _ _ (by rfl) w1.heap.size _ _ (sv (dg z)) q6.heap.size w1 (by rfl) (by rfl) (by exact O7) (by exact cell_new _ _ _) (by rfl) (by simp; omega) (by exact T8.size) (by exact T8) ?_; intro v9 w9 O9 T9 _ _))
          go_roundw
          case rel => exact ⟨q + 1, by omega, by go_num, O9.congr HT.out, T9⟩
          case measure => simp [intOf]; omega
        · obtain rfl : q = n := by omega
          have HT : Hid (([s, r, root, chain] ++ D.take q).map (fun z => sv (dg z)) = (Ln.words ⟨s, r, root, chain, D⟩).map sv) := by
            show _ = _
            rw [← HN.out, List.take_length, Ln.words, Ln.nums, List.map_map]
            rfl
          obtain ⟨g, c, rfl, hg, LS⟩ := (OR.congr HT.out).strs (by rw [Ln.words_len]; omega)
          have hsh := HK.out.short
          rw [Ln.text, List.length_append] at hsh
          have hwl : 0 < (Ln.words ⟨s, r, root, chain, D⟩).length := by rw [Ln.words_len]; omega
          have hwm : (Ln.words ⟨s, r, root, chain, D⟩).length ≤ 140737488355328 := by rw [Ln.words_len]; dsimp only; rw [HN.out]; omega
          have hjl : (Lib.join (Ln.words ⟨s, r, root, chain, D⟩) [32]).length ≤ 140737488355328 := by unfold Ln.line at hsh; omega
          have hcat : ¬ 9223372036854775807 < (⟨(Lib.join (Ln.words ⟨s, r, root, chain, D⟩) [32]).toArray⟩ : ByteArray).size + 1 := by rw [sz_arr]; omega
          clear OR HT hsh
          generalize (Ln.words ⟨s, r, root, chain, D⟩).length = M at *
          go_wp2_with (go_at_call 121; refine (join_calls g 0 M c _ 32 _ LS hwl hjl hwm).mono ?_; rintro e q7 ⟨rfl, hq7⟩)
          go_ret2
          refine ⟨.inl ⟨HK.out, ?_⟩, hb1.trans ((TR.trans (hq7.mono TR.size)).mono hb1.size)⟩
          show Ending.returned (.tuple #[.string (⟨(Lib.join (Ln.words ⟨s, r, root, chain, D⟩) [32]).toArray⟩ ++ ⟨#[10]⟩), .int .i64 0]) = _
          rw [cat_arr]
          rfl
end Go.Proofs.YthmiojmlaclgaaaGreatDoor.Fx
