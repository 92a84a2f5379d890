/- What store.isPlace, store.printable and coachref.Line return, whatever record lies there: whether its line may be told. -/
import Derived.Test.YtfcnnolpcnacoaaGreatDoorJ37
import Derived.Test.YtfcnnolpcnacoaaGreatDoorJ11
import Derived.Test.YtfcnnolpcnacoaaGreatDoorJ03
import Derived.Test.YtfcnnolpcnacoaaGreatDoorJ26
namespace Go.Proofs.YtfcnnolpcnacoaaGreatDoor.Fx
open Go.RowKit

/-- A record's numbers. -/
def Rcm.ln (x : Rcm) (D : List Int) : Ln := ⟨x.s, x.r, x.root, x.chain, D⟩
theorem mem_getD {D : List Int} {z : Int} (h : z ∈ D) : ∃ j, j < D.length ∧ D.getD j 0 = z := by
  obtain ⟨j, hj, e⟩ := List.getElem_of_mem h
  exact ⟨j, hj, by rw [List.getD_eq_getElem?_getD, List.getElem?_eq_getElem hj, Option.getD_some, e]⟩
theorem getD_mem {D : List Int} {j : Nat} (h : j < D.length) : D.getD j 0 ∈ D := by
  rw [List.getD_eq_getElem?_getD, List.getElem?_eq_getElem h, Option.getD_some]; exact List.getElem_mem h
theorem box5 {w wr : World} {B : Nat} (v0 v1 v2 v3 v4 : Value) (t : TypeId) (hb : Below B (w.alloc (.cells #[v0, v1, v2, v3, v4] t)) wr) (hB : w.heap.size < B) : Box5 wr w.heap.size v0 v1 v2 v3 v4 := by
  have h := fn5_alloc w v0 v1 v2 v3 v4 t
  exact fn5_box (h.of_block (hb.block _ hB))

/-- That flag is set just where p holds. -/
def TF (b : Bool) (p : Prop) : Prop := b = true ↔ p
theorem TF.yes {p : Prop} (h : TF true p) : p := h.1 rfl
theorem TF.no {p : Prop} (h : TF false p) : ¬ p := fun e => by have := h.2 e; cases this
theorem TF.t {p : Prop} (h : p) : TF true p := ⟨fun _ => h, fun _ => rfl⟩
theorem TF.f {p : Prop} (h : ¬ p) : TF false p := ⟨fun e => (by cases e), fun e => absurd e h⟩
/-- A call that answers whether p holds. -/
def IsB (e : Ending) (p : Prop) : Prop := ∃ b : Bool, e = .returned (.bool b) ∧ TF b p
theorem IsB.t {p : Prop} {v : Value} (hv : v = .bool true) (h : p) : IsB (.returned v) p := ⟨true, by rw [hv], TF.t h⟩
theorem IsB.f {p : Prop} {v : Value} (hv : v = .bool false) (h : ¬ p) : IsB (.returned v) p := ⟨false, by rw [hv], TF.f h⟩

theorem isPlace_calls (z : Int) (w : World) : Calls Tryz.prog 54 #[.int .i64 z] w fun e w' => IsB e (0 ≤ z ∧ z ≤ 99) ∧ w' = w := by
  by_cases h1 : 0 ≤ z
  · by_cases h2 : z < 100
    · go_enter Tryz.func54, Tryz.ntmps54
      go_wp2
      go_ret
      exact ⟨IsB.t rfl (by omega), rfl⟩
    · go_enter Tryz.func54, Tryz.ntmps54
      go_wp2
      go_ret
      exact ⟨IsB.f rfl (by omega), rfl⟩
  · go_enter Tryz.func54, Tryz.ntmps54
    go_wp2
    go_ret
    exact ⟨IsB.f rfl (by omega), rfl⟩

set_option maxRecDepth 100000 in
set_option maxHeartbeats 3200000 in
theorem printable_calls (x : Rcm) (D : List Int) (w : World) (hl : Lst w x.a x.n x.k D) (hr : 0 ≤ x.root) (hc : 0 ≤ x.chain) :
    Calls Tryz.prog 38 #[x.val] w fun e w' => IsB e (x.ln D).ok ∧ Below w.heap.size w w' := by
  obtain ⟨s, a, n, k, r, root, chain⟩ := x
  simp only [Rcm.val, Rcm.cells, Rcm.ln] at *
  have hal := (Below.refl w.heap.size w).alloc (Nat.le_refl _) (.cells #[.int .i64 s, .slice a n k, .int .i64 r, .int .u64 root, .int .u64 chain] 40)
  have hl1 := hl.below hal (Nat.le_refl _)
  have HN : Hid (D.length = n) := hl.len
  clear hl
  go_enter Tryz.func38, Tryz.ntmps38
  go_wp2_with fail
  refine (isPlace_calls _ _).mono ?_
  rintro e w1 ⟨⟨b, rfl, H1⟩, hw1⟩
  replace hw1 := hw1.symm
  subst hw1
  cases b with
  | false =>
    go_wp2
    go_ret
    exact ⟨IsB.f rfl fun h => H1.no h.s, hal⟩
  | true =>
    by_cases h2 : r < 0
    · go_wp2
      go_ret
      exact ⟨IsB.f rfl fun h => by have := h.r; dsimp only at this; omega, hal⟩
    · by_cases h3 : r > 2147483647
      · go_wp2
        go_ret
        exact ⟨IsB.f rfl fun h => by have := h.r; dsimp only at this; omega, hal⟩
      · by_cases h4 : root ≥ 2305843009213693951
        · go_wp2
          go_ret
          exact ⟨IsB.f rfl fun h => by have := h.root; dsimp only at this; omega, hal⟩
        · by_cases h5 : chain ≥ 2305843009213693951
          · go_wp2
            go_ret
            exact ⟨IsB.f rfl fun h => by have := h.chain; dsimp only at this; omega, hal⟩
          · by_cases h6 : n > 8
            · go_wp2
              go_ret
              exact ⟨IsB.f rfl fun h => by have := h.n; have := HN.out; dsimp only at *; omega, hal⟩
            · go_wp2
              generalize hW : w.alloc (.cells #[.int .i64 s, .slice a n k, .int .i64 r, .int .u64 root, .int .u64 chain] 40) = W at *
              clear hW
              go_loopw [36] (fun i wr => ∃ q : Nat, q ≤ n ∧ i = .int .i64 q ∧ Hid (∀ j, j < q → 0 ≤ D.getD j 0 ∧ D.getD j 0 ≤ 99) ∧ wr = W) (fun i _ => n - (intOf i).toNat)
              case atStart => exact ⟨0, Nat.zero_le _, rfl, fun j hj => by omega, rfl⟩
              case round =>
                obtain ⟨q, hq, rfl, HG, hw⟩ := hrel
                replace hw := hw.symm
                subst hw
                by_cases hlt : q < n
                · obtain ⟨b1, o1, z, rfl, s1, c1, HX⟩ := hl1.at1 hlt
                  go_wp2_with fail
                  refine (isPlace_calls _ _).mono ?_
                  rintro e w1 ⟨⟨b, rfl, H2⟩, hw1⟩
                  replace hw1 := hw1.symm
                  subst hw1
                  cases b with
                  | false =>
                    go_wp2
                    go_ret
                    exact ⟨IsB.f rfl fun h => H2.no (by rw [← HX.out]; exact h.b _ (getD_mem (by rw [HN.out]; exact hlt))), hal⟩
                  | true =>
                    go_wp2
                    go_roundw
                    case rel => exact ⟨q + 1, by omega, by go_num, fun j hj => by
                      by_cases e : j = q
                      · subst e; rw [HX.out]; exact H2.yes
                      · exact HG.out j (by omega), by trivial⟩
                    case measure => simp [intOf]; omega
                · go_wp2
                  go_ret
                  refine ⟨IsB.t rfl ⟨H1.yes, ⟨by dsimp only; omega, by dsimp only; omega⟩, ⟨hr, by dsimp only; omega⟩, ⟨hc, by dsimp only; omega⟩, by dsimp only; rw [HN.out]; omega, fun z hz => ?_⟩, hal⟩
                  obtain ⟨j, hj, e⟩ := mem_getD hz
                  rw [← e]
                  exact HG.out j (by rw [HN.out] at hj; omega)

def inZ (n lo hi : Int) : Bool := decide (lo ≤ n) && decide (n ≤ hi)
theorem inZ_iff {n lo hi : Int} : inZ n lo hi = true ↔ lo ≤ n ∧ n ≤ hi := by unfold inZ; simp
theorem rinZ_calls (n lo hi : Int) (w : World) : Calls Tryz.prog 28 #[.int .i64 n, .int .i64 lo, .int .i64 hi] w fun e w' => e = .returned (.bool (inZ n lo hi)) ∧ w' = w := by
  unfold inZ
  by_cases h1 : lo ≤ n
  · by_cases h2 : n ≤ hi
    · go_enter Tryz.func28, Tryz.ntmps28
      go_wp2
      go_ret
      exact ⟨ret_bool (by simp [h1, h2]), rfl⟩
    · go_enter Tryz.func28, Tryz.ntmps28
      go_wp2
      go_ret
      exact ⟨ret_bool (by simp; omega), rfl⟩
  · go_enter Tryz.func28, Tryz.ntmps28
    go_wp2
    go_ret
    exact ⟨ret_bool (by simp; omega), rfl⟩

/-- What is asked of a record ahead of its batch. -/
def headOk (s r root chain : Int) (n : Nat) : Prop := (0 ≤ s ∧ s ≤ 99) ∧ (0 ≤ r ∧ r ≤ 2147483647) ∧ root < 2305843009213693951 ∧ chain < 2305843009213693951 ∧ n ≤ 8
/-- .. and of the batch's first q numbers. -/
def LineTo (D : List Int) (s r root chain : Int) (n q : Nat) (b : Bool) : Prop := TF b (headOk s r root chain n ∧ ∀ j, j < q → 0 ≤ D.getD j 0 ∧ D.getD j 0 ≤ 99)
theorem LineTo.zero {D : List Int} {s r root chain : Int} {n : Nat} {b : Bool} (h : TF b (headOk s r root chain n)) : LineTo D s r root chain n 0 b :=
  ⟨fun e => ⟨h.1 e, fun j hj => by omega⟩, fun e => h.2 e.1⟩
theorem LineTo.yes {D : List Int} {s r root chain : Int} {n q : Nat} {x : Int} (h : LineTo D s r root chain n q true) (hx : D.getD q 0 = x) (hc : inZ x 0 99 = true) : LineTo D s r root chain n (q + 1) true := by
  refine TF.t ⟨(TF.yes h).1, fun j hj => ?_⟩
  by_cases e : j = q
  · subst e; rw [hx]; exact inZ_iff.1 hc
  · exact (TF.yes h).2 j (by omega)
theorem LineTo.no {D : List Int} {s r root chain : Int} {n q : Nat} {x : Int} (hx : D.getD q 0 = x) (hc : inZ x 0 99 = false) : LineTo D s r root chain n (q + 1) false := by
  refine TF.f fun h => ?_
  have := h.2 q (by omega)
  rw [hx, ← inZ_iff, hc] at this
  cases this
theorem LineTo.stay {D : List Int} {s r root chain : Int} {n q : Nat} (h : LineTo D s r root chain n q false) : LineTo D s r root chain n (q + 1) false :=
  TF.f fun e => TF.no h ⟨e.1, fun j hj => e.2 j (by omega)⟩
theorem LineTo.all {D : List Int} {s r root chain : Int} {n q : Nat} {b : Bool} (h : LineTo D s r root chain n q b) (hD : D.length = n) (hq : q = n) (hr : 0 ≤ root) (hc : 0 ≤ chain) : TF b (Ln.ok ⟨s, r, root, chain, D⟩) := by
  subst hq
  refine ⟨fun e => ?_, fun e => h.2 ⟨⟨e.s, e.r, e.root.2, e.chain.2, by have := e.n; dsimp only at this; omega⟩, fun j hj => e.b _ (getD_mem (by dsimp only; omega))⟩⟩
  obtain ⟨⟨h1, h2, h3, h4, h5⟩, h6⟩ := h.1 e
  refine ⟨h1, h2, ⟨hr, h3⟩, ⟨hc, h4⟩, by dsimp only; omega, fun z hz => ?_⟩
  obtain ⟨j, hj, e⟩ := mem_getD hz
  rw [← e]
  exact h6 j (by dsimp only at hj; omega)
theorem lineWays (s r root chain : Int) (n : Nat) :
    inZ s 0 99 = false ∨ (inZ s 0 99 = true ∧ inZ r 0 2147483647 = false) ∨ (inZ s 0 99 = true ∧ inZ r 0 2147483647 = true ∧ ¬ root < 2305843009213693951) ∨ (inZ s 0 99 = true ∧ inZ r 0 2147483647 = true ∧ root < 2305843009213693951 ∧ ¬ chain < 2305843009213693951) ∨ (inZ s 0 99 = true ∧ inZ r 0 2147483647 = true ∧ root < 2305843009213693951 ∧ chain < 2305843009213693951 ∧ ¬ n ≤ 8) ∨ (inZ s 0 99 = true ∧ inZ r 0 2147483647 = true ∧ root < 2305843009213693951 ∧ chain < 2305843009213693951 ∧ n ≤ 8) := by
  cases inZ s 0 99 <;> cases inZ r 0 2147483647 <;> simp
  omega
theorem head_no {s r root chain : Int} {n : Nat} (h : inZ s 0 99 = false ∨ inZ r 0 2147483647 = false ∨ ¬ root < 2305843009213693951 ∨ ¬ chain < 2305843009213693951 ∨ ¬ n ≤ 8) : TF false (headOk s r root chain n) := by
  refine TF.f fun ⟨h1, h2, h3, h4, h5⟩ => ?_
  rw [← inZ_iff] at h1 h2
  rw [h1, h2] at h
  simp at h
  omega
theorem head_yes {s r root chain : Int} {n : Nat} (h1 : inZ s 0 99 = true) (h2 : inZ r 0 2147483647 = true) (h3 : root < 2305843009213693951) (h4 : chain < 2305843009213693951) (h5 : n ≤ 8) : TF true (headOk s r root chain n) :=
  TF.t ⟨inZ_iff.1 h1, inZ_iff.1 h2, h3, h4, h5⟩
end Go.Proofs.YtfcnnolpcnacoaaGreatDoor.Fx
