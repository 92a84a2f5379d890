/- What package spot's Chunk and Opens answer, in plain numbers, for every input; what a law may ask of them is said as contracts that are handed in. -/
import Derived.Test.YtfkalnehomgccaaTreeF
import Derived.Test.YtfkalnehomgccaaTreePathsWalk
namespace Go.Proofs.Ytfkalnehomgccaa.Fx
open Go.RowKit

/-- Chunk i of n numbers. -/
def partL (xs : List Int) (n i : Nat) : List Int := (xs.drop (i * 4)).take (hiN n i - i * 4)
def ckP (xs : List Int) (n : Nat) (i : Int) : List Int := if errP i n = 0 then partL xs n i.toNat else []
def opE (n i : Int) (m p : Nat) : Int := if errC i n p = 0 then (if (m : Int) = min 4 (n - 4 * i) then 0 else 5) else errC i n p
def opB (root n i : Int) (m : Nat) (xs : List Int) (p : Nat) (ps : List Int) : Bool := if opE n i m p = 0 then decide (upL i n (ofP 4 (numL xs m)) ps p = root % 2305843009213693951) else false
theorem partL_len {xs : List Int} {n i : Nat} (h : xs.length = n) (hi : i < (n + 3) / 4) : (partL xs n i).length = hiN n i - i * 4 := by
  unfold partL hiN
  rw [List.length_take, List.length_drop, h]
  omega
theorem honest_chunk {xs : List Int} {n k : Nat} (h1 : 1 ≤ n) (h2 : n ≤ 200) (hk : k < (n + 3) / 4) :
    errP k n = 0 ∧ ckP xs n k = partL xs n k ∧ wayL xs n k = wayP (leavesP xs n) k := by
  have e : errP k n = 0 := by
    unfold errP
    rw [if_neg (by omega), if_pos ⟨by omega, by omega⟩]
  refine ⟨e, by unfold ckP; rw [if_pos e]; rfl, ?_⟩
  unfold wayL
  rw [if_pos ⟨by omega, by omega, by omega⟩]
  rfl
theorem honest_opens {xs : List Int} {n k : Nat} (h : xs.length = n) (h1 : 1 ≤ n) (h2 : n ≤ 200) (hk : k < (n + 3) / 4) {r : Int} (hr : ofP 3 [(n : Int), treeP (leavesP xs n)] = r) :
    opE n k (partL xs n k).length (wayP (leavesP xs n) k).length = 0 ∧ opB r n k (partL xs n k).length (partL xs n k) (wayP (leavesP xs n) k).length (wayP (leavesP xs n) k) = true := by
  have hl := leavesP_len xs n
  have hw := (way_deep (leavesP xs n).length (leavesP xs n) k (Nat.le_refl _) (leavesP_ok xs n)).1
  rw [hl] at hw
  obtain ⟨c1, c2⟩ := climb_root xs n k h1 h2 hk
  have hp := partL_len h hk
  have hE : opE n k (partL xs n k).length (wayP (leavesP xs n) k).length = 0 := by
    unfold opE
    rw [hw, if_pos c2, hp, if_pos (by unfold hiN; omega)]
  refine ⟨hE, ?_⟩
  unfold opB
  rw [if_pos hE, hw]
  have hleaf : ofP 4 (numL (partL xs n k) (partL xs n k).length) = (leavesP xs n).getD k 0 := by
    rw [hp]
    unfold leavesP
    rw [List.getD_eq_getElem?_getD, List.getElem?_map, List.getElem?_range hk]
    rfl
  rw [hleaf, c1, hr]
  have ho := ofP_ok 3 [(n : Int), treeP (leavesP xs n)]
  rw [hr] at ho
  rw [decide_eq_true]
  rw [Int.emod_eq_of_lt ho.1 ho.2]

/-- What spot.Chunk is to answer. -/
def ChunkSays : Prop := ∀ (a1 : Option Addr) (n1 k1 : Nat) (ws : List Int) (a2 : Option Addr) (n2 k2 : Nat) (ms : List Int) (i : Int) (w : World), Lst w a1 n1 k1 ws → Lst w a2 n2 k2 ms → n1 + n2 ≤ 1048576 →
  Calls Try.prog 8 #[.agg #[.slice a1 n1 k1, .slice a2 n2 k2], .int .i64 i] w fun e w' => ∃ b1 m1 d1 b2 m2 d2, e = .returned (.tuple #[.slice b1 m1 d1, .slice b2 m2 d2, .int .i64 (errP i (n1 + n2))]) ∧ m1 ≤ 200 ∧ m2 ≤ 200 ∧ Lst w' b1 m1 d1 (ckP (ws ++ ms) (n1 + n2) i) ∧ LstW w' b2 m2 d2 (wayL (ws ++ ms) (n1 + n2) i) ∧ Below w.heap.size w w'

/-- What spot.Opens is to answer. -/
def OpensSays : Prop := ∀ (root n i : Int) (a : Option Addr) (m c : Nat) (xs : List Int) (b : Option Addr) (p d : Nat) (ps : List Int) (w : World), okW root → (-9223372036854775808 ≤ n ∧ n ≤ 9223372036854775807) → (-9223372036854775808 ≤ i ∧ i ≤ 9223372036854775807) → Lst w a m c xs → LstW w b p d ps → okL ps → m ≤ 9223372036854775807 → p ≤ 9223372036854775807 →
  Calls Try.prog 15 #[.int .u64 root, .int .i64 n, .int .i64 i, .slice a m c, .slice b p d] w fun e w' => e = .returned (.tuple #[.bool (opB root n i m xs p ps), .int .i64 (opE n i m p)]) ∧ Below w.heap.size w w'

end Go.Proofs.Ytfkalnehomgccaa.Fx
