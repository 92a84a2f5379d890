/- How records lie in memory; no function of the program is spoken of. -/
import Derived.Test.YtfcnnolpcnacoaaDoorLists
namespace Go.Proofs.YtfcnnolpcnacoaaDoor.Fx
open Go.RowKit

/-- A record's value: its numbers, and where its batch lies. -/
structure Rcm where
  s : Int
  a : Option Addr
  n : Nat
  k : Nat
  r : Int
  root : Int
  chain : Int
def Rcm.cells (x : Rcm) : Array Value := #[.int .i64 x.s, .slice x.a x.n x.k, .int .i64 x.r, .int .u64 x.root, .int .u64 x.chain]
def Rcm.val (x : Rcm) : Value := .agg x.cells
/-- A slice of records: their values, and their batches' numbers. -/
def Recs (w : World) (a : Option Addr) (n cap : Nat) (R : Nat → Rcm) (D : Nat → List Int) : Prop :=
  n ≤ cap ∧ (n = 0 ∨ ∃ b off, a = some ⟨b, off, none⟩ ∧ b < w.heap.size ∧ ∀ i, i < n → w.cell? ⟨b, off + i * 5, none⟩ = some (.int .i64 (R i).s) ∧ w.cell? ⟨b, off + i * 5 + 1, none⟩ = some (.slice (R i).a (R i).n (R i).k) ∧ w.cell? ⟨b, off + i * 5 + 2, none⟩ = some (.int .i64 (R i).r) ∧ w.cell? ⟨b, off + i * 5 + 3, none⟩ = some (.int .u64 (R i).root) ∧ w.cell? ⟨b, off + i * 5 + 4, none⟩ = some (.int .u64 (R i).chain) ∧ Lst w (R i).a (R i).n (R i).k (D i))
theorem Recs.below {w w' : World} {a : Option Addr} {n c : Nat} {R : Nat → Rcm} {D : Nat → List Int} {B : Nat} (h : Recs w a n c R D) (hb : Below B w w') (hB : w.heap.size ≤ B) : Recs w' a n c R D := by
  refine ⟨h.1, ?_⟩
  rcases h.2 with h0 | ⟨b, off, e, hs, hc⟩
  · exact .inl h0
  · have k : ∀ o, w'.cell? ⟨b, o, none⟩ = w.cell? ⟨b, o, none⟩ := fun o => hb.cell (p := ⟨b, o, none⟩) (Nat.lt_of_lt_of_le hs hB)
    exact .inr ⟨b, off, e, Nat.lt_of_lt_of_le hs hb.size, fun i hi =>
      ⟨(k _).trans (hc i hi).1, (k _).trans (hc i hi).2.1, (k _).trans (hc i hi).2.2.1, (k _).trans (hc i hi).2.2.2.1, (k _).trans (hc i hi).2.2.2.2.1, (hc i hi).2.2.2.2.2.below hb hB⟩⟩
theorem Recs.nil (w : World) (a : Option Addr) (c : Nat) (R : Nat → Rcm) (D : Nat → List Int) : Recs w a 0 c R D := ⟨Nat.zero_le _, .inl rfl⟩
theorem Recs.at {w : World} {a : Option Addr} {n c : Nat} {R : Nat → Rcm} {D : Nat → List Int} (h : Recs w a n c R D) (hn : 0 < n) : ∃ b off, a = some ⟨b, off, none⟩ ∧ ∀ i, i < n → w.cell? ⟨b, off + i * 5, none⟩ = some (.int .i64 (R i).s) ∧ w.cell? ⟨b, off + i * 5 + 1, none⟩ = some (.slice (R i).a (R i).n (R i).k) ∧ w.cell? ⟨b, off + i * 5 + 2, none⟩ = some (.int .i64 (R i).r) ∧ w.cell? ⟨b, off + i * 5 + 3, none⟩ = some (.int .u64 (R i).root) ∧ w.cell? ⟨b, off + i * 5 + 4, none⟩ = some (.int .u64 (R i).chain) ∧ Lst w (R i).a (R i).n (R i).k (D i) := by
  rcases h.2 with h0 | ⟨b, off, e, _, hc⟩
  · omega
  · exact ⟨b, off, e, hc⟩
end Go.Proofs.YtfcnnolpcnacoaaDoor.Fx
