/- How a state by value is opened, with what the form says of its sizes. -/
import Derived.Test.YtfkalnehomgccaaOpensO
namespace Go.Proofs.Ytfkalnehomgccaa.Fx
open Go.ChangeShapes Go.WideShapes Go.ChangeAt Go.RowKit

/-- The datum of a list that came in tells its length. -/
def DLen {H : Type} (d : DataW H) (len : Nat) : Prop := len = 0 ∨ ∃ elems spare, d = .slice elems spare ∧ len ≤ elems.length + spare.length
set_option maxRecDepth 100000 in
theorem came_trodD {H : Type} {enc : TypeId × Value → H} {W : World} {fuel : Nat} {cs : List Value} {x : DataW H × List MemPlace} (hf : DataW.trod enc Try.prog W 0 (fun _ => true) true fuel 22 cs = some x) :
    ∃ a len cap xs, cs = [.slice a len cap] ∧ Came W a len cap xs ∧ DLen x.1 len := by
  rcases open_ints Try.underlying22 Try.underlying3 (by kernel_rfl) hf with ⟨hcs, _⟩ | ⟨y, l, c, zs, hcs, _, hl, hm, hz, hx, hcell, hwz⟩
  · exact ⟨none, 0, 0, [], hcs, ⟨Lst.nil _ _ _, Nat.zero_le _, fun n h => by cases h⟩, .inl rfl⟩
  · have hz' : zs.length = c := by simpa using hz
    refine ⟨some y, l, c, zs.take l, hcs, ⟨Lst.came hl hz' hcell, hm, fun n h => hwz n (List.mem_of_mem_take h)⟩, .inr ⟨_, _, by rw [hx], ?_⟩⟩
    simp only [lits, List.length_map, List.length_take, List.length_drop]
    omega
set_option maxRecDepth 100000 in
theorem openStateD {H : Type} {enc : TypeId × Value → H} {W : World} {b0 : Nat} {v : Value} {d : DataW H} {p : List MemPlace} (hv : Value.okWide Try.prog W .any b0 24 v) (h : DataW.Trod enc Try.prog W 0 (fun _ => true) true 24 v d p) :
    ∃ (x : Exm) (I O : List Int), v = x.val ∧ InEx W x I O ∧ ∃ y0 y1 : DataW H, d = .agg [y0, y1] ∧ DLen y0 x.n ∧ DLen y1 x.m := by
  obtain ⟨c0, c1, y0, y1, m, rfl, hd, _, hy0, hy1⟩ := Go.Joins.open_agg2 Try.underlying24 (by kernel_rfl) cellsState hv h
  obtain ⟨a3, l3, k3, B1, e3, g3, d3⟩ := came_trodD hy0
  obtain ⟨a4, l4, k4, B2, e4, g4, d4⟩ := came_trodD hy1
  simp at e3 e4
  subst e3 e4
  exact ⟨⟨a3, l3, k3, a4, l4, k4⟩, B1, B2, rfl, ⟨g3.1, g4.1⟩, y0.1, y1.1, hd, d3, d4⟩
theorem bytesIntS : Try.prog.bytesOf 3 = 8 := by kernel_rfl
theorem dlen_le {H : Type} {ts : List TypeId} {ds : List (DataW H)} {j : Nat} {d : DataW H} {len : Nat} (h : ∀ n ∈ DataW.weightsEach Try.prog ts ds, n ≤ reachBytes) (ht : ts[j]? = some 22) (hd : ds[j]? = some d) (hl : DLen d len) : len * 8 ≤ 140737488351232 := by
  rcases hl with rfl | ⟨elems, spare, rfl, hle⟩
  · omega
  · have := h _ (DataW.weights_mem_each ht hd ((elems.length + spare.length) * Try.prog.bytesOf 3) (by simp [DataW.weights, Try.underlying22]))
    rw [bytesIntS] at this
    simp only [reachBytes] at this
    omega
set_option maxRecDepth 100000 in
theorem sizedState {H : Type} {ts : List TypeId} {ds : List (DataW H)} (h : (DataW.weightsEach Try.prog ts ds).all (· ≤ reachBytes) = true) {j n m : Nat} {d : DataW H} (ht : ts[j]? = some 24) (hd : ds[j]? = some d)
    (hl : ∃ y0 y1 : DataW H, d = .agg [y0, y1] ∧ DLen y0 n ∧ DLen y1 m) : n * 8 ≤ 140737488351232 ∧ m * 8 ≤ 140737488351232 := by
  obtain ⟨y0, y1, rfl, h0, h1⟩ := hl
  have key : ∀ t ∈ DataW.weightsEach Try.prog [22, 22] [y0, y1], t ≤ reachBytes := fun t hm => by
    have := List.all_eq_true.1 h _ (DataW.weights_mem_each ht hd t (by simp only [DataW.weights, Try.underlying24]; exact hm))
    simpa using this
  exact ⟨dlen_le (j := 0) key rfl rfl h0, dlen_le (j := 1) key rfl rfl h1⟩
end Go.Proofs.Ytfkalnehomgccaa.Fx
