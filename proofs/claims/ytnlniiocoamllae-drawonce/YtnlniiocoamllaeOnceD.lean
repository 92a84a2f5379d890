/- What slices.Sort leaves of an order: the numbers from 0 on; nothing else is written. And DrawOnce's walk, whole. -/
import Derived.Test.YtnlniiocoamllaeSortLay
import Derived.Test.YtnlniiocoamllaeOnceC
import Derived.Sort.OwnSortedInts
namespace Go.Proofs.Ytnlniiocoamllae.Fx
open Go.RowKit Go.Sort

theorem sorts : Sorts := by
  intro b c n f w hA h1 h2 hP
  have hlt := hA.lt
  have hH : Holds (Value.int .i64) w b 0 ((List.range n).map f).toArray := by
    intro j hj
    have hjn : j < n := by simpa using hj
    refine ⟨?_, ?_⟩
    · rw [Nat.zero_add, hA.cell hjn]; simp [hjn]
    · rw [Nat.zero_add]; exact hA.frozen j
  have h := Any.slices_Sort_int laysSort b 0 c ((List.range n).map f) w hH hlt (by simp; omega)
  rw [sort_range hP] at h
  have hl : ((List.range n).map f).length = n := by simp
  rw [hl] at h
  refine Calls.mono (show Calls Try.prog 18 _ _ _ from h) ?_
  rintro e w' ⟨rfl, q, os, rfl⟩
  obtain ⟨hc, F, ⟨cur, hb, hsz, hcc⟩, hf⟩ := hA
  refine ⟨rfl, ?_, grownBy_sortedI _⟩
  have hb' := heap_sortedI (n := q) (os := os) ((List.range n).map idN).toArray hb
  have ht := take_putCellsI cur ((List.range n).map idN) (by simp; omega)
  have hs' : (putCells (Value.int .i64) 0 ((List.range n).map idN).toArray cur).size = c := by simp [putCells, hsz]
  generalize putCells (Value.int .i64) 0 ((List.range n).map idN).toArray cur = cur' at *
  refine ⟨hc, fun i => cur'[i]?.getD default, ⟨cur', hb', hs', fun i hi => ?_⟩, fun i hi => ?_⟩
  · show cur'[i]? = some (cur'[i]?.getD default)
    rw [Array.getElem?_eq_getElem (by omega)]; rfl
  · have h3 : (((List.range n).map idN).map (Value.int .i64))[i]? = some (.int .i64 (idN i)) := by simp [hi]
    rw [← ht, List.getElem?_take_of_lt (by simpa using hi), Array.getElem?_toList] at h3
    show cur'[i]?.getD default = _
    rw [h3]; rfl

theorem drawOnce_any (seed epoch n size : Int) (w : World) (hs : okW seed) (_ : (Lit.int .i64 epoch).wf = true) (_ : (Lit.int .i64 n).wf = true) (_ : (Lit.int .i64 size).wf = true) :
    Calls Try.prog 5 #[.int .u64 seed, .int .i64 epoch, .int .i64 n, .int .i64 size] w fun e w' => e = .returned (.bool true) ∧ Below w.heap.size w w' :=
  drawOnce_core sorts seed epoch n size hs w

end Go.Proofs.Ytnlniiocoamllae.Fx
