/- How the arguments of a law are opened: integers, slices of integers, matrices by value. -/
import Derived.Test.YtfcnnolpcnacoaaGreatDoorJ00
import Derived.Test.YtfcnnolpcnacoaaGreatDoorRows
import Derived.ProofKit
import Derived.OpenShut
import Derived.ShutString
import Derived.ChangeOld
import Derived.Below
import Derived.SizedLaws
import Derived.Lib.SmallJoins
import Derived.Test.YtfcnnolpcnacoaaGreatDoorJ26
import Derived.Test.YtfcnnolpcnacoaaGreatDoorJ38
import Derived.Deep.DeepHandedRow
import Derived.Lib.LaidTab
import Derived.Stop.LaidErr
import Derived.LaidMore
import Derived.Lay
import Derived.SevenTiedAt
import Derived.Stop.Joined
import Derived.Test.YtfcnnolpcnacoaaGreatDoorJ37
import Derived.Test.YtfcnnolpcnacoaaGreatDoorJ33
import Derived.Test.YtfcnnolpcnacoaaGreatDoorJ20
import Derived.Test.YtfcnnolpcnacoaaGreatDoorJ44
namespace Go.Proofs.YtfcnnolpcnacoaaGreatDoor.Fx
open Go.ChangeShapes Go.WideShapes Go.ChangeAt Go.RowKit

theorem own : ownKnob Tryz.prog.godebug = none := by kernel_rfl
theorem laidOut : laidOutB Tryz.prog = true := by kernel_rfl

theorem cellsMat : Tryz.prog.cellsOf 138 = 3 := by kernel_rfl

/-- Of a slice of integers that came in: it reads as xs, and its capacity is no more than may be. -/
def Came (w : World) (a : Option Addr) (len cap : Nat) (xs : List Int) : Prop := Lst w a len cap xs ∧ cap ≤ maxLen ∧ ∀ n ∈ xs, (Lit.int .i64 n).wf = true

set_option maxRecDepth 100000 in
theorem came_trod {H : Type} {enc : TypeId × Value → H} {W : World} {fuel : Nat} {cs : List Value} {x : DataW H × List MemPlace} (hf : DataW.trod enc Tryz.prog W 0 (fun _ => true) true fuel 26 cs = some x) :
    ∃ a len cap xs, cs = [.slice a len cap] ∧ Came W a len cap xs := by
  rcases open_ints Tryz.underlying26 Tryz.underlying3 (by kernel_rfl) hf with ⟨hcs, _⟩ | ⟨x, l, c, zs, hcs, _, hl, hm, hz, _, hcell, hwz⟩
  · exact ⟨none, 0, 0, [], hcs, Lst.nil _ _ _, Nat.zero_le _, fun n h => by cases h⟩
  · exact ⟨some x, l, c, zs.take l, hcs, Lst.came hl (by simpa using hz) hcell, hm, fun n h => hwz n (List.mem_of_mem_take h)⟩

set_option maxRecDepth 100000 in
theorem openInts {H : Type} {enc : TypeId × Value → H} {W : World} {b0 : Nat} {v : Value} {d : DataW H} {p : List MemPlace} (hv : Value.okWide Tryz.prog W .any b0 26 v) (h : DataW.Trod enc Tryz.prog W 0 (fun _ => true) true 26 v d p) :
    ∃ a len cap xs, v = .slice a len cap ∧ Came W a len cap xs := by
  obtain ⟨a, len, cap, rfl⟩ := okWide_slice Tryz.underlying26 hv
  obtain ⟨fuel, hf⟩ := h
  obtain ⟨a', len', cap', xs, hcs, hc⟩ := came_trod hf
  simp [Value.cells] at hcs
  obtain ⟨rfl, rfl, rfl⟩ := hcs
  exact ⟨_, _, _, xs, rfl, hc⟩

theorem bytesInt : Tryz.prog.bytesOf 3 = 8 := by kernel_rfl

set_option maxRecDepth 100000 in
/-- .. and the datum's own length: for what the form itself says of sizes. -/
theorem openIntsD {H : Type} {enc : TypeId × Value → H} {W : World} {b0 : Nat} {v : Value} {d : DataW H} {p : List MemPlace} (hv : Value.okWide Tryz.prog W .any b0 26 v) (h : DataW.Trod enc Tryz.prog W 0 (fun _ => true) true 26 v d p) :
    ∃ a len cap xs, v = .slice a len cap ∧ Came W a len cap xs ∧ (len = 0 ∨ ∃ elems spare, d = .slice elems spare ∧ len ≤ elems.length + spare.length) := by
  obtain ⟨a, len, cap, rfl⟩ := okWide_slice Tryz.underlying26 hv
  obtain ⟨fuel, hf⟩ := h
  rcases open_ints Tryz.underlying26 Tryz.underlying3 (by kernel_rfl) hf with ⟨hcs, _⟩ | ⟨x, l, c, zs, hcs, _, hl, hm, hz, hx, hcell, hwz⟩
  · simp [Value.cells] at hcs
    obtain ⟨rfl, rfl, rfl⟩ := hcs
    exact ⟨_, _, _, [], rfl, ⟨Lst.nil _ _ _, Nat.zero_le _, fun n h => by cases h⟩, .inl rfl⟩
  · simp [Value.cells] at hcs
    obtain ⟨rfl, rfl, rfl⟩ := hcs
    simp only [Prod.mk.injEq] at hx
    have hz' : zs.length = cap := by simpa using hz
    refine ⟨_, _, _, zs.take len, rfl, ⟨Lst.came hl hz' hcell, hm, fun n h => hwz n (List.mem_of_mem_take h)⟩, .inr ⟨_, _, hx.1, ?_⟩⟩
    simp only [lits, List.length_map, List.length_take, List.length_drop]
    omega

set_option maxRecDepth 100000 in
theorem sizedInts {H : Type} {ts : List TypeId} {ds : List (DataW H)} (h : (DataW.weightsEach Tryz.prog ts ds).all (· ≤ reachBytes) = true) {j len : Nat} {d : DataW H} (ht : ts[j]? = some 26) (hd : ds[j]? = some d)
    (hl : len = 0 ∨ ∃ elems spare, d = .slice elems spare ∧ len ≤ elems.length + spare.length) : len * 8 ≤ 140737488351232 := by
  rcases hl with rfl | ⟨elems, spare, rfl, hl⟩
  · omega
  · have := sized_slice h ht hd Tryz.underlying26
    rw [bytesInt] at this
    simp only [reachBytes] at this
    omega

set_option maxRecDepth 100000 in
theorem openMat {H : Type} {enc : TypeId × Value → H} {W : World} {b0 : Nat} {v : Value} {d : DataW H} {p : List MemPlace} (hv : Value.okWide Tryz.prog W .any b0 138 v) (h : DataW.Trod enc Tryz.prog W 0 (fun _ => true) true 138 v d p) :
    ∃ r c a len cap xs, v = .agg #[.int .i64 r, .int .i64 c, .slice a len cap] ∧ Came W a len cap xs ∧ (Lit.int .i64 r).wf = true ∧ (Lit.int .i64 c).wf = true := by
  obtain ⟨c0, c1, c2, y0, y1, y2, m, rfl, _, _, hy0, hy1, hy2⟩ := Go.Joins.open_agg3 Tryz.underlying138 (by kernel_rfl) cellsMat hv h
  obtain ⟨r, e0, _, wr⟩ := DataW.trod_int Tryz.underlying3 hy0
  obtain ⟨c, e1, _, wc⟩ := DataW.trod_int Tryz.underlying3 hy1
  obtain ⟨a, len, cap, xs, e2, hc⟩ := came_trod hy2
  simp at e0 e1 e2
  subst e0 e1 e2
  exact ⟨r, c, a, len, cap, xs, rfl, hc, wr, wc⟩

end Go.Proofs.YtfcnnolpcnacoaaGreatDoor.Fx

/- How a record by value is opened that comes in as an argument of a law of stage 12, and what the program's start lays of the library's tables. -/
namespace Go.Proofs.YtfcnnolpcnacoaaGreatDoor.Fx
open Go.ChangeShapes Go.WideShapes Go.ChangeAt Go.RowKit

/-- Of a record that came in: where its batch lies, and that its numbers are a program's. -/
structure RecInS (w : World) (x : Rcm) (bs : List Int) : Prop where
  l : Lst w x.a x.n x.k bs
  s : -9223372036854775808 ≤ x.s ∧ x.s ≤ 9223372036854775807
  r : -9223372036854775808 ≤ x.r ∧ x.r ≤ 9223372036854775807
  root : 0 ≤ x.root ∧ x.root < 18446744073709551616
  chain : 0 ≤ x.chain ∧ x.chain < 18446744073709551616
  bd : ∀ j, j < bs.length → -9223372036854775808 ≤ bs.getD j 0 ∧ bs.getD j 0 ≤ 9223372036854775807
  n : x.n ≤ maxLen
theorem wf_intS {n : Int} (h : (Lit.int .i64 n).wf = true) : -9223372036854775808 ≤ n ∧ n ≤ 9223372036854775807 := by
  simp [Lit.wf, IntKind.min, IntKind.max, IntKind.signed, IntKind.bits] at h
  exact ⟨by omega, by omega⟩
theorem wf_wordS {n : Int} (h : (Lit.int .u64 n).wf = true) : 0 ≤ n ∧ n < 18446744073709551616 := by
  simp [Lit.wf, IntKind.min, IntKind.max, IntKind.signed, IntKind.bits] at h
  exact ⟨by omega, by omega⟩
theorem cellsRecS : Tryz.prog.cellsOf 40 = 5 := by kernel_rfl
theorem cellsIntsS : Tryz.prog.cellsOf 26 = 1 := by kernel_rfl
theorem cellsOfIntS : Tryz.prog.cellsOf 3 = 1 := by kernel_rfl
theorem cellsOfWordS : Tryz.prog.cellsOf 22 = 1 := by kernel_rfl
theorem array5S {α : Type} {cs : Array α} (h : cs.size = 5) : ∃ c0 c1 c2 c3 c4, cs = #[c0, c1, c2, c3, c4] := by
  obtain ⟨l⟩ := cs
  match l, h with
  | [c0, c1, c2, c3, c4], _ => exact ⟨c0, c1, c2, c3, c4, rfl⟩
theorem fieldIntS {H : Type} {enc : TypeId × Value → H} {W : World} {n i : Nat} {cs : List Value} {xs : List (DataW H × List MemPlace)} {k : IntKind} {t : TypeId} {off : Nat} {v : Value} (ht : Tryz.prog.underlying t = some (.int k)) (h1 : Tryz.prog.cellsOf t = 1) (hi : i < xs.length)
    (h : DataW.trod enc Tryz.prog W 0 (fun _ => true) true n t ((cs.drop off).take (Tryz.prog.cellsOf t)) = xs[i]?) (hc : (cs.drop off).take 1 = [v]) : ∃ z, v = .int k z ∧ (Lit.int k z).wf = true := by
  rw [h1, hc, List.getElem?_eq_getElem hi] at h
  obtain ⟨z, e, _, hw⟩ := DataW.trod_int ht h
  simp at e
  exact ⟨z, e, hw⟩
theorem fieldIntsS {H : Type} {enc : TypeId × Value → H} {W : World} {n i : Nat} {cs : List Value} {xs : List (DataW H × List MemPlace)} {off : Nat} {v : Value} (hi : i < xs.length)
    (h : DataW.trod enc Tryz.prog W 0 (fun _ => true) true n 26 ((cs.drop off).take (Tryz.prog.cellsOf 26)) = xs[i]?) (hc : (cs.drop off).take 1 = [v]) : ∃ a len cap B, v = .slice a len cap ∧ Came W a len cap B := by
  rw [cellsIntsS, hc, List.getElem?_eq_getElem hi] at h
  obtain ⟨a, l, c, B, e, g⟩ := came_trod h
  simp at e
  exact ⟨a, l, c, B, e, g⟩

set_option maxRecDepth 100000 in
theorem openRecS {H : Type} {enc : TypeId × Value → H} {W : World} {b0 : Nat} {v : Value} {d : DataW H} {p : List MemPlace} (hv : Value.okWide Tryz.prog W .any b0 40 v) (h : DataW.Trod enc Tryz.prog W 0 (fun _ => true) true 40 v d p) :
    ∃ (x : Rcm) (bs : List Int), v = x.val ∧ RecInS W x bs := by
  obtain ⟨cs, rfl, hsz⟩ := okWide_struct Tryz.underlying40 hv
  obtain ⟨c0, c1, c2, c3, c4, rfl⟩ := array5S (hsz.trans cellsRecS)
  obtain ⟨fuel, hf⟩ := h
  obtain ⟨xs, n, _, _, _, hlen, hfs⟩ := DataW.trod_struct Tryz.underlying40 hf
  have hl : xs.length = 5 := hlen
  obtain ⟨i0, rfl, w0⟩ := fieldIntS (v := c0) Tryz.underlying3 cellsOfIntS (by omega) (hfs 0 _ rfl) rfl
  obtain ⟨a, l, c, B, rfl, g⟩ := fieldIntsS (v := c1) (by omega) (hfs 1 _ rfl) rfl
  obtain ⟨i2, rfl, w2⟩ := fieldIntS (v := c2) Tryz.underlying3 cellsOfIntS (by omega) (hfs 2 _ rfl) rfl
  obtain ⟨i3, rfl, w3⟩ := fieldIntS (v := c3) Tryz.underlying22 cellsOfWordS (by omega) (hfs 3 _ rfl) rfl
  obtain ⟨i4, rfl, w4⟩ := fieldIntS (v := c4) Tryz.underlying22 cellsOfWordS (by omega) (hfs 4 _ rfl) rfl
  refine ⟨⟨i0, a, l, c, i2, i3, i4⟩, B, rfl, g.1, wf_intS w0, wf_intS w2, wf_wordS w3, wf_wordS w4, fun j hj => wf_intS (g.2.2 _ ?_), Nat.le_trans g.1.cap g.2.1⟩
  rw [List.getD_eq_getElem?_getD, List.getElem?_eq_getElem hj, Option.getD_some]
  exact List.getElem_mem hj

/-! What the program's start lays. -/
theorem powData : (Rows.laid_internal_strconv_uint64pow10 : DataW Unit) = Lib.tabData .u64 Lib.pow10Tab := by kernel_rfl
theorem tPow : (Tryz.prog.globals[0]?).map (·.type) = some 154 := by kernel_rfl
theorem tSyn : (Tryz.prog.globals[2]?).map (·.type) = some 99 := by kernel_rfl
theorem tRng : (Tryz.prog.globals[3]?).map (·.type) = some 99 := by kernel_rfl
theorem namedErr (u : TypeId) (h : Tryz.prog.typeName? 3 u = some "*errors.errorString") : u = 204 :=
  typeName_ptr_named (nm := "errors.errorString") (by rw [show "*" ++ "errors.errorString" = "*errors.errorString" by decide]; kernel_rfl) (by kernel_rfl) (by decide) u (by rw [show "*" ++ "errors.errorString" = "*errors.errorString" by decide]; exact h)
theorem laid_ld {W : World} {r : List (String × DataW Unit)} (h : laidMet Tryz.prog (("math/bits.deBruijn32tab", Rows.laid_math_bits_deBruijn32tab) :: ("math/bits.deBruijn64tab", Rows.laid_math_bits_deBruijn64tab) :: ("internal/strconv.uint64pow10", Rows.laid_internal_strconv_uint64pow10) :: ("unicode/utf8.acceptRanges", Rows.laid_unicode_utf8_acceptRanges) :: ("strconv.ErrRange", Rows.laid_strconv_ErrRange) :: ("strconv.ErrSyntax", Rows.laid_strconv_ErrSyntax) :: r) W) (hs : W.ShapedOpen Tryz.prog) : LD W := by
  have h3 := h.tail.tail
  have h5 := h3.tail.tail
  have h6 := h5.tail
  rw [powData] at h3
  refine ⟨Lib.tabIs_of_head gPow tPow Tryz.underlying154 Tryz.underlying22 cellsOfWordS (by kernel_rfl) h3, ?_, ?_, laysCutM.s1_3 W hs⟩
  · obtain ⟨a, s, hv, _⟩ := laid_sentinel h6 gSyn tSyn Tryz.underlying99 namedErr Tryz.underlying204 Tryz.underlying206 rfl rfl Tryz.underlying9 (by kernel_rfl) (by kernel_rfl)
    exact ⟨_, _, hv⟩
  · obtain ⟨a, s, hv, _⟩ := laid_sentinel h5 gRng tRng Tryz.underlying99 namedErr Tryz.underlying204 Tryz.underlying206 rfl rfl Tryz.underlying9 (by kernel_rfl) (by kernel_rfl)
    exact ⟨_, _, hv⟩

/-- There is an input that fits, at a world in which the listed variables are laid. -/
theorem witness_zip {H : Type} {enc : TypeId × Value → H} {C : Checked} {os : Os} {f : FuncId} {fn : Func} {s : OpenSpec} {conds : List PathCond} {apart : Bool} {laid : List (String × DataW Unit)} (w0 : World) (args : Array Value) (hos : w0.os = os)
    (hsh : (w0.forCall (fun _ _ => 0) ⟨#[], args, []⟩).Shaped C.prog)
    (hok : Input.okWideB C.prog (w0.forCall (fun _ _ => 0) ⟨#[], args, []⟩) f ⟨#[], args, []⟩ = true)
    (hrow : s.preRow enc C.prog fn conds apart laid (w0.forCall (fun _ _ => 0) ⟨#[], args, []⟩).memory args) :
    ∃ (w : World) (tape : Tape) (i : Input), w.os = os ∧ (w.forCall tape i).Shaped C.prog ∧ i.vars = [] ∧ Input.okWide C.prog (w.forCall tape i) .any w.heap.size f i ∧
      s.preRow enc C.prog fn conds apart laid (w.forCall tape i).memory i.args ∧ ({} : Assume).holds C.prog (lone (Frame.enter C.prog f i.args .normal) [] (w.forCall tape i)) :=
  ⟨w0, fun _ _ => 0, ⟨#[], args, []⟩, hos, hsh, (Input.okWide_of_okWideB (base := 0) hok).1, (Input.okWide_of_okWideB hok).2, hrow, by
    simp only [Assume.holds]
    exact ⟨by simp, by simp, by simp, by simp, by simp⟩⟩
end Go.Proofs.YtfcnnolpcnacoaaGreatDoor.Fx

/- What TopResumes' walk stands on. -/
namespace Go.Proofs.YtfcnnolpcnacoaaGreatDoor.Fx
end Go.Proofs.YtfcnnolpcnacoaaGreatDoor.Fx
