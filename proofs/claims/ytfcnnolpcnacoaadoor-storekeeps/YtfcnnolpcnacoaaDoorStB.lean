/- What the library's functions on strings and numerals return in this program: Itoa, FormatUint, ParseUint, Cut, Split, Join; by the library's own proved contracts, but for FormatUint, which is walked here. -/
import Derived.Test.YtfcnnolpcnacoaaDoorStLay
import Derived.Test.YtfcnnolpcnacoaaDoorStP
import Derived.Test.YtfcnnolpcnacoaaDoorFixWalks
import Derived.Lib.SmallJoins
import Derived.Lib.AppendIntMem
import Derived.Lib.AtoiErrMem
namespace Go.Proofs.YtfcnnolpcnacoaaDoor.Fx
open Go.RowKit

/-- The library's tables and errors as the program's start lays them. -/
structure LD (w : World) : Prop where
  pow : Lib.TabIs Tryd.prog w "internal/strconv.uint64pow10" .u64 Lib.pow10Tab
  syn : ∃ tp p, w.var? Tryd.prog "strconv.ErrSyntax" = some #[.iface tp p]
  rng : ∃ tp p, w.var? Tryd.prog "strconv.ErrRange" = some #[.iface tp p]
  mx : ∃ m, w.cell? ⟨3, 0, none⟩ = some (.int .i64 m)
theorem gPow : Tryd.prog.globalNamed "internal/strconv.uint64pow10" = some 0 := by kernel_rfl
theorem gSyn : Tryd.prog.globalNamed "strconv.ErrSyntax" = some 4 := by kernel_rfl
theorem gRng : Tryd.prog.globalNamed "strconv.ErrRange" = some 5 := by kernel_rfl
theorem LD.below {w w' : World} {B : Nat} (h : LD w) (hb : Below B w w') (hB : w.heap.size ≤ B) : LD w' := by
  obtain ⟨h1, ⟨t1, p1, h2⟩, ⟨t2, p2, h3⟩, m, h4⟩ := h
  exact ⟨Joins.var_stays gPow h1 hb hB, ⟨t1, p1, Joins.var_stays gSyn h2 hb hB⟩, ⟨t2, p2, Joins.var_stays gRng h3 hb hB⟩, m, (hb.cell (p := ⟨3, 0, none⟩) (Nat.lt_of_lt_of_le (cell_lt h4) hB)).trans h4⟩

/-! Slices of strings. -/
def LstS (w : World) (a : Option Addr) (len cap : Nat) (ws : List (List UInt8)) : Prop :=
  ws.length = len ∧ len ≤ cap ∧ (len = 0 ∨ ∃ b off, a = some ⟨b, off, none⟩ ∧ b < w.heap.size ∧ ∀ i, i < len → w.cell? ⟨b, off + i, none⟩ = some (.string ⟨(ws.getD i []).toArray⟩))
theorem LstS.len {w : World} {a : Option Addr} {n c : Nat} {ws : List (List UInt8)} (h : LstS w a n c ws) : ws.length = n := h.1
theorem LstS.cap {w : World} {a : Option Addr} {n c : Nat} {ws : List (List UInt8)} (h : LstS w a n c ws) : n ≤ c := h.2.1
theorem LstS.at {w : World} {a : Option Addr} {n c : Nat} {ws : List (List UInt8)} (h : LstS w a n c ws) (hn : 0 < n) :
    ∃ b off, a = some ⟨b, off, none⟩ ∧ b < w.heap.size ∧ ∀ i, i < n → w.cell? ⟨b, off + i, none⟩ = some (.string ⟨(ws.getD i []).toArray⟩) := by
  rcases h.2.2 with h0 | h0
  · omega
  · exact h0
theorem LstS.below {w w' : World} {a : Option Addr} {n c : Nat} {ws : List (List UInt8)} {B : Nat} (h : LstS w a n c ws) (hb : Below B w w') (hB : w.heap.size ≤ B) : LstS w' a n c ws := by
  refine ⟨h.1, h.2.1, ?_⟩
  rcases h.2.2 with h0 | ⟨b, off, e, hs, hc⟩
  · exact .inl h0
  · exact .inr ⟨b, off, e, Nat.lt_of_lt_of_le hs hb.size, fun i hi => (hb.cell (p := ⟨b, off + i, none⟩) (Nat.lt_of_lt_of_le hs hB)).trans (hc i hi)⟩
theorem LstS.at1b {w wr : World} {a : Option Addr} {n c : Nat} {ws : List (List UInt8)} {B : Nat} (h : LstS w a n c ws) (hb : Below B w wr) (hB : w.heap.size ≤ B) {k : Nat} (hk : k < n) :
    ∃ b off, a = some ⟨b, off, none⟩ ∧ b < w.heap.size ∧ wr.cell? ⟨b, off + k, none⟩ = some (.string ⟨(ws.getD k []).toArray⟩) := by
  obtain ⟨b, off, e, hs, hc⟩ := h.at (by omega)
  exact ⟨b, off, e, hs, (hb.cell (p := ⟨b, off + k, none⟩) (Nat.lt_of_lt_of_le hs hB)).trans (hc k hk)⟩

/-! Numerals. -/
theorem itoa_calls (z : Int) (h0 : 0 ≤ z) (h1 : z ≤ 9223372036854775807) (w : World) (hL : LD w) :
    Calls Tryd.prog 18 #[.int .i64 z] w fun e w' => e = .returned (.string ⟨(dg z).toArray⟩) ∧ Below w.heap.size w w' := by
  have h := Any.strconv_Itoa laysItoa z (by omega) h1 w hL.pow
  rw [itoa_dg h0] at h
  refine Calls.mono (show Calls Tryd.prog 18 _ _ _ from h) ?_
  rintro e w' ⟨rfl, k, os, rfl⟩
  exact ⟨rfl, Lib.below_grow _ _ (Nat.le_refl _) _ _⟩

theorem small_calls1 (i : Nat) (h : i < 100) (w : World) : Calls Tryd.prog 39 #[.int .i64 i] w fun e w' => e = .returned (.string ⟨(Lib.decDigits i).toArray⟩) ∧ w' = w :=
  show Calls Tryd.prog 39 _ _ _ from Any.internal_strconv_small laysSmall i h w
theorem numDigits_calls (u : Nat) (h1 : 1 ≤ u) (h2 : u < 18446744073709551616) (w : World) (htab : Lib.TabIs Tryd.prog w "internal/strconv.uint64pow10" .u64 Lib.pow10Tab) : Calls Tryd.prog 40 #[.int .u64 u] w fun e w' => e = .returned (.int .i64 (Lib.nDigits u)) ∧ w' = w :=
  show Calls Tryd.prog 40 _ _ _ from Any.internal_strconv_numDigits laysNum u h1 h2 w htab

theorem holds_zero0 (w : World) (T : TypeId) (nd : Nat) (hs : nd ≤ 24) : Sort.Holds (fun (b : UInt8) => Value.int .u8 (b.toNat : Int)) (w.alloc (.cells Lib.zeros24 T)) w.heap.size 0 (Array.replicate nd (0 : UInt8)) := fun j hj => by
  have hj' : j < nd := by simpa using hj
  refine ⟨?_, World.frozen?_alloc_new _ _ _ _⟩
  rw [World.cell?_alloc_new, Lib.zeros24_at _ (by omega), getElem!_pos _ j hj]
  simp
theorem fin_pos0 (w : World) (o : Obj) (dk : Array UInt8) (k : Nat) : ∃ os, (Sort.putRow (fun (b : UInt8) => Value.int .u8 (b.toNat : Int)) (w.alloc o) w.heap.size 0 dk).drewN k = Sort.grow (w.drewN k) os := by
  rw [Sort.alloc_eq_grow]
  obtain ⟨os', _, e⟩ := Sort.putRow_grow_new (fun (b : UInt8) => Value.int .u8 (b.toNat : Int)) w #[o] w.heap.size 0 dk (Nat.le_refl _)
  exact ⟨os', by rw [e]; rfl⟩

set_option maxHeartbeats 6400000 in
set_option maxRecDepth 100000 in
theorem ifmtu_calls (u : Nat) (hu64 : u < 18446744073709551616) (w : World) (hL : LD w) :
    Calls Tryd.prog 30 #[.int .u64 u, .int .i64 10] w fun e w' => e = .returned (.string ⟨(Lib.decDigits u).toArray⟩) ∧ Below w.heap.size w w' := by
  by_cases hs : u < 100
  · go_enter Tryd.func30, Tryd.ntmps30
    go_wp2_with (go_at_call 39; refine (small_calls1 u hs _).mono ?_; rintro e w' ⟨rfl, hw'⟩; replace hw' := hw'.symm; subst hw')
    go_ret
    exact ⟨rfl, Below.refl _ _⟩
  · have hu1 : 1 ≤ u := by omega
    have hnd20 : Lib.nDigits u ≤ 20 := Lib.nDigits_le20 u hu64
    have hal : Tryd.prog.arrayLen 67 = 24 := by simp [Program.arrayLen, Tryd.underlying67]
    have hsl1 : ∀ W, (Instr.sliceAt 67 (.pointer (some ⟨w.heap.size, 0, none⟩)) none (some (.int .i64 (Lib.nDigits u : Int))) none).run Tryd.prog W = .ok (.slice (some ⟨w.heap.size, 0, none⟩) (Lib.nDigits u) 24) W := fun W => by
      rw [run_sliceAt_array_h W 67 ⟨w.heap.size, 0, none⟩ (by simp [Program.arrayLen, Program.elem, Tryd.underlying67]) .i64 (Lib.nDigits u : Int) (by omega) (by rw [hal]; omega)]
      go_simp
      try omega
    have hH0 := holds_zero0 w 67 (Lib.nDigits u) (by omega)
    have hfmt : Calls Tryd.prog 41 _ _ _ := Any.internal_strconv_formatBase10 laysBase w.heap.size 0 24 u (Array.replicate (Lib.nDigits u) 0) (w.alloc (.cells Lib.zeros24 67)) hH0 (by rw [Array.size_replicate]; exact Lib.lt_pow_nDigits u) hu64 (by rw [Array.size_replicate]; omega)
    rw [Array.size_replicate] at hfmt
    have HH0 := Lib.hid hH0
    have htab := hL.pow
    clear hH0 hal hL
    go_enter Tryd.func30, Tryd.ntmps30
    go_wp2_with (first
      | (go_at_call 40; refine (numDigits_calls u hu1 hu64 _ (Lib.tabIs_alloc htab _)).mono ?_; rintro e w' ⟨rfl, hw'⟩; replace hw' := hw'.symm; subst hw'))
    go_at_call 41
    refine hfmt.mono ?_
    rintro e w' ⟨rfl, k, v', dk, rfl, hF⟩
    have hcv : (convert 70 9 (.slice (some ⟨w.heap.size, 0, none⟩) (Lib.nDigits u) 24)).run Tryd.prog ((Sort.putRow (fun (b : UInt8) => Value.int .u8 (b.toNat : Int)) (w.alloc (.cells Lib.zeros24 67)) w.heap.size 0 dk).drewN k) = .ok (.string ⟨(Lib.decDigits u).toArray⟩) ((Sort.putRow (fun (b : UInt8) => Value.int .u8 (b.toNat : Int)) (w.alloc (.cells Lib.zeros24 67)) w.heap.size 0 dk).drewN k) := by
      have h := run_convert_bytes_back (P := Tryd.prog) ((Sort.putRow (fun (b : UInt8) => Value.int .u8 (b.toNat : Int)) (w.alloc (.cells Lib.zeros24 67)) w.heap.size 0 dk).drewN k) 70 9 5 ⟨w.heap.size, 0, none⟩ 24 (Lib.decDigits u) Tryd.underlying70 Tryd.underlying5 Tryd.underlying9 (fun j hj => by
        rw [Lib.row_is_numeral hF j hj, Lib.add_plain, World.cell?_drewN]
        exact Sort.cell?_putRow (fun (b : UInt8) => Value.int .u8 (b.toNat : Int)) _ w.heap.size 0 _ dk HH0.out (by rw [hF.size, Array.size_replicate]) j (by rw [hF.size]; rw [Lib.decDigits_length] at hj; exact hj))
      rw [Lib.decDigits_length] at h
      exact h
    go_wp2
    go_ret
    obtain ⟨os, eo⟩ := fin_pos0 w (.cells Lib.zeros24 67) dk k
    refine ⟨rfl, ?_⟩
    show Below w.heap.size w ((Sort.putRow (fun (b : UInt8) => Value.int .u8 (b.toNat : Int)) (w.alloc (.cells Lib.zeros24 67)) w.heap.size 0 dk).drewN k)
    rw [eo]
    exact Lib.below_grow _ _ (Nat.le_refl _) _ _
theorem fmtu_calls (z : Int) (h0 : 0 ≤ z) (h1 : z < 18446744073709551616) (w : World) (hL : LD w) :
    Calls Tryd.prog 19 #[.int .u64 z, .int .i64 10] w fun e w' => e = .returned (.string ⟨(dg z).toArray⟩) ∧ Below w.heap.size w w' := by
  obtain ⟨u, rfl⟩ : ∃ u : Nat, z = u := ⟨z.toNat, by omega⟩
  go_enter Tryd.func19, Tryd.ntmps19
  go_wp2_with (go_at_call 30; refine (ifmtu_calls u (by omega) _ hL).mono ?_; rintro e w' ⟨rfl, hw⟩)
  go_ret
  exact ⟨rfl, hw⟩

/-- How a numeral is read. -/
def UintR (l : List UInt8) (e : Ending) : Prop :=
  (∃ u : Nat, Lib.parseUintB 64 l = .ok u ∧ u < 18446744073709551616 ∧ e = .returned (.tuple #[.int .u64 u, .nilIface])) ∨ ((∀ u, Lib.parseUintB 64 l ≠ .ok u) ∧ ∃ v t p, e = .returned (.tuple #[.int .u64 v, .iface t p]))
theorem uint_calls (l : List UInt8) (hl : l.length ≤ 281474976710656) (w : World) (hL : LD w) :
    Calls Tryd.prog 58 #[.string ⟨l.toArray⟩, .int .i64 10, .int .i64 64] w fun e w' => UintR l e ∧ Below w.heap.size w w' := by
  have hsz : (⟨l.toArray⟩ : ByteArray).size ≤ 281474976710656 := hl
  cases h : Lib.parseUintB 64 l with
  | ok u =>
    have hlt := Lib.parseUintB_le h
    refine Calls.mono (show Calls Tryd.prog 58 _ _ _ from Any.strconv_ParseUint_10_at64_ok laysUint ⟨l.toArray⟩ (by omega) u h w) ?_
    rintro e w' ⟨rfl, hw⟩
    refine ⟨.inl ⟨u, h, by omega, rfl⟩, ?_⟩
    rcases hw with rfl | rfl
    · exact Below.refl _ _
    · exact Lib.bytesWorld_below _ _ _
  | «syntax» =>
    obtain ⟨tp, p, hv⟩ := hL.syn
    refine Calls.mono (show Calls Tryd.prog 58 _ _ _ from Any.strconv_ParseUint_10_at64_syntax_var laysUint ⟨l.toArray⟩ hsz h tp p w hv) ?_
    rintro e w' ⟨N, rfl, _, _, hb⟩
    exact ⟨.inr ⟨fun u e => (by rw [h] at e; cases e), _, _, _, rfl⟩, hb⟩
  | range =>
    obtain ⟨tp, p, hv⟩ := hL.rng
    refine Calls.mono (show Calls Tryd.prog 58 _ _ _ from Any.strconv_ParseUint_10_at64_range_var laysUint ⟨l.toArray⟩ hsz h tp p w hv) ?_
    rintro e w' ⟨N, rfl, _, _, hb⟩
    exact ⟨.inr ⟨fun u e => (by rw [h] at e; cases e), _, _, _, rfl⟩, hb⟩

/-! Strings. -/
theorem cut_calls (s : List UInt8) (b : UInt8) (hs : s.length < 4294967281) (w : World) (hL : LD w) :
    Calls Tryd.prog 47 #[.string ⟨s.toArray⟩, .string ⟨#[b]⟩] w fun e w' => e = .returned (.tuple #[.string ⟨(Lib.cut s [b]).1.toArray⟩, .string ⟨(Lib.cut s [b]).2.1.toArray⟩, .bool (Lib.cut s [b]).2.2]) ∧ Below w.heap.size w w' := by
  obtain ⟨m, hm⟩ := hL.mx
  refine Calls.mono (show Calls Tryd.prog 47 _ _ _ from Any.strings_Cut laysCut ⟨s.toArray⟩ ⟨#[b]⟩ m w hs hm) ?_
  rintro e w' ⟨rfl, n, rfl⟩
  exact ⟨rfl, Joins.below_draws _ _ _⟩
theorem hiStr : (Tryd.prog.info? 9).map (fun i => (i.zero, i.size, i.bytes)) = some (some (.string ByteArray.empty), 1, 16) := by kernel_rfl
theorem split_calls (s : List UInt8) (b : UInt8) (hs : s.length < 4294967281) (w : World) (hL : LD w) :
    Calls Tryd.prog 49 #[.string ⟨s.toArray⟩, .string ⟨#[b]⟩] w fun e w' => ∃ n a, e = .returned (.slice a n n) ∧ LstS w' a n n (wordsOf b s) ∧ Below w.heap.size w w' := by
  obtain ⟨m, hm⟩ := hL.mx
  refine Calls.mono (show Calls Tryd.prog 49 _ _ _ from Any.strings_Split laysSplit hiStr ⟨s.toArray⟩ ⟨#[b]⟩ m w hs hm (Nat.le_refl 1)) ?_
  have hd := Lib.splitB_data ⟨#[b]⟩ 0 (Lib.countB ⟨s.toArray⟩ ⟨#[b]⟩) ⟨s.toArray⟩
  have hw : (Lib.splitB ⟨#[b]⟩ 0 (Lib.countB ⟨s.toArray⟩ ⟨#[b]⟩) ⟨s.toArray⟩).map (·.data.toList) = wordsOf b s := hd.trans (split_words b s)
  have hlen := Lib.splitB_all ⟨#[b]⟩ (Nat.le_refl 1) 0 _ ⟨s.toArray⟩ (show Lib.countB ⟨s.toArray⟩ ⟨#[b]⟩ = _ from rfl)
  generalize Lib.splitB ⟨#[b]⟩ 0 (Lib.countB ⟨s.toArray⟩ ⟨#[b]⟩) ⟨s.toArray⟩ = xs at *
  generalize Lib.countB ⟨s.toArray⟩ ⟨#[b]⟩ = n at *
  rintro e w' ⟨rfl, rfl⟩
  refine ⟨n + 1, _, rfl, ⟨by rw [← hw]; simp [hlen], Nat.le_refl _, .inr ⟨w.heap.size, 0, rfl, by simp, fun i hi => ?_⟩⟩, Joins.below_alloc1 _ _⟩
  rw [World.cell?_alloc_new, ← hw]
  simp [List.getElem?_eq_getElem (show i < xs.length by omega)]

theorem extraB : Builder.Extra Tryd.prog laysJoin_ren :=
  { sizeBuilder := by kernel_rfl, liesBuilder := by kernel_rfl, t5 := Tryd.underlying5, a5 := Tryd.isAgg5, z5 := Tryd.sizeOf5, v5 := Tryd.zeroValue5, infoByte := by kernel_rfl, cellsByte := by kernel_rfl, sizeByte := by kernel_rfl, neB5 := by decide }
theorem join_calls (g off n c : Nat) (ws : List (List UInt8)) (b : UInt8) (w : World) (h : LstS w (some ⟨g, off, none⟩) n c ws) (hn : 0 < n) (hlen : (Lib.join ws [b]).length ≤ 140737488355328) (hN : n ≤ 140737488355328) :
    Calls Tryd.prog 32 #[.slice (some ⟨g, off, none⟩) n c, .string ⟨#[b]⟩] w fun e w' => e = .returned (.string ⟨(Lib.join ws [b]).toArray⟩) ∧ Below w.heap.size w w' := by
  obtain ⟨g', off', e, hg, hc⟩ := h.at hn
  simp only [Option.some.injEq, Addr.mk.injEq, and_true] at e
  obtain ⟨rfl, rfl⟩ := e
  have hl := h.len
  have hcap := h.cap
  have em : (ws.map fun x => (⟨x.toArray⟩ : ByteArray)).map (·.data.toList) = ws := by
    rw [List.map_map]
    exact (List.map_congr_left (fun x _ => rfl)).trans (List.map_id ws)
  have k := Any.strings_Join laysJoin extraB g off c (ws.map fun x => (⟨x.toArray⟩ : ByteArray)) ⟨#[b]⟩ w (fun j x hj => by
      have hj' : j < ws.length := by have := (List.getElem?_eq_some_iff.1 hj).1; simpa using this
      rw [hc j (by omega)]
      rw [List.getElem?_map, List.getElem?_eq_getElem hj'] at hj
      simp only [Option.map_some, Option.some.injEq] at hj
      rw [← hj, List.getD_eq_getElem?_getD, List.getElem?_eq_getElem hj']
      rfl) hg (by simp; omega) (by simp; omega) (by rw [em]; exact hlen)
  rw [em, List.length_map, hl] at k
  exact show Calls Tryd.prog 32 _ _ _ from k
end Go.Proofs.YtfcnnolpcnacoaaDoor.Fx
