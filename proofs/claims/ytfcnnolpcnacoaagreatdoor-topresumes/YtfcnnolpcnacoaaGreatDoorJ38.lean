/- What the library's functions on strings and numerals return in this program: Itoa, FormatUint, ParseUint, Cut, Split, Join; by the library's own proved contracts, but for FormatUint, which is walked here. -/
import Derived.Test.YtfcnnolpcnacoaaGreatDoorJ37
import Derived.Test.YtfcnnolpcnacoaaGreatDoorJ03
import Derived.Lib.SmallJoins
import Derived.Lib.AppendIntMem
import Derived.Lib.AtoiErrMem
import Derived.Test.YtfcnnolpcnacoaaGreatDoorJ02
import Derived.Maps.AppendAt
import Derived.Deep.AppendLies
import Derived.Deep.RegionHeld3
import Derived.BigRegion
import Derived.Deep.RegionWith
namespace Go.Proofs.YtfcnnolpcnacoaaGreatDoor.Fx
open Go.RowKit

/-- The library's tables and errors as the program's start lays them. -/
structure LD (w : World) : Prop where
  pow : Lib.TabIs Tryz.prog w "internal/strconv.uint64pow10" .u64 Lib.pow10Tab
  syn : ∃ tp p, w.var? Tryz.prog "strconv.ErrSyntax" = some #[.iface tp p]
  rng : ∃ tp p, w.var? Tryz.prog "strconv.ErrRange" = some #[.iface tp p]
  mx : ∃ m, w.cell? ⟨1, 0, none⟩ = some (.int .i64 m)
theorem gPow : Tryz.prog.globalNamed "internal/strconv.uint64pow10" = some 0 := by kernel_rfl
theorem gSyn : Tryz.prog.globalNamed "strconv.ErrSyntax" = some 2 := by kernel_rfl
theorem gRng : Tryz.prog.globalNamed "strconv.ErrRange" = some 3 := by kernel_rfl
theorem LD.below {w w' : World} {B : Nat} (h : LD w) (hb : Below B w w') (hB : w.heap.size ≤ B) : LD w' := by
  obtain ⟨h1, ⟨t1, p1, h2⟩, ⟨t2, p2, h3⟩, m, h4⟩ := h
  exact ⟨Joins.var_stays gPow h1 hb hB, ⟨t1, p1, Joins.var_stays gSyn h2 hb hB⟩, ⟨t2, p2, Joins.var_stays gRng h3 hb hB⟩, m, (hb.cell (p := ⟨1, 0, none⟩) (Nat.lt_of_lt_of_le (cell_lt h4) hB)).trans h4⟩

/-! Slices of strings. -/
def LstS (w : World) (a : Option Addr) (len cap : Nat) (ws : List (List UInt8)) : Prop :=
  ws.length = len ∧ len ≤ cap ∧ (len = 0 ∨ ∃ b off, a = some ⟨b, off, none⟩ ∧ b < w.heap.size ∧ ∀ i, i < len → w.cell? ⟨b, off + i, none⟩ = some (.string ⟨(ws.getD i []).toArray⟩))
theorem LstS.len {w : World} {a : Option Addr} {n c : Nat} {ws : List (List UInt8)} (h : LstS w a n c ws) : ws.length = n := h.1
theorem LstS.cap {w : World} {a : Option Addr} {n c : Nat} {ws : List (List UInt8)} (h : LstS w a n c ws) : n ≤ c := h.2.1
theorem LstS.at {w : World} {a : Option Addr} {n c : Nat} {ws : List (List UInt8)} (h : LstS w a n c ws) (hn : 0 < n) :
    ∃ b off, a = some ⟨b, off, none⟩ ∧ b < w.heap.size ∧ ∀ i, i < n → w.cell? ⟨b, off + i, none⟩ = some (.string ⟨(ws.getD i []).toArray⟩) := by
  rcases h.2.2 with h0 | h0
  · omega
  · exact h0
theorem LstS.below {w w' : World} {a : Option Addr} {n c : Nat} {ws : List (List UInt8)} {B : Nat} (h : LstS w a n c ws) (hb : Below B w w') (hB : w.heap.size ≤ B) : LstS w' a n c ws := by
  refine ⟨h.1, h.2.1, ?_⟩
  rcases h.2.2 with h0 | ⟨b, off, e, hs, hc⟩
  · exact .inl h0
  · exact .inr ⟨b, off, e, Nat.lt_of_lt_of_le hs hb.size, fun i hi => (hb.cell (p := ⟨b, off + i, none⟩) (Nat.lt_of_lt_of_le hs hB)).trans (hc i hi)⟩
theorem LstS.at1b {w wr : World} {a : Option Addr} {n c : Nat} {ws : List (List UInt8)} {B : Nat} (h : LstS w a n c ws) (hb : Below B w wr) (hB : w.heap.size ≤ B) {k : Nat} (hk : k < n) :
    ∃ b off, a = some ⟨b, off, none⟩ ∧ b < w.heap.size ∧ wr.cell? ⟨b, off + k, none⟩ = some (.string ⟨(ws.getD k []).toArray⟩) := by
  obtain ⟨b, off, e, hs, hc⟩ := h.at (by omega)
  exact ⟨b, off, e, hs, (hb.cell (p := ⟨b, off + k, none⟩) (Nat.lt_of_lt_of_le hs hB)).trans (hc k hk)⟩

/-! Numerals. -/
theorem itoa_calls (z : Int) (h0 : 0 ≤ z) (h1 : z ≤ 9223372036854775807) (w : World) (hL : LD w) :
    Calls Tryz.prog 39 #[.int .i64 z] w fun e w' => e = .returned (.string ⟨(dg z).toArray⟩) ∧ Below w.heap.size w w' := by
  have h := Any.strconv_Itoa laysItoa z (by omega) h1 w hL.pow
  rw [itoa_dg h0] at h
  refine Calls.mono (show Calls Tryz.prog 39 _ _ _ from h) ?_
  rintro e w' ⟨rfl, k, os, rfl⟩
  exact ⟨rfl, Lib.below_grow _ _ (Nat.le_refl _) _ _⟩

theorem small_calls1 (i : Nat) (h : i < 100) (w : World) : Calls Tryz.prog 74 #[.int .i64 i] w fun e w' => e = .returned (.string ⟨(Lib.decDigits i).toArray⟩) ∧ w' = w :=
  show Calls Tryz.prog 74 _ _ _ from Any.internal_strconv_small laysSmall i h w
theorem numDigits_calls (u : Nat) (h1 : 1 ≤ u) (h2 : u < 18446744073709551616) (w : World) (htab : Lib.TabIs Tryz.prog w "internal/strconv.uint64pow10" .u64 Lib.pow10Tab) : Calls Tryz.prog 75 #[.int .u64 u] w fun e w' => e = .returned (.int .i64 (Lib.nDigits u)) ∧ w' = w :=
  show Calls Tryz.prog 75 _ _ _ from Any.internal_strconv_numDigits laysNum u h1 h2 w htab

theorem holds_zero0 (w : World) (T : TypeId) (nd : Nat) (hs : nd ≤ 24) : Sort.Holds (fun (b : UInt8) => Value.int .u8 (b.toNat : Int)) (w.alloc (.cells Lib.zeros24 T)) w.heap.size 0 (Array.replicate nd (0 : UInt8)) := fun j hj => by
  have hj' : j < nd := by simpa using hj
  refine ⟨?_, World.frozen?_alloc_new _ _ _ _⟩
  rw [World.cell?_alloc_new, Lib.zeros24_at _ (by omega), getElem!_pos _ j hj]
  simp
theorem fin_pos0 (w : World) (o : Obj) (dk : Array UInt8) (k : Nat) : ∃ os, (Sort.putRow (fun (b : UInt8) => Value.int .u8 (b.toNat : Int)) (w.alloc o) w.heap.size 0 dk).drewN k = Sort.grow (w.drewN k) os := by
  rw [Sort.alloc_eq_grow]
  obtain ⟨os', _, e⟩ := Sort.putRow_grow_new (fun (b : UInt8) => Value.int .u8 (b.toNat : Int)) w #[o] w.heap.size 0 dk (Nat.le_refl _)
  exact ⟨os', by rw [e]; rfl⟩

set_option maxHeartbeats 6400000 in
set_option maxRecDepth 100000 in
theorem ifmtu_calls (u : Nat) (hu64 : u < 18446744073709551616) (w : World) (hL : LD w) :
    Calls Tryz.prog 56 #[.int .u64 u, .int .i64 10] w fun e w' => e = .returned (.string ⟨(Lib.decDigits u).toArray⟩) ∧ Below w.heap.size w w' := by
  by_cases hs : u < 100
  · go_enter Tryz.func56, Tryz.ntmps56
    go_wp2_with (go_at_call 74; refine (small_calls1 u hs _).mono ?_; rintro e w' ⟨rfl, hw'⟩; replace hw' := hw'.symm; subst hw')
    go_ret
    exact ⟨rfl, Below.refl _ _⟩
  · have hu1 : 1 ≤ u := by omega
    have hnd20 : Lib.nDigits u ≤ 20 := Lib.nDigits_le20 u hu64
    have hal : Tryz.prog.arrayLen 118 = 24 := by simp [Program.arrayLen, Tryz.underlying118]
    have hsl1 : ∀ W, (Instr.sliceAt 118 (.pointer (some ⟨w.heap.size, 0, none⟩)) none (some (.int .i64 (Lib.nDigits u : Int))) none).run Tryz.prog W = .ok (.slice (some ⟨w.heap.size, 0, none⟩) (Lib.nDigits u) 24) W := fun W => by
      rw [run_sliceAt_array_h W 118 ⟨w.heap.size, 0, none⟩ (by simp [Program.arrayLen, Program.elem, Tryz.underlying118]) .i64 (Lib.nDigits u : Int) (by omega) (by rw [hal]; omega)]
      go_simp
      try omega
    have hH0 := holds_zero0 w 118 (Lib.nDigits u) (by omega)
    have hfmt : Calls Tryz.prog 76 _ _ _ := Any.internal_strconv_formatBase10 laysBase w.heap.size 0 24 u (Array.replicate (Lib.nDigits u) 0) (w.alloc (.cells Lib.zeros24 118)) hH0 (by rw [Array.size_replicate]; exact Lib.lt_pow_nDigits u) hu64 (by rw [Array.size_replicate]; omega)
    rw [Array.size_replicate] at hfmt
    have HH0 := Lib.hid hH0
    have htab := hL.pow
    clear hH0 hal hL
    go_enter Tryz.func56, Tryz.ntmps56
    go_wp2_with (first
      | (go_at_call 75; refine (numDigits_calls u hu1 hu64 _ (Lib.tabIs_alloc htab _)).mono ?_; rintro e w' ⟨rfl, hw'⟩; replace hw' := hw'.symm; subst hw'))
    go_at_call 76
    refine hfmt.mono ?_
    rintro e w' ⟨rfl, k, v', dk, rfl, hF⟩
    have hcv : (convert 95 9 (.slice (some ⟨w.heap.size, 0, none⟩) (Lib.nDigits u) 24)).run Tryz.prog ((Sort.putRow (fun (b : UInt8) => Value.int .u8 (b.toNat : Int)) (w.alloc (.cells Lib.zeros24 118)) w.heap.size 0 dk).drewN k) = .ok (.string ⟨(Lib.decDigits u).toArray⟩) ((Sort.putRow (fun (b : UInt8) => Value.int .u8 (b.toNat : Int)) (w.alloc (.cells Lib.zeros24 118)) w.heap.size 0 dk).drewN k) := by
      have h := run_convert_bytes_back (P := Tryz.prog) ((Sort.putRow (fun (b : UInt8) => Value.int .u8 (b.toNat : Int)) (w.alloc (.cells Lib.zeros24 118)) w.heap.size 0 dk).drewN k) 95 9 5 ⟨w.heap.size, 0, none⟩ 24 (Lib.decDigits u) Tryz.underlying95 Tryz.underlying5 Tryz.underlying9 (fun j hj => by
        rw [Lib.row_is_numeral hF j hj, Lib.add_plain, World.cell?_drewN]
        exact Sort.cell?_putRow (fun (b : UInt8) => Value.int .u8 (b.toNat : Int)) _ w.heap.size 0 _ dk HH0.out (by rw [hF.size, Array.size_replicate]) j (by rw [hF.size]; rw [Lib.decDigits_length] at hj; exact hj))
      rw [Lib.decDigits_length] at h
      exact h
    go_wp2
    go_ret
    obtain ⟨os, eo⟩ := fin_pos0 w (.cells Lib.zeros24 118) dk k
    refine ⟨rfl, ?_⟩
    show Below w.heap.size w ((Sort.putRow (fun (b : UInt8) => Value.int .u8 (b.toNat : Int)) (w.alloc (.cells Lib.zeros24 118)) w.heap.size 0 dk).drewN k)
    rw [eo]
    exact Lib.below_grow _ _ (Nat.le_refl _) _ _
theorem fmtu_calls (z : Int) (h0 : 0 ≤ z) (h1 : z < 18446744073709551616) (w : World) (hL : LD w) :
    Calls Tryz.prog 40 #[.int .u64 z, .int .i64 10] w fun e w' => e = .returned (.string ⟨(dg z).toArray⟩) ∧ Below w.heap.size w w' := by
  obtain ⟨u, rfl⟩ : ∃ u : Nat, z = u := ⟨z.toNat, by omega⟩
  go_enter Tryz.func40, Tryz.ntmps40
  go_wp2_with (go_at_call 56; refine (ifmtu_calls u (by omega) _ hL).mono ?_; rintro e w' ⟨rfl, hw⟩)
  go_ret
  exact ⟨rfl, hw⟩

/-- How a numeral is read. -/
def UintR (l : List UInt8) (e : Ending) : Prop :=
  (∃ u : Nat, Lib.parseUintB 64 l = .ok u ∧ u < 18446744073709551616 ∧ e = .returned (.tuple #[.int .u64 u, .nilIface])) ∨ ((∀ u, Lib.parseUintB 64 l ≠ .ok u) ∧ ∃ v t p, e = .returned (.tuple #[.int .u64 v, .iface t p]))
theorem uint_calls (l : List UInt8) (hl : l.length ≤ 281474976710656) (w : World) (hL : LD w) :
    Calls Tryz.prog 71 #[.string ⟨l.toArray⟩, .int .i64 10, .int .i64 64] w fun e w' => UintR l e ∧ Below w.heap.size w w' := by
  have hsz : (⟨l.toArray⟩ : ByteArray).size ≤ 281474976710656 := hl
  cases h : Lib.parseUintB 64 l with
  | ok u =>
    have hlt := Lib.parseUintB_le h
    refine Calls.mono (show Calls Tryz.prog 71 _ _ _ from Any.strconv_ParseUint_10_at64_ok laysUint ⟨l.toArray⟩ (by omega) u h w) ?_
    rintro e w' ⟨rfl, hw⟩
    refine ⟨.inl ⟨u, h, by omega, rfl⟩, ?_⟩
    rcases hw with rfl | rfl
    · exact Below.refl _ _
    · exact Lib.bytesWorld_below _ _ _
  | «syntax» =>
    obtain ⟨tp, p, hv⟩ := hL.syn
    refine Calls.mono (show Calls Tryz.prog 71 _ _ _ from Any.strconv_ParseUint_10_at64_syntax_var laysUint ⟨l.toArray⟩ hsz h tp p w hv) ?_
    rintro e w' ⟨N, rfl, _, _, hb⟩
    exact ⟨.inr ⟨fun u e => (by rw [h] at e; cases e), _, _, _, rfl⟩, hb⟩
  | range =>
    obtain ⟨tp, p, hv⟩ := hL.rng
    refine Calls.mono (show Calls Tryz.prog 71 _ _ _ from Any.strconv_ParseUint_10_at64_range_var laysUint ⟨l.toArray⟩ hsz h tp p w hv) ?_
    rintro e w' ⟨N, rfl, _, _, hb⟩
    exact ⟨.inr ⟨fun u e => (by rw [h] at e; cases e), _, _, _, rfl⟩, hb⟩

/-! Strings. -/
theorem cut_calls (s : List UInt8) (b : UInt8) (hs : s.length < 4294967281) (w : World) (hL : LD w) :
    Calls Tryz.prog 51 #[.string ⟨s.toArray⟩, .string ⟨#[b]⟩] w fun e w' => e = .returned (.tuple #[.string ⟨(Lib.cut s [b]).1.toArray⟩, .string ⟨(Lib.cut s [b]).2.1.toArray⟩, .bool (Lib.cut s [b]).2.2]) ∧ Below w.heap.size w w' := by
  obtain ⟨m, hm⟩ := hL.mx
  refine Calls.mono (show Calls Tryz.prog 51 _ _ _ from Any.strings_Cut laysCut ⟨s.toArray⟩ ⟨#[b]⟩ m w hs hm) ?_
  rintro e w' ⟨rfl, n, rfl⟩
  exact ⟨rfl, Joins.below_draws _ _ _⟩
theorem hiStr : (Tryz.prog.info? 9).map (fun i => (i.zero, i.size, i.bytes)) = some (some (.string ByteArray.empty), 1, 16) := by kernel_rfl
theorem ssplit_calls (s : List UInt8) (b : UInt8) (hs : s.length < 4294967281) (w : World) (hL : LD w) :
    Calls Tryz.prog 53 #[.string ⟨s.toArray⟩, .string ⟨#[b]⟩] w fun e w' => ∃ n a, e = .returned (.slice a n n) ∧ LstS w' a n n (wordsOf b s) ∧ Below w.heap.size w w' := by
  obtain ⟨m, hm⟩ := hL.mx
  refine Calls.mono (show Calls Tryz.prog 53 _ _ _ from Any.strings_Split laysSplit hiStr ⟨s.toArray⟩ ⟨#[b]⟩ m w hs hm (Nat.le_refl 1)) ?_
  have hd := Lib.splitB_data ⟨#[b]⟩ 0 (Lib.countB ⟨s.toArray⟩ ⟨#[b]⟩) ⟨s.toArray⟩
  have hw : (Lib.splitB ⟨#[b]⟩ 0 (Lib.countB ⟨s.toArray⟩ ⟨#[b]⟩) ⟨s.toArray⟩).map (·.data.toList) = wordsOf b s := hd.trans (split_words b s)
  have hlen := Lib.splitB_all ⟨#[b]⟩ (Nat.le_refl 1) 0 _ ⟨s.toArray⟩ (show Lib.countB ⟨s.toArray⟩ ⟨#[b]⟩ = _ from rfl)
  generalize Lib.splitB ⟨#[b]⟩ 0 (Lib.countB ⟨s.toArray⟩ ⟨#[b]⟩) ⟨s.toArray⟩ = xs at *
  generalize Lib.countB ⟨s.toArray⟩ ⟨#[b]⟩ = n at *
  rintro e w' ⟨rfl, rfl⟩
  refine ⟨n + 1, _, rfl, ⟨by rw [← hw]; simp [hlen], Nat.le_refl _, .inr ⟨w.heap.size, 0, rfl, by simp, fun i hi => ?_⟩⟩, Joins.below_alloc1 _ _⟩
  rw [World.cell?_alloc_new, ← hw]
  simp [List.getElem?_eq_getElem (show i < xs.length by omega)]

theorem extraB : Builder.Extra Tryz.prog laysJoin_ren :=
  { sizeBuilder := by kernel_rfl, liesBuilder := by kernel_rfl, t5 := Tryz.underlying5, a5 := Tryz.isAgg5, z5 := Tryz.sizeOf5, v5 := Tryz.zeroValue5, infoByte := by kernel_rfl, cellsByte := by kernel_rfl, sizeByte := by kernel_rfl, neB5 := by decide }
theorem join_calls (g off n c : Nat) (ws : List (List UInt8)) (b : UInt8) (w : World) (h : LstS w (some ⟨g, off, none⟩) n c ws) (hn : 0 < n) (hlen : (Lib.join ws [b]).length ≤ 140737488355328) (hN : n ≤ 140737488355328) :
    Calls Tryz.prog 41 #[.slice (some ⟨g, off, none⟩) n c, .string ⟨#[b]⟩] w fun e w' => e = .returned (.string ⟨(Lib.join ws [b]).toArray⟩) ∧ Below w.heap.size w w' := by
  obtain ⟨g', off', e, hg, hc⟩ := h.at hn
  simp only [Option.some.injEq, Addr.mk.injEq, and_true] at e
  obtain ⟨rfl, rfl⟩ := e
  have hl := h.len
  have hcap := h.cap
  have em : (ws.map fun x => (⟨x.toArray⟩ : ByteArray)).map (·.data.toList) = ws := by
    rw [List.map_map]
    exact (List.map_congr_left (fun x _ => rfl)).trans (List.map_id ws)
  have k := Any.strings_Join laysJoin extraB g off c (ws.map fun x => (⟨x.toArray⟩ : ByteArray)) ⟨#[b]⟩ w (fun j x hj => by
      have hj' : j < ws.length := by have := (List.getElem?_eq_some_iff.1 hj).1; simpa using this
      rw [hc j (by omega)]
      rw [List.getElem?_map, List.getElem?_eq_getElem hj'] at hj
      simp only [Option.map_some, Option.some.injEq] at hj
      rw [← hj, List.getD_eq_getElem?_getD, List.getElem?_eq_getElem hj']
      rfl) hg (by simp; omega) (by simp; omega) (by rw [em]; exact hlen)
  rw [em, List.length_map, hl] at k
  exact show Calls Tryz.prog 41 _ _ _ from k
end Go.Proofs.YtfcnnolpcnacoaaGreatDoor.Fx

/- Slices of values of one cell that the program itself makes by append: what is known of them, and what one append more leaves. -/
namespace Go.Proofs.YtfcnnolpcnacoaaGreatDoor.Fx
open Go.RowKit

/-- The slice value v, made from block number base on, owns these values, each of one cell. -/
def OwnX (T : TypeId) (base : Nat) (w : World) (v : Value) (vs : List Value) : Prop := w.ownsRow base T 1 v vs.length vs
theorem OwnX.nil (T : TypeId) (base : Nat) (w : World) : OwnX T base w (.slice none 0 0) [] := World.ownsRow_nil _ _ _ _
theorem OwnX.below {T : TypeId} {base : Nat} {w w' : World} {v : Value} {vs : List Value} (h : OwnX T base w v vs) (hb : Below w.heap.size w w') : OwnX T base w' v vs := by
  refine ⟨h.1, ?_⟩
  rcases h.2 with h0 | ⟨g, cap, cur, hv, hg, hh, r⟩
  · exact .inl h0
  · exact .inr ⟨g, cap, cur, hv, hg, by rw [hb.block g (Array.getElem?_eq_some_iff.1 hh).1]; exact hh, r⟩
theorem OwnX.mono {T : TypeId} {base b2 : Nat} {w : World} {v : Value} {vs : List Value} (h : OwnX T base w v vs) (hb : b2 ≤ base) : OwnX T b2 w v vs :=
  ⟨h.1, h.2.imp id fun ⟨g, cap, cur, h1, h2, h3⟩ => ⟨g, cap, cur, h1, Nat.le_trans hb h2, h3⟩⟩
theorem OwnX.congr {T : TypeId} {base : Nat} {w : World} {v : Value} {vs us : List Value} (h : OwnX T base w v vs) (e : vs = us) : OwnX T base w v us := e ▸ h
theorem OwnX.blk {T : TypeId} {base : Nat} {w : World} {y : Value} {vs : List Value} (h : OwnX T base w y vs) : y.ownBlock = none ∨ ∃ g, y.ownBlock = some g ∧ base ≤ g ∧ g < w.heap.size := by
  rcases h.2 with ⟨rfl, _⟩ | ⟨g, cap, cur, rfl, hg, hh, _⟩
  · exact .inl rfl
  · exact .inr ⟨g, rfl, hg, (Array.getElem?_eq_some_iff.1 hh).1⟩
theorem OwnX.kept {T : TypeId} {base : Nat} {w w1 : World} {y : Value} {vs : List Value} {row : Option Nat} (h : OwnX T base w y vs) (hg : w.grownBy w1 row) (hne : y.ownBlock = none ∨ y.ownBlock ≠ row) : OwnX T base w1 y vs := World.ownsRow.kept h hg hne
theorem OwnX.row {T : TypeId} {base : Nat} {w : World} {v : Value} {vs : List Value} (h : OwnX T base w v vs) (hn : 0 < vs.length) : ∃ g c, v = .slice (some ⟨g, 0, none⟩) vs.length c ∧ base ≤ g ∧ g < w.heap.size ∧ vs.length ≤ c ∧ ∀ k u, vs[k]? = some u → w.cell? ⟨g, k, none⟩ = some u := by
  rcases h.2 with ⟨_, h0⟩ | ⟨g, cap, cur, rfl, hg, hh, hle, _, hsz, hcur⟩
  · omega
  · refine ⟨g, cap, rfl, hg, (Array.getElem?_eq_some_iff.1 hh).1, hle, fun k u hk => ?_⟩
    have hk2 := (List.getElem?_eq_some_iff.1 hk).1
    have h3 : (cur.toList.take vs.length)[k]? = some u := by
      rw [Nat.mul_one] at hcur
      rw [hcur]; exact hk
    rw [List.getElem?_take_of_lt hk2] at h3
    simpa [World.cell?, hh] using h3
theorem OwnX.lits (T : TypeId) (w : World) (xs : List Value) (hn : xs.length ≤ 1000) : OwnX T w.heap.size (w.alloc (.cells xs.toArray T)) (.slice (some ⟨w.heap.size, 0, none⟩) xs.length xs.length) xs :=
  ⟨by simp, .inr ⟨w.heap.size, xs.length, _, rfl, Nat.le_refl _, Go.Deep.blk_alloc_new _ _, Nat.le_refl _, by unfold maxLen; omega, by simp, by simp⟩⟩

theorem strV_one (ws : List (List UInt8)) : ∀ u ∈ ws.map (fun x => Value.string ⟨x.toArray⟩), u.oneCell' = true := by
  intro u hu
  obtain ⟨x, _, rfl⟩ := List.mem_map.1 hu
  rfl
/-- A string's value. -/
def sv (x : List UInt8) : Value := .string ⟨x.toArray⟩
theorem OwnX.strs {base : Nat} {w : World} {v : Value} {ws : List (List UInt8)} (h : OwnX 9 base w v (ws.map sv)) (hn : 0 < ws.length) : ∃ g c, v = .slice (some ⟨g, 0, none⟩) ws.length c ∧ base ≤ g ∧ LstS w (some ⟨g, 0, none⟩) ws.length c ws := by
  obtain ⟨g, c, e, hb, hg, hc, hr⟩ := h.row (by simpa using hn)
  rw [List.length_map] at e hc
  refine ⟨g, c, e, hb, rfl, hc, .inr ⟨g, 0, rfl, hg, fun i hi => ?_⟩⟩
  rw [Nat.zero_add]
  refine hr i _ ?_
  rw [List.getElem?_map, List.getElem?_eq_getElem hi, List.getD_eq_getElem?_getD, List.getElem?_eq_getElem hi]
  rfl
theorem OwnX.ints {base : Nat} {w : World} {v : Value} {xs : List Int} (h : OwnX 3 base w v (xs.map (Value.int .i64))) : ∃ a c, v = .slice a xs.length c ∧ Lst w a xs.length c xs := by
  unfold OwnX at h
  rw [List.length_map] at h
  exact Lst.owned h
theorem OwnX.intsB {base : Nat} {w : World} {v : Value} {xs : List Int} (h : OwnX 3 base w v (xs.map (Value.int .i64))) : ∃ a c, v = .slice a xs.length c ∧ Lst w a xs.length c xs ∧ ∀ g o, a = some ⟨g, o, none⟩ → base ≤ g := by
  obtain ⟨a, c, e, l⟩ := h.ints
  refine ⟨a, c, e, l, fun g o ha => ?_⟩
  subst ha
  rcases h.2 with ⟨h0, _⟩ | ⟨g', cap, cur, hv, hg, _⟩
  · rw [h0] at e; cases e
  · rw [hv] at e
    injection e with e1
    simp only [Option.some.injEq, Addr.mk.injEq] at e1
    omega
theorem OwnX.wds {base : Nat} {w : World} {v : Value} {xs : List Int} (h : OwnX 22 base w v (xs.map (Value.int .u64))) : ∃ a c, v = .slice a xs.length c ∧ LstW w a xs.length c xs := by
  unfold OwnX at h
  rw [List.length_map] at h
  exact LstW.owned h

section
variable {w' W0 : World} {ops : Array Oper} {o : Oper} {a : Act} {Q : Exit → Act → World → Prop}
theorem run_append_x {TS T : TypeId} {z : Value} {bytes : Nat} (ht : Tryz.prog.underlying TS = some (.slice T)) (hinfo : (Tryz.prog.info? T).map (fun i => (i.zero, i.size, i.bytes)) = some (some z, 1, bytes)) (hzc : z.cells.size = 1) (hby : 1 ≤ bytes)
    (ty : TypeId) (base : Nat) (v : Value) (vs : List Value) (u : Value) (g : Nat) (hown : OwnX T base w' v vs) (hc : w'.cell? ⟨g, 0, none⟩ = some u) (hu : u.oneCell' = true) (hn : (vs.length + 1) * bytes ≤ 140737488355328) (hbase : base ≤ w'.heap.size) (hB : Below base W0 w') :
    ∃ v' w1, (Builtin.append_ #[TS, TS] ty #[v, .slice (some ⟨g, 0, none⟩) 1 1]).run Tryz.prog w' = .ok v' w1 ∧ OwnX T base w1 v' (vs ++ [u]) ∧ Below base W0 w1 ∧ w'.grownBy w1 v.ownBlock ∧ (v'.ownBlock = v.ownBlock ∨ v'.ownBlock = some w'.heap.size) := by
  obtain ⟨i0, hi, hz0, hz1, hz2⟩ := info_parts hinfo
  have hle : vs.length + 1 ≤ (vs.length + 1) * bytes := Nat.le_mul_of_pos_right _ hby
  obtain ⟨v', w1, hrun, h1, h2, _, h3⟩ := run_append_own_at (P := Tryz.prog) w' base TS ty T i0 z 1 bytes ht hi hz0 hz1 hz2 hzc (by decide) v vs.length _ hown ⟨g, 0, none⟩ 1 1 [u] rfl
    (by intro j x hj
        match j, hj with
        | 0, hj => simp at hj; subst hj; simpa [Addr.add] using hc)
    (by intro x hx; simp at hx; subst hx; exact hu) (by unfold maxLen; omega) hn hbase
  refine ⟨v', w1, hrun, by unfold OwnX; rw [List.length_append]; exact h1, hB.grown h2 hbase ?_, h2, h3⟩
  intro k hk
  rcases hown.2 with ⟨rfl, _⟩ | ⟨g', cap, cur, rfl, hg, _⟩
  · simp [Value.ownBlock] at hk
  · simp [Value.ownBlock] at hk; omega
theorem wpList_append_x {rest : List Oper} {TS T : TypeId} {z : Value} {bytes : Nat} (ht : Tryz.prog.underlying TS = some (.slice T)) (hinfo : (Tryz.prog.info? T).map (fun i => (i.zero, i.size, i.bytes)) = some (some z, 1, bytes)) (hzc : z.cells.size = 1) (hby : 1 ≤ bytes)
    (hgd : o.guard = none) (s x : Operand) (ho : o.op = .call { callee := .builtin .append, args := #[s, x], argTypes := #[TS, TS] })
    (base : Nat) (v : Value) (vs : List Value) (u : Value) (g : Nat) (W0 : World) (hs : a.eval s = v) (hx : a.eval x = .slice (some ⟨g, 0, none⟩) 1 1) (hown : OwnX T base w' v vs) (hc : w'.cell? ⟨g, 0, none⟩ = some u) (hu : u.oneCell' = true) (hn : (vs.length + 1) * bytes ≤ 140737488355328) (hbase : base ≤ w'.heap.size) (hB : Below base W0 w')
    (h : ∀ v' w1, OwnX T base w1 v' (vs ++ [u]) → Below base W0 w1 → w'.grownBy w1 v.ownBlock → (v'.ownBlock = v.ownBlock ∨ v'.ownBlock = some w'.heap.size) → wpList Tryz.prog ops Q rest (a.put o.dst v') w1) : wpList Tryz.prog ops Q (o :: rest) a w' := by
  obtain ⟨v', w1, hrun, h1, h2, h3, h4⟩ := run_append_x ht hinfo hzc hby o.type base v vs u g hown hc hu hn hbase hB
  refine wpList_plain hgd fun K hK => ?_
  unfold Oper.wp
  simp [execOp, ho, resolve, invoke, builtin, hs, hx, hrun, Result.andThen]
  exact hK _ _ (h v' w1 h1 h2 h3 h4)
theorem step_append_x {K : Act → World → Prop} {E : Prop} {TS T : TypeId} {z : Value} {bytes : Nat} (ht : Tryz.prog.underlying TS = some (.slice T)) (hinfo : (Tryz.prog.info? T).map (fun i => (i.zero, i.size, i.bytes)) = some (some z, 1, bytes)) (hzc : z.cells.size = 1) (hby : 1 ≤ bytes)
    (hgd : o.guard = none) (s x : Operand) (ho : o.op = .call { callee := .builtin .append, args := #[s, x], argTypes := #[TS, TS] })
    (base : Nat) (v : Value) (vs : List Value) (u : Value) (g : Nat) (W0 : World) (hs : a.eval s = v) (hx : a.eval x = .slice (some ⟨g, 0, none⟩) 1 1) (hown : OwnX T base w' v vs) (hc : w'.cell? ⟨g, 0, none⟩ = some u) (hu : u.oneCell' = true) (hn : (vs.length + 1) * bytes ≤ 140737488355328) (hbase : base ≤ w'.heap.size) (hB : Below base W0 w')
    (h : ∀ v' w1, OwnX T base w1 v' (vs ++ [u]) → Below base W0 w1 → w'.grownBy w1 v.ownBlock → (v'.ownBlock = v.ownBlock ∨ v'.ownBlock = some w'.heap.size) → K (a.put o.dst v') w1) :
    if Region.wanted o (yielded ops a.tmps) = true then Oper.wp Tryz.prog o a w' K Q else E := by
  obtain ⟨v', w1, hrun, h1, h2, h3, h4⟩ := run_append_x ht hinfo hzc hby o.type base v vs u g hown hc hu hn hbase hB
  rw [if_pos (by unfold Region.wanted; rw [hgd])]
  unfold Oper.wp
  simp [execOp, ho, resolve, invoke, builtin, hs, hx, hrun, Result.andThen]
  exact h v' w1 h1 h2 h3 h4
end

theorem infoStr : (Tryz.prog.info? 9).map (fun i => (i.zero, i.size, i.bytes)) = some (some (.string ByteArray.empty), 1, 16) := by kernel_rfl
theorem infoIntX : (Tryz.prog.info? 3).map (fun i => (i.zero, i.size, i.bytes)) = some (some (.int .i64 0), 1, 8) := by kernel_rfl
theorem infoWordX : (Tryz.prog.info? 22).map (fun i => (i.zero, i.size, i.bytes)) = some (some (.int .u64 0), 1, 8) := by kernel_rfl
end Go.Proofs.YtfcnnolpcnacoaaGreatDoor.Fx
