/- How a slice of records that comes in as an argument is opened. -/
import Derived.Test.YtgihnliipfdokaaGreatJ24
import Derived.Deep.Slices
import Derived.Test.YtgihnliipfdokaaGreatJ08
import Derived.Test.YtgihnliipfdokaaGreatJ27
import Derived.Test.YtgihnliipfdokaaGreatJ34
import Derived.Test.YtgihnliipfdokaaGreatJ09
import Derived.Test.YtgihnliipfdokaaGreatJ28
import Derived.Test.YtgihnliipfdokaaGreatJ07
import Derived.Test.YtgihnliipfdokaaGreatJ21
namespace Go.Proofs.YtgihnliipfdokaaGreat.Fx
open Go.ChangeShapes Go.WideShapes Go.ChangeAt Go.RowKit

/-- A slice of records that a law is handed. -/
structure RecsIn (w : World) (a : Option Addr) (n cap : Nat) (R : Nat → Rcm) (D : Nat → List Int) : Prop where
  recs : Recs w a n cap R D
  len : cap ≤ maxLen
  each : ∀ j, j < n → RecIn w (R j) (D j)

set_option maxRecDepth 100000 in
theorem came_rec {H : Type} {enc : TypeId × Value → H} {W : World} {fuel : Nat} {cs : List Value} {x : DataW H × List MemPlace} (hcl : cs.length = 5) (hf : DataW.trod enc Tryz.prog W 0 (fun _ => true) true fuel 37 cs = some x) :
    ∃ (e : Rcm) (bs : List Int), cs = [.int .i64 e.s, .slice e.a e.n e.k, .int .i64 e.r, .int .u64 e.root, .int .u64 e.chain] ∧ RecIn W e bs := by
  match cs, hcl with
  | [c0, c1, c2, c3, c4], _ =>
    obtain ⟨xs, n, _, _, _, hlen, hfs⟩ := DataW.trod_struct Tryz.underlying37 hf
    have hl : xs.length = 5 := hlen
    obtain ⟨i0, rfl, w0⟩ := fieldInt (v := c0) Tryz.underlying3 cellsOfInt (by omega) (hfs 0 _ rfl) rfl
    obtain ⟨a, l, c, B, rfl, g⟩ := fieldInts (v := c1) (by omega) (hfs 1 _ rfl) rfl
    obtain ⟨i2, rfl, w2⟩ := fieldInt (v := c2) Tryz.underlying3 cellsOfInt (by omega) (hfs 2 _ rfl) rfl
    obtain ⟨i3, rfl, w3⟩ := fieldInt (v := c3) Tryz.underlying22 cellsOfWord (by omega) (hfs 3 _ rfl) rfl
    obtain ⟨i4, rfl, w4⟩ := fieldInt (v := c4) Tryz.underlying22 cellsOfWord (by omega) (hfs 4 _ rfl) rfl
    refine ⟨⟨i0, a, l, c, i2, i3, i4⟩, B, rfl, g.1, wf_int w0, wf_int w2, wf_word w3, wf_word w4, fun j hj => wf_int (g.2.2 _ ?_), Nat.le_trans g.1.cap g.2.1⟩
    rw [List.getD_eq_getElem?_getD, List.getElem?_eq_getElem hj, Option.getD_some]
    exact List.getElem_mem hj

set_option maxRecDepth 100000 in
theorem openRecs {H : Type} {enc : TypeId × Value → H} {W : World} {b0 : Nat} {v : Value} {d : DataW H} {p : List MemPlace} (hv : Value.okWide Tryz.prog W .any b0 26 v) (h : DataW.Trod enc Tryz.prog W 0 (fun _ => true) true 26 v d p) :
    ∃ a len cap R D, v = .slice a len cap ∧ RecsIn W a len cap R D := by
  obtain ⟨a, len, cap, rfl⟩ := okWide_slice Tryz.underlying26 hv
  obtain ⟨fuel, hf⟩ := h
  rcases Go.Deep.open_slice Tryz.underlying26 hf with ⟨hcs, _⟩ | ⟨a', len', cap', m, n, D, Pl, hcs, _, hl, hmx, hm, _, hel⟩
  · simp [Value.cells] at hcs
    obtain ⟨rfl, rfl, rfl⟩ := hcs
    exact ⟨_, _, _, fun _ => ⟨0, none, 0, 0, 0, 0, 0⟩, fun _ => [], rfl, ⟨Nat.le_refl _, .inl rfl⟩, by unfold maxLen; omega, fun j hj => by omega⟩
  · simp [Value.cells] at hcs
    obtain ⟨rfl, rfl, rfl⟩ := hcs
    have hm' : m = cap := by simpa using hm
    subst hm'
    have each : ∀ i, i < m → ∃ (e : Rcm) (bs : List Int), W.cell? (a'.add (i * 5)) = some (.int .i64 e.s) ∧ W.cell? ((a'.add (i * 5)).add 1) = some (.slice e.a e.n e.k) ∧ W.cell? ((a'.add (i * 5)).add 2) = some (.int .i64 e.r) ∧ W.cell? ((a'.add (i * 5)).add 3) = some (.int .u64 e.root) ∧ W.cell? ((a'.add (i * 5)).add 4) = some (.int .u64 e.chain) ∧ RecIn W e bs := by
      intro i hi
      obtain ⟨cs', h1, h2⟩ := hel i hi
      rw [cellsRec] at h1
      obtain ⟨e, bs, rfl, hin⟩ := came_rec (World.cells?_some h1).2.1 h2
      have hc := (World.cells?_some h1).2.2
      have c0 := hc 0 (by omega)
      have c1 := hc 1 (by omega)
      have c2 := hc 2 (by omega)
      have c3 := hc 3 (by omega)
      have c4 := hc 4 (by omega)
      exact ⟨e, bs, by simpa [Addr.add] using c0, by simpa using c1, by simpa using c2, by simpa using c3, by simpa using c4, hin⟩
    refine ⟨_, _, _, fun i => if hi : i < m then (each i hi).choose else ⟨0, none, 0, 0, 0, 0, 0⟩, fun i => if hi : i < m then (each i hi).choose_spec.choose else [], rfl, ⟨hl, ?_⟩, hmx, fun j hj => ?_⟩
    · by_cases h0 : len = 0
      · exact .inl h0
      · obtain ⟨b, off, spot⟩ := a'
        have hs := (each 0 (by omega)).choose_spec.choose_spec.1
        have hspot : spot = none := by simpa [Addr.add] using World.cell?_spot hs
        subst hspot
        refine .inr ⟨b, off, rfl, ?_, fun i hi => ?_⟩
        · have := cell_lt hs
          simpa [Addr.add] using this
        · have hs := (each i (by omega)).choose_spec.choose_spec
          have a0 : ∀ t, W.cell? ⟨b, off + i * 5 + t, none⟩ = W.cell? (((⟨b, off, none⟩ : Addr).add (i * 5)).add t) := fun t => by rw [add_plain, add_plain]
          have a1 : W.cell? ⟨b, off + i * 5, none⟩ = W.cell? ((⟨b, off, none⟩ : Addr).add (i * 5)) := by rw [add_plain]
          simp only [dif_pos (show i < m by omega)]
          exact ⟨a1.trans hs.1, (a0 1).trans hs.2.1, (a0 2).trans hs.2.2.1, (a0 3).trans hs.2.2.2.1, (a0 4).trans hs.2.2.2.2.1, hs.2.2.2.2.2.l⟩
    · have hs := (each j (by omega)).choose_spec.choose_spec
      simp only [dif_pos (show j < m by omega)]
      exact hs.2.2.2.2.2
end Go.Proofs.YtgihnliipfdokaaGreat.Fx

/- What coachref.Chained returns of any record, and Chain of one that may be chained. -/
namespace Go.Proofs.YtgihnliipfdokaaGreat.Fx
open Go.RowKit

set_option maxRecDepth 100000 in
set_option maxHeartbeats 3200000 in
theorem rchain_calls (before : Int) (hbf : okW before) (x : Rcm) (bs : List Int) (w : World) (l : Lst w x.a x.n x.k bs) (hs : 0 ≤ x.s ∧ x.s ≤ 9223372036854775807) (hr : 0 ≤ x.r ∧ x.r ≤ 9223372036854775807) (hroot : okW x.root) (h8 : x.n ≤ 8) (hbs : ∀ j, j < x.n → 0 ≤ bs.getD j 0 ∧ bs.getD j 0 ≤ 9223372036854775807) :
    Calls Tryz.prog 51 #[.int .u64 before, x.val] w fun e w' => e = .returned (.int .u64 (chainP before x.s x.r x.root bs)) ∧ Below w.heap.size w w' := by
  have hal := low_alloc w (.cells x.cells 37)
  have l' := l.below hal (Nat.le_refl _)
  have hlen := l.len
  have row := fn5_alloc w (.int .i64 x.s) (.slice x.a x.n x.k) (.int .i64 x.r) (.int .u64 x.root) (.int .u64 x.chain) 37
  obtain ⟨s, a, n, k, r, root, chain⟩ := x
  simp only [Rcm.val, Rcm.cells] at *
  obtain ⟨s0, s1⟩ := hs
  obtain ⟨r0, r1⟩ := hr
  have HBS : Hid (∀ j, j < n → 0 ≤ bs.getD j 0 ∧ bs.getD j 0 ≤ 9223372036854775807) := hbs
  have HOK : Hid (okL (chainL before s r root bs)) := by
    show okL _
    unfold chainL
    refine okL_app ?_ (fun i hi => ⟨(hbs i (by omega)).1, by have := (hbs i (by omega)).2; omega⟩)
    intro i hi
    have h5 : i < 5 := by simpa using hi
    rcases lt5 h5 with rfl | rfl | rfl | rfl | rfl
    · exact hbf
    · exact ⟨s0, by simp; omega⟩
    · exact ⟨r0, by simp; omega⟩
    · exact hroot
    · exact ⟨by simp, by simp; omega⟩
  obtain ⟨W, HW⟩ : ∃ q, Hid (q = w.alloc (.cells #[.int .i64 s, .slice a n k, .int .i64 r, .int .u64 root, .int .u64 chain] 37)) := ⟨_, rfl⟩
  have HWS : Hid (w.heap.size + 1 = W.heap.size) := by show _ = _; rw [HW.out]; simp
  rw [← HW.out] at hal l' row
  obtain ⟨c0, c1, c2, c3, c4⟩ := fn5_box row
  have own0 := OwnW.lit W [before, s, r, root, (n : Int)] (by simp)
  have hl0 := low_alloc W (.cells #[.int .u64 before, .int .u64 s, .int .u64 r, .int .u64 root, .int .u64 (n : Int)] 22)
  have KC : Hid (∀ q, Below W.heap.size W q → q.cell? ⟨w.heap.size, 1, none⟩ = some (.slice a n k)) := fun q hq => (fn5_box (row.of_block (hq.block _ row.lt))).c1
  have hlt0 := row.lt
  clear hbs l hbf hroot
  go_enter Tryz.func51, Tryz.ntmps51
  go_wp2_with fail
  rw [← HW.out]
  clear HW
  go_loopw [5, 6] (fun v i wr => ∃ j : Nat, j ≤ n ∧ i = .int .i64 j ∧ OwnW W.heap.size wr v ([before, s, r, root, (n : Int)] ++ bs.take j) ∧ Below W.heap.size W wr) (fun _ i _ => n - (intOf i).toNat)
  case atStart => exact ⟨0, Nat.zero_le _, rfl, by rw [HWS.out]; simpa using own0, hl0⟩
  case round =>
    clear own0 hl0 c0 c1 c2 c3 c4
    obtain ⟨j, hj, rfl, hown, hbel⟩ := hrel
    have hsz := hbel.size
    have c1 := KC.out _ hbel
    by_cases hlt : j < n
    · obtain ⟨b1, o1, y, rfl, _, c5, HX⟩ := l'.at1b hbel (Nat.le_refl _) hlt
      have hy := HBS.out j hlt
      rw [HX.out] at hy
      obtain ⟨y0, y1⟩ := hy
      have hl2 : ([before, s, r, root, (n : Int)] ++ bs.take j).length = 5 + j := by simp; omega
      have al1 := hown.below (low_alloc wr (.cells #[.int .u64 y] 22))
      have bl1 := hbel.alloc hbel.size (.cells #[.int .u64 y] 22)
      have cn := cell_new wr (.int .u64 y) 22
      have HH : Hid (wr.heap.size + 1 = (wr.alloc (.cells #[.int .u64 y] 22)).heap.size) := by show _ = _; simp
      go_wp2_with (at_builtin; refine wpList_append_word (by rfl) _ _ (by rfl) W.heap.size _ ([before, s, r, root, (n : Int)] ++ bs.take j) y wr.heap.size W (by rfl) (by rfl) (by exact al1) (by exact cn) (by rw [hl2]; omega) (by exact bl1.size) (by exact bl1) ?_; intro v1 w2 hown1 hbel1)
      go_roundw
      case rel => exact ⟨j + 1, by omega, by go_num, hown1.congr (by rw [List.append_assoc, take_snocI (by omega) HX.out]), hbel1⟩
      case measure => simp [intOf]; omega
    · obtain rfl : j = n := by omega
      obtain ⟨av, cv, rfl, lw⟩ := hown.lst' (n := 5 + j) (by simp; omega)
      have hl3 : [before, s, r, root, (j : Int)] ++ bs.take j = chainL before s r root bs := by unfold chainL; rw [List.take_of_length_le (by omega), hlen]
      rw [hl3] at lw
      go_wp2_with fail
      refine (rof_calls 6 ⟨by omega, by omega⟩ _ _ _ _ _ lw HOK.out (by omega)).mono ?_
      rintro e w3 ⟨rfl, hw3⟩
      go_wp2_with fail
      go_ret
      exact ⟨rfl, hal.trans ((hbel.trans (hw3.mono hbel.size)).mono hal.size)⟩
end Go.Proofs.YtgihnliipfdokaaGreat.Fx

/- An append of a whole list of integers, which may be empty, to one that the program itself makes. -/
namespace Go.Proofs.YtgihnliipfdokaaGreat.Fx
open Go.RowKit

set_option maxRecDepth 100000 in
set_option maxHeartbeats 1600000 in
theorem rroot_any (a1 : Option Addr) (n1 k1 : Nat) (ws : List Int) (a2 : Option Addr) (n2 k2 : Nat) (ms : List Int) (w : World) (l1 : Lst w a1 n1 k1 ws) (l2 : Lst w a2 n2 k2 ms) (h1 : 1 ≤ n1 + n2) (h3 : n1 + n2 ≤ 200) :
    Calls Tryz.prog 38 #[.agg #[.slice a1 n1 k1, .slice a2 n2 k2]] w fun e w' => e = .returned (.int .u64 (rootP ws ms (n1 + n2))) ∧ Below w.heap.size w w' := by
  have hal := low_alloc w (.cells #[.slice a1 n1 k1, .slice a2 n2 k2] 35)
  obtain ⟨W, HW⟩ : ∃ q, Hid (q = w.alloc (.cells #[.slice a1 n1 k1, .slice a2 n2 k2] 35)) := ⟨_, rfl⟩
  have hW : Below w.heap.size w W := by rw [HW.out]; exact hal
  have m1 := l1.below hW (Nat.le_refl _)
  have m2 := l2.below hW (Nat.le_refl _)
  have hrow : W.rowIs w.heap.size 35 2 (fn2 (.slice a1 n1 k1) (.slice a2 n2 k2)) := by rw [HW.out]; exact fn2_alloc _ _ _ _
  have hWs : w.heap.size < W.heap.size := hrow.lt
  have S0 : W.drew.cell? ⟨w.heap.size, 0, none⟩ = some (.slice a1 n1 k1) ∧ W.drew.cell? ⟨w.heap.size, 1, none⟩ = some (.slice a2 n2 k2) := fn2_cells hrow
  have s0 := S0.1
  have s1 := S0.2
  have t0 : W.cell? ⟨w.heap.size, 0, none⟩ = some (.slice a1 n1 k1) := (fn2_cells hrow).1
  have t1 : W.cell? ⟨w.heap.size, 1, none⟩ = some (.slice a2 n2 k2) := (fn2_cells hrow).2
  have hl1 := l1.len
  have hl2 := l2.len
  have hBd : Below W.heap.size W W.drew := below_drewN (Below.refl _ _) 1
  have KS : Hid (∀ q, Below W.heap.size W q → q.cell? ⟨w.heap.size, 0, none⟩ = some (.slice a1 n1 k1) ∧ q.cell? ⟨w.heap.size, 1, none⟩ = some (.slice a2 n2 k2)) := fun q hq => fn2_cells (hrow.of_block (hq.block _ hWs))
  unfold rootP
  clear l1 l2 hal
  go_enter Tryz.func38, Tryz.ntmps38
  go_wp2_with fail
  rw [← HW.out]
  clear HW
  go_region_held3 (fun q => q.cell? ⟨w.heap.size, 0, none⟩ = some (.slice a1 n1 k1) ∧ q.cell? ⟨w.heap.size, 1, none⟩ = some (.slice a2 n2 k2)) (first | with_reducible exact S5 | with_reducible exact S4 | with_reducible exact S3 | with_reducible exact S0)
    (first | (refine step_append_any (by rfl) _ _ (by rfl) W.heap.size _ [] ws a1 n1 k1 W (by rfl) (by rfl) (by exact OwnI.nil _ _) (by exact m1.drew) (by simp; omega) (by simp) (by exact hBd) ?_; intro v3 w3 hown3 hbel3; have S3 := KS.out _ hbel3) | (refine step_append_any (by rfl) _ _ (by rfl) W.heap.size _ ([] ++ ws) ms a2 n2 k2 W (by rfl) (by rfl) (by exact hown3) (by exact m2.below hbel3 (Nat.le_refl _)) (by simp; omega) (by exact hbel3.size) (by exact hbel3) ?_; intro v4 w4 hown4 hbel4; have S4 := KS.out _ hbel4; obtain ⟨va, vc, hv4, l4⟩ := hown4.lst' (n := n1 + n2) (by simp; omega); subst hv4) | (go_at_call 62; refine (rRoot_calls va (n1 + n2) vc (ws ++ ms) _ (by simpa using l4) (by omega) h3).mono ?_; rintro e w5 ⟨rfl, hw5⟩; have S5 := KS.out _ (hbel4.trans (hw5.mono hbel4.size))))
  all_goals
    go_wp2
    go_ret
    exact ⟨rfl, hW.trans ((hbel4.trans (hw5.mono hbel4.size)).mono hW.size)⟩
end Go.Proofs.YtgihnliipfdokaaGreat.Fx

/- What coachref.Head returns, of right things. -/
namespace Go.Proofs.YtgihnliipfdokaaGreat.Fx
open Go.RowKit

set_option maxRecDepth 100000 in
set_option maxHeartbeats 6400000 in
theorem rhead_calls (c : Cfg) (hc : cfgB c = true) (hs : okW c.seed) (N : Nat) (hN : (N : Int) = sizeN c) (a : Option Addr) (n cap : Nat) (X : Nat → Exm) (DI DO : Nat → List Int) (w : World) (hx : Exs w a n cap X DI DO) (hn2 : n ≤ 16) (hex : allEx c n X DI DO = true) :
    Calls Tryz.prog 50 #[c.val, .slice a n cap] w fun e w' => e = .returned (.int .u64 (headP c n DI DO N)) ∧ Below w.heap.size w w' := by
  have HOK : Hid (okL (headL c n DI DO N)) := headL_ok hc hs n DI DO N
  have HRS : Hid (∀ q, Calls Tryz.prog 49 #[c.val] q fun e w' => ∃ ga d1 gb d2, e = .returned (.agg #[.slice (some ⟨ga, 0, none⟩) N d1, .slice (some ⟨gb, 0, none⟩) N d2]) ∧ q.heap.size ≤ ga ∧ q.heap.size ≤ gb ∧ Lst w' (some ⟨ga, 0, none⟩) N d1 ((List.range N).map (startG c.seed)) ∧ Lst w' (some ⟨gb, 0, none⟩) N d2 ((List.range N).map zeroG) ∧ Below q.heap.size q w') := fun q => rstart_calls c hc hs N hN q
  have hNb := sizeN_bd hc
  have N4 : 4 ≤ N := by omega
  have N40 : N ≤ 40 := by omega
  have HEX : Hid (∀ j, j < n → (X j).n = (DI j).length ∧ (X j).m = (DO j).length ∧ 1 ≤ (X j).n ∧ (X j).n ≤ 4 ∧ (X j).m ≤ 4) := fun j hj => by
    have he := exB_is (allEx_is hex hj)
    obtain ⟨⟨i1, i2⟩, _, ⟨o1, o2⟩, _⟩ := cfgB_is hc
    obtain ⟨b, off, _, _, _, hin⟩ := hx.at hj
    exact ⟨hin.i.len.symm, hin.o.len.symm, by omega, by omega, by omega⟩
  obtain ⟨⟨i1, i2⟩, ⟨h1, h2⟩, ⟨o1, o2⟩, ⟨b1, b2⟩, ⟨s1, s2⟩, ⟨r1, r2⟩, ⟨d1, d2⟩, ⟨w1, w2⟩, ⟨k1, k2⟩, ⟨q1, q2⟩⟩ := cfgB_is hc
  have hal := low_alloc w (.cells c.cells 24)
  have hx0 := hx.below hal (Nat.le_refl _)
  obtain ⟨W, HW⟩ : ∃ q, Hid (q = w.alloc (.cells c.cells 24)) := ⟨_, rfl⟩
  have KB : Hid (∀ q, Below W.heap.size W q → BoxC q w.heap.size c) := fun q hq => by rw [HW.out] at hq; exact boxC hq (by simp)
  have HWS : Hid (w.heap.size + 1 = W.heap.size) := by show _ = _; rw [HW.out]; simp
  rw [← HW.out] at hal hx0
  have hHP : headP c n DI DO N = ofP 5 (headL c n DI DO N) := rfl
  rw [hHP]
  have own0 := OwnW.lit W [c.i, c.h, c.o, c.seed, c.batch, c.steps, c.rate, c.decay, c.how, c.keep, c.clip] (by simp)
  have hl0 := low_alloc W (.cells #[.int .u64 c.i, .int .u64 c.h, .int .u64 c.o, .int .u64 c.seed, .int .u64 c.batch, .int .u64 c.steps, .int .u64 c.rate, .int .u64 c.decay, .int .u64 c.how, .int .u64 c.keep, .int .u64 c.clip] 22)
  have HHL : Hid (headL c n DI DO N = ([c.i, c.h, c.o, c.seed, c.batch, c.steps, c.rate, c.decay, c.how, c.keep, c.clip] ++ (List.range n).map (exRoot DI DO)) ++ [rootP ((List.range N).map (startG c.seed)) ((List.range N).map zeroG) (N + N)]) := rfl
  obtain ⟨HL, hHLe⟩ : ∃ l, headL c n DI DO N = l := ⟨_, rfl⟩
  rw [hHLe] at HOK HHL ⊢
  clear hHLe hHP hx hex hc hNb hN
  obtain ⟨i, h, o, seed, batch, steps, crate, decay, how, keep, clip⟩ := c
  simp only [Cfg.val, Cfg.cells] at *
  obtain ⟨c0, c1, c2, c3, c4, c5, c6, c7, c8, c9, c10⟩ := KB.out _ (Below.refl _ _)
  dsimp only at c0 c1 c2 c3 c4 c5 c6 c7 c8 c9 c10
  go_enter Tryz.func50, Tryz.ntmps50
  go_wp2_with fail
  rw [← HW.out]
  clear HW
  go_loopw [5, 6] (fun v t wr => ∃ k : Nat, k ≤ n ∧ t = .int .i64 k ∧ OwnW W.heap.size wr v ([i, h, o, seed, batch, steps, crate, decay, how, keep, clip] ++ (List.range k).map (exRoot DI DO)) ∧ Below W.heap.size W wr) (fun _ t _ => n - (intOf t).toNat)
  case atStart => exact ⟨0, Nat.zero_le _, rfl, by rw [HWS.out]; simpa using own0, hl0⟩
  case round =>
    clear own0 hl0 c0 c1 c2 c3 c4 c5 c6 c7 c8 c9 c10
    obtain ⟨k, hk, rfl, hown, hbel⟩ := hrel
    have hsz := hbel.size
    have hll : ([i, h, o, seed, batch, steps, crate, decay, how, keep, clip] ++ (List.range k).map (exRoot DI DO)).length = 11 + k := by simp; omega
    by_cases hlt : k < n
    · obtain ⟨g1, g2, g3, g4, g5⟩ := HEX.out k hlt
      obtain ⟨xb, xo, rfl, e1, e2, hin⟩ := hx0.at hlt
      obtain ⟨x, hxk⟩ : ∃ x, X k = x := ⟨_, rfl⟩
      rw [hxk] at e1 e2 hin g1 g2 g3 g4 g5
      obtain ⟨xa, xn, xk, ya, yn, yk⟩ := x
      dsimp only at e1 e2 g1 g2 g3 g4 g5
      obtain ⟨lI, lO⟩ := hin
      dsimp only at lI lO
      obtain ⟨RT, HRT⟩ : ∃ t, Hid (exRoot DI DO k = t) := ⟨_, rfl⟩
      have HRE : Hid (rootP (DI k) (DO k) (xn + yn) = RT) := by show rootP (DI k) (DO k) (xn + yn) = RT; rw [← HRT.out, g1, g2]; rfl
      have HRo : Hid (∀ q va vc, Lst q va (xn + yn) vc (DI k ++ DO k) → Calls Tryz.prog 62 #[.slice va (xn + yn) vc] q fun e w' => e = .returned (.int .u64 RT) ∧ Below q.heap.size q w') := fun q va vc hq => by
        have h := rRoot_calls va (xn + yn) vc (DI k ++ DO k) q hq (by omega) (by omega)
        rw [show ofP 3 [((xn + yn : Nat) : Int), treeP (leavesP (DI k ++ DO k) (xn + yn))] = RT from HRE.out] at h
        exact h
      have KS : Hid (∀ q, Below W.heap.size W q → q.cell? ⟨xb, xo + k * 2, none⟩ = some (.slice xa xn xk) ∧ q.cell? ⟨xb, xo + k * 2 + 1, none⟩ = some (.slice ya yn yk)) := fun q hq => ⟨(hq.cell (p := ⟨xb, xo + k * 2, none⟩) (cell_lt e1)).trans e1, (hq.cell (p := ⟨xb, xo + k * 2 + 1, none⟩) (cell_lt e2)).trans e2⟩
      have hBd : Below wr.heap.size wr wr.drew := Below.drew (Below.refl _ _)
      have hBW : Below W.heap.size W wr.drew := Below.drew hbel
      have S0 := KS.out _ hBW
      have mI := (lI.below hbel (Nat.le_refl _)).drew
      have KO : Hid (∀ q, Below W.heap.size W q → Lst q ya yn yk (DO k)) := fun q hq => lO.below hq (Nat.le_refl _)
      have UP : Hid (∀ q, Below wr.heap.size wr q → Below W.heap.size W q) := fun q hq => hbel.trans (hq.mono hbel.size)
      have HOW : Hid (∀ q, Below wr.heap.size wr q → OwnW W.heap.size q _ ([i, h, o, seed, batch, steps, crate, decay, how, keep, clip] ++ (List.range k).map (exRoot DI DO))) := fun q hq => hown.below hq
      have k0 : (0 : Int) ≤ (k : Int) := by omega
      have kn : (k : Int) < (n : Int) := by omega
      have hl1 := lI.len
      have hl2 := lO.len
      clear lI lO e1 e2 hxk g1 g2
      go_wp2_with fail
      go_region_held3 (fun q => q.cell? ⟨xb, xo + k * 2, none⟩ = some (.slice xa xn xk) ∧ q.cell? ⟨xb, xo + k * 2 + 1, none⟩ = some (.slice ya yn yk)) (first | with_reducible exact S7 | with_reducible exact S6 | with_reducible exact S5 | with_reducible exact S4 | with_reducible exact S3 | with_reducible exact S0)
        (first | (refine step_append_any (by rfl) _ _ (by rfl) wr.heap.size _ [] (DI k) xa xn xk wr (by rfl) (by rfl) (by exact OwnI.nil _ _) (by exact mI) (by simp; omega) (by simp) (by exact hBd) ?_; intro v3 w3 hown3 hbel3; have S3 := KS.out _ (UP.out _ hbel3)) | (refine step_append_any (by rfl) _ _ (by rfl) wr.heap.size _ ([] ++ DI k) (DO k) ya yn yk wr (by rfl) (by rfl) (by exact hown3) (by exact KO.out _ (UP.out _ hbel3)) (by simp; omega) (by exact hbel3.size) (by exact hbel3) ?_; intro v4 w4 hown4 hbel4; have S4 := KS.out _ (UP.out _ hbel4); obtain ⟨va, vc, hv4, l4⟩ := hown4.lst' (n := xn + yn) (by simp; omega); subst hv4) | (go_at_call 62; refine (HRo.out _ va vc (by simpa using l4)).mono ?_; rintro e u5 ⟨rfl, hw5⟩; have T5 := hbel4.trans (hw5.mono hbel4.size); have S5 := KS.out _ (UP.out _ T5); have T6 := T5.alloc T5.size (.cells #[.int .u64 RT] 22); have S6 := KS.out _ (UP.out _ T6); have O6 := HOW.out _ T6; have B6 := UP.out _ T6) | (refine step_append_word (by rfl) _ _ (by rfl) W.heap.size _ ([i, h, o, seed, batch, steps, crate, decay, how, keep, clip] ++ (List.range k).map (exRoot DI DO)) RT u5.heap.size W (by rfl) (by rfl) (by exact O6) (by exact cell_new _ _ _) (by rw [hll]; omega) (by exact B6.size) (by exact B6) ?_; intro v7 w7 hown7 hbel7; have S7 := KS.out _ hbel7))
      all_goals
        go_wp2_with fail
        go_roundw
        case rel => exact ⟨k + 1, by omega, by go_num, hown7.congr (by rw [List.append_assoc, range_snocW (exRoot DI DO) k RT HRT.out]), hbel7⟩
        case measure => simp [intOf]; omega
    · obtain rfl : k = n := by omega
      obtain ⟨c0, c1, c2, c3, c4, c5, c6, c7, c8, c9, c10⟩ := KB.out _ hbel
      dsimp only at c0 c1 c2 c3 c4 c5 c6 c7 c8 c9 c10
      go_wp2_with fail
      refine (HRS.out _).mono ?_
      rintro e u1 ⟨ga, e1, gb, e2, rfl, hga, hgb, l1, l2, hu1⟩
      clear c0 c1 c2 c3 c4 c5 c6 c7 c8 c9 c10
      go_wp2_with fail
      refine (rstateRoot_calls ga 0 N e1 _ gb 0 N e2 _ _ l1 l2 (by omega) (by omega) (by omega)).mono ?_
      rintro e u2 ⟨rfl, hu2⟩
      have T2 := hu1.trans (hu2.mono hu1.size)
      have T3 := T2.alloc T2.size (.cells #[.int .u64 (rootP ((List.range N).map (startG seed)) ((List.range N).map zeroG) (N + N))] 22)
      have O3 := hown.below T3
      have B3 := hbel.trans (T3.mono hbel.size)
      go_wp2_with (at_builtin; refine wpList_append_word (by rfl) _ _ (by rfl) W.heap.size _ ([i, h, o, seed, batch, steps, crate, decay, how, keep, clip] ++ (List.range k).map (exRoot DI DO)) (rootP ((List.range N).map (startG seed)) ((List.range N).map zeroG) (N + N)) u2.heap.size W (by rfl) (by rfl) (by exact O3) (by exact cell_new _ _ _) (by rw [hll]; omega) (by exact B3.size) (by exact B3) ?_; intro v7 w7 hown7 hbel7; obtain ⟨va, vc, hv7, l7⟩ := hown7.lst' (n := 12 + k) (by simp; omega); subst hv7; rw [← HHL.out] at l7)
      refine (rof_calls 5 ⟨by omega, by omega⟩ _ _ _ _ _ l7 HOK.out (by omega)).mono ?_
      rintro e w8 ⟨rfl, hw8⟩
      go_wp2_with fail
      go_ret
      exact ⟨rfl, hal.trans ((hbel7.trans (hw8.mono hbel7.size)).mono hal.size)⟩
end Go.Proofs.YtgihnliipfdokaaGreat.Fx

/- A list of records that the program itself makes by append: what is known of it, and what one append more leaves. -/
namespace Go.Proofs.YtgihnliipfdokaaGreat.Fx
open Go.RowKit

def rcCells (R : Nat → Rcm) : Nat → List Value
  | 0 => []
  | n + 1 => rcCells R n ++ [.int .i64 (R n).s, .slice (R n).a (R n).n (R n).k, .int .i64 (R n).r, .int .u64 (R n).root, .int .u64 (R n).chain]
theorem rcCells_len (R : Nat → Rcm) (n : Nat) : (rcCells R n).length = n * 5 := by
  induction n with
  | zero => rfl
  | succ k ih => simp [rcCells, ih]; omega
theorem rcCells_congr {X Y : Nat → Rcm} {n : Nat} (h : ∀ i, i < n → X i = Y i) : rcCells X n = rcCells Y n := by
  induction n with
  | zero => rfl
  | succ k ih => simp only [rcCells]; rw [ih (fun i hi => h i (by omega)), h k (by omega)]
theorem rcCells_at (R : Nat → Rcm) {n i : Nat} (h : i < n) : (rcCells R n)[i * 5]? = some (.int .i64 (R i).s) ∧ (rcCells R n)[i * 5 + 1]? = some (.slice (R i).a (R i).n (R i).k) ∧ (rcCells R n)[i * 5 + 2]? = some (.int .i64 (R i).r) ∧ (rcCells R n)[i * 5 + 3]? = some (.int .u64 (R i).root) ∧ (rcCells R n)[i * 5 + 4]? = some (.int .u64 (R i).chain) := by
  induction n with
  | zero => omega
  | succ k ih =>
    have hl := rcCells_len R k
    simp only [rcCells]
    by_cases e : i = k
    · subst e
      rw [List.getElem?_append_right (by omega), List.getElem?_append_right (by omega), List.getElem?_append_right (by omega), List.getElem?_append_right (by omega), List.getElem?_append_right (by omega), hl]
      simp
    · have g := ih (by omega)
      rw [List.getElem?_append_left (by omega), List.getElem?_append_left (by omega), List.getElem?_append_left (by omega), List.getElem?_append_left (by omega), List.getElem?_append_left (by omega)]
      exact g
/-- The slice value v, made from block number base on, owns the records R. -/
def OwnR (base : Nat) (w : World) (v : Value) (n : Nat) (R : Nat → Rcm) : Prop := w.ownsRow base 37 5 v n (rcCells R n)
theorem OwnR.nil (base : Nat) (w : World) (R : Nat → Rcm) : OwnR base w (.slice none 0 0) 0 R := World.ownsRow_nil _ _ _ _
theorem OwnR.below {base : Nat} {w w' : World} {v : Value} {n : Nat} {R : Nat → Rcm} (h : OwnR base w v n R) (hb : Below w.heap.size w w') : OwnR base w' v n R := by
  refine ⟨h.1, ?_⟩
  rcases h.2 with h0 | ⟨g, cap, cur, hv, hg, hh, r⟩
  · exact .inl h0
  · exact .inr ⟨g, cap, cur, hv, hg, by rw [hb.block g (Array.getElem?_eq_some_iff.1 hh).1]; exact hh, r⟩
theorem OwnR.congr {base : Nat} {w : World} {v : Value} {n : Nat} {X Y : Nat → Rcm} (h : OwnR base w v n X) (e : ∀ i, i < n → X i = Y i) : OwnR base w v n Y := by
  unfold OwnR at *
  rw [← rcCells_congr e]
  exact h
theorem OwnR.blk {base : Nat} {w : World} {v : Value} {n : Nat} {R : Nat → Rcm} (h : OwnR base w v n R) : v.ownBlock = none ∨ ∃ g, v.ownBlock = some g ∧ base ≤ g ∧ g < w.heap.size := by
  rcases h.2 with ⟨rfl, _⟩ | ⟨g, cap, cur, rfl, hg, hh, _⟩
  · exact .inl rfl
  · exact .inr ⟨g, rfl, hg, (Array.getElem?_eq_some_iff.1 hh).1⟩
theorem OwnR.recs {base : Nat} {w : World} {v : Value} {n : Nat} {R : Nat → Rcm} {D : Nat → List Int} (h : OwnR base w v n R) (hin : ∀ i, i < n → Lst w (R i).a (R i).n (R i).k (D i)) : ∃ a c, v = .slice a n c ∧ Recs w a n c R D := by
  obtain ⟨hl, h2⟩ := h
  rcases h2 with ⟨rfl, rfl⟩ | ⟨g, cap, cur, rfl, _, hh, hle, _, hsz, hcur⟩
  · exact ⟨none, 0, rfl, Recs.nil _ _ _ _ _⟩
  · refine ⟨_, cap, rfl, hle, .inr ⟨g, 0, rfl, (Array.getElem?_eq_some_iff.1 hh).1, fun i hi => ?_⟩⟩
    have hc : ∀ j, j < n * 5 → w.cell? ⟨g, j, none⟩ = (rcCells R n)[j]? := fun j hj => by
      rw [← hcur, List.getElem?_take_of_lt hj]
      simp [World.cell?, hh]
    have g2 := rcCells_at R hi
    simp only [Nat.zero_add]
    exact ⟨(hc _ (by omega)).trans g2.1, (hc _ (by omega)).trans g2.2.1, (hc _ (by omega)).trans g2.2.2.1, (hc _ (by omega)).trans g2.2.2.2.1, (hc _ (by omega)).trans g2.2.2.2.2, hin i hi⟩


section
variable {w' W0 : World} {ops : Array Oper} {o : Oper} {a : Act} {Q : Exit → Act → World → Prop}
theorem run_append_rc (ty : TypeId) (base : Nat) (v : Value) (n : Nat) (R : Nat → Rcm) (g : Nat) (hown : OwnR base w' v n R) (hrow : w'.rowIs g 37 5 (fn5 (.int .i64 (R n).s) (.slice (R n).a (R n).n (R n).k) (.int .i64 (R n).r) (.int .u64 (R n).root) (.int .u64 (R n).chain))) (hn : (n + 1) * 56 ≤ 140737488355328) (hbase : base ≤ w'.heap.size) :
    ∃ v' w1, (Builtin.append_ #[26, 26] ty #[v, .slice (some ⟨g, 0, none⟩) 1 1]).run Tryz.prog w' = .ok v' w1 ∧ OwnR base w1 v' (n + 1) R ∧ w'.grownBy w1 v.ownBlock ∧ (v'.ownBlock = v.ownBlock ∨ v'.ownBlock = some w'.heap.size) := by
  obtain ⟨i0, hi, hz0, hz1, hz2⟩ := info_parts infoR
  obtain ⟨b0, b1, b2, b3, b4⟩ := fn5_box hrow
  obtain ⟨v', w1, hrun, h1, h2, _, h3⟩ := run_append_own_at (P := Tryz.prog) w' base 26 ty 37 i0 (.agg #[.int .i64 0, .slice none 0 0, .int .i64 0, .int .u64 0, .int .u64 0]) 5 56 Tryz.underlying26 hi hz0 hz1 hz2 rfl (by decide) v n _ hown ⟨g, 0, none⟩ 1 1 [.int .i64 (R n).s, .slice (R n).a (R n).n (R n).k, .int .i64 (R n).r, .int .u64 (R n).root, .int .u64 (R n).chain] rfl
    (by intro j u hj
        match j, hj with
        | 0, hj => simp at hj; subst hj; simpa [Addr.add] using b0
        | 1, hj => simp at hj; subst hj; simpa [Addr.add] using b1
        | 2, hj => simp at hj; subst hj; simpa [Addr.add] using b2
        | 3, hj => simp at hj; subst hj; simpa [Addr.add] using b3
        | 4, hj => simp at hj; subst hj; simpa [Addr.add] using b4)
    (by intro u hu
        simp at hu
        rcases hu with rfl | rfl | rfl | rfl | rfl <;> rfl) (by unfold maxLen; omega) hn hbase
  exact ⟨v', w1, hrun, h1, h2, h3⟩

theorem wpList_append_rc {rest : List Oper} (hgd : o.guard = none) (s x : Operand) (ho : o.op = .call { callee := .builtin .append, args := #[s, x], argTypes := #[26, 26] })
    (base : Nat) (v : Value) (n : Nat) (R : Nat → Rcm) (g : Nat) (hs : a.eval s = v) (hx : a.eval x = .slice (some ⟨g, 0, none⟩) 1 1) (hown : OwnR base w' v n R) (hrow : w'.rowIs g 37 5 (fn5 (.int .i64 (R n).s) (.slice (R n).a (R n).n (R n).k) (.int .i64 (R n).r) (.int .u64 (R n).root) (.int .u64 (R n).chain))) (hn : (n + 1) * 56 ≤ 140737488355328) (hbase : base ≤ w'.heap.size)
    (h : ∀ v' w1, OwnR base w1 v' (n + 1) R → w'.grownBy w1 v.ownBlock → (v'.ownBlock = v.ownBlock ∨ v'.ownBlock = some w'.heap.size) → wpList Tryz.prog ops Q rest (a.put o.dst v') w1) : wpList Tryz.prog ops Q (o :: rest) a w' := by
  obtain ⟨v', w1, hrun, h1, h2, h3⟩ := run_append_rc o.type base v n R g hown hrow hn hbase
  refine wpList_plain hgd fun K hK => ?_
  unfold Oper.wp
  simp [execOp, ho, resolve, invoke, builtin, hs, hx, hrun, Result.andThen]
  exact hK _ _ (h v' w1 h1 h2 h3)
end

end Go.Proofs.YtgihnliipfdokaaGreat.Fx
