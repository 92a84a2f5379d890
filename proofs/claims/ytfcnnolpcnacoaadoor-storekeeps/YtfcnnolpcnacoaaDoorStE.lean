/- What store.Parse returns, whatever text lies there: the record whose line it begins with, or that there is none. -/
import Derived.Test.YtfcnnolpcnacoaaDoorStD
namespace Go.Proofs.YtfcnnolpcnacoaaDoor.Fx
open Go.RowKit

theorem glue_length (b : UInt8) : ∀ (ws : List (List UInt8)) (p : List UInt8), ws.length ≤ (glue b ws p).length ∧ p.length ≤ (glue b ws p).length ∧ ∀ w ∈ ws, w.length ≤ (glue b ws p).length
  | [], p => by simp [glue]
  | w :: ws, p => by
    have ih := glue_length b ws p
    have e : glue b (w :: ws) p = w ++ (b :: glue b ws p) := by simp [glue]
    rw [e]
    simp only [List.length_append, List.length_cons]
    refine ⟨by omega, by omega, fun x hx => ?_⟩
    rcases List.mem_cons.1 hx with rfl | hx
    · omega
    · have := ih.2.2 x hx; omega
theorem words_short (b : UInt8) (l : List UInt8) : (wordsOf b l).length ≤ l.length + 1 ∧ ∀ i, ((wordsOf b l).getD i []).length ≤ l.length := by
  have h := glue_length b (ps b l).1 (ps b l).2
  rw [ps_glue] at h
  refine ⟨by unfold wordsOf; simp; omega, fun i => ?_⟩
  by_cases hi : i < (wordsOf b l).length
  · have hm : (wordsOf b l).getD i [] ∈ wordsOf b l := by
      rw [List.getD_eq_getElem?_getD, List.getElem?_eq_getElem hi, Option.getD_some]; exact List.getElem_mem hi
    generalize (wordsOf b l).getD i [] = x at hm
    unfold wordsOf at hm
    rcases List.mem_append.1 hm with h1 | h1
    · exact h.2.2 x h1
    · rw [List.mem_singleton] at h1; rw [h1]; exact h.2.1
  · rw [List.getD_eq_getElem?_getD, List.getElem?_eq_none (by omega)]; simp
theorem getD_words {l : Ln} {i : Nat} (hi : i < l.nums.length) : l.words.getD i [] = dg (l.nums.getD i 0) := by
  rw [List.getD_eq_getElem?_getD, Ln.words, List.getElem?_map, List.getElem?_eq_getElem hi, List.getD_eq_getElem?_getD, List.getElem?_eq_getElem hi]
  rfl
theorem Ln.ok.at {l : Ln} (h : l.ok) {i : Nat} (hi : i < l.nums.length) : 0 ≤ l.nums.getD i 0 ∧ l.nums.getD i 0 < 2305843009213693951 := h.nums _ (getD_mem hi)
theorem wok_line {l : Ln} (h : l.ok) {i : Nat} (hi : i < l.nums.length) : Lib.parseUintB 64 (l.words.getD i []) = .ok (l.nums.getD i 0).toNat := by
  have := h.at hi
  rw [getD_words hi]
  exact dec_parseB _ (by omega)
theorem pv_line {l : Ln} (h : l.ok) {i : Nat} (hi : i < l.nums.length) : pv l.words i = l.nums.getD i 0 := by
  have := h.at hi
  rw [pv_of (wok_line h hi)]
  omega
theorem wrapN {z : Int} (h : 0 ≤ z ∧ z < 2305843009213693951) : IntKind.i64.wrap z = z := wrap_in z (by omega) (by omega)
theorem read_line {l : Ln} (h : l.ok) : readLn l.words = l := by
  have hn : l.nums.length = l.b.length + 4 := by simp [Ln.nums]
  have a0 := pv_line h (i := 0) (by omega)
  have a1 := pv_line h (i := 1) (by omega)
  have a2 := pv_line h (i := 2) (by omega)
  have a3 := pv_line h (i := 3) (by omega)
  have w0 := wrapN (h.at (i := 0) (by omega))
  have w1 := wrapN (h.at (i := 1) (by omega))
  obtain ⟨s, r, root, chain, b⟩ := l
  simp only [readLn, a0, a1, a2, a3, w0, w1]
  simp only [Ln.mk.injEq]
  refine ⟨rfl, rfl, rfl, rfl, ?_⟩
  apply List.ext_getElem
  · simp [Ln.words_len]
  · intro i h1 h2
    simp only [List.getElem_map, List.getElem_range]
    rw [pv_line h (by rw [hn]; dsimp only; omega), wrapN (h.at (by rw [hn]; dsimp only; omega))]
    rw [List.getD_eq_getElem?_getD, Nat.add_comm]
    simp [Ln.nums, h2]
theorem no_line {s : List UInt8} {k : Nat} (hk : 78 ≤ k ∨ s.length ≤ k) (h : (10 : UInt8) ∉ s.take k) (l : Ln) : ¬ IsLine s l := by
  intro hl
  have hp : l.text <+: s.take k := by
    rcases hk with hk | hk
    · exact hl.take hk
    · rw [List.take_of_length_le hk]; exact hl.2
  exact h (hp.subset (by simp [Ln.text]))

theorem str_eq {a b : ByteArray} (h : a = b) : (a.toList == b.toList) = true := by subst h; simp
theorem str_ne {a b : ByteArray} (h : ¬ a = b) : (a.toList == b.toList) = false := by
  rw [beq_eq_false_iff_ne]
  intro e
  rw [ByteArray.toList_eq, ByteArray.toList_eq] at e
  exact h (Go.WideShapes.bytes_inj e)
/-- What Parse tells of a text. -/
def ParseR (s : List UInt8) (w : World) (e : Ending) (w' : World) : Prop :=
  (∃ (l : Ln) (x : Rcm), IsLine s l ∧ x.ln l.b = l ∧ Lst w' x.a x.n x.k l.b ∧ (∀ bb oo, x.a = some ⟨bb, oo, none⟩ → w.heap.size ≤ bb) ∧ e = .returned (.tuple #[x.val, .int .i64 l.text.length, .int .i64 0])) ∨ ((∀ l, ¬ IsLine s l) ∧ e = .returned (.tuple #[zeroR.val, .int .i64 0, .int .i64 5]))
theorem take_arr (s : List UInt8) (k : Nat) : (⟨s.toArray⟩ : ByteArray).extract 0 k = ⟨(s.take k).toArray⟩ := by
  apply ByteArray.ext
  apply Array.toList_inj.1
  rw [Lib.extract_from_zero]

set_option maxRecDepth 100000 in
set_option maxHeartbeats 6400000 in
theorem parse_calls (s : List UInt8) (w : World) (hs : s.length ≤ 9223372036854775807) (hL : LD w) :
    Calls Tryd.prog 35 #[.string ⟨s.toArray⟩] w fun e w' => ParseR s w e w' ∧ Below w.heap.size w w' := by
  obtain ⟨M, HM⟩ : ∃ M, Hid ((min (s.length : Int) 78).toNat = M) := ⟨_, rfl⟩
  have hM : 78 ≤ M ∨ s.length ≤ M := by have := HM.out; omega
  have hM2 : M ≤ 78 := by have := HM.out; omega
  obtain ⟨T, HT⟩ : ∃ T, Hid (s.take M = T) := ⟨_, rfl⟩
  have hTl : T.length ≤ 78 := by rw [← HT.out, List.length_take]; omega
  have HX : Hid ((⟨s.toArray⟩ : ByteArray).extract 0 (min (s.length : Int) 78).toNat = ⟨T.toArray⟩) := by show _ = _; rw [HM.out, take_arr, HT.out]
  have hal := (Below.refl w.heap.size w).alloc (Nat.le_refl _) (.cells #[.int .i64 0, .slice none 0 0, .int .i64 0, .int .u64 0, .int .u64 0] 31)
  have R0 := fn5_alloc w (.int .i64 0) (.slice none 0 0) (.int .i64 0) (.int .u64 0) (.int .u64 0) 31
  obtain ⟨W, HW⟩ : ∃ W, Hid (w.alloc (.cells #[.int .i64 0, .slice none 0 0, .int .i64 0, .int .u64 0, .int .u64 0] 31) = W) := ⟨_, rfl⟩
  rw [HW.out] at hal R0
  have LW := hL.below hal (Nat.le_refl _)
  obtain ⟨S, HS⟩ : ∃ S : ByteArray, Hid ((⟨s.toArray⟩ : ByteArray) = S) := ⟨_, rfl⟩
  have hSs : S.size = s.length := by rw [← HS.out]; rfl
  have HX2 : Hid (S.extract 0 (min (s.length : Int) 78).toNat = ⟨T.toArray⟩) := by show _ = _; rw [← HS.out]; exact HX.out
  clear HX hL
  by_cases hin : (10 : UInt8) ∈ T
  rotate_left
  · have HC := Lib.hid (cut_calls T 10 (by omega) W LW)
    rw [cut_not 10 T hin] at HC
    have HE : Hid (∀ l, ¬ IsLine s l) := fun l => no_line hM (by rw [HT.out]; exact hin) l
    rw [HS.out]
    clear hin
    go_enter Tryd.func35, Tryd.ntmps35
    go_wp2_with fail
    rw [HX2.out, HW.out]
    refine HC.out.mono ?_
    rintro e w1 ⟨rfl, hw1⟩
    have R1 := R0.of_block (hw1.block _ R0.lt)
    have T1 := hal.trans (hw1.mono hal.size)
    obtain ⟨d0, d1, d2, d3, d4⟩ := fn5_ret R1
    have f0 := R1.frozen 0
    have f1 := R1.frozen 1
    have f2 := R1.frozen 2
    have f3 := R1.frozen 3
    have f4 := R1.frozen 4
    go_wp2
    have R2 := fn5_set R1 (.int .i64 0) (.slice none 0 0) (.int .i64 0) (.int .u64 0) (.int .u64 0)
    obtain ⟨e0, e1, e2, e3, e4⟩ := fn5_ret R2
    exact bodyPost_ret (v := .tuple #[.agg #[.int .i64 0, .slice none 0 0, .int .i64 0, .int .u64 0, .int .u64 0], .int .i64 0, .int .i64 5]) (by simp [results, Tryd.results35, go_sem, e0, e1, e2, e3, e4]) rfl ⟨.inr ⟨HE.out, rfl⟩, below_set5 T1 (Nat.le_refl _) _ _ _ _ _⟩
  · obtain ⟨l, r, hTe, hln⟩ := first_at hin
    have HC := Lib.hid (cut_calls T 10 (by omega) W LW)
    rw [hTe, cut_at 10 l r hln, ← hTe] at HC
    have hll : l.length ≤ 78 := by rw [hTe] at hTl; simp at hTl; omega
    have HP : Hid (l ++ [10] <+: s) := by
      show _ <+: _
      have h1 : l ++ [10] <+: T := ⟨r, by rw [hTe]; simp⟩
      rw [← HT.out] at h1
      exact h1.trans (List.take_prefix _ _)
    have HU : Hid (∀ m, IsLine s m → m.line = l) := fun m hm => line_unique hm hln HP.out
    have HSp := Lib.hid (fun q (hq : Below W.heap.size W q) => split_calls l 32 (by omega) q (LW.below hq (Nat.le_refl _)))
    have hws := words_short 32 l
    have HWd : Hid (∀ m, IsLine s m → m.words = wordsOf 32 l) := fun m hm => by rw [← m.wordsOf, HU.out m hm]
    have HRd : Hid (∀ q a n, Below W.heap.size W q → LstS q a n n (wordsOf 32 l) → Calls Tryd.prog 48 #[.slice a n n] q fun e w' => ReadR (wordsOf 32 l) q e w' ∧ Below q.heap.size q w') := fun q a n hq h => read_calls a n n _ q h (by rw [← h.len]; omega) (fun i _ => Nat.le_trans (hws.2 i) (by omega)) (LW.below hq (Nat.le_refl _))
    obtain ⟨L, HLb⟩ : ∃ L : ByteArray, Hid ((⟨l.toArray⟩ : ByteArray) = L) := ⟨_, rfl⟩
    have hLs : L.size ≤ 78 := by rw [← HLb.out]; exact hll
    rw [HLb.out] at HC HSp
    rw [HS.out]
    clear hin hTe hln hws
    go_enter Tryd.func35, Tryd.ntmps35
    go_wp2_with fail
    rw [HX2.out, HW.out]
    refine HC.out.mono ?_
    rintro e w1 ⟨rfl, hw1⟩
    go_wp2_with fail
    refine (HSp.out _ hw1).mono ?_
    rintro e w2 ⟨n, a, rfl, LS, hw2⟩
    have T2 := hw1.trans (hw2.mono hw1.size)
    go_wp2_with fail
    refine (HRd.out _ a n T2 LS).mono ?_
    rintro e w3 ⟨hr, hw3⟩
    have T3 := T2.trans (hw3.mono T2.size)
    have hb3 := hal.trans (T3.mono hal.size)
    have R3 := R0.of_block (T3.block _ R0.lt)
    rcases hr with ⟨h4, hok, x, hx, rfl, LB, LBf⟩ | ⟨hbad, rfl⟩
    · have HG : Hid (∀ m, IsLine s m → readLn (wordsOf 32 l) = m) := fun m hm => by rw [← HWd.out m hm]; exact read_line hm.1
      have HPr : Hid (∀ q, Below w3.heap.size w3 q → Calls Tryd.prog 20 #[x.val] q fun e w' => PrintR (readLn (wordsOf 32 l)) e ∧ Below q.heap.size q w') := fun q hq => by
        have hroot : x.root = (readLn (wordsOf 32 l)).root := by rw [← hx]; rfl
        have hchain : x.chain = (readLn (wordsOf 32 l)).chain := by rw [← hx]; rfl
        have h := print_calls x (readLn (wordsOf 32 l)).b q (LB.below hq (Nat.le_refl _)) (by rw [hroot]; exact pv_range.1) (by rw [hchain]; exact pv_range.1) (LW.below (T3.trans (hq.mono T3.size)) (Nat.le_refl _))
        rw [hx] at h
        exact h
      have HX3 := Lib.hid hx
      generalize readLn (wordsOf 32 l) = m at *
      have HFr : Hid (∀ bb oo, x.a = some ⟨bb, oo, none⟩ → w.heap.size < bb) := fun bb oo e => by
        have h1 := LBf bb oo e
        have h2 := T2.size
        have h3 := R0.lt
        omega
      clear hx h4 hok LBf
      obtain ⟨xs, xa, xn, xk, xr, xroot, xchain⟩ := x
      simp only [Rcm.val, Rcm.cells] at *
      have T4 := T3.alloc T3.size (.cells #[.int .i64 xs, .slice xa xn xk, .int .i64 xr, .int .u64 xroot, .int .u64 xchain] 31)
      have T34 : Below w3.heap.size w3 (w3.alloc (.cells #[.int .i64 xs, .slice xa xn xk, .int .i64 xr, .int .u64 xroot, .int .u64 xchain] 31)) := (Below.refl _ _).alloc (Nat.le_refl _) _
      have BX := fn5_alloc w3 (.int .i64 xs) (.slice xa xn xk) (.int .i64 xr) (.int .u64 xroot) (.int .u64 xchain) 31
      obtain ⟨b0, b1, b2, b3, b4⟩ := fn5_ret BX
      go_wp2_with fail
      refine (HPr.out _ T34).mono ?_
      rintro e w5 ⟨hp, hw5⟩
      have T5 := T4.trans (hw5.mono T4.size)
      have hb5 := hal.trans (T5.mono hal.size)
      have RX := R0.of_block (T5.block _ R0.lt)
      have B5 := BX.of_block (hw5.block _ BX.lt)
      have LB5 := LB.below (T34.trans (hw5.mono T34.size)) (Nat.le_refl _)
      clear b0 b1 b2 b3 b4
      obtain ⟨b0, b1, b2, b3, b4⟩ := fn5_ret B5
      rcases hp with ⟨hmok, rfl⟩ | ⟨hmok, rfl⟩
      · obtain ⟨TX, HTX⟩ : ∃ X : ByteArray, Hid ((⟨m.text.toArray⟩ : ByteArray) = X) := ⟨_, rfl⟩
        rw [HTX.out]
        have hcat : ¬ 9223372036854775807 < L.size + 1 := by omega
        by_cases heq : TX = L ++ ⟨#[10]⟩
        · have HI : Hid (IsLine s m) := by
            refine ⟨hmok, ?_⟩
            have e : m.text = l ++ [10] := by
              rw [← HTX.out, ← HLb.out, cat_arr] at heq
              have := congrArg (fun (x : ByteArray) => x.data.toList) heq
              exact this
            rw [e]
            exact HP.out
          have hts : TX.size = m.text.length := by rw [← HTX.out]; rfl
          have hne := str_eq heq
          clear heq hmok
          obtain ⟨d0, d1, d2, d3, d4⟩ := fn5_ret RX
          have f0 := RX.frozen 0
          have f1 := RX.frozen 1
          have f2 := RX.frozen 2
          have f3 := RX.frozen 3
          have f4 := RX.frozen 4
          go_wp2
          have R2 := fn5_set RX (.int .i64 xs) (.slice xa xn xk) (.int .i64 xr) (.int .u64 xroot) (.int .u64 xchain)
          obtain ⟨e0, e1, e2, e3, e4⟩ := fn5_ret R2
          have LB6 : Lst (((((w5.setCell ⟨w.heap.size, 0, none⟩ (.int .i64 xs)).setCell ⟨w.heap.size, 1, none⟩ (.slice xa xn xk)).setCell ⟨w.heap.size, 2, none⟩ (.int .i64 xr)).setCell ⟨w.heap.size, 3, none⟩ (.int .u64 xroot)).setCell ⟨w.heap.size, 4, none⟩ (.int .u64 xchain)) xa xn xk m.b := by
            obtain ⟨l1, l2, l3⟩ := LB5
            refine ⟨l1, l2, l3.imp id ?_⟩
            rintro ⟨bb, oo, rfl, hs, hc⟩
            refine ⟨bb, oo, rfl, by simpa only [World.size_setCell] using hs, fun i hi => ?_⟩
            have hne : bb ≠ w.heap.size := by have := HFr.out bb oo rfl; omega
            have hne2 : ∀ o, (⟨w.heap.size, o, none⟩ : Addr) ≠ ⟨bb, oo + i, none⟩ := fun o e => by injection e with e; exact hne e.symm
            rw [World.cell?_setCell_other _ _ _ _ (hne2 _), World.cell?_setCell_other _ _ _ _ (hne2 _), World.cell?_setCell_other _ _ _ _ (hne2 _), World.cell?_setCell_other _ _ _ _ (hne2 _), World.cell?_setCell_other _ _ _ _ (hne2 _)]
            exact hc i hi
          exact bodyPost_ret (v := .tuple #[.agg #[.int .i64 xs, .slice xa xn xk, .int .i64 xr, .int .u64 xroot, .int .u64 xchain], .int .i64 m.text.length, .int .i64 0]) (by simp [results, Tryd.results35, go_sem, e0, e1, e2, e3, e4]) rfl ⟨.inl ⟨m, ⟨xs, xa, xn, xk, xr, xroot, xchain⟩, HI.out, HX3.out, LB6, fun bb oo e => by have := HFr.out bb oo e; omega, rfl⟩, below_set5 hb5 (Nat.le_refl _) _ _ _ _ _⟩
        · have HE : Hid (∀ m, ¬ IsLine s m) := fun m' hm => by
            have e := HG.out m' hm
            subst e
            refine heq ?_
            rw [← HTX.out, ← HLb.out, cat_arr, ← HU.out m hm]
            rfl
          have hne := str_ne heq
          clear heq hmok
          obtain ⟨d0, d1, d2, d3, d4⟩ := fn5_ret RX
          have f0 := RX.frozen 0
          have f1 := RX.frozen 1
          have f2 := RX.frozen 2
          have f3 := RX.frozen 3
          have f4 := RX.frozen 4
          go_wp2
          have R2 := fn5_set RX (.int .i64 0) (.slice none 0 0) (.int .i64 0) (.int .u64 0) (.int .u64 0)
          obtain ⟨e0, e1, e2, e3, e4⟩ := fn5_ret R2
          exact bodyPost_ret (v := .tuple #[.agg #[.int .i64 0, .slice none 0 0, .int .i64 0, .int .u64 0, .int .u64 0], .int .i64 0, .int .i64 5]) (by simp [results, Tryd.results35, go_sem, e0, e1, e2, e3, e4]) rfl ⟨.inr ⟨HE.out, rfl⟩, below_set5 hb5 (Nat.le_refl _) _ _ _ _ _⟩
      · have HE : Hid (∀ m, ¬ IsLine s m) := fun m' hm => by
          have e := HG.out m' hm
          subst e
          exact hmok hm.1
        clear hmok
        obtain ⟨d0, d1, d2, d3, d4⟩ := fn5_ret RX
        have f0 := RX.frozen 0
        have f1 := RX.frozen 1
        have f2 := RX.frozen 2
        have f3 := RX.frozen 3
        have f4 := RX.frozen 4
        go_wp2
        have R2 := fn5_set RX (.int .i64 0) (.slice none 0 0) (.int .i64 0) (.int .u64 0) (.int .u64 0)
        obtain ⟨e0, e1, e2, e3, e4⟩ := fn5_ret R2
        exact bodyPost_ret (v := .tuple #[.agg #[.int .i64 0, .slice none 0 0, .int .i64 0, .int .u64 0, .int .u64 0], .int .i64 0, .int .i64 5]) (by simp [results, Tryd.results35, go_sem, e0, e1, e2, e3, e4]) rfl ⟨.inr ⟨HE.out, rfl⟩, below_set5 hb5 (Nat.le_refl _) _ _ _ _ _⟩
    · have HE : Hid (∀ m, ¬ IsLine s m) := fun m hm => by
        have hw := HWd.out m hm
        rcases hbad with h | ⟨i, hi, hni⟩
        · rw [← hw, Ln.words_len] at h; omega
        · rw [← hw, Ln.words, List.length_map] at hi
          rw [← hw] at hni
          exact hni ⟨_, wok_line hm.1 hi⟩
      clear hbad
      have RX := R3.alloc (.cells #[.int .i64 0, .slice none 0 0, .int .i64 0, .int .u64 0, .int .u64 0] 31)
      have hb4 := hb3.alloc hb3.size (.cells #[.int .i64 0, .slice none 0 0, .int .i64 0, .int .u64 0, .int .u64 0] 31)
      obtain ⟨d0, d1, d2, d3, d4⟩ := fn5_ret RX
      have f0 := RX.frozen 0
      have f1 := RX.frozen 1
      have f2 := RX.frozen 2
      have f3 := RX.frozen 3
      have f4 := RX.frozen 4
      unfold zeroR Rcm.val Rcm.cells
      dsimp only
      go_wp2
      have R2 := fn5_set RX (.int .i64 0) (.slice none 0 0) (.int .i64 0) (.int .u64 0) (.int .u64 0)
      obtain ⟨e0, e1, e2, e3, e4⟩ := fn5_ret R2
      exact bodyPost_ret (v := .tuple #[.agg #[.int .i64 0, .slice none 0 0, .int .i64 0, .int .u64 0, .int .u64 0], .int .i64 0, .int .i64 5]) (by simp [results, Tryd.results35, go_sem, e0, e1, e2, e3, e4]) rfl ⟨.inr ⟨HE.out, rfl⟩, below_set5 hb4 (Nat.le_refl _) _ _ _ _ _⟩
end Go.Proofs.YtfcnnolpcnacoaaDoor.Fx
