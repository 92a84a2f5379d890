/- coachref.ReadLine's walk. -/
import Derived.Test.YtfcnnolpcnacoaaDoorRefStC
namespace Go.Proofs.YtfcnnolpcnacoaaDoor.Fx
open Go.RowKit

/-- While the batch is made: the record's cells, its batch, the numbers, what was there. -/
structure RlBt (w1 : World) (ws : List (List UInt8)) (gN n g : Nat) (s r root chain : Int) (v : Value) (q : Nat) (wr : World) : Prop where
  box : wr.rowIs g 31 5 (fn5 (.int .i64 s) v (.int .i64 r) (.int .u64 root) (.int .u64 chain))
  own : OwnX 3 (g + 1) wr v (((List.range q).map fun i => nv ws (4 + i)).map (Value.int .i64))
  nums : ∀ i, i < n → wr.cell? ⟨gN, i, none⟩ = some (.int .u64 (nv ws i))
  gt : gN < g ∧ w1.heap.size ≤ gN
  old : Below w1.heap.size w1 wr

set_option maxRecDepth 100000 in
set_option maxHeartbeats 6400000 in
theorem readLine_calls (S : ByteArray) (s : List UInt8) (w : World) (hS : Hid (S.data.toList = s)) (hs : S.size ≤ 1048576) (hL : LD w) :
    Calls Tryd.prog 22 #[.string S] w fun e w' => ParseR s w e w' ∧ Below w.heap.size w w' := by
  have hsl : s.length = S.size := by rw [← hS.out]; rfl
  have hal := (Below.refl w.heap.size w).alloc (Nat.le_refl _) (.cells #[.int .i64 0, .slice none 0 0, .int .i64 0, .int .u64 0, .int .u64 0] 31)
  have R0 := fn5_alloc w (.int .i64 0) (.slice none 0 0) (.int .i64 0) (.int .u64 0) (.int .u64 0) 31
  obtain ⟨W, HW⟩ : ∃ W, Hid (w.alloc (.cells #[.int .i64 0, .slice none 0 0, .int .i64 0, .int .u64 0, .int .u64 0] 31) = W) := ⟨_, rfl⟩
  rw [HW.out] at hal R0
  have KL : Hid (∀ q, Below W.heap.size W q → LD q) := fun q hq => hL.below (hal.trans (hq.mono hal.size)) (Nat.le_refl _)
  clear hL
  go_enter Tryd.func22, Tryd.ntmps22
  go_wp2
  rw [HW.out]
  go_loopw [5, 6] (fun e i wr => ∃ (q : Nat) (z : Int), q ≤ S.size ∧ e = .int .i64 z ∧ i = .int .i64 ((q : Int) - 1) ∧ Hid (EndR s q z ∧ -1 ≤ z) ∧ wr = W) (fun _ i _ => (intOf i + 1).toNat)
  case atStart => exact ⟨S.size, -1, Nat.le_refl _, rfl, rfl, ⟨by rw [← hsl]; exact EndR.start s, by omega⟩, rfl⟩
  case round =>
    obtain ⟨q, z, hq, rfl, rfl, HE, hw⟩ := hrel
    replace hw := hw.symm
    subst hw
    by_cases hlt : 0 < q
    · obtain ⟨p, hp⟩ : ∃ p, q = p + 1 := ⟨q - 1, by omega⟩
      subst hp
      have hps : p < S.size := by omega
      obtain ⟨hpl, hb⟩ := byte_at hS.out hps
      have e1 : ((p + 1 : Nat) : Int) - 1 = (p : Int) := by omega
      rw [e1]
      have p0 : (0 : Int) ≤ (p : Int) := by omega
      have p1 : (p : Int) < (S.size : Int) := by omega
      by_cases hc : s[p] = 10
      · have hcb : ((S[p].toNat : Int) == 10) = true := by rw [hb, hc]; rfl
        have HN : Hid (EndR s p (p : Int) ∧ -1 ≤ (p : Int)) := ⟨EndR.hit hpl hc, by omega⟩
        clear hb hc
        go_wp2
        go_roundw
        case rel => exact ⟨p, p, by omega, by trivial, by trivial, HN, by trivial⟩
        case measure => simp [intOf]
      · have hcb : ((S[p].toNat : Int) == 10) = false := by
          rw [hb, beq_eq_false_iff_ne]
          intro e
          apply hc
          apply UInt8.toNat_inj.1
          have : ((10 : UInt8).toNat : Int) = 10 := rfl
          omega
        have HN : Hid (EndR s p z ∧ -1 ≤ z) := ⟨EndR.miss hpl hc HE.out.1, HE.out.2⟩
        clear hb hc
        go_wp2
        go_roundw
        case rel => exact ⟨p, z, by omega, by trivial, by trivial, HN, by trivial⟩
        case measure => simp [intOf]
    · obtain rfl : q = 0 := by omega
      by_cases hz : z < 0
      · have hz1 : z = -1 := by have := HE.out.2; omega
        have HX : Hid (∀ l, ¬ IsLine s l) := fun l => by
          have h := HE.out.1
          rw [hz1] at h
          exact no_line (k := s.length) (.inr (Nat.le_refl _)) (by rw [List.take_length]; exact h.none) l
        obtain ⟨d0, d1, d2, d3, d4⟩ := fn5_ret R0
        have f0 := R0.frozen 0
        have f1 := R0.frozen 1
        have f2 := R0.frozen 2
        have f3 := R0.frozen 3
        have f4 := R0.frozen 4
        go_wp2
        have R2 := fn5_set R0 (.int .i64 0) (.slice none 0 0) (.int .i64 0) (.int .u64 0) (.int .u64 0)
        obtain ⟨e0, e1, e2, e3, e4⟩ := fn5_ret R2
        exact bodyPost_ret (v := .tuple #[.agg #[.int .i64 0, .slice none 0 0, .int .i64 0, .int .u64 0, .int .u64 0], .int .i64 0, .int .i64 5]) (by simp [results, Tryd.results22, go_sem, e0, e1, e2, e3, e4]) rfl ⟨.inr ⟨HX.out, rfl⟩, below_set5 hal (Nat.le_refl _) _ _ _ _ _⟩
      · obtain ⟨K, hzK, hKl, hKn, hKp⟩ := HE.out.1.some (by omega)
        subst hzK
        have k1 : (K : Int) ≤ (S.size : Int) := by omega
        have k0 : (0 : Int) ≤ (K : Int) := by omega
        obtain ⟨LB, HLB⟩ : ∃ B : ByteArray, Hid (S.extract 0 K = B) := ⟨_, rfl⟩
        obtain ⟨l, HLl⟩ : ∃ l, Hid (s.take K = l) := ⟨_, rfl⟩
        have HLd : Hid (LB.data.toList = l) := by show _ = _; rw [← HLB.out, Lib.extract_from_zero, hS.out, HLl.out]
        rw [HLl.out] at hKn hKp
        have hLBs : LB.size ≤ 1048576 := by
          have : LB.size = l.length := by rw [← HLd.out]; rfl
          rw [this, ← HLl.out, List.length_take]
          omega
        have HU : Hid (∀ m, IsLine s m → m.words = wordsOf 32 l) := fun m hm => by rw [← m.wordsOf, line_unique hm hKn hKp]
        have HPf : Hid (l ++ [10] <+: s) := hKp
        have hll : l.length ≤ 1048576 := by
          have : LB.size = l.length := by rw [← HLd.out]; rfl
          omega
        have hll1 : Hid (l.length = K) := by show _ = _; rw [← HLl.out, List.length_take]; omega
        obtain ⟨ws, HWS⟩ : ∃ ws, Hid (wordsOf 32 l = ws) := ⟨_, rfl⟩
        have hwsl : ws.length ≤ 1048577 ∧ 0 < ws.length := by
          have h := (words_short 32 l).1
          have h2 : 0 < (wordsOf 32 l).length := by simp [wordsOf]
          rw [HWS.out] at h h2
          omega
        have HWl : Hid (∀ i, (ws.getD i []).length ≤ 1048576) := fun i => by
          have h := (words_short 32 l).2 i
          rw [HWS.out] at h
          omega
        rw [HWS.out] at HU
        have HJ : Hid (Lib.join ws [32] = l) := by show _ = _; rw [← HWS.out, join_wordsOf]
        have PC := pieces_calls LB l W HLd hLBs
        rw [HWS.out] at PC
        have HPC := Lib.hid PC
        clear PC hKn hKp HE
        go_wp2_with fail
        rw [HLB.out]
        refine HPC.out.mono ?_
        rintro e w1 ⟨gw, n, cw, rfl, LS, hw1⟩
        have HNn : Hid (ws.length = n) := LS.len
        have hn1 : n ≤ 1048577 := by have := HNn.out; omega
        have hn0 : 0 < n := by have := HNn.out; omega
        have KR : Hid (∀ q, Below w1.heap.size w1 q → q.rowIs w.heap.size 31 5 (fn5 (.int .i64 0) (.slice none 0 0) (.int .i64 0) (.int .u64 0) (.int .u64 0)) ∧ Below w.heap.size w q) := fun q hq => by
          have h := hw1.trans (hq.mono hw1.size)
          exact ⟨R0.of_block (h.block _ R0.lt), hal.trans (h.mono hal.size)⟩
        have KLS : Hid (∀ q k, Below w1.heap.size w1 q → k < n → q.cell? ⟨gw, k, none⟩ = some (.string ⟨(ws.getD k []).toArray⟩)) := fun q k hq hk => by
          obtain ⟨b, o, e, _, hc⟩ := LS.at1b hq (Nat.le_refl _) hk
          simp only [Option.some.injEq, Addr.mk.injEq, and_true] at e
          obtain ⟨rfl, rfl⟩ := e
          rw [Nat.zero_add] at hc
          exact hc
        have KL1 : Hid (∀ q, Below w1.heap.size w1 q → LD q) := fun q hq => KL.out q (hw1.trans (hq.mono hw1.size))
        have HBad : Hid (∀ j, j < n → ¬ WhOk ws j → ∀ m, ¬ IsLine s m) := fun j hj hno m hm => by
          have hw := HU.out m hm
          rw [← hw] at hno
          refine hno (whok_line hm.1 ?_)
          have h := HNn.out
          rw [← hw, Ln.words, List.length_map] at h
          omega
        have HRd : Hid (∀ m, IsLine s m → rdLn ws = m) := fun m hm => by rw [← HU.out m hm]; exact rd_line hm.1
        have H4 : Hid (n < 4 → ∀ m, ¬ IsLine s m) := fun h m hm => by
          have h2 := HNn.out
          rw [← HU.out m hm, Ln.words_len] at h2
          omega
        have HGood : Hid ((∀ i, i < n → WhOk ws i) → 4 ≤ n → (rdLn ws).ok → IsLine s (rdLn ws)) := fun h1 h2 h3 => by
          refine ⟨h3, ?_⟩
          have e : (rdLn ws).words = ws := rd_words (by rw [HNn.out]; exact h1) (by rw [HNn.out]; exact h2)
          have e2 : (rdLn ws).text = l ++ [10] := by rw [Ln.text, Ln.line, e, HJ.out]
          rw [e2]
          exact HPf.out
        have HTl : Hid ((∀ i, i < n → WhOk ws i) → 4 ≤ n → (rdLn ws).text.length = K + 1) := fun h1 h2 => by
          have e : (rdLn ws).words = ws := rd_words (by rw [HNn.out]; exact h1) (by rw [HNn.out]; exact h2)
          rw [Ln.text, Ln.line, e, HJ.out, List.length_append, hll1.out]
          rfl
        have hWsz := hw1.size
        have hRlt := R0.lt
        clear LS hwsl
        go_wp2
        go_loopw [8, 9] (fun v i wr => ∃ q : Nat, q ≤ n ∧ i = .int .i64 q ∧ Hid (∀ j, j < q → WhOk ws j) ∧ OwnX 29 w1.heap.size wr v (((List.range q).map (nv ws)).map (Value.int .u64)) ∧ Below w1.heap.size w1 wr) (fun _ i _ => n - (intOf i).toNat)
        case atStart => exact ⟨0, Nat.zero_le _, rfl, fun j hj => by omega, OwnX.nil _ _ _, Below.refl _ _⟩
        case round =>
          obtain ⟨q, hq, rfl, HG, OR, TR⟩ := hrel
          by_cases hlt : q < n
          · have c1 := KLS.out _ q TR hlt
            obtain ⟨X, HX⟩ : ∃ X : ByteArray, Hid ((⟨(ws.getD q []).toArray⟩ : ByteArray) = X) := ⟨_, rfl⟩
            rw [HX.out] at c1
            have HXd : Hid (X.data.toList = ws.getD q []) := by show _ = _; rw [← HX.out]
            have hXs : X.size ≤ 1048576 := by
              have h : X.size = (ws.getD q []).length := by rw [← HX.out]; rfl
              rw [h]
              exact HWl.out q
            have HWh := Lib.hid (whole_calls X (ws.getD q []) wr HXd (by omega) (KL1.out _ TR))
            have qn : (q : Int) < (n : Int) := by omega
            go_wp2_with fail
            refine HWh.out.mono ?_
            rintro e w2 ⟨hu, hw2⟩
            rcases hu with ⟨u, hu1, hu2, rfl⟩ | ⟨hu1, z, rfl⟩
            · have HN : Hid (((List.range q).map (nv ws)).map (Value.int .u64) ++ [.int .u64 (u : Int)] = ((List.range (q + 1)).map (nv ws)).map (Value.int .u64)) := by
                show _ = _
                rw [List.range_succ, List.map_append, List.map_append, List.map_singleton, List.map_singleton, nv_of hu2]
              have HG2 : Hid (∀ j, j < q + 1 → WhOk ws j) := fun j hj => by
                by_cases e : j = q
                · subst e; exact ⟨u, hu1, hu2⟩
                · exact HG.out j (by omega)
              have T3 : Below wr.heap.size wr (w2.alloc (.cells #[.int .u64 (u : Int)] 29)) := hw2.alloc hw2.size _
              have O3 := OR.below T3
              have T4 := TR.trans (T3.mono TR.size)
              have hvl : (((List.range q).map (nv ws)).map (Value.int .u64)).length = q := by simp
              clear hu1 hu2
              go_wp2_with (at_builtin; refine wpList_append_x Tryd.underlying62 infoWordX rfl (by decide) (by rfl) _ _ (by rfl) w1.heap.size _ (((List.range q).map (nv ws)).map (Value.int .u64)) (.int .u64 (u : Int)) w2.heap.size w1 (by rfl) (by rfl) (by exact O3) (by exact cell_new _ _ _) (by rfl) (by rw [hvl]; omega) (by exact T4.size) (by exact T4) ?_; intro v9 w9 O9 T9 _ _)
              go_roundw
              case rel => exact ⟨q + 1, by omega, by go_num, HG2, O9.congr HN.out, T9⟩
              case measure => simp [intOf]; omega
            · have HE : Hid (∀ m, ¬ IsLine s m) := HBad.out q hlt (fun ⟨u, h1, h2⟩ => hu1 u h1 h2)
              have T2 := TR.trans (hw2.mono TR.size)
              obtain ⟨RX, TX⟩ := KR.out _ T2
              clear hu1
              obtain ⟨d0, d1, d2, d3, d4⟩ := fn5_ret RX
              have f0 := RX.frozen 0
              have f1 := RX.frozen 1
              have f2 := RX.frozen 2
              have f3 := RX.frozen 3
              have f4 := RX.frozen 4
              go_wp2
              have R2 := fn5_set RX (.int .i64 0) (.slice none 0 0) (.int .i64 0) (.int .u64 0) (.int .u64 0)
              obtain ⟨e0, e1, e2, e3, e4⟩ := fn5_ret R2
              exact bodyPost_ret (v := .tuple #[.agg #[.int .i64 0, .slice none 0 0, .int .i64 0, .int .u64 0, .int .u64 0], .int .i64 0, .int .i64 5]) (by simp [results, Tryd.results22, go_sem, e0, e1, e2, e3, e4]) rfl ⟨.inr ⟨HE.out, rfl⟩, below_set5 TX (Nat.le_refl _) _ _ _ _ _⟩
          · obtain rfl : q = n := by omega
            by_cases h4 : q < 4
            · have HE : Hid (∀ m, ¬ IsLine s m) := H4.out h4
              have hvl : (((List.range q).map (nv ws)).map (Value.int .u64)).length = q := by simp
              obtain ⟨gN, cN, rfl, hgN, hgNl, hcN, hcell⟩ := OR.row (by rw [hvl]; exact hn0)
              rw [hvl]
              obtain ⟨RX, TX⟩ := KR.out _ TR
              have n4 : (q : Int) < 4 := by omega
              obtain ⟨d0, d1, d2, d3, d4⟩ := fn5_ret RX
              have f0 := RX.frozen 0
              have f1 := RX.frozen 1
              have f2 := RX.frozen 2
              have f3 := RX.frozen 3
              have f4 := RX.frozen 4
              go_wp2
              have R2 := fn5_set RX (.int .i64 0) (.slice none 0 0) (.int .i64 0) (.int .u64 0) (.int .u64 0)
              obtain ⟨e0, e1, e2, e3, e4⟩ := fn5_ret R2
              exact bodyPost_ret (v := .tuple #[.agg #[.int .i64 0, .slice none 0 0, .int .i64 0, .int .u64 0, .int .u64 0], .int .i64 0, .int .i64 5]) (by simp [results, Tryd.results22, go_sem, e0, e1, e2, e3, e4]) rfl ⟨.inr ⟨HE.out, rfl⟩, below_set5 TX (Nat.le_refl _) _ _ _ _ _⟩
            · have hvl : (((List.range q).map (nv ws)).map (Value.int .u64)).length = q := by simp
              obtain ⟨gN, cN, rfl, hgN, hgNl, hcN, hcell⟩ := OR.row (by rw [hvl]; exact hn0)
              have HNum : Hid (∀ i, i < q → wr.cell? ⟨gN, i, none⟩ = some (.int .u64 (nv ws i))) := fun i hi => hcell i _ (by simp [hi])
              rw [hvl] at hcN ⊢
              clear hcell
              obtain ⟨p0, HP0⟩ : ∃ p, Hid (nv ws 0 = p) := ⟨_, rfl⟩
              obtain ⟨p1, HP1⟩ : ∃ p, Hid (nv ws 1 = p) := ⟨_, rfl⟩
              obtain ⟨p2, HP2⟩ : ∃ p, Hid (nv ws 2 = p) := ⟨_, rfl⟩
              obtain ⟨p3, HP3⟩ : ∃ p, Hid (nv ws 3 = p) := ⟨_, rfl⟩
              have c0 : wr.cell? ⟨gN, 0, none⟩ = some (.int .u64 p0) := by rw [HNum.out 0 (by omega), HP0.out]
              have c1 : wr.cell? ⟨gN, 1, none⟩ = some (.int .u64 p1) := by rw [HNum.out 1 (by omega), HP1.out]
              have c2 : wr.cell? ⟨gN, 2, none⟩ = some (.int .u64 p2) := by rw [HNum.out 2 (by omega), HP2.out]
              have c3 : wr.cell? ⟨gN, 3, none⟩ = some (.int .u64 p3) := by rw [HNum.out 3 (by omega), HP3.out]
              have m0 : 0 < q := by omega
              have m1 : 1 < q := by omega
              have m2 : 2 < q := by omega
              have m3 : 3 < q := by omega
              have n0 : (0 : Int) < (q : Int) := by omega
              have n1 : (1 : Int) < (q : Int) := by omega
              have n2 : (2 : Int) < (q : Int) := by omega
              have n3 : (3 : Int) < (q : Int) := by omega
              have n4 : ¬ (q : Int) < 4 := by omega
              have p00 : 0 ≤ p0 := by rw [← HP0.out]; unfold nv; omega
              have p10 : 0 ≤ p1 := by rw [← HP1.out]; unfold nv; omega
              obtain ⟨RX, TX⟩ := KR.out _ TR
              by_cases h99 : 99 < p0
              · have HE : Hid (∀ m, ¬ IsLine s m) := fun m hm => by
                  have e := HRd.out m hm
                  have h := hm.1.s.2
                  rw [← e] at h
                  have h2 : (rdLn ws).s = p0 := HP0.out
                  omega
                obtain ⟨d0, d1, d2, d3, d4⟩ := fn5_ret RX
                have f0 := RX.frozen 0
                have f1 := RX.frozen 1
                have f2 := RX.frozen 2
                have f3 := RX.frozen 3
                have f4 := RX.frozen 4
                go_wp2
                have R2 := fn5_set RX (.int .i64 0) (.slice none 0 0) (.int .i64 0) (.int .u64 0) (.int .u64 0)
                obtain ⟨e0, e1, e2, e3, e4⟩ := fn5_ret R2
                exact bodyPost_ret (v := .tuple #[.agg #[.int .i64 0, .slice none 0 0, .int .i64 0, .int .u64 0, .int .u64 0], .int .i64 0, .int .i64 5]) (by simp [results, Tryd.results22, go_sem, e0, e1, e2, e3, e4]) rfl ⟨.inr ⟨HE.out, rfl⟩, below_set5 TX (Nat.le_refl _) _ _ _ _ _⟩
              · by_cases hto : 2147483647 < p1
                · have HE : Hid (∀ m, ¬ IsLine s m) := fun m hm => by
                    have e := HRd.out m hm
                    have h := hm.1.r.2
                    rw [← e] at h
                    have h2 : (rdLn ws).r = p1 := HP1.out
                    omega
                  obtain ⟨d0, d1, d2, d3, d4⟩ := fn5_ret RX
                  have f0 := RX.frozen 0
                  have f1 := RX.frozen 1
                  have f2 := RX.frozen 2
                  have f3 := RX.frozen 3
                  have f4 := RX.frozen 4
                  go_wp2
                  have R2 := fn5_set RX (.int .i64 0) (.slice none 0 0) (.int .i64 0) (.int .u64 0) (.int .u64 0)
                  obtain ⟨e0, e1, e2, e3, e4⟩ := fn5_ret R2
                  exact bodyPost_ret (v := .tuple #[.agg #[.int .i64 0, .slice none 0 0, .int .i64 0, .int .u64 0, .int .u64 0], .int .i64 0, .int .i64 5]) (by simp [results, Tryd.results22, go_sem, e0, e1, e2, e3, e4]) rfl ⟨.inr ⟨HE.out, rfl⟩, below_set5 TX (Nat.le_refl _) _ _ _ _ _⟩
                · have y0 : IntKind.i64.wrap p0 = p0 := wrap_in _ (by omega) (by omega)
                  have y1 : IntKind.i64.wrap p1 = p1 := wrap_in _ (by omega) (by omega)
                  have y2 : wrap64 p0 = p0 := by rw [wrap64]; omega
                  have y3 : wrap64 p1 = p1 := by rw [wrap64]; omega
                  have T0 : Below wr.heap.size wr wr := Below.refl _ _
                  have hle : wr.heap.size ≤ wr.heap.size := Nat.le_refl _
                  have KS : Hid (∀ q, Below wr.heap.size wr q → q.cell? ⟨gN, 0, none⟩ = some (.int .u64 p0) ∧ q.cell? ⟨gN, 1, none⟩ = some (.int .u64 p1) ∧ q.cell? ⟨gN, 2, none⟩ = some (.int .u64 p2) ∧ q.cell? ⟨gN, 3, none⟩ = some (.int .u64 p3)) := fun q hq => ⟨(hq.cell (p := ⟨gN, 0, none⟩) hgNl).trans c0, (hq.cell (p := ⟨gN, 1, none⟩) hgNl).trans c1, (hq.cell (p := ⟨gN, 2, none⟩) hgNl).trans c2, (hq.cell (p := ⟨gN, 3, none⟩) hgNl).trans c3⟩
                  clear OR
                  go_wp2
                  clear c0 c1 c2 c3
                  go_region_held3 (fun q => q.cell? ⟨gN, 0, none⟩ = some (.int .u64 p0) ∧ q.cell? ⟨gN, 1, none⟩ = some (.int .u64 p1) ∧ q.cell? ⟨gN, 2, none⟩ = some (.int .u64 p2) ∧ q.cell? ⟨gN, 3, none⟩ = some (.int .u64 p3)) ((with_reducible refine KS.out _ ?_; iterate 12 (first | done | with_reducible exact T0 | with_reducible refine Below.drew ?_ | with_reducible refine alS ?_ hle | (with_reducible refine setS ?_ ?_; rotate_left; omega)))) (fail)
                  have TW : Below wr.heap.size wr (wr.alloc (.cells #[.int .i64 p0, .slice none 0 0, .int .i64 p1, .int .u64 p2, .int .u64 p3] 31)).drew := Below.drew (T0.alloc hle _)
                  have RB : RlBt w1 ws gN q wr.heap.size p0 p1 p2 p3 (.slice none 0 0) 0 (wr.alloc (.cells #[.int .i64 p0, .slice none 0 0, .int .i64 p1, .int .u64 p2, .int .u64 p3] 31)).drew :=
                    ⟨fn5_alloc wr (.int .i64 p0) (.slice none 0 0) (.int .i64 p1) (.int .u64 p2) (.int .u64 p3) 31, OwnX.nil _ _ _, fun i hi => (TW.cell (p := ⟨gN, i, none⟩) hgNl).trans (HNum.out i hi), ⟨hgNl, hgN⟩, TR.trans (TW.mono TR.size)⟩
                  generalize hWn : (wr.alloc (.cells #[.int .i64 p0, .slice none 0 0, .int .i64 p1, .int .u64 p2, .int .u64 p3] 31)).drew = Wn at *
                  clear hWn T0 hle KS y0 y1 y2 y3 TW HNum
                  generalize hg9 : wr.heap.size = g9 at *
                  clear hg9
                  have HF : Hid (∀ v q2, RlBt w1 ws gN q g9 p0 p1 p2 p3 v (q - 4) q2 → ∃ a c, v = .slice a (q - 4) c ∧ Lst q2 a (q - 4) c (rdLn ws).b ∧ ∀ bb oo, a = some ⟨bb, oo, none⟩ → g9 < bb) := fun v q2 h => by
                    obtain ⟨a, c, e, l, hb9⟩ := h.own.intsB
                    have hb : (rdLn ws).b = (List.range (q - 4)).map fun i => nv ws (4 + i) := by
                      show (List.range (ws.length - 4)).map _ = _
                      rw [HNn.out]
                    rw [List.length_map, List.length_range] at e l
                    exact ⟨a, c, e, by rw [hb]; exact l, hb9⟩
                  go_wp2
                  go_loopw [13] (fun i wr => ∃ (k : Nat) (v : Value), 4 ≤ k ∧ k ≤ q ∧ i = .int .i64 k ∧ RlBt w1 ws gN q g9 p0 p1 p2 p3 v (k - 4) wr) (fun i _ => q - (intOf i).toNat)
                  case atStart => exact ⟨4, _, Nat.le_refl _, by omega, rfl, RB⟩
                  case round =>
                    generalize hwr : wr = wz at *
                    clear hwr
                    obtain ⟨k, v, hk4, hkq, rfl, R⟩ := hrel
                    by_cases hlt : k < q
                    · obtain ⟨z, HZ⟩ : ∃ z, Hid (nv ws k = z) := ⟨_, rfl⟩
                      have c1 := R.nums k hlt
                      rw [HZ.out] at c1
                      have z0 : 0 ≤ z := by rw [← HZ.out]; unfold nv; omega
                      have kq : (k : Int) < (q : Int) := by omega
                      have k00 : (0 : Int) ≤ (k : Int) := by omega
                      by_cases h99b : 99 < z
                      · have HE : Hid (∀ m, ¬ IsLine s m) := fun m hm => by
                          have e := HRd.out m hm
                          have h := hm.1.b z (by
                            rw [← e]
                            refine List.mem_map.2 ⟨k - 4, List.mem_range.2 (by rw [HNn.out]; omega), ?_⟩
                            rw [show 4 + (k - 4) = k by omega, HZ.out])
                          omega
                        obtain ⟨RX, TX⟩ := KR.out _ R.old
                        obtain ⟨d0, d1, d2, d3, d4⟩ := fn5_ret RX
                        have f0 := RX.frozen 0
                        have f1 := RX.frozen 1
                        have f2 := RX.frozen 2
                        have f3 := RX.frozen 3
                        have f4 := RX.frozen 4
                        go_wp2
                        have R2 := fn5_set RX (.int .i64 0) (.slice none 0 0) (.int .i64 0) (.int .u64 0) (.int .u64 0)
                        obtain ⟨e0, e1, e2, e3, e4⟩ := fn5_ret R2
                        exact bodyPost_ret (v := .tuple #[.agg #[.int .i64 0, .slice none 0 0, .int .i64 0, .int .u64 0, .int .u64 0], .int .i64 0, .int .i64 5]) (by simp [results, Tryd.results22, go_sem, e0, e1, e2, e3, e4]) rfl ⟨.inr ⟨HE.out, rfl⟩, below_set5 TX (Nat.le_refl _) _ _ _ _ _⟩
                      · have y0 : IntKind.i64.wrap z = z := wrap_in _ (by omega) (by omega)
                        have y1 : wrap64 z = z := by rw [wrap64]; omega
                        obtain ⟨d0, d1, d2, d3, d4⟩ := fn5_ret R.box
                        have hal1 : Below wz.heap.size wz (wz.drew.alloc (.cells #[.int .i64 z] 3)) := (Below.drew (Below.refl _ _)).alloc (Nat.le_refl _) _
                        have hal2 : Below wz.heap.size wz (wz.alloc (.cells #[.int .i64 z] 3)).drew := Below.drew ((Below.refl _ _).alloc (Nat.le_refl _) _)
                        have d1a := (hal1.cell (p := ⟨g9, 1, none⟩) R.box.lt).trans d1
                        have d1b := (hal2.cell (p := ⟨g9, 1, none⟩) R.box.lt).trans d1
                        have O1 := R.own.below hal1
                        have O2 := R.own.below hal2
                        have hBs : g9 + 1 ≤ (wz.drew.alloc (.cells #[.int .i64 z] 3)).heap.size := Nat.le_trans R.box.lt hal1.size
                        have hB1 : Below (g9 + 1) wz (wz.drew.alloc (.cells #[.int .i64 z] 3)) := hal1.mono R.box.lt
                        have HR : Hid (((List.range (k - 4)).map fun i => nv ws (4 + i)).map (Value.int .i64) ++ [.int .i64 z] = ((List.range (k + 1 - 4)).map fun i => nv ws (4 + i)).map (Value.int .i64)) := by
                          show _ = _
                          rw [show k + 1 - 4 = (k - 4) + 1 by omega, List.range_succ, List.map_append, List.map_append, List.map_singleton, List.map_singleton, show 4 + (k - 4) = k by omega, HZ.out]
                        generalize hVS : ((List.range (k - 4)).map fun i => nv ws (4 + i)).map (Value.int .i64) = VS at *
                        have hvl : VS.length = k - 4 := by rw [← hVS]; simp
                        have HVS := Lib.hid hVS
                        clear hVS
                        go_wp2
                        go_region_law (first | (refine step_append_x Tryd.underlying28 infoIntX rfl (by decide) (by rfl) _ _ (by rfl) (g9 + 1) _ VS (.int .i64 z) wz.heap.size wz (by rfl) (by rfl) (by first | exact O1 | exact O2) (by exact cell_new _ _ _) (by rfl) (by rw [hvl]; omega) (by exact hBs) (by exact hB1) ?_; intro v9 w9 O9 T9 _ _; obtain ⟨a9, c9, hv9, _⟩ := (O9.congr HR.out).ints; rw [List.length_map, List.length_range] at hv9; subst hv9; have d9 := (fn5_ret (R.box.of_block (T9.block _ (Nat.lt_succ_self _)))).2.1; have f9 := (R.box.of_block (T9.block _ (Nat.lt_succ_self _))).frozen 1))
                        all_goals
                          go_wp2
                          go_roundw
                          case rel =>
                            have hgt := R.gt
                            refine ⟨k + 1, .slice a9 (k + 1 - 4) c9, by omega, by omega, by go_num, ⟨?_, ?_, ?_, R.gt, ?_⟩⟩
                            · exact fn5_set1 (R.box.of_block (T9.block _ (Nat.lt_succ_self _))) _
                            · exact ownsRow_setCell_below (O9.congr HR.out) (Nat.lt_succ_self _) _
                            · intro i hi
                              rw [World.cell?_setCell_other _ _ _ _ (by intro e; injection e with e; omega)]
                              exact (T9.cell (p := ⟨gN, i, none⟩) (show gN < g9 + 1 by omega)).trans (R.nums i hi)
                            · exact (R.old.trans (T9.mono (by omega))).setCell (show w1.heap.size ≤ g9 by omega) _
                          case measure => simp [intOf]; omega
                    · obtain rfl : k = q := by omega
                      obtain ⟨av, cv, rfl, LB2, LBb⟩ := HF.out _ _ R
                      have HLB2 := Lib.hid LBb
                      clear LBb
                      have HLn := Lib.hid (rline_calls ⟨p0, av, k - 4, cv, p1, p2, p3⟩ (rdLn ws).b wz LB2 (by show 0 ≤ p2; rw [← HP2.out]; unfold nv; omega) (by show 0 ≤ p3; rw [← HP3.out]; unfold nv; omega) (by show k - 4 ≤ _; omega))
                      have HEq : Hid ((Rcm.ln ⟨p0, av, k - 4, cv, p1, p2, p3⟩ (rdLn ws).b) = rdLn ws) := by
                        show _ = _
                        simp only [Rcm.ln, rdLn, HP0.out, HP1.out, HP2.out, HP3.out]
                      rw [HEq.out] at HLn
                      simp only [Rcm.val, Rcm.cells] at HLn
                      obtain ⟨b0, b1, b2, b3, b4⟩ := fn5_ret R.box
                      go_wp2_with fail
                      refine HLn.out.mono ?_
                      rintro e w5 ⟨⟨bb, rfl, HB⟩, hw5⟩
                      have T5 := R.old.trans (hw5.mono R.old.size)
                      obtain ⟨RX, TX⟩ := KR.out _ T5
                      cases bb with
                      | false =>
                        have HE : Hid (∀ m, ¬ IsLine s m) := fun m hm => by
                          have e := HRd.out m hm
                          exact HB.no (by rw [e]; exact hm.1)
                        clear HB
                        obtain ⟨d0, d1, d2, d3, d4⟩ := fn5_ret RX
                        have f0 := RX.frozen 0
                        have f1 := RX.frozen 1
                        have f2 := RX.frozen 2
                        have f3 := RX.frozen 3
                        have f4 := RX.frozen 4
                        go_wp2
                        have R2 := fn5_set RX (.int .i64 0) (.slice none 0 0) (.int .i64 0) (.int .u64 0) (.int .u64 0)
                        obtain ⟨e0, e1, e2, e3, e4⟩ := fn5_ret R2
                        exact bodyPost_ret (v := .tuple #[.agg #[.int .i64 0, .slice none 0 0, .int .i64 0, .int .u64 0, .int .u64 0], .int .i64 0, .int .i64 5]) (by simp [results, Tryd.results22, go_sem, e0, e1, e2, e3, e4]) rfl ⟨.inr ⟨HE.out, rfl⟩, below_set5 TX (Nat.le_refl _) _ _ _ _ _⟩
                      | true =>
                        have HI : Hid (IsLine s (rdLn ws)) := HGood.out HG.out (by omega) HB.yes
                        have HT : Hid ((rdLn ws).text.length = K + 1) := HTl.out HG.out (by omega)
                        have BX := R.box.of_block (hw5.block _ R.box.lt)
                        have LB5 := LB2.below hw5 (Nat.le_refl _)
                        clear HB b0 b1 b2 b3 b4
                        obtain ⟨b0, b1, b2, b3, b4⟩ := fn5_ret BX
                        obtain ⟨d0, d1, d2, d3, d4⟩ := fn5_ret RX
                        have f0 := RX.frozen 0
                        have f1 := RX.frozen 1
                        have f2 := RX.frozen 2
                        have f3 := RX.frozen 3
                        have f4 := RX.frozen 4
                        go_wp2
                        have R2 := fn5_set RX (.int .i64 p0) (.slice av (k - 4) cv) (.int .i64 p1) (.int .u64 p2) (.int .u64 p3)
                        obtain ⟨e0, e1, e2, e3, e4⟩ := fn5_ret R2
                        have hgt := R.gt
                        have HFr : Hid (∀ bb oo, av = some ⟨bb, oo, none⟩ → w.heap.size < bb) := fun bb oo e => by
                          have := HLB2.out bb oo e
                          omega
                        have LB6 : Lst (((((w5.setCell ⟨w.heap.size, 0, none⟩ (.int .i64 p0)).setCell ⟨w.heap.size, 1, none⟩ (.slice av (k - 4) cv)).setCell ⟨w.heap.size, 2, none⟩ (.int .i64 p1)).setCell ⟨w.heap.size, 3, none⟩ (.int .u64 p2)).setCell ⟨w.heap.size, 4, none⟩ (.int .u64 p3)) av (k - 4) cv (rdLn ws).b := by
                          obtain ⟨l1, l2, l3⟩ := LB5
                          refine ⟨l1, l2, l3.imp id ?_⟩
                          rintro ⟨bb, oo, rfl, hs, hc⟩
                          refine ⟨bb, oo, rfl, by simpa only [World.size_setCell] using hs, fun i hi => ?_⟩
                          have hne : bb ≠ w.heap.size := by have := HFr.out bb oo rfl; omega
                          have hne2 : ∀ o, (⟨w.heap.size, o, none⟩ : Addr) ≠ ⟨bb, oo + i, none⟩ := fun o e => by injection e with e; exact hne e.symm
                          rw [World.cell?_setCell_other _ _ _ _ (hne2 _), World.cell?_setCell_other _ _ _ _ (hne2 _), World.cell?_setCell_other _ _ _ _ (hne2 _), World.cell?_setCell_other _ _ _ _ (hne2 _), World.cell?_setCell_other _ _ _ _ (hne2 _)]
                          exact hc i hi
                        refine bodyPost_ret (v := .tuple #[.agg #[.int .i64 p0, .slice av (k - 4) cv, .int .i64 p1, .int .u64 p2, .int .u64 p3], .int .i64 ((K : Int) + 1), .int .i64 0]) (by simp [results, Tryd.results22, go_sem, e0, e1, e2, e3, e4]) rfl ⟨.inl ⟨rdLn ws, ⟨p0, av, k - 4, cv, p1, p2, p3⟩, HI.out, HEq.out, LB6, fun bb oo e => by have := HFr.out bb oo e; omega, ?_⟩, below_set5 TX (Nat.le_refl _) _ _ _ _ _⟩
                        rw [HT.out]
                        rfl
end Go.Proofs.YtfcnnolpcnacoaaDoor.Fx
