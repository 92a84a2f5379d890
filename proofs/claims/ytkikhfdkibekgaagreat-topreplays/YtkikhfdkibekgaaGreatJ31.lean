/- What coachtop.told returns: a list's root, and through its pointer all that is digested for it, in order. -/
import Derived.Test.YtkikhfdkibekgaaGreatJ29
import Derived.Test.YtkikhfdkibekgaaGreatJ30
import Derived.Test.YtkikhfdkibekgaaGreatJ27
import Derived.Test.YtkikhfdkibekgaaGreatJ28
import Derived.Test.YtkikhfdkibekgaaGreatJ07
import Derived.Test.YtkikhfdkibekgaaGreatJ08
namespace Go.Proofs.YtkikhfdkibekgaaGreat.Fx
open Go.RowKit Go.Shelf

attribute [local go_sem] Oper.semAt_some

section
variable {w' W0 : World} {ops : Array Oper} {o : Oper} {a : Act} {Q : Exit → Act → World → Prop}
theorem wpListIn_append_words {F : Fence} {n : Nat} {rest : List Oper} (hgd : o.guard = none) (s x : Operand) (ho : o.op = .call { callee := .builtin .append, args := #[s, x], argTypes := #[67, 67] })
    (base : Nat) (v : Value) (xs zs : List Int) (b off m c : Nat) (W0 : World) (hs : a.eval s = v) (hx : a.eval x = .slice (some ⟨b, off, none⟩) m c) (hown : OwnW base w' v xs) (hz : LstW w' (some ⟨b, off, none⟩) m c zs) (hn : xs.length + m ≤ 1000) (hbase : base ≤ w'.heap.size) (hB : Below base W0 w')
    (h : ∀ v' w1, OwnW base w1 v' (xs ++ zs) → Below base W0 w1 → wpListIn F n Tryz.prog ops Q rest (a.put o.dst v') w1) : wpListIn F n Tryz.prog ops Q (o :: rest) a w' := by
  obtain ⟨v', w1, hrun, h1, h2, _, _⟩ := run_append_words o.type base v xs zs b off m c hown hz hn hbase hB
  refine wpListIn_plain hgd fun K hK => ?_
  unfold Oper.wpIn
  refine ⟨?_, ?_⟩
  · simp [Oper.about, ho, resolve, Target.leads, Sem.run_pure]
  · rw [Oper.semAt_plain F _ _ (by rw [ho]; intro c hc'; cases hc')]
    simp [execOp, ho, resolve, invoke, builtin, hs, hx, hrun, Result.andThen]
    exact hK _ _ (h v' w1 h1 h2)
theorem step_append_v {K : Act → World → Prop} {E : Prop} {TS T : TypeId} {z : Value} {bytes : Nat} (ht : Tryz.prog.underlying TS = some (.slice T)) (hinfo : (Tryz.prog.info? T).map (fun i => (i.zero, i.size, i.bytes)) = some (some z, 1, bytes)) (hzc : z.cells.size = 1) (hby : bytes ≤ 24)
    (hgd : o.guard = none) (s x : Operand) (ho : o.op = .call { callee := .builtin .append, args := #[s, x], argTypes := #[TS, TS] })
    (base : Nat) (v : Value) (vs : List Value) (u : Value) (g : Nat) (hs : a.eval s = v) (hx : a.eval x = .slice (some ⟨g, 0, none⟩) 1 1) (hown : OwnV T base w' v vs) (hc : w'.cell? ⟨g, 0, none⟩ = some u) (hu : u.oneCell' = true) (hn : vs.length ≤ 1000) (hbase : base ≤ w'.heap.size)
    (h : ∀ v' w1, OwnV T base w1 v' (vs ++ [u]) → w'.grownBy w1 v.ownBlock → (v'.ownBlock = v.ownBlock ∨ v'.ownBlock = some w'.heap.size) → K (a.put o.dst v') w1) :
    if Region.wanted o (yielded ops a.tmps) = true then Oper.wp Tryz.prog o a w' K Q else E := by
  obtain ⟨v', w1, hrun, h1, _, h3, h4⟩ := run_append_v ht hinfo hzc hby o.type base v vs u g hown hc hu hn hbase (Below.refl base w')
  rw [if_pos (by unfold Region.wanted; rw [hgd])]
  unfold Oper.wp
  simp [execOp, ho, resolve, invoke, builtin, hs, hx, hrun, Result.andThen]
  exact h v' w1 h1 h3 h4
end
/-- A way out that is no panic. -/
def nrm (K : Act → World → Prop) : Exit → Act → World → Prop
  | .normal, a, w => K a w
  | _, _, _ => False
theorem wpIn_nrm {F : Fence} {n : Nat} {P : Program} {c : Code} {Q : Exit → Act → World → Prop} {a : Act} {w : World} (h : c.wpIn F n P (nrm (fun a w => Q .normal a w)) a w) : c.wpIn F n P Q a w :=
  wpIn_mono h (fun e a w h => by cases e <;> first | exact h | exact h.elim)
theorem made_three (x y : Int) : madeP [3, x, y] = ofP 3 [x, y] := by unfold madeP; rfl
theorem bigI_small {n : Nat} (h : n ≤ 200) : bigI n = 0 := by unfold bigI; rw [if_neg (by omega)]
theorem OwnV.form {T : TypeId} {base : Nat} {w : World} {v : Value} {xs : List Value} (h : OwnV T base w v xs) (hn : 0 < xs.length) : ∃ g c, v = .slice (some ⟨g, 0, none⟩) xs.length c := by
  obtain ⟨g, c, e, _⟩ := h.row hn
  exact ⟨g, c, e⟩

set_option maxRecDepth 100000 in
set_option maxHeartbeats 6400000 in
theorem told_says : ToldSays := by
  intro a n c xs po w h1 h80 ll hrow
  obtain ⟨b, off, rfl, hbl, hcell⟩ := ll.at (by omega)
  have hlen := ll.len
  have hcap := ll.cap
  have hpo := hrow.lt
  have hbp : b ≠ po := by
    rintro rfl
    have e := hcell 0 (by omega)
    obtain ⟨cc, g1, g2, g3⟩ := hrow
    simp only [World.cell?, g1] at e
    have h0 : off + 0 < cc.size := by
      rcases Nat.lt_or_ge (off + 0) cc.size with h | h
      · exact h
      · simp at e; rw [Array.getElem?_eq_none (by simpa using h)] at e; cases e
    have e2 := g3 0 (by omega)
    obtain rfl : off = 0 := by omega
    simp [e2] at e
  obtain ⟨m, hm⟩ : ∃ m, (n + 3) / 4 = m := ⟨_, rfl⟩
  obtain ⟨W0, HW0⟩ : ∃ q, Hid (q = (((w.alloc (.cells #[.pointer (some ⟨po, 0, none⟩)] 65)).alloc (.cells #[.slice none 0 0] 67)).alloc (.cells #[.slice (some ⟨b, off, none⟩) n c] 26)).alloc (.cells #[.int .i64 4] 3)) := ⟨_, rfl⟩
  have hs0 : W0.heap.size = w.heap.size + 4 := by rw [HW0.out]; simp
  have b0 : W0.rowIs w.heap.size 65 1 (fun _ => .pointer (some ⟨po, 0, none⟩)) := by
    rw [HW0.out]
    exact (((one_row w (.pointer (some ⟨po, 0, none⟩)) 65).alloc _).alloc _).alloc _
  have b1 : W0.rowIs (w.heap.size + 1) 67 1 (fun _ => .slice none 0 0) := by
    rw [HW0.out]
    have := (one_row (w.alloc (.cells #[.pointer (some ⟨po, 0, none⟩)] 65)) (.slice none 0 0) 67)
    rw [World.size_alloc] at this
    exact (this.alloc _).alloc _
  have b2 : W0.cell? ⟨w.heap.size + 2, 0, none⟩ = some (.slice (some ⟨b, off, none⟩) n c) := by
    rw [HW0.out]
    have := (one_row ((w.alloc (.cells #[.pointer (some ⟨po, 0, none⟩)] 65)).alloc (.cells #[.slice none 0 0] 67)) (.slice (some ⟨b, off, none⟩) n c) 26)
    rw [World.size_alloc, World.size_alloc] at this
    exact (this.alloc _).cell (i := 0) (by omega)
  have b3 : W0.cell? ⟨w.heap.size + 3, 0, none⟩ = some (.int .i64 4) := by
    rw [HW0.out]
    have := (one_row (((w.alloc (.cells #[.pointer (some ⟨po, 0, none⟩)] 65)).alloc (.cells #[.slice none 0 0] 67)).alloc (.cells #[.slice (some ⟨b, off, none⟩) n c] 26)) (.int .i64 4) 3)
    rw [World.size_alloc, World.size_alloc, World.size_alloc] at this
    exact this.cell (i := 0) (by omega)
  have B0 : Below w.heap.size w W0 := by
    rw [HW0.out]
    exact ((((Below.refl _ w).alloc (Nat.le_refl _) _).alloc (by simp) _).alloc (by simp; omega) _).alloc (by simp; omega) _
  have T0 : TdIn w po n xs [] [] (.slice none 0 0) (.slice none 0 0) W0 := ⟨⟨B0.os, B0.tape, B0.output, B0.size, fun k hk _ => B0.block k hk⟩, by omega, b0, hrow.of_block (B0.block _ hpo), b1, OwnLO.nil _ _ _, OwnW.nil _ _⟩
  refine (callsIn_wide (n := 6)).1 ?_
  refine callsIn_of_wp_marks Tryz.func27 rfl trivial ?_ rfl
  simp only [Tryz.ntmps27, List.size_toArray, List.length_cons, List.length_nil, Nat.reduceAdd, Nat.reduceSub, Array.replicate_succ, Array.replicate_zero, List.push_toArray, List.append_toArray, List.nil_append, List.cons_append]
  gi_wp2_with (first | (refine ⟨trivial, ?_⟩; gi_at_call 48; refine (callsIn_wide.2 (chunk_calls _ _ _ _)).mono ?_; rintro e w' ⟨rfl, rfl⟩) | (gi_at_call 48; refine (callsIn_wide.2 (chunk_calls _ _ _ _)).mono ?_; rintro e w' ⟨rfl, rfl⟩))
  rw [← HW0.out]
  refine wpIn_rangeFunc_ownG rfl (by omega) (gf := 74) (lb := #[.pointer (some ⟨w.heap.size + 2, 0, none⟩), .pointer (some ⟨w.heap.size + 3, 0, none⟩)]) rfl trivial (enters_of Tryz.func74 (by kernel_rfl) rfl)
    (chunk_stops _ (by omega) (w.heap.size + 2) (w.heap.size + 3) b off n c m hm h1 h80 hcap W0 (by omega) (by omega) b2 b3)
    (fun h k => KpC.trans h k) (fun W l o o' hl _ _ _ => ⟨World.putObj_heap_other (by omega), World.putObj_heap_other (by omega)⟩) (Below.refl _ _) (fun _ => rfl)
    (fun (pre : List (Ixm m)) W => ∃ v u, TdIn w po n xs (pre.map Subtype.val) (pre.map Subtype.val) v u W) (fun _ _ _ => False)
    (fun s A B row ⟨v, u, h⟩ hg hr => ⟨v, u, h.turn hg (fun r e => ⟨by have := (hr r e).1; omega, (hr r e).2⟩)⟩)
    (fun _ _ _ _ _ hs _ _ => hs)
    ⟨_, _, T0⟩
    (fun x => { tmps := #[.slice (some ⟨b, off, none⟩) n c, .pointer (some ⟨po, 0, none⟩), undef, .pointer (some ⟨w.heap.size, 0, none⟩), .int .u64 0, .pointer (some ⟨w.heap.size + 1, 0, none⟩), chkV b off n x.1, undef, undef, undef, undef, .slice (some ⟨b, off, none⟩) n c, .func (.func 74) #[] #[.pointer (some ⟨w.heap.size + 2, 0, none⟩), .pointer (some ⟨w.heap.size + 3, 0, none⟩)], chkV b off n x.1, undef, undef, undef, undef, undef, undef, undef, undef, undef, undef, undef, undef, undef, undef, undef, undef, undef, undef, undef, undef, undef, undef, undef, undef, undef, undef, undef, undef, undef, undef, undef, undef, undef, undef, undef, undef, undef, undef], defers := [] }) ?assign ?body ?done ?stop
  case assign =>
    intro l x W K hK
    gi_wp2
    exact hK
  case stop =>
    rintro D c pre W _ _ h _
    exact h.elim
  case body =>
    rintro l pre ⟨i, hi⟩ W ⟨v, u, hT⟩ hlt
    obtain ⟨E, hE⟩ : ∃ E, hiN n i - i * 4 = E := ⟨_, rfl⟩
    have hE1 : 1 ≤ E ∧ E ≤ 4 ∧ i * 4 + E ≤ n := by unfold hiN at hE; omega
    have lc0 := (ll.grown hT.gr hbp).sub (by omega) (i * 4) (i * 4 + E) (by omega) (by omega)
    have lc : Lst W (some ⟨b, off + i * 4, none⟩) E E (chnkL xs n i) := by
      rw [Nat.add_sub_cancel_left] at lc0
      unfold chnkL
      rw [hE]
      exact ⟨lc0.1, Nat.le_refl _, lc0.2.2⟩
    have NB := dNumbers_calls _ E E _ W lc
    rw [bigI_small (by omega)] at NB
    have HCL : Hid ([4] ++ numL (chnkL xs n i) E = chL xs n i) := by show _ = _; unfold chL; rw [hE]; rfl
    have HLF : Hid (madeP (chL xs n i) = leafG xs n i) := (leaf_made xs n i).symm
    have hnl : (numL (chnkL xs n i) E).length = E := numL_len (by omega)
    have hokc : okL (chL xs n i) := by unfold chL; exact okL_cons ⟨by decide, by decide⟩ (numL_ok _ _)
    have hclen : (chL xs n i).length = E + 1 := by rw [← HCL.out]; simp [hnl]
    have HPL : Hid (pre.length < m) := hlt
    have HT : Hid (TdIn w po n xs (pre.map Subtype.val) (pre.map Subtype.val) v u W) := hT
    clear lc0 lc hT hlt
    generalize numL (chnkL xs n i) E = NL at *
    dsimp only
    simp only [chkV, hE]
    have hd : 1 ≤ 6 - 1 - 1 := by omega
    gi_wp2_with (first | (refine ⟨trivial, ?_⟩; gi_at_call 49; refine (CallsIn.inRound l (callsIn_wide.2 NB)).mono ?_; rintro e W1 ⟨aN, nN, rfl, _, lN, bN⟩; obtain rfl : E = nN := by { rw [← hnl]; exact lN.len }; obtain ⟨gN, oN, rfl, _, _⟩ := lN.at (by omega); have l2 : OwnW W1.heap.size (W1.alloc (.cells #[.int .u64 4] 22)) (.slice (some ⟨W1.heap.size, 0, none⟩) 1 1) [4] := OwnW.lit W1 [4] (by simp); have al2 := low_alloc W1 (.cells #[.int .u64 4] 22); have lN2 := lN.below al2 (Nat.le_refl _)) | (gi_at_builtin; refine wpListIn_append_words (by rfl) _ _ (by rfl) W1.heap.size _ [4] NL gN oN E E W1 (by rfl) (by rfl) (by exact l2) (by exact lN2) (by simp; omega) (by simp) (by exact al2) ?_; intro vk W3 ok3 bel3; rw [HCL.out] at ok3; obtain ⟨gk, ck, rfl, hgk, hgk2⟩ := ok3.form (by omega)))
    have T3 : TdIn w po n xs (pre.map Subtype.val) (pre.map Subtype.val) v u W3 := HT.out.below (bN.trans (bel3.mono bN.size))
    have hWs := HT.out.size
    have hs13 := bel3.size
    have hs01 := bN.size
    rw [hclen] at ok3
    have hpl : pre.length ≤ 20 := by have := HPL.out; omega
    have lk3 := LstW.ofOwn ok3 hclen
    have hvW : ∀ g, v.ownBlock = some g → g < W.heap.size := fun g e => by
      obtain ⟨_, vs', o1, _⟩ := HT.out.ll
      obtain ⟨_, o, ho, _⟩ := o1.isCells e
      exact (Array.getElem?_eq_some_iff.1 ho).1
    have huW : ∀ g, u.ownBlock = some g → g < W.heap.size := fun g e => by
      obtain ⟨_, o, ho, _⟩ := HT.out.lw.isCells e
      exact (Array.getElem?_eq_some_iff.1 ho).1
    obtain ⟨D4, HD4⟩ : ∃ q, Hid (q = (W3.alloc (.cells #[.slice (some ⟨gk, 0, none⟩) (E + 1) ck] 67)).drew) := ⟨_, rfl⟩
    have ch34 : Ch (fun _ => False) W3 D4 := by
      rw [HD4.out]
      exact Ch.ofBelow (((Below.refl W3.heap.size W3).alloc (Nat.le_refl _) _).drew)
    have hs4 : D4.heap.size = W3.heap.size + 1 := by rw [HD4.out]; simp
    have T4 := T3.ch ch34
    have lk4 : LstW D4 (some ⟨gk, 0, none⟩) (E + 1) ck (chL xs n i) := lk3.below (B := W3.heap.size) ⟨ch34.os, ch34.tape, ch34.output, ch34.size, fun k hk => ch34.block k hk (fun e => e)⟩ (Nat.le_refl _)
    have cn4 : D4.cell? ⟨W3.heap.size, 0, none⟩ = some (.slice (some ⟨gk, 0, none⟩) (E + 1) ck) := by rw [HD4.out]; exact cell_new W3 _ _
    obtain ⟨h0v, vs, ov1, ov2, ov3⟩ := T4.ll
    have hN5 : (vs ++ [Value.slice (some ⟨gk, 0, none⟩) (E + 1) ck]).length = pre.length + 1 := by rw [List.length_append, ov2]; simp
    have hvl : vs.length ≤ 1000 := by rw [ov2]; simp; omega
    have S3 : W3.drew.cell? ⟨w.heap.size, 0, none⟩ = some (.pointer (some ⟨po, 0, none⟩)) := T3.bo.cell (i := 0) (by omega)
    have S4 : D4.cell? ⟨w.heap.size, 0, none⟩ = some (.pointer (some ⟨po, 0, none⟩)) := T4.bo.cell (i := 0) (by omega)
    have P3 : W3.drew.cell? ⟨po, 0, none⟩ = some v := T3.ro.cell (i := 0) (by omega)
    have P4 : D4.cell? ⟨po, 0, none⟩ = some v := T4.ro.cell (i := 0) (by omega)
    have hvk : v.ownBlock ≠ some gk := fun e => by have := hvW _ e; omega
    have huk : u.ownBlock ≠ some gk := fun e => by have := huW _ e; omega
    refine wpIn_region_round (S := fun q => q.cell? ⟨w.heap.size, 0, none⟩ = some (.pointer (some ⟨po, 0, none⟩))) (by kernel_rfl) (by kernel_rfl) (by rintro ⟨_, _, h⟩; exact h) (by with_reducible exact S3) (fun hHeld => ?_)
    refine wpAnyH_take (i := 0) (oi := _) (v := ?_) rfl (by kernel_rfl) (by kernel_rfl) (by kernel_rfl) (fun _ _ _ h => h) (Or.inl ⟨by rfl, ?_⟩) (by assumption) ?_
    rotate_left
    · intro w hSw
      try dsimp only at hSw
      go_simp
      try with_reducible rfl
    simp only [Act.put, List.getElem_toArray, List.getElem_cons_zero, List.setIfInBounds_toArray, List.set_cons_zero, List.set_cons_succ]
    refine wpAnyH_take (i := 1) (oi := _) (v := ?_) rfl (by kernel_rfl) (by kernel_rfl) (by kernel_rfl) (fun _ _ _ h => h) (Or.inl ⟨by rfl, ?_⟩) (by assumption) ?_
    rotate_left
    · intro w hSw
      try dsimp only at hSw
      go_simp
      try with_reducible rfl
    simp only [Act.put, List.getElem_toArray, List.getElem_cons_zero, List.getElem_cons_succ, List.setIfInBounds_toArray, List.set_cons_zero, List.set_cons_succ]
    refine wpAnyH_take (i := 2) (oi := _) (v := ?_) rfl (by kernel_rfl) (by kernel_rfl) (by kernel_rfl) (fun _ _ _ h => h) (Or.inl ⟨by rfl, ?_⟩) (by assumption) ?_
    rotate_left
    · intro w hSw
      try dsimp only at hSw
      go_simp
      try with_reducible rfl
    simp only [Act.put, List.getElem_toArray, List.getElem_cons_zero, List.getElem_cons_succ, List.setIfInBounds_toArray, List.set_cons_zero, List.set_cons_succ]
    refine wpAnyH_take (i := 4) (oi := _) (v := ?_) rfl (by kernel_rfl) (by kernel_rfl) (by kernel_rfl) (fun _ _ _ h => h) (Or.inl ⟨by rfl, ?_⟩) (by assumption) ?_
    rotate_left
    · intro w hSw
      try dsimp only at hSw
      go_simp
      try with_reducible rfl
    simp only [Act.put, List.getElem_toArray, List.getElem_cons_zero, List.getElem_cons_succ, List.setIfInBounds_toArray, List.set_cons_zero, List.set_cons_succ]
    refine wpAnyH_ready (rs := [3, 5]) (by kernel_rfl) (by simp) ?_
    refine AllReadyH.cons (o := _) rfl (fun K hK => ?_) (AllReadyH.cons (o := _) rfl (fun K hK => ?_) AllReadyH.nil)
    · clear hHeld
      go_simp
      refine hK.out _ _ ?_ (fun hHeld => ?_)
      · with_reducible exact S3
      clear hK K
      try simp only [Act.put, List.setIfInBounds_toArray, List.set_cons_zero, List.set_cons_succ]
      refine wpAnyH_ready (rs := [5]) (by kernel_rfl) (by simp) ?_
      refine AllReadyH.cons (o := _) rfl (fun K hK => ?_) AllReadyH.nil
      clear hHeld
      go_simp
      rw [← HD4.out]
      refine hK.out _ _ ?_ (fun hHeld => ?_)
      · with_reducible exact S4
      clear hK K
      try simp only [Act.put, List.setIfInBounds_toArray, List.set_cons_zero, List.set_cons_succ]
      refine wpAnyH_ready (rs := [6]) (by kernel_rfl) (by simp) ?_
      refine AllReadyH.cons (o := _) rfl (fun K hK => ?_) AllReadyH.nil
      clear hHeld
      (refine step_append_v (T := 67) Tryz.underlying63 infoWL rfl (by decide) (by rfl) _ _ (by rfl) (w.heap.size + 4) v vs (.slice (some ⟨gk, 0, none⟩) (E + 1) ck) W3.heap.size (by rfl) (by rfl) (by exact ov1) (by exact cn4) (by rfl) (by exact hvl) (by omega) ?_; intro v5 w5 hown5 hgr5 hob5; obtain ⟨r5, S5, T6, c6⟩ := T4.chunk hpo ov2 ov3 lk4 (by omega) (by omega) hvk huk hown5 hgr5 hob5; obtain ⟨g5, c5, he5⟩ := hown5.form (by simp); rw [hN5] at he5; subst he5; have P5 := r5.cell (i := 0) (by omega); have F5 := r5.frozen 0; have S6 : (w5.setCell ⟨po, 0, none⟩ _).cell? ⟨w.heap.size, 0, none⟩ = some (.pointer (some ⟨po, 0, none⟩)) := T6.bo.cell (i := 0) (by omega))
      refine hK.out _ _ ?_ (fun hHeld => ?_)
      · with_reducible exact S5
      clear hK K
      try simp only [Act.put, List.setIfInBounds_toArray]
      refine wpAnyH_take (i := 7) (oi := _) (v := ?_) rfl (by kernel_rfl) (by kernel_rfl) (by kernel_rfl) (fun _ _ _ h => h) (Or.inl ⟨by rfl, ?_⟩) (by assumption) ?_
      rotate_left
      · intro w hSw
        try dsimp only at hSw
        go_simp
        try with_reducible rfl
      simp only [Act.put, List.getElem_toArray, List.getElem_cons_zero, List.getElem_cons_succ, List.setIfInBounds_toArray, List.set_cons_zero, List.set_cons_succ]
      refine wpAnyH_ready (rs := [8]) (by kernel_rfl) (by simp) ?_
      refine AllReadyH.cons (o := _) rfl (fun K hK => ?_) AllReadyH.nil
      clear hHeld
      go_simp
      refine hK.out _ _ ?_ (fun hHeld => ?_)
      · with_reducible exact S6
      clear hK K
      try simp only [Act.put, List.setIfInBounds_toArray]
      refine wpAnyH_done (by kernel_rfl) ?_ _
      obtain ⟨W6, HW6⟩ : ∃ q, Hid (q = w5.setCell ⟨po, 0, none⟩ (.slice (some ⟨g5, 0, none⟩) (pre.length + 1) c5)) := ⟨_, rfl⟩
      have lk6 : LstW W6 (some ⟨gk, 0, none⟩) (E + 1) ck (chL xs n i) := by { rw [HW6.out]; exact (lk4.kept hgr5 hvk).kept (grownBy_setCell' w5 po _) (by simp; omega) }
      rw [← HW6.out] at T6 c6
      have hd6 : Below W6.heap.size W6 W6.drew := (Below.refl _ _).drew
      rw [← HW6.out]
      have MD := tmade_calls (some ⟨gk, 0, none⟩) (E + 1) ck _ W6.drew (lk6.below hd6 (Nat.le_refl _)) (by omega) (by omega) hokc
      rw [HLF.out] at MD
      have Q6 : W6.drew.cell? ⟨w.heap.size + 1, 0, none⟩ = some u := T6.rl.cell (i := 0) (by omega)
      clear S3 S4 P3 P4 S5 S6 P5 F5 T3 T4 lk3 lk4 cn4 hown5 hgr5 hob5 ov1 ov2 ov3 h0v r5
      gi_wp2_with fail
      refine wpIn_region_round (S := fun _ => True) (by kernel_rfl) (by kernel_rfl) (by rintro ⟨_, _, h⟩; exact h) (by with_reducible exact True.intro) (fun hHeld => ?_)
      refine wpAnyH_take (i := 1) (oi := _) (v := ?_) rfl (by kernel_rfl) (by kernel_rfl) (by kernel_rfl) (fun _ _ _ h => h) (Or.inl ⟨by rfl, ?_⟩) (by assumption) ?_
      rotate_left
      · intro w hSw
        try dsimp only at hSw
        go_simp
        try with_reducible rfl
      simp only [Act.put, List.getElem_toArray, List.getElem_cons_zero, List.getElem_cons_succ, List.setIfInBounds_toArray, List.set_cons_zero, List.set_cons_succ]
      refine wpAnyH_ready (rs := [0, 2]) (by kernel_rfl) (by simp) ?_
      refine AllReadyH.cons (o := _) rfl (fun K hK => ?_) (AllReadyH.cons (o := _) rfl (fun K hK => ?_) AllReadyH.nil)
      · clear hHeld
        go_simp
        refine hK.out _ _ ?_ (fun hHeld => ?_)
        · with_reducible exact True.intro
        clear hK K
        try simp only [Act.put, List.setIfInBounds_toArray, List.set_cons_zero, List.set_cons_succ]
        refine wpAnyH_ready (rs := [2]) (by kernel_rfl) (by simp) ?_
        refine AllReadyH.cons (o := _) rfl (fun K hK => ?_) AllReadyH.nil
        clear hHeld
        go_simp
        (go_at_call 29; refine MD.mono ?_; rintro e W7 ⟨rfl, bel7⟩; have T7 := T6.below (hd6.trans bel7); have Q7 : W7.cell? ⟨w.heap.size + 1, 0, none⟩ = some u := T7.rl.cell (i := 0) (by omega); have al8 := low_alloc W7 (.cells #[.int .u64 (leafG xs n i)] 22); have T8 := T7.below al8; have cn8 := cell_new W7 (.int .u64 (leafG xs n i)) 22; have Q8 : (W7.alloc (.cells #[.int .u64 (leafG xs n i)] 22)).cell? ⟨w.heap.size + 1, 0, none⟩ = some u := T8.rl.cell (i := 0) (by omega); have hs8 := T8.size)
        go_wp2_with fail
        refine hK.out _ _ ?_ (fun hHeld => ?_)
        · with_reducible exact True.intro
        clear hK K
        try simp only [Act.put, List.setIfInBounds_toArray, List.set_cons_zero, List.set_cons_succ]
        refine wpAnyH_ready (rs := [3]) (by kernel_rfl) (by simp) ?_
        refine AllReadyH.cons (o := _) rfl (fun K hK => ?_) AllReadyH.nil
        clear hHeld
        go_simp
        refine hK.out _ _ ?_ (fun hHeld => ?_)
        · with_reducible exact True.intro
        clear hK K
        try simp only [Act.put, List.setIfInBounds_toArray, List.set_cons_zero, List.set_cons_succ]
        refine wpAnyH_ready (rs := [4]) (by kernel_rfl) (by simp) ?_
        refine AllReadyH.cons (o := _) rfl (fun K hK => ?_) AllReadyH.nil
        clear hHeld
        (refine step_append_v (T := 22) Tryz.underlying67 infoW rfl (by decide) (by rfl) _ _ (by rfl) (w.heap.size + 4) u (((pre.map Subtype.val).map (leafG xs n)).map (Value.int .u64)) (.int .u64 (leafG xs n i)) W7.heap.size (by rfl) (by rfl) (by exact T8.lw.asV) (by exact cn8) (by rfl) (by simp; omega) (by omega) ?_; intro u9 w9 hown9 hgr9 hob9; obtain ⟨r9, T10, c10⟩ := T8.leaf hpo hown9 hgr9 hob9; obtain ⟨g9, c9, he9⟩ := hown9.form (by simp); rw [show (List.map (Value.int .u64) (List.map (leafG xs n) (pre.map Subtype.val)) ++ [Value.int .u64 (leafG xs n i)]).length = pre.length + 1 by simp] at he9; subst he9; have P9 := r9.cell (i := 0) (by omega); have F9 := r9.frozen 0)
        refine hK.out _ _ ?_ (fun hHeld => ?_)
        · with_reducible exact True.intro
        clear hK K
        try simp only [Act.put, List.setIfInBounds_toArray]
        refine wpAnyH_ready (rs := [5]) (by kernel_rfl) (by simp) ?_
        refine AllReadyH.cons (o := _) rfl (fun K hK => ?_) AllReadyH.nil
        clear hHeld
        go_simp
        refine hK.out _ _ ?_ (fun hHeld => ?_)
        · with_reducible exact True.intro
        clear hK K
        try simp only [Act.put, List.setIfInBounds_toArray]
        refine wpAnyH_done (by kernel_rfl) ?_ _
        have cA : Ch (fun b => (b = po ∨ v.ownBlock = some b) ∨ b = w.heap.size + 1 ∨ u.ownBlock = some b) W _ := ((Ch.ofBelow (bN.trans (bel3.mono bN.size))).trans ((ch34.mono (fun _ e => e.elim)).trans (c6.mono (fun _ e => .inl e)))).trans ((Ch.ofBelow (hd6.trans bel7)).trans ((Ch.ofBelow al8).trans (c10.mono (fun _ e => .inr e))))
        obtain ⟨k1, k2, k3⟩ := HT.out.keeps hpo cA
        rw [← hs0] at k1
        rw [← show (pre ++ [(⟨i, hi⟩ : Ixm m)]).map Subtype.val = pre.map Subtype.val ++ [i] by simp] at T10
        exact ⟨k1, ⟨k2, k3⟩, _, _, T10⟩
      · clear hHeld
        go_simp
        (go_at_call 29; refine MD.mono ?_; rintro e W7 ⟨rfl, bel7⟩; have T7 := T6.below (hd6.trans bel7); have Q7 : W7.cell? ⟨w.heap.size + 1, 0, none⟩ = some u := T7.rl.cell (i := 0) (by omega); have al8 := low_alloc W7 (.cells #[.int .u64 (leafG xs n i)] 22); have T8 := T7.below al8; have cn8 := cell_new W7 (.int .u64 (leafG xs n i)) 22; have Q8 : (W7.alloc (.cells #[.int .u64 (leafG xs n i)] 22)).cell? ⟨w.heap.size + 1, 0, none⟩ = some u := T8.rl.cell (i := 0) (by omega); have hs8 := T8.size)
        go_wp2_with fail
        refine hK.out _ _ ?_ (fun hHeld => ?_)
        · with_reducible exact True.intro
        clear hK K
        try simp only [Act.put, List.setIfInBounds_toArray, List.set_cons_zero, List.set_cons_succ]
        refine wpAnyH_ready (rs := [0, 3]) (by kernel_rfl) (by simp) ?_
        refine AllReadyH.cons (o := _) rfl (fun K hK => ?_) (AllReadyH.cons (o := _) rfl (fun K hK => ?_) AllReadyH.nil)
        · clear hHeld
          go_simp
          refine hK.out _ _ ?_ (fun hHeld => ?_)
          · with_reducible exact True.intro
          clear hK K
          try simp only [Act.put, List.setIfInBounds_toArray, List.set_cons_zero, List.set_cons_succ]
          refine wpAnyH_ready (rs := [3]) (by kernel_rfl) (by simp) ?_
          refine AllReadyH.cons (o := _) rfl (fun K hK => ?_) AllReadyH.nil
          clear hHeld
          go_simp
          refine hK.out _ _ ?_ (fun hHeld => ?_)
          · with_reducible exact True.intro
          clear hK K
          try simp only [Act.put, List.setIfInBounds_toArray, List.set_cons_zero, List.set_cons_succ]
          refine wpAnyH_ready (rs := [4]) (by kernel_rfl) (by simp) ?_
          refine AllReadyH.cons (o := _) rfl (fun K hK => ?_) AllReadyH.nil
          clear hHeld
          (refine step_append_v (T := 22) Tryz.underlying67 infoW rfl (by decide) (by rfl) _ _ (by rfl) (w.heap.size + 4) u (((pre.map Subtype.val).map (leafG xs n)).map (Value.int .u64)) (.int .u64 (leafG xs n i)) W7.heap.size (by rfl) (by rfl) (by exact T8.lw.asV) (by exact cn8) (by rfl) (by simp; omega) (by omega) ?_; intro u9 w9 hown9 hgr9 hob9; obtain ⟨r9, T10, c10⟩ := T8.leaf hpo hown9 hgr9 hob9; obtain ⟨g9, c9, he9⟩ := hown9.form (by simp); rw [show (List.map (Value.int .u64) (List.map (leafG xs n) (pre.map Subtype.val)) ++ [Value.int .u64 (leafG xs n i)]).length = pre.length + 1 by simp] at he9; subst he9; have P9 := r9.cell (i := 0) (by omega); have F9 := r9.frozen 0)
          refine hK.out _ _ ?_ (fun hHeld => ?_)
          · with_reducible exact True.intro
          clear hK K
          try simp only [Act.put, List.setIfInBounds_toArray]
          refine wpAnyH_ready (rs := [5]) (by kernel_rfl) (by simp) ?_
          refine AllReadyH.cons (o := _) rfl (fun K hK => ?_) AllReadyH.nil
          clear hHeld
          go_simp
          refine hK.out _ _ ?_ (fun hHeld => ?_)
          · with_reducible exact True.intro
          clear hK K
          try simp only [Act.put, List.setIfInBounds_toArray]
          refine wpAnyH_done (by kernel_rfl) ?_ _
          have cA : Ch (fun b => (b = po ∨ v.ownBlock = some b) ∨ b = w.heap.size + 1 ∨ u.ownBlock = some b) W _ := ((Ch.ofBelow (bN.trans (bel3.mono bN.size))).trans ((ch34.mono (fun _ e => e.elim)).trans (c6.mono (fun _ e => .inl e)))).trans ((Ch.ofBelow (hd6.trans bel7)).trans ((Ch.ofBelow al8).trans (c10.mono (fun _ e => .inr e))))
          obtain ⟨k1, k2, k3⟩ := HT.out.keeps hpo cA
          rw [← hs0] at k1
          rw [← show (pre ++ [(⟨i, hi⟩ : Ixm m)]).map Subtype.val = pre.map Subtype.val ++ [i] by simp] at T10
          exact ⟨k1, ⟨k2, k3⟩, _, _, T10⟩
        · clear hHeld
          go_simp
          refine hK.out _ _ ?_ (fun hHeld => ?_)
          · with_reducible exact True.intro
          clear hK K
          try simp only [Act.put, List.setIfInBounds_toArray, List.set_cons_zero, List.set_cons_succ]
          refine wpAnyH_ready (rs := [0]) (by kernel_rfl) (by simp) ?_
          refine AllReadyH.cons (o := _) rfl (fun K hK => ?_) AllReadyH.nil
          clear hHeld
          go_simp
          refine hK.out _ _ ?_ (fun hHeld => ?_)
          · with_reducible exact True.intro
          clear hK K
          try simp only [Act.put, List.setIfInBounds_toArray, List.set_cons_zero, List.set_cons_succ]
          refine wpAnyH_ready (rs := [4]) (by kernel_rfl) (by simp) ?_
          refine AllReadyH.cons (o := _) rfl (fun K hK => ?_) AllReadyH.nil
          clear hHeld
          (refine step_append_v (T := 22) Tryz.underlying67 infoW rfl (by decide) (by rfl) _ _ (by rfl) (w.heap.size + 4) u (((pre.map Subtype.val).map (leafG xs n)).map (Value.int .u64)) (.int .u64 (leafG xs n i)) W7.heap.size (by rfl) (by rfl) (by exact T8.lw.asV) (by exact cn8) (by rfl) (by simp; omega) (by omega) ?_; intro u9 w9 hown9 hgr9 hob9; obtain ⟨r9, T10, c10⟩ := T8.leaf hpo hown9 hgr9 hob9; obtain ⟨g9, c9, he9⟩ := hown9.form (by simp); rw [show (List.map (Value.int .u64) (List.map (leafG xs n) (pre.map Subtype.val)) ++ [Value.int .u64 (leafG xs n i)]).length = pre.length + 1 by simp] at he9; subst he9; have P9 := r9.cell (i := 0) (by omega); have F9 := r9.frozen 0)
          refine hK.out _ _ ?_ (fun hHeld => ?_)
          · with_reducible exact True.intro
          clear hK K
          try simp only [Act.put, List.setIfInBounds_toArray]
          refine wpAnyH_ready (rs := [5]) (by kernel_rfl) (by simp) ?_
          refine AllReadyH.cons (o := _) rfl (fun K hK => ?_) AllReadyH.nil
          clear hHeld
          go_simp
          refine hK.out _ _ ?_ (fun hHeld => ?_)
          · with_reducible exact True.intro
          clear hK K
          try simp only [Act.put, List.setIfInBounds_toArray]
          refine wpAnyH_done (by kernel_rfl) ?_ _
          have cA : Ch (fun b => (b = po ∨ v.ownBlock = some b) ∨ b = w.heap.size + 1 ∨ u.ownBlock = some b) W _ := ((Ch.ofBelow (bN.trans (bel3.mono bN.size))).trans ((ch34.mono (fun _ e => e.elim)).trans (c6.mono (fun _ e => .inl e)))).trans ((Ch.ofBelow (hd6.trans bel7)).trans ((Ch.ofBelow al8).trans (c10.mono (fun _ e => .inr e))))
          obtain ⟨k1, k2, k3⟩ := HT.out.keeps hpo cA
          rw [← hs0] at k1
          rw [← show (pre ++ [(⟨i, hi⟩ : Ixm m)]).map Subtype.val = pre.map Subtype.val ++ [i] by simp] at T10
          exact ⟨k1, ⟨k2, k3⟩, _, _, T10⟩
    · clear hHeld
      go_simp
      rw [← HD4.out]
      refine hK.out _ _ ?_ (fun hHeld => ?_)
      · with_reducible exact S4
      clear hK K
      try simp only [Act.put, List.setIfInBounds_toArray, List.set_cons_zero, List.set_cons_succ]
      refine wpAnyH_ready (rs := [3]) (by kernel_rfl) (by simp) ?_
      refine AllReadyH.cons (o := _) rfl (fun K hK => ?_) AllReadyH.nil
      clear hHeld
      go_simp
      refine hK.out _ _ ?_ (fun hHeld => ?_)
      · with_reducible exact S4
      clear hK K
      try simp only [Act.put, List.setIfInBounds_toArray, List.set_cons_zero, List.set_cons_succ]
      refine wpAnyH_ready (rs := [6]) (by kernel_rfl) (by simp) ?_
      refine AllReadyH.cons (o := _) rfl (fun K hK => ?_) AllReadyH.nil
      clear hHeld
      (refine step_append_v (T := 67) Tryz.underlying63 infoWL rfl (by decide) (by rfl) _ _ (by rfl) (w.heap.size + 4) v vs (.slice (some ⟨gk, 0, none⟩) (E + 1) ck) W3.heap.size (by rfl) (by rfl) (by exact ov1) (by exact cn4) (by rfl) (by exact hvl) (by omega) ?_; intro v5 w5 hown5 hgr5 hob5; obtain ⟨r5, S5, T6, c6⟩ := T4.chunk hpo ov2 ov3 lk4 (by omega) (by omega) hvk huk hown5 hgr5 hob5; obtain ⟨g5, c5, he5⟩ := hown5.form (by simp); rw [hN5] at he5; subst he5; have P5 := r5.cell (i := 0) (by omega); have F5 := r5.frozen 0; have S6 : (w5.setCell ⟨po, 0, none⟩ _).cell? ⟨w.heap.size, 0, none⟩ = some (.pointer (some ⟨po, 0, none⟩)) := T6.bo.cell (i := 0) (by omega))
      refine hK.out _ _ ?_ (fun hHeld => ?_)
      · with_reducible exact S5
      clear hK K
      try simp only [Act.put, List.setIfInBounds_toArray]
      refine wpAnyH_take (i := 7) (oi := _) (v := ?_) rfl (by kernel_rfl) (by kernel_rfl) (by kernel_rfl) (fun _ _ _ h => h) (Or.inl ⟨by rfl, ?_⟩) (by assumption) ?_
      rotate_left
      · intro w hSw
        try dsimp only at hSw
        go_simp
        try with_reducible rfl
      simp only [Act.put, List.getElem_toArray, List.getElem_cons_zero, List.getElem_cons_succ, List.setIfInBounds_toArray, List.set_cons_zero, List.set_cons_succ]
      refine wpAnyH_ready (rs := [8]) (by kernel_rfl) (by simp) ?_
      refine AllReadyH.cons (o := _) rfl (fun K hK => ?_) AllReadyH.nil
      clear hHeld
      go_simp
      refine hK.out _ _ ?_ (fun hHeld => ?_)
      · with_reducible exact S6
      clear hK K
      try simp only [Act.put, List.setIfInBounds_toArray]
      refine wpAnyH_done (by kernel_rfl) ?_ _
      obtain ⟨W6, HW6⟩ : ∃ q, Hid (q = w5.setCell ⟨po, 0, none⟩ (.slice (some ⟨g5, 0, none⟩) (pre.length + 1) c5)) := ⟨_, rfl⟩
      have lk6 : LstW W6 (some ⟨gk, 0, none⟩) (E + 1) ck (chL xs n i) := by { rw [HW6.out]; exact (lk4.kept hgr5 hvk).kept (grownBy_setCell' w5 po _) (by simp; omega) }
      rw [← HW6.out] at T6 c6
      have hd6 : Below W6.heap.size W6 W6.drew := (Below.refl _ _).drew
      rw [← HW6.out]
      have MD := tmade_calls (some ⟨gk, 0, none⟩) (E + 1) ck _ W6.drew (lk6.below hd6 (Nat.le_refl _)) (by omega) (by omega) hokc
      rw [HLF.out] at MD
      have Q6 : W6.drew.cell? ⟨w.heap.size + 1, 0, none⟩ = some u := T6.rl.cell (i := 0) (by omega)
      clear S3 S4 P3 P4 S5 S6 P5 F5 T3 T4 lk3 lk4 cn4 hown5 hgr5 hob5 ov1 ov2 ov3 h0v r5
      gi_wp2_with fail
      refine wpIn_region_round (S := fun _ => True) (by kernel_rfl) (by kernel_rfl) (by rintro ⟨_, _, h⟩; exact h) (by with_reducible exact True.intro) (fun hHeld => ?_)
      refine wpAnyH_take (i := 1) (oi := _) (v := ?_) rfl (by kernel_rfl) (by kernel_rfl) (by kernel_rfl) (fun _ _ _ h => h) (Or.inl ⟨by rfl, ?_⟩) (by assumption) ?_
      rotate_left
      · intro w hSw
        try dsimp only at hSw
        go_simp
        try with_reducible rfl
      simp only [Act.put, List.getElem_toArray, List.getElem_cons_zero, List.getElem_cons_succ, List.setIfInBounds_toArray, List.set_cons_zero, List.set_cons_succ]
      refine wpAnyH_ready (rs := [0, 2]) (by kernel_rfl) (by simp) ?_
      refine AllReadyH.cons (o := _) rfl (fun K hK => ?_) (AllReadyH.cons (o := _) rfl (fun K hK => ?_) AllReadyH.nil)
      · clear hHeld
        go_simp
        refine hK.out _ _ ?_ (fun hHeld => ?_)
        · with_reducible exact True.intro
        clear hK K
        try simp only [Act.put, List.setIfInBounds_toArray, List.set_cons_zero, List.set_cons_succ]
        refine wpAnyH_ready (rs := [2]) (by kernel_rfl) (by simp) ?_
        refine AllReadyH.cons (o := _) rfl (fun K hK => ?_) AllReadyH.nil
        clear hHeld
        go_simp
        (go_at_call 29; refine MD.mono ?_; rintro e W7 ⟨rfl, bel7⟩; have T7 := T6.below (hd6.trans bel7); have Q7 : W7.cell? ⟨w.heap.size + 1, 0, none⟩ = some u := T7.rl.cell (i := 0) (by omega); have al8 := low_alloc W7 (.cells #[.int .u64 (leafG xs n i)] 22); have T8 := T7.below al8; have cn8 := cell_new W7 (.int .u64 (leafG xs n i)) 22; have Q8 : (W7.alloc (.cells #[.int .u64 (leafG xs n i)] 22)).cell? ⟨w.heap.size + 1, 0, none⟩ = some u := T8.rl.cell (i := 0) (by omega); have hs8 := T8.size)
        go_wp2_with fail
        refine hK.out _ _ ?_ (fun hHeld => ?_)
        · with_reducible exact True.intro
        clear hK K
        try simp only [Act.put, List.setIfInBounds_toArray, List.set_cons_zero, List.set_cons_succ]
        refine wpAnyH_ready (rs := [3]) (by kernel_rfl) (by simp) ?_
        refine AllReadyH.cons (o := _) rfl (fun K hK => ?_) AllReadyH.nil
        clear hHeld
        go_simp
        refine hK.out _ _ ?_ (fun hHeld => ?_)
        · with_reducible exact True.intro
        clear hK K
        try simp only [Act.put, List.setIfInBounds_toArray, List.set_cons_zero, List.set_cons_succ]
        refine wpAnyH_ready (rs := [4]) (by kernel_rfl) (by simp) ?_
        refine AllReadyH.cons (o := _) rfl (fun K hK => ?_) AllReadyH.nil
        clear hHeld
        (refine step_append_v (T := 22) Tryz.underlying67 infoW rfl (by decide) (by rfl) _ _ (by rfl) (w.heap.size + 4) u (((pre.map Subtype.val).map (leafG xs n)).map (Value.int .u64)) (.int .u64 (leafG xs n i)) W7.heap.size (by rfl) (by rfl) (by exact T8.lw.asV) (by exact cn8) (by rfl) (by simp; omega) (by omega) ?_; intro u9 w9 hown9 hgr9 hob9; obtain ⟨r9, T10, c10⟩ := T8.leaf hpo hown9 hgr9 hob9; obtain ⟨g9, c9, he9⟩ := hown9.form (by simp); rw [show (List.map (Value.int .u64) (List.map (leafG xs n) (pre.map Subtype.val)) ++ [Value.int .u64 (leafG xs n i)]).length = pre.length + 1 by simp] at he9; subst he9; have P9 := r9.cell (i := 0) (by omega); have F9 := r9.frozen 0)
        refine hK.out _ _ ?_ (fun hHeld => ?_)
        · with_reducible exact True.intro
        clear hK K
        try simp only [Act.put, List.setIfInBounds_toArray]
        refine wpAnyH_ready (rs := [5]) (by kernel_rfl) (by simp) ?_
        refine AllReadyH.cons (o := _) rfl (fun K hK => ?_) AllReadyH.nil
        clear hHeld
        go_simp
        refine hK.out _ _ ?_ (fun hHeld => ?_)
        · with_reducible exact True.intro
        clear hK K
        try simp only [Act.put, List.setIfInBounds_toArray]
        refine wpAnyH_done (by kernel_rfl) ?_ _
        have cA : Ch (fun b => (b = po ∨ v.ownBlock = some b) ∨ b = w.heap.size + 1 ∨ u.ownBlock = some b) W _ := ((Ch.ofBelow (bN.trans (bel3.mono bN.size))).trans ((ch34.mono (fun _ e => e.elim)).trans (c6.mono (fun _ e => .inl e)))).trans ((Ch.ofBelow (hd6.trans bel7)).trans ((Ch.ofBelow al8).trans (c10.mono (fun _ e => .inr e))))
        obtain ⟨k1, k2, k3⟩ := HT.out.keeps hpo cA
        rw [← hs0] at k1
        rw [← show (pre ++ [(⟨i, hi⟩ : Ixm m)]).map Subtype.val = pre.map Subtype.val ++ [i] by simp] at T10
        exact ⟨k1, ⟨k2, k3⟩, _, _, T10⟩
      · clear hHeld
        go_simp
        (go_at_call 29; refine MD.mono ?_; rintro e W7 ⟨rfl, bel7⟩; have T7 := T6.below (hd6.trans bel7); have Q7 : W7.cell? ⟨w.heap.size + 1, 0, none⟩ = some u := T7.rl.cell (i := 0) (by omega); have al8 := low_alloc W7 (.cells #[.int .u64 (leafG xs n i)] 22); have T8 := T7.below al8; have cn8 := cell_new W7 (.int .u64 (leafG xs n i)) 22; have Q8 : (W7.alloc (.cells #[.int .u64 (leafG xs n i)] 22)).cell? ⟨w.heap.size + 1, 0, none⟩ = some u := T8.rl.cell (i := 0) (by omega); have hs8 := T8.size)
        go_wp2_with fail
        refine hK.out _ _ ?_ (fun hHeld => ?_)
        · with_reducible exact True.intro
        clear hK K
        try simp only [Act.put, List.setIfInBounds_toArray, List.set_cons_zero, List.set_cons_succ]
        refine wpAnyH_ready (rs := [0, 3]) (by kernel_rfl) (by simp) ?_
        refine AllReadyH.cons (o := _) rfl (fun K hK => ?_) (AllReadyH.cons (o := _) rfl (fun K hK => ?_) AllReadyH.nil)
        · clear hHeld
          go_simp
          refine hK.out _ _ ?_ (fun hHeld => ?_)
          · with_reducible exact True.intro
          clear hK K
          try simp only [Act.put, List.setIfInBounds_toArray, List.set_cons_zero, List.set_cons_succ]
          refine wpAnyH_ready (rs := [3]) (by kernel_rfl) (by simp) ?_
          refine AllReadyH.cons (o := _) rfl (fun K hK => ?_) AllReadyH.nil
          clear hHeld
          go_simp
          refine hK.out _ _ ?_ (fun hHeld => ?_)
          · with_reducible exact True.intro
          clear hK K
          try simp only [Act.put, List.setIfInBounds_toArray, List.set_cons_zero, List.set_cons_succ]
          refine wpAnyH_ready (rs := [4]) (by kernel_rfl) (by simp) ?_
          refine AllReadyH.cons (o := _) rfl (fun K hK => ?_) AllReadyH.nil
          clear hHeld
          (refine step_append_v (T := 22) Tryz.underlying67 infoW rfl (by decide) (by rfl) _ _ (by rfl) (w.heap.size + 4) u (((pre.map Subtype.val).map (leafG xs n)).map (Value.int .u64)) (.int .u64 (leafG xs n i)) W7.heap.size (by rfl) (by rfl) (by exact T8.lw.asV) (by exact cn8) (by rfl) (by simp; omega) (by omega) ?_; intro u9 w9 hown9 hgr9 hob9; obtain ⟨r9, T10, c10⟩ := T8.leaf hpo hown9 hgr9 hob9; obtain ⟨g9, c9, he9⟩ := hown9.form (by simp); rw [show (List.map (Value.int .u64) (List.map (leafG xs n) (pre.map Subtype.val)) ++ [Value.int .u64 (leafG xs n i)]).length = pre.length + 1 by simp] at he9; subst he9; have P9 := r9.cell (i := 0) (by omega); have F9 := r9.frozen 0)
          refine hK.out _ _ ?_ (fun hHeld => ?_)
          · with_reducible exact True.intro
          clear hK K
          try simp only [Act.put, List.setIfInBounds_toArray]
          refine wpAnyH_ready (rs := [5]) (by kernel_rfl) (by simp) ?_
          refine AllReadyH.cons (o := _) rfl (fun K hK => ?_) AllReadyH.nil
          clear hHeld
          go_simp
          refine hK.out _ _ ?_ (fun hHeld => ?_)
          · with_reducible exact True.intro
          clear hK K
          try simp only [Act.put, List.setIfInBounds_toArray]
          refine wpAnyH_done (by kernel_rfl) ?_ _
          have cA : Ch (fun b => (b = po ∨ v.ownBlock = some b) ∨ b = w.heap.size + 1 ∨ u.ownBlock = some b) W _ := ((Ch.ofBelow (bN.trans (bel3.mono bN.size))).trans ((ch34.mono (fun _ e => e.elim)).trans (c6.mono (fun _ e => .inl e)))).trans ((Ch.ofBelow (hd6.trans bel7)).trans ((Ch.ofBelow al8).trans (c10.mono (fun _ e => .inr e))))
          obtain ⟨k1, k2, k3⟩ := HT.out.keeps hpo cA
          rw [← hs0] at k1
          rw [← show (pre ++ [(⟨i, hi⟩ : Ixm m)]).map Subtype.val = pre.map Subtype.val ++ [i] by simp] at T10
          exact ⟨k1, ⟨k2, k3⟩, _, _, T10⟩
        · clear hHeld
          go_simp
          refine hK.out _ _ ?_ (fun hHeld => ?_)
          · with_reducible exact True.intro
          clear hK K
          try simp only [Act.put, List.setIfInBounds_toArray, List.set_cons_zero, List.set_cons_succ]
          refine wpAnyH_ready (rs := [0]) (by kernel_rfl) (by simp) ?_
          refine AllReadyH.cons (o := _) rfl (fun K hK => ?_) AllReadyH.nil
          clear hHeld
          go_simp
          refine hK.out _ _ ?_ (fun hHeld => ?_)
          · with_reducible exact True.intro
          clear hK K
          try simp only [Act.put, List.setIfInBounds_toArray, List.set_cons_zero, List.set_cons_succ]
          refine wpAnyH_ready (rs := [4]) (by kernel_rfl) (by simp) ?_
          refine AllReadyH.cons (o := _) rfl (fun K hK => ?_) AllReadyH.nil
          clear hHeld
          (refine step_append_v (T := 22) Tryz.underlying67 infoW rfl (by decide) (by rfl) _ _ (by rfl) (w.heap.size + 4) u (((pre.map Subtype.val).map (leafG xs n)).map (Value.int .u64)) (.int .u64 (leafG xs n i)) W7.heap.size (by rfl) (by rfl) (by exact T8.lw.asV) (by exact cn8) (by rfl) (by simp; omega) (by omega) ?_; intro u9 w9 hown9 hgr9 hob9; obtain ⟨r9, T10, c10⟩ := T8.leaf hpo hown9 hgr9 hob9; obtain ⟨g9, c9, he9⟩ := hown9.form (by simp); rw [show (List.map (Value.int .u64) (List.map (leafG xs n) (pre.map Subtype.val)) ++ [Value.int .u64 (leafG xs n i)]).length = pre.length + 1 by simp] at he9; subst he9; have P9 := r9.cell (i := 0) (by omega); have F9 := r9.frozen 0)
          refine hK.out _ _ ?_ (fun hHeld => ?_)
          · with_reducible exact True.intro
          clear hK K
          try simp only [Act.put, List.setIfInBounds_toArray]
          refine wpAnyH_ready (rs := [5]) (by kernel_rfl) (by simp) ?_
          refine AllReadyH.cons (o := _) rfl (fun K hK => ?_) AllReadyH.nil
          clear hHeld
          go_simp
          refine hK.out _ _ ?_ (fun hHeld => ?_)
          · with_reducible exact True.intro
          clear hK K
          try simp only [Act.put, List.setIfInBounds_toArray]
          refine wpAnyH_done (by kernel_rfl) ?_ _
          have cA : Ch (fun b => (b = po ∨ v.ownBlock = some b) ∨ b = w.heap.size + 1 ∨ u.ownBlock = some b) W _ := ((Ch.ofBelow (bN.trans (bel3.mono bN.size))).trans ((ch34.mono (fun _ e => e.elim)).trans (c6.mono (fun _ e => .inl e)))).trans ((Ch.ofBelow (hd6.trans bel7)).trans ((Ch.ofBelow al8).trans (c10.mono (fun _ e => .inr e))))
          obtain ⟨k1, k2, k3⟩ := HT.out.keeps hpo cA
          rw [← hs0] at k1
          rw [← show (pre ++ [(⟨i, hi⟩ : Ixm m)]).map Subtype.val = pre.map Subtype.val ++ [i] by simp] at T10
          exact ⟨k1, ⟨k2, k3⟩, _, _, T10⟩
  case done =>
    rintro D ys W hD hys ⟨v, u, hT⟩ hK
    have hys2 : ys.map Subtype.val = List.range m := hys
    rw [hys2] at hT
    have HT : Hid (TdIn w po n xs (List.range m) (List.range m) v u W) := hT
    have HKD : Hid (W.heap[D]? = some (.deferred (some []))) := hK
    have hDs : D < W.heap.size := (Array.getElem?_eq_some_iff.1 hK).1
    have hLV : (List.range m).map (leafG xs n) = leavesP xs n := by unfold leavesP; rw [hm]
    have hvW : ∀ g, v.ownBlock = some g → w.heap.size + 4 ≤ g ∧ g ≠ D := fun g e => by
      obtain ⟨_, vs', o1, _⟩ := HT.out.ll
      obtain ⟨h5, o, ho, hc⟩ := o1.isCells e
      exact ⟨h5, fun e2 => by rw [e2, hK] at ho; cases ho; cases hc⟩
    have lw := hT.lw
    rw [hLV] at lw
    have hlv : (leavesP xs n).length = m := by rw [leavesP_len, hm]
    obtain ⟨gu, cu, rfl, hgu, _⟩ := lw.form (by rw [hlv]; omega)
    rw [hlv] at lw
    rw [hlv] at HT hT
    have G1 := tgrown_calls m (some ⟨gu, 0, none⟩) m cu (leavesP xs n) po (w.heap.size + 4) ((List.range m).map (chL xs n)) v W (Nat.le_refl _) (by omega) (by omega) (LstW.ofOwn lw hlv) (leavesP_ok xs n) (fun b' o' e => by simp only [Option.some.injEq, Addr.mk.injEq, and_true] at e; obtain ⟨rfl, rfl⟩ := e; exact ⟨by omega, fun e => hT.ll.1 _ e rfl⟩) (by omega) hT.size hT.ro hT.ll.ll (by simp; omega)
    have cl := hT.rl.cell (i := 0) (by omega)
    have cb := hT.bo.cell (i := 0) (by omega)
    have hTL : Hid ((List.range m).map (chL xs n) ++ growL (leavesP xs n) ++ [[3, (n : Int), treeP (leavesP xs n)]] = toldL xs n) := by show _ = _; unfold toldL; rw [hm]; rfl
    have hgl : (growL (leavesP xs n)).length = m - 1 := by rw [growL_len _ _ (Nat.le_refl _), hlv]
    have hokT : okW (treeP (leavesP xs n)) := treeP_ok (leavesP_ok xs n) (by rw [hlv]; omega)
    have hWs := hT.size
    have hbo := hT.bo
    clear hT hK lw hLV hys hys2
    obtain ⟨TR, HTR⟩ : ∃ t, Hid (treeP (leavesP xs n) = t) := ⟨_, rfl⟩
    rw [HTR.out] at G1 hTL hokT
    have okk : okL [3, (n : Int), TR] := okL_cons ⟨by decide, by decide⟩ (okL_cons ⟨by omega, by omega⟩ (okL_cons hokT okL_nil))
    gi_wp2_with (first | (refine ⟨trivial, ?_⟩; gi_at_call 50; refine (callsIn_wide.2 G1).mono ?_; rintro e w1 ⟨v1, rfl, row1, ll1, gr1⟩) | (gi_at_call 50; refine (callsIn_wide.2 G1).mono ?_; rintro e w1 ⟨v1, rfl, row1, ll1, gr1⟩))
    generalize growL (leavesP xs n) = GL at *
    have b1' : w1.rowIs w.heap.size 65 1 (fun _ => .pointer (some ⟨po, 0, none⟩)) := hbo.of_block (gr1.block _ hbo.lt (by omega) (fun e => by have := (hvW _ e).1; omega))
    have s1 := gr1.size
    have al2 := low_alloc w1 (.cells #[.int .u64 3, .int .u64 (n : Int), .int .u64 TR] 22)
    have l2 := LstW.three w1 3 (n : Int) TR 22
    obtain ⟨D2, HD2⟩ : ∃ q, Hid (q = w1.alloc (.cells #[.int .u64 3, .int .u64 (n : Int), .int .u64 TR] 22)) := ⟨_, rfl⟩
    have sz2 : D2.heap.size = w1.heap.size + 1 := by rw [HD2.out]; simp
    rw [← HD2.out] at al2 l2
    rw [← HD2.out]
    obtain ⟨D3, HD3⟩ : ∃ q, Hid (q = (D2.alloc (.cells #[.slice (some ⟨w1.heap.size, 0, none⟩) 3 3] 67)).drew) := ⟨_, rfl⟩
    have bl3 : Below D2.heap.size D2 D3 := by rw [HD3.out]; exact ((Below.refl D2.heap.size D2).alloc (Nat.le_refl _) _).drew
    have bl13 : Below w1.heap.size w1 D3 := al2.trans (bl3.mono al2.size)
    have sz3 : D3.heap.size = D2.heap.size + 1 := by rw [HD3.out]; simp
    have cn3 : D3.cell? ⟨D2.heap.size, 0, none⟩ = some (.slice (some ⟨w1.heap.size, 0, none⟩) 3 3) := by rw [HD3.out]; exact cell_new D2 _ _
    rw [sz2] at cn3
    have l3 := l2.below bl3 (Nat.le_refl _)
    have ll3 := ll1.below bl13
    have row3 := row1.of_block (bl13.block _ row1.lt)
    have b3' := b1'.of_block (bl13.block _ b1'.lt)
    have row2 := row1.of_block (al2.block _ row1.lt)
    have b2' := b1'.of_block (al2.block _ b1'.lt)
    have hne3 := ovfar ll1 (Nat.le_refl _)
    obtain ⟨vs, ov1, ov2, ov3⟩ := ll3
    have hN5 : (vs ++ [Value.slice (some ⟨w1.heap.size, 0, none⟩) 3 3]).length = m + (m - 1) + 1 := by rw [List.length_append, ov2, List.length_append, hgl]; simp
    have hvl : vs.length ≤ 1000 := by rw [ov2, List.length_append, hgl]; simp; omega
    have S2 : D2.drew.cell? ⟨w.heap.size, 0, none⟩ = some (.pointer (some ⟨po, 0, none⟩)) := b2'.cell (i := 0) (by omega)
    have S3 : D3.cell? ⟨w.heap.size, 0, none⟩ = some (.pointer (some ⟨po, 0, none⟩)) := b3'.cell (i := 0) (by omega)
    have P2 : D2.drew.cell? ⟨po, 0, none⟩ = some v1 := row2.cell (i := 0) (by omega)
    have P3 : D3.cell? ⟨po, 0, none⟩ = some v1 := row3.cell (i := 0) (by omega)
    have hv1 : ∀ g, v1.ownBlock = some g → w.heap.size + 4 ≤ g := fun g e => by
      rcases ll1.blk with e1 | ⟨g1, e1, h5, _⟩
      · rw [e1] at e; cases e
      · rw [e1] at e; simp at e; omega
    try gi_wp2_with fail
    refine wpIn_nrm ?_
    refine wpIn_wide.2 ?_
    refine wp_region_held_drew (S := fun q => q.cell? ⟨w.heap.size, 0, none⟩ = some (.pointer (some ⟨po, 0, none⟩))) (by kernel_rfl) (by with_reducible exact S2) (fun hHeld => ?_)
    refine wpAnyH_take (i := 0) (oi := _) (v := ?_) rfl (by kernel_rfl) (by kernel_rfl) (by kernel_rfl) (fun _ _ _ h => h) (Or.inl ⟨by rfl, ?_⟩) (by assumption) ?_
    rotate_left
    · intro w hSw
      try dsimp only at hSw
      go_simp
      try with_reducible rfl
    simp only [Act.put, List.getElem_toArray, List.getElem_cons_zero, List.setIfInBounds_toArray, List.set_cons_zero, List.set_cons_succ]
    refine wpAnyH_take (i := 1) (oi := _) (v := ?_) rfl (by kernel_rfl) (by kernel_rfl) (by kernel_rfl) (fun _ _ _ h => h) (Or.inl ⟨by rfl, ?_⟩) (by assumption) ?_
    rotate_left
    · intro w hSw
      try dsimp only at hSw
      go_simp
      try with_reducible rfl
    simp only [Act.put, List.getElem_toArray, List.getElem_cons_zero, List.getElem_cons_succ, List.setIfInBounds_toArray, List.set_cons_zero, List.set_cons_succ]
    refine wpAnyH_take (i := 2) (oi := _) (v := ?_) rfl (by kernel_rfl) (by kernel_rfl) (by kernel_rfl) (fun _ _ _ h => h) (Or.inl ⟨by rfl, ?_⟩) (by assumption) ?_
    rotate_left
    · intro w hSw
      try dsimp only at hSw
      go_simp
      try with_reducible rfl
    simp only [Act.put, List.getElem_toArray, List.getElem_cons_zero, List.getElem_cons_succ, List.setIfInBounds_toArray, List.set_cons_zero, List.set_cons_succ]
    refine wpAnyH_take (i := 4) (oi := _) (v := ?_) rfl (by kernel_rfl) (by kernel_rfl) (by kernel_rfl) (fun _ _ _ h => h) (Or.inl ⟨by rfl, ?_⟩) (by assumption) ?_
    rotate_left
    · intro w hSw
      try dsimp only at hSw
      go_simp
      try with_reducible rfl
    simp only [Act.put, List.getElem_toArray, List.getElem_cons_zero, List.getElem_cons_succ, List.setIfInBounds_toArray, List.set_cons_zero, List.set_cons_succ]
    refine wpAnyH_ready (rs := [3, 5]) (by kernel_rfl) (by simp) ?_
    refine AllReadyH.cons (o := _) rfl (fun K hK => ?_) (AllReadyH.cons (o := _) rfl (fun K hK => ?_) AllReadyH.nil)
    · clear hHeld
      go_simp
      refine hK.out _ _ ?_ (fun hHeld => ?_)
      · with_reducible exact S2
      clear hK K
      try simp only [Act.put, List.setIfInBounds_toArray, List.set_cons_zero, List.set_cons_succ]
      refine wpAnyH_ready (rs := [5]) (by kernel_rfl) (by simp) ?_
      refine AllReadyH.cons (o := _) rfl (fun K hK => ?_) AllReadyH.nil
      clear hHeld
      go_simp
      rw [← HD3.out]
      refine hK.out _ _ ?_ (fun hHeld => ?_)
      · with_reducible exact S3
      clear hK K
      try simp only [Act.put, List.setIfInBounds_toArray, List.set_cons_zero, List.set_cons_succ]
      refine wpAnyH_ready (rs := [6]) (by kernel_rfl) (by simp) ?_
      refine AllReadyH.cons (o := _) rfl (fun K hK => ?_) AllReadyH.nil
      clear hHeld
      (refine step_append_v (T := 67) Tryz.underlying63 infoWL rfl (by decide) (by rfl) _ _ (by rfl) (w.heap.size + 4) v1 vs (.slice (some ⟨w1.heap.size, 0, none⟩) 3 3) (w1.heap.size + 1) (by rfl) (by rfl) (by exact ov1) (by exact cn3) (by rfl) (by exact hvl) (by omega) ?_; intro v5 w5 hown5 hgr5 hob5; have ll5 := OwnLL.push ov2 ov3 l3 (by omega) (by omega) hne3 hown5 hgr5 hob5; obtain ⟨g5, c5, he5⟩ := hown5.form (by simp); rw [hN5] at he5; subst he5; have r5 := row3.of_block (hgr5.block _ row3.lt (fun e => by have := hv1 _ e.symm; omega)); have b5 := b3'.of_block (hgr5.block _ b3'.lt (fun e => by have := hv1 _ e.symm; omega)); have P5 := r5.cell (i := 0) (by omega); have F5 := r5.frozen 0; have S5 := b5.cell (i := 0) (by omega); have S6 : (w5.setCell ⟨po, 0, none⟩ (.slice (some ⟨g5, 0, none⟩) (m + (m - 1) + 1) c5)).cell? ⟨w.heap.size, 0, none⟩ = some (.pointer (some ⟨po, 0, none⟩)) := (b5.of_block (Go.Deep.blk_setCell_other w5 ⟨po, 0, none⟩ _ _ (by show w.heap.size ≠ po; omega))).cell (i := 0) (by omega))
      refine hK.out _ _ ?_ (fun hHeld => ?_)
      · with_reducible exact S5
      clear hK K
      try simp only [Act.put, List.setIfInBounds_toArray]
      refine wpAnyH_take (i := 7) (oi := _) (v := ?_) rfl (by kernel_rfl) (by kernel_rfl) (by kernel_rfl) (fun _ _ _ h => h) (Or.inl ⟨by rfl, ?_⟩) (by assumption) ?_
      rotate_left
      · intro w hSw
        try dsimp only at hSw
        go_simp
        try with_reducible rfl
      simp only [Act.put, List.getElem_toArray, List.getElem_cons_zero, List.getElem_cons_succ, List.setIfInBounds_toArray, List.set_cons_zero, List.set_cons_succ]
      refine wpAnyH_ready (rs := [8]) (by kernel_rfl) (by simp) ?_
      refine AllReadyH.cons (o := _) rfl (fun K hK => ?_) AllReadyH.nil
      clear hHeld
      go_simp
      refine hK.out _ _ ?_ (fun hHeld => ?_)
      · with_reducible exact S6
      clear hK K
      try simp only [Act.put, List.setIfInBounds_toArray]
      refine wpAnyH_done (by kernel_rfl) ?_ _
      dsimp only [nrm]
      rw [hTL.out] at ll5
      have rZ := one_set (v' := .slice (some ⟨g5, 0, none⟩) (m + (m - 1) + 1) c5) r5
      have llZ : OwnLL (w.heap.size + 4) (w5.setCell ⟨po, 0, none⟩ (.slice (some ⟨g5, 0, none⟩) (m + (m - 1) + 1) c5)) (.slice (some ⟨g5, 0, none⟩) (m + (m - 1) + 1) c5) (toldL xs n) := ll5.keptG (by rw [World.size_setCell]; exact Nat.le_refl _) (fun b hb _ => Go.Deep.blk_setCell_other w5 ⟨po, 0, none⟩ _ b (by show b ≠ po; omega))
      have gZ : GrowR po D3 v1 (w5.setCell ⟨po, 0, none⟩ (.slice (some ⟨g5, 0, none⟩) (m + (m - 1) + 1) c5)) (.slice (some ⟨g5, 0, none⟩) (m + (m - 1) + 1) c5) := by
        refine ⟨hgr5.os, hgr5.tape, hgr5.output, by rw [World.size_setCell]; exact hgr5.size, fun b hb hp hv => ?_, ?_⟩
        · exact (Go.Deep.blk_setCell_other w5 ⟨po, 0, none⟩ _ b hp).trans (hgr5.block b hb (fun e => hv e.symm))
        · rcases hob5 with h | h
          · exact .inl h
          · exact .inr ⟨_, h, Nat.le_refl _⟩
      have gT := (gr1.trans (GrowR.ofBelow v1 bl13)).trans gZ
      have lZ : LstW (w5.setCell ⟨po, 0, none⟩ (.slice (some ⟨g5, 0, none⟩) (m + (m - 1) + 1) c5)) (some ⟨w1.heap.size, 0, none⟩) 3 3 [3, (n : Int), TR] := (l3.kept hgr5 hne3).kept (grownBy_setCell' w5 po _) (by simp; omega)
      have MD := tmade_calls (some ⟨w1.heap.size, 0, none⟩) 3 3 [3, (n : Int), TR] _ lZ (by omega) (by omega) okk
      rw [made_three] at MD
      clear S2 S3 P2 P3 S5 S6 P5 F5 hown5 hgr5 hob5 ov1 ov2 ov3 ll5 r5 b5 l3 lZ cn3 gZ gr1 G1
      gi_wp2_with (first | (refine ⟨trivial, ?_⟩; gi_at_call 29; refine (callsIn_wide.2 MD).mono ?_; rintro e w7 ⟨rfl, bel7⟩) | (gi_at_call 29; refine (callsIn_wide.2 MD).mono ?_; rintro e w7 ⟨rfl, bel7⟩))
      have gF := gT.trans (GrowR.ofBelow _ bel7)
      have hK7 : w7.heap[D]? = some (.deferred (some [])) := (gF.block D hDs (by omega) (fun e => (hvW _ e).2 rfl)).trans HKD.out
      refine ⟨by simp, .inl ⟨_, _, rfl, run_takeDeferred hK7, ?_⟩⟩
      have hgp := grownBy_putObj' w7 D (.deferred none)
      have key : ∀ (b : Nat) (o : Obj), w7.heap[b]? = some o → o.isCells = true → (w7.putObj D (.deferred none)).heap[b]? = some o := fun b o ho hc => (hgp.block b (Array.getElem?_eq_some_iff.1 ho).1 (fun e => by cases e; rw [hK7] at ho; cases ho; cases hc)).trans ho
      have ll7 := (llZ.below bel7).lo.kept (w' := w7.putObj D (.deferred none)) hgp.size (fun b o _ ho hc _ => key b o ho hc)
      have hEnd : Ending.returned (.int .u64 (ofP 3 [(n : Int), TR])) = Ending.returned (.int .u64 (ofP 3 [(n : Int), treeP (leavesP xs n)])) := by rw [HTR.out]
      exact ⟨.int .u64 (ofP 3 [(n : Int), TR]), by simp [results, Tryz.f27, go_sem], _, hEnd, rowIs_same (rZ.of_block (bel7.block _ rZ.lt)) (key _), ll7.ll.mono (by omega), ⟨hgp.os.trans (gF.os.trans HT.out.gr.os), hgp.tape.trans (gF.tape.trans HT.out.gr.tape), hgp.output.trans (gF.output.trans HT.out.gr.output), Nat.le_trans HT.out.gr.size (Nat.le_trans gF.size hgp.size), fun k hk hne => (hgp.block k (by have := HT.out.gr.size; have := gF.size; omega) (fun e => by cases e; omega)).trans ((gF.block k (by omega) (fun e => hne (by rw [e])) (fun e => by have := (hvW _ e).1; omega)).trans (HT.out.gr.block k hk hne))⟩⟩
    · clear hHeld
      go_simp
      rw [← HD3.out]
      refine hK.out _ _ ?_ (fun hHeld => ?_)
      · with_reducible exact S3
      clear hK K
      try simp only [Act.put, List.setIfInBounds_toArray, List.set_cons_zero, List.set_cons_succ]
      refine wpAnyH_ready (rs := [3]) (by kernel_rfl) (by simp) ?_
      refine AllReadyH.cons (o := _) rfl (fun K hK => ?_) AllReadyH.nil
      clear hHeld
      go_simp
      refine hK.out _ _ ?_ (fun hHeld => ?_)
      · with_reducible exact S3
      clear hK K
      try simp only [Act.put, List.setIfInBounds_toArray, List.set_cons_zero, List.set_cons_succ]
      refine wpAnyH_ready (rs := [6]) (by kernel_rfl) (by simp) ?_
      refine AllReadyH.cons (o := _) rfl (fun K hK => ?_) AllReadyH.nil
      clear hHeld
      (refine step_append_v (T := 67) Tryz.underlying63 infoWL rfl (by decide) (by rfl) _ _ (by rfl) (w.heap.size + 4) v1 vs (.slice (some ⟨w1.heap.size, 0, none⟩) 3 3) (w1.heap.size + 1) (by rfl) (by rfl) (by exact ov1) (by exact cn3) (by rfl) (by exact hvl) (by omega) ?_; intro v5 w5 hown5 hgr5 hob5; have ll5 := OwnLL.push ov2 ov3 l3 (by omega) (by omega) hne3 hown5 hgr5 hob5; obtain ⟨g5, c5, he5⟩ := hown5.form (by simp); rw [hN5] at he5; subst he5; have r5 := row3.of_block (hgr5.block _ row3.lt (fun e => by have := hv1 _ e.symm; omega)); have b5 := b3'.of_block (hgr5.block _ b3'.lt (fun e => by have := hv1 _ e.symm; omega)); have P5 := r5.cell (i := 0) (by omega); have F5 := r5.frozen 0; have S5 := b5.cell (i := 0) (by omega); have S6 : (w5.setCell ⟨po, 0, none⟩ (.slice (some ⟨g5, 0, none⟩) (m + (m - 1) + 1) c5)).cell? ⟨w.heap.size, 0, none⟩ = some (.pointer (some ⟨po, 0, none⟩)) := (b5.of_block (Go.Deep.blk_setCell_other w5 ⟨po, 0, none⟩ _ _ (by show w.heap.size ≠ po; omega))).cell (i := 0) (by omega))
      refine hK.out _ _ ?_ (fun hHeld => ?_)
      · with_reducible exact S5
      clear hK K
      try simp only [Act.put, List.setIfInBounds_toArray]
      refine wpAnyH_take (i := 7) (oi := _) (v := ?_) rfl (by kernel_rfl) (by kernel_rfl) (by kernel_rfl) (fun _ _ _ h => h) (Or.inl ⟨by rfl, ?_⟩) (by assumption) ?_
      rotate_left
      · intro w hSw
        try dsimp only at hSw
        go_simp
        try with_reducible rfl
      simp only [Act.put, List.getElem_toArray, List.getElem_cons_zero, List.getElem_cons_succ, List.setIfInBounds_toArray, List.set_cons_zero, List.set_cons_succ]
      refine wpAnyH_ready (rs := [8]) (by kernel_rfl) (by simp) ?_
      refine AllReadyH.cons (o := _) rfl (fun K hK => ?_) AllReadyH.nil
      clear hHeld
      go_simp
      refine hK.out _ _ ?_ (fun hHeld => ?_)
      · with_reducible exact S6
      clear hK K
      try simp only [Act.put, List.setIfInBounds_toArray]
      refine wpAnyH_done (by kernel_rfl) ?_ _
      dsimp only [nrm]
      rw [hTL.out] at ll5
      have rZ := one_set (v' := .slice (some ⟨g5, 0, none⟩) (m + (m - 1) + 1) c5) r5
      have llZ : OwnLL (w.heap.size + 4) (w5.setCell ⟨po, 0, none⟩ (.slice (some ⟨g5, 0, none⟩) (m + (m - 1) + 1) c5)) (.slice (some ⟨g5, 0, none⟩) (m + (m - 1) + 1) c5) (toldL xs n) := ll5.keptG (by rw [World.size_setCell]; exact Nat.le_refl _) (fun b hb _ => Go.Deep.blk_setCell_other w5 ⟨po, 0, none⟩ _ b (by show b ≠ po; omega))
      have gZ : GrowR po D3 v1 (w5.setCell ⟨po, 0, none⟩ (.slice (some ⟨g5, 0, none⟩) (m + (m - 1) + 1) c5)) (.slice (some ⟨g5, 0, none⟩) (m + (m - 1) + 1) c5) := by
        refine ⟨hgr5.os, hgr5.tape, hgr5.output, by rw [World.size_setCell]; exact hgr5.size, fun b hb hp hv => ?_, ?_⟩
        · exact (Go.Deep.blk_setCell_other w5 ⟨po, 0, none⟩ _ b hp).trans (hgr5.block b hb (fun e => hv e.symm))
        · rcases hob5 with h | h
          · exact .inl h
          · exact .inr ⟨_, h, Nat.le_refl _⟩
      have gT := (gr1.trans (GrowR.ofBelow v1 bl13)).trans gZ
      have lZ : LstW (w5.setCell ⟨po, 0, none⟩ (.slice (some ⟨g5, 0, none⟩) (m + (m - 1) + 1) c5)) (some ⟨w1.heap.size, 0, none⟩) 3 3 [3, (n : Int), TR] := (l3.kept hgr5 hne3).kept (grownBy_setCell' w5 po _) (by simp; omega)
      have MD := tmade_calls (some ⟨w1.heap.size, 0, none⟩) 3 3 [3, (n : Int), TR] _ lZ (by omega) (by omega) okk
      rw [made_three] at MD
      clear S2 S3 P2 P3 S5 S6 P5 F5 hown5 hgr5 hob5 ov1 ov2 ov3 ll5 r5 b5 l3 lZ cn3 gZ gr1 G1
      gi_wp2_with (first | (refine ⟨trivial, ?_⟩; gi_at_call 29; refine (callsIn_wide.2 MD).mono ?_; rintro e w7 ⟨rfl, bel7⟩) | (gi_at_call 29; refine (callsIn_wide.2 MD).mono ?_; rintro e w7 ⟨rfl, bel7⟩))
      have gF := gT.trans (GrowR.ofBelow _ bel7)
      have hK7 : w7.heap[D]? = some (.deferred (some [])) := (gF.block D hDs (by omega) (fun e => (hvW _ e).2 rfl)).trans HKD.out
      refine ⟨by simp, .inl ⟨_, _, rfl, run_takeDeferred hK7, ?_⟩⟩
      have hgp := grownBy_putObj' w7 D (.deferred none)
      have key : ∀ (b : Nat) (o : Obj), w7.heap[b]? = some o → o.isCells = true → (w7.putObj D (.deferred none)).heap[b]? = some o := fun b o ho hc => (hgp.block b (Array.getElem?_eq_some_iff.1 ho).1 (fun e => by cases e; rw [hK7] at ho; cases ho; cases hc)).trans ho
      have ll7 := (llZ.below bel7).lo.kept (w' := w7.putObj D (.deferred none)) hgp.size (fun b o _ ho hc _ => key b o ho hc)
      have hEnd : Ending.returned (.int .u64 (ofP 3 [(n : Int), TR])) = Ending.returned (.int .u64 (ofP 3 [(n : Int), treeP (leavesP xs n)])) := by rw [HTR.out]
      exact ⟨.int .u64 (ofP 3 [(n : Int), TR]), by simp [results, Tryz.f27, go_sem], _, hEnd, rowIs_same (rZ.of_block (bel7.block _ rZ.lt)) (key _), ll7.ll.mono (by omega), ⟨hgp.os.trans (gF.os.trans HT.out.gr.os), hgp.tape.trans (gF.tape.trans HT.out.gr.tape), hgp.output.trans (gF.output.trans HT.out.gr.output), Nat.le_trans HT.out.gr.size (Nat.le_trans gF.size hgp.size), fun k hk hne => (hgp.block k (by have := HT.out.gr.size; have := gF.size; omega) (fun e => by cases e; omega)).trans ((gF.block k (by omega) (fun e => hne (by rw [e])) (fun e => by have := (hvW _ e).1; omega)).trans (HT.out.gr.block k hk hne))⟩⟩
end Go.Proofs.YtkikhfdkibekgaaGreat.Fx

/- TopReplays returns true, whatever is handed in. -/
namespace Go.Proofs.YtkikhfdkibekgaaGreat.Fx
open Go.RowKit

theorem topReplays_any (c : Cfg) (a : Option Addr) (n cap : Nat) (X : Nat → Exm) (DI DO : Nat → List Int) (n0 : Int) (x : Exm) (ws ms : List Int) (r : Rcm) (bs : List Int) (w : World) (hs : (Lit.int .u64 c.seed).wf = true) (hx : Exs w a n cap X DI DO) (_ : (Lit.int .i64 n0).wf = true) (l : InEx w x ws ms) (hr : RecIn w r bs) (hz : x.n * 8 ≤ 140737488351232 ∧ x.m * 8 ≤ 140737488351232) :
    Calls Tryz.prog 3 #[c.val, .slice a n cap, .int .i64 n0, x.val, r.val] w fun e w' => e = .returned (.bool true) ∧ Below w.heap.size w w' :=
  topReplays_core c (wf_word hs) a n cap X DI DO n0 x.a x.n x.k ws x.b x.m x.t ms r bs w hx l.i l.o hr.l (by omega) (Nat.le_trans hr.n (by decide)) holds_says (two_says told_says)
end Go.Proofs.YtkikhfdkibekgaaGreat.Fx
