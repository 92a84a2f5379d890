/- A list of states that the program itself makes by append: what is known of it, and what one append more leaves. -/
import Derived.Test.YtnlcheebdkjpbaeJ11
import Derived.Test.YtnlcheebdkjpbaeJ25
import Derived.Test.YtnlcheebdkjpbaeJ01
namespace Go.Proofs.Ytnlcheebdkjpbae.Fx
open Go.RowKit

def stCells (X : Nat → Exm) : Nat → List Value
  | 0 => []
  | n + 1 => stCells X n ++ [.slice (X n).a (X n).n (X n).k, .slice (X n).b (X n).m (X n).t]
theorem stCells_len (X : Nat → Exm) (n : Nat) : (stCells X n).length = n * 2 := by
  induction n with
  | zero => rfl
  | succ k ih => simp [stCells, ih]; omega
theorem stCells_congr {X Y : Nat → Exm} {n : Nat} (h : ∀ i, i < n → X i = Y i) : stCells X n = stCells Y n := by
  induction n with
  | zero => rfl
  | succ k ih => simp only [stCells]; rw [ih (fun i hi => h i (by omega)), h k (by omega)]
theorem stCells_at (X : Nat → Exm) {n i : Nat} (h : i < n) : (stCells X n)[i * 2]? = some (.slice (X i).a (X i).n (X i).k) ∧ (stCells X n)[i * 2 + 1]? = some (.slice (X i).b (X i).m (X i).t) := by
  induction n with
  | zero => omega
  | succ k ih =>
    have hl := stCells_len X k
    simp only [stCells]
    by_cases e : i = k
    · subst e
      rw [List.getElem?_append_right (by omega), List.getElem?_append_right (by omega), hl]
      simp
    · have g := ih (by omega)
      rw [List.getElem?_append_left (by omega), List.getElem?_append_left (by omega)]
      exact g
theorem stCells_one {X : Nat → Exm} {n : Nat} {v : Value} (h : v ∈ stCells X n) : v.oneCell' = true := by
  induction n with
  | zero => cases h
  | succ k ih =>
    simp only [stCells, List.mem_append, List.mem_cons, List.not_mem_nil, or_false] at h
    rcases h with h | h | h
    · exact ih h
    · rw [h]; rfl
    · rw [h]; rfl
/-- The slice value v, made from block number base on, owns the states X. -/
def OwnS (base : Nat) (w : World) (v : Value) (n : Nat) (X : Nat → Exm) : Prop := w.ownsRow base 51 2 v n (stCells X n)
theorem OwnS.nil (base : Nat) (w : World) (X : Nat → Exm) : OwnS base w (.slice none 0 0) 0 X := World.ownsRow_nil _ _ _ _
theorem OwnS.below {base : Nat} {w w' : World} {v : Value} {n : Nat} {X : Nat → Exm} (h : OwnS base w v n X) (hb : Below w.heap.size w w') : OwnS base w' v n X := by
  refine ⟨h.1, ?_⟩
  rcases h.2 with h0 | ⟨g, cap, cur, hv, hg, hh, r⟩
  · exact .inl h0
  · exact .inr ⟨g, cap, cur, hv, hg, by rw [hb.block g (Array.getElem?_eq_some_iff.1 hh).1]; exact hh, r⟩
theorem OwnS.exs {base : Nat} {w : World} {v : Value} {n : Nat} {X : Nat → Exm} {DI DO : Nat → List Int} (h : OwnS base w v n X) (hin : ∀ i, i < n → InEx w (X i) (DI i) (DO i)) : ∃ a c, v = .slice a n c ∧ Exs w a n c X DI DO := by
  obtain ⟨hl, h2⟩ := h
  rcases h2 with ⟨rfl, rfl⟩ | ⟨g, cap, cur, rfl, _, hh, hle, _, hsz, hcur⟩
  · exact ⟨none, 0, rfl, Nat.le_refl _, .inl rfl⟩
  · refine ⟨_, cap, rfl, hle, .inr ⟨g, 0, rfl, (Array.getElem?_eq_some_iff.1 hh).1, fun i hi => ?_⟩⟩
    have hc : ∀ j, j < n * 2 → w.cell? ⟨g, 0 + j, none⟩ = (stCells X n)[j]? := fun j hj => by
      rw [← hcur, List.getElem?_take_of_lt hj]
      simp [World.cell?, hh]
    have g2 := stCells_at X hi
    refine ⟨(hc (i * 2) (by omega)).trans g2.1, ?_, hin i hi⟩
    have := hc (i * 2 + 1) (by omega)
    rw [← Nat.add_assoc] at this
    exact this.trans g2.2

theorem infoS : (Try.prog.info? 51).map (fun i => (i.zero, i.size, i.bytes)) = some (some (.agg #[.slice none 0 0, .slice none 0 0]), 2, 48) := by kernel_rfl

section
variable {w' W0 : World} {ops : Array Oper} {o : Oper} {a : Act} {Q : Exit → Act → World → Prop}
theorem run_append_st (ty : TypeId) (base : Nat) (v : Value) (n : Nat) (X : Nat → Exm) (g : Nat) (hown : OwnS base w' v n X) (hc0 : w'.cell? ⟨g, 0, none⟩ = some (.slice (X n).a (X n).n (X n).k)) (hc1 : w'.cell? ⟨g, 1, none⟩ = some (.slice (X n).b (X n).m (X n).t)) (hn : (n + 1) * 48 ≤ 140737488355328) (hbase : base ≤ w'.heap.size) :
    ∃ v' w1, (Builtin.append_ #[62, 62] ty #[v, .slice (some ⟨g, 0, none⟩) 1 1]).run Try.prog w' = .ok v' w1 ∧ OwnS base w1 v' (n + 1) X ∧ w'.grownBy w1 v.ownBlock ∧ (v'.ownBlock = v.ownBlock ∨ v'.ownBlock = some w'.heap.size) := by
  obtain ⟨i0, hi, hz0, hz1, hz2⟩ := info_parts infoS
  obtain ⟨v', w1, hrun, h1, h2, _, h3⟩ := run_append_own_at (P := Try.prog) w' base 62 ty 51 i0 (.agg #[.slice none 0 0, .slice none 0 0]) 2 48 Try.underlying62 hi hz0 hz1 hz2 rfl (by decide) v n _ hown ⟨g, 0, none⟩ 1 1 [.slice (X n).a (X n).n (X n).k, .slice (X n).b (X n).m (X n).t] rfl
    (by intro j u hj
        match j, hj with
        | 0, hj => simp at hj; subst hj; simpa [Addr.add] using hc0
        | 1, hj => simp at hj; subst hj; simpa [Addr.add] using hc1)
    (by intro u hu
        simp at hu
        rcases hu with rfl | rfl <;> rfl) (by unfold maxLen; omega) hn hbase
  exact ⟨v', w1, hrun, h1, h2, h3⟩

theorem wpList_append_st {rest : List Oper} (hgd : o.guard = none) (s x : Operand) (ho : o.op = .call { callee := .builtin .append, args := #[s, x], argTypes := #[62, 62] })
    (base : Nat) (v : Value) (n : Nat) (X : Nat → Exm) (g : Nat) (hs : a.eval s = v) (hx : a.eval x = .slice (some ⟨g, 0, none⟩) 1 1) (hown : OwnS base w' v n X) (hc0 : w'.cell? ⟨g, 0, none⟩ = some (.slice (X n).a (X n).n (X n).k)) (hc1 : w'.cell? ⟨g, 1, none⟩ = some (.slice (X n).b (X n).m (X n).t)) (hn : (n + 1) * 48 ≤ 140737488355328) (hbase : base ≤ w'.heap.size)
    (h : ∀ v' w1, OwnS base w1 v' (n + 1) X → w'.grownBy w1 v.ownBlock → (v'.ownBlock = v.ownBlock ∨ v'.ownBlock = some w'.heap.size) → wpList Try.prog ops Q rest (a.put o.dst v') w1) : wpList Try.prog ops Q (o :: rest) a w' := by
  obtain ⟨v', w1, hrun, h1, h2, h3⟩ := run_append_st o.type base v n X g hown hc0 hc1 hn hbase
  refine wpList_plain hgd fun K hK => ?_
  unfold Oper.wp
  simp [execOp, ho, resolve, invoke, builtin, hs, hx, hrun, Result.andThen]
  exact hK _ _ (h v' w1 h1 h2 h3)
end

end Go.Proofs.Ytnlcheebdkjpbae.Fx

/- What train.Run returns, whatever is handed in. -/
namespace Go.Proofs.Ytnlcheebdkjpbae.Fx
open Go.RowKit

theorem made2 (w : World) (z : Value) (m : Nat) (t : TypeId) : (w.alloc (.cells (madeCells #[z, z] m) t)).rowIs w.heap.size t m (fun _ => z) := by
  refine ⟨_, Go.Deep.blk_alloc_new _ _, size_madeCells _ _, fun i hi => ?_⟩
  have h2 : i % 2 = 0 ∨ i % 2 = 1 := by omega
  rcases h2 with h2 | h2 <;> simp [madeCells, hi, h2]
/-- The cells of a list of states, of which the first K are X's. -/
def outF (X : Nat → Exm) (K i : Nat) : Value := if i < K * 2 then (if i % 2 = 0 then .slice (X (i / 2)).a (X (i / 2)).n (X (i / 2)).k else .slice (X (i / 2)).b (X (i / 2)).m (X (i / 2)).t) else .slice none 0 0
theorem outF_zero {w : World} {b t n : Nat} {X : Nat → Exm} (h : w.rowIs b t n (fun _ => .slice none 0 0)) : w.rowIs b t n (outF X 0) := h.congr (fun i _ => by unfold outF; rw [if_neg (by omega)])
theorem outF_at {w : World} {b t n K j : Nat} {X : Nat → Exm} (h : w.rowIs b t n (outF X K)) (hj : j < K) (hn : K * 2 ≤ n) : w.cell? ⟨b, j * 2, none⟩ = some (.slice (X j).a (X j).n (X j).k) ∧ w.cell? ⟨b, j * 2 + 1, none⟩ = some (.slice (X j).b (X j).m (X j).t) := by
  refine ⟨?_, ?_⟩
  · rw [h.cell (by omega)]
    unfold outF
    rw [if_pos (by omega), if_pos (by omega), show j * 2 / 2 = j by omega]
  · rw [h.cell (by omega)]
    unfold outF
    rw [if_pos (by omega), if_neg (by omega), show (j * 2 + 1) / 2 = j by omega]
theorem outF_new {w : World} {b t n K j : Nat} {X : Nat → Exm} (h : w.rowIs b t n (outF X K)) (hj : K * 2 ≤ j) (hn : j < n) : w.cell? ⟨b, j, none⟩ = some (.slice none 0 0) := by
  rw [h.cell hn]
  unfold outF
  rw [if_neg (by omega)]
theorem outF_push {w : World} {b t n K : Nat} {X : Nat → Exm} (h : w.rowIs b t n (outF X K)) (x : Exm) : ((w.setCell ⟨b, K * 2, none⟩ (.slice x.a x.n x.k)).setCell ⟨b, K * 2 + 1, none⟩ (.slice x.b x.m x.t)).rowIs b t n (outF (fun j => if j = K then x else X j) (K + 1)) := by
  refine ((h.set _ _).set _ _).congr (fun i hi => ?_)
  by_cases e1 : i = K * 2 + 1
  · rw [if_pos e1]
    unfold outF
    rw [if_pos (by omega), if_neg (by omega), show i / 2 = K by omega]
    simp
  · rw [if_neg e1]
    by_cases e2 : i = K * 2
    · rw [if_pos e2]
      unfold outF
      rw [if_pos (by omega), if_pos (by omega), show i / 2 = K by omega]
      simp
    · rw [if_neg e2]
      unfold outF
      by_cases e3 : i < K * 2
      · have e4 : i / 2 ≠ K := by omega
        have e5 : i < (K + 1) * 2 := by omega
        rw [if_pos e3, if_pos e5]
        simp [e4]
      · rw [if_neg e3, if_neg (by omega)]
theorem InEx.setOff {w : World} {x : Exm} {I O : List Int} (h : InEx w x I O) {p : Addr} {u : Option Addr} {y z : Nat} (hp : w.cell? p = some (.slice u y z)) (v : Value) : InEx (w.setCell p v) x I O := ⟨h.i.setOff hp v, h.o.setOff hp v⟩

theorem makeS (k : Nat) (hk : k ≤ 1000) (w : World) : (Instr.makeSlice 62 (.int .i64 ((k : Int) + 1)) (.int .i64 ((k : Int) + 1))).run Try.prog w = .ok (.slice (some ⟨w.heap.size, 0, none⟩) (k + 1) (k + 1)) (w.alloc (.cells (madeCells #[.slice none 0 0, .slice none 0 0] ((k + 1) * 2)) 51)) := by
  obtain ⟨i0, hi, hz0, hz1, hz2⟩ := info_parts infoS
  have h := run_make (P := Try.prog) w 62 51 i0 _ Try.underlying62 hi hz0 .i64 .i64 ((k : Int) + 1) ((k : Int) + 1) (by omega) (Int.le_refl _) (by rw [hz2]; omega) (by omega)
  rw [hz1, show ((k : Int) + 1).toNat = k + 1 by omega] at h
  exact h

/-- What is known of a course's states that lie in a list. -/
def StIn (w : World) (N k : Nat) (X : Nat → Exm) (DW DM : Nat → List Int) : Prop := ∀ j, j ≤ k → InEx w (X j) (DW j) (DM j) ∧ (X j).n = N ∧ (X j).m = N
theorem StIn.below {w w' : World} {N k : Nat} {X : Nat → Exm} {DW DM : Nat → List Int} (h : StIn w N k X DW DM) {Bd : Nat} (hb : Below Bd w w') (hB : w.heap.size ≤ Bd) : StIn w' N k X DW DM := fun j hj => ⟨(h j hj).1.below hb hB, (h j hj).2⟩
theorem StIn.setOff {w : World} {N k : Nat} {X : Nat → Exm} {DW DM : Nat → List Int} (h : StIn w N k X DW DM) {p : Addr} {u : Option Addr} {y z : Nat} (hp : w.cell? p = some (.slice u y z)) (v : Value) : StIn (w.setCell p v) N k X DW DM := fun j hj => ⟨(h j hj).1.setOff hp v, (h j hj).2⟩
theorem StIn.push {w : World} {N k : Nat} {X : Nat → Exm} {DW DM : Nat → List Int} (h : StIn w N k X DW DM) {x : Exm} (hx : InEx w x (DW (k + 1)) (DM (k + 1))) (hn : x.n = N) (hm : x.m = N) : StIn w N (k + 1) (fun j => if j = k + 1 then x else X j) DW DM := fun j hj => by
  by_cases e : j = k + 1
  · subst e; simp only [if_pos]; exact ⟨hx, hn, hm⟩
  · simp only [if_neg e]; exact h j (by omega)

set_option maxRecDepth 100000 in
set_option maxHeartbeats 6400000 in
theorem tRun_good (I H O B : Nat) (seed crate decay how keep clip : Int) (hs : okW seed) (steps : Int) (hc : cfgB ⟨I, H, O, seed, B, steps, crate, decay, how, keep, clip⟩ = true) (N : Nat) (hN : N = H * I + H + O * H + O) (a : Option Addr) (n cap : Nat) (X : Nat → Exm) (DI DO : Nat → List Int) (nn : Nat) (w : World)
    (hx : Exs w a n cap X DI DO) (hn1 : 1 ≤ n) (hn2 : n ≤ 16) (hex : allEx ⟨I, H, O, seed, B, steps, crate, decay, how, keep, clip⟩ n X DI DO = true) (hnn : (nn : Int) ≤ steps) (HC : Hid (∀ q, Below w.heap.size w q → Calls Try.prog 61 #[Cfg.val ⟨I, H, O, seed, B, steps, crate, decay, how, keep, clip⟩, .slice a n cap] q fun e w' => e = .returned (.int .i64 0) ∧ Below q.heap.size q w')) :
    Calls Try.prog 30 #[Cfg.val ⟨I, H, O, seed, B, steps, crate, decay, how, keep, clip⟩, .slice a n cap, .int .i64 nn] w fun e w' => ∃ g Y, e = .returned (.tuple #[.slice (some ⟨g, 0, none⟩) (nn + 1) (nn + 1), .int .i64 0]) ∧ Exs w' (some ⟨g, 0, none⟩) (nn + 1) (nn + 1) Y (fun j => (stateP ⟨I, H, O, seed, B, steps, crate, decay, how, keep, clip⟩ n DI DO N j).1) (fun j => (stateP ⟨I, H, O, seed, B, steps, crate, decay, how, keep, clip⟩ n DI DO N j).2) ∧ Below w.heap.size w w' := by
  obtain ⟨_, _, _, _, ⟨s1, s2⟩, _⟩ := cfgB_is hc
  dsimp only at s1 s2
  obtain ⟨DW, HDW⟩ : ∃ f : Nat → List Int, Hid (∀ j, f j = (stateP ⟨I, H, O, seed, B, steps, crate, decay, how, keep, clip⟩ n DI DO N j).1) := ⟨_, fun _ => rfl⟩
  obtain ⟨DM, HDM⟩ : ∃ f : Nat → List Int, Hid (∀ j, f j = (stateP ⟨I, H, O, seed, B, steps, crate, decay, how, keep, clip⟩ n DI DO N j).2) := ⟨_, fun _ => rfl⟩
  have hEW : (fun j => (stateP ⟨I, H, O, seed, B, steps, crate, decay, how, keep, clip⟩ n DI DO N j).1) = DW := funext fun j => (HDW.out j).symm
  have hEM : (fun j => (stateP ⟨I, H, O, seed, B, steps, crate, decay, how, keep, clip⟩ n DI DO N j).2) = DM := funext fun j => (HDM.out j).symm
  rw [hEW, hEM]
  clear hEW hEM
  have hNI : (N : Int) = sizeN ⟨I, H, O, seed, B, steps, crate, decay, how, keep, clip⟩ := by unfold sizeN; dsimp only; rw [hN]; push_cast; rfl
  have HS : Hid (∀ q, Calls Try.prog 62 #[Cfg.val ⟨I, H, O, seed, B, steps, crate, decay, how, keep, clip⟩] q fun e w' => ∃ ga gb, e = .returned (.agg #[.slice (some ⟨ga, 0, none⟩) N N, .slice (some ⟨gb, 0, none⟩) N N]) ∧ q.heap.size ≤ ga ∧ q.heap.size ≤ gb ∧ Lst w' (some ⟨ga, 0, none⟩) N N (DW 0) ∧ Lst w' (some ⟨gb, 0, none⟩) N N (DM 0) ∧ Below q.heap.size q w') := fun q => by
    rw [HDW.out, HDM.out]
    exact tstart_calls ⟨I, H, O, seed, B, steps, crate, decay, how, keep, clip⟩ hc hs N hNI q
  have HNX : Hid (∀ (q : World) (k : Nat) (a1 : Option Addr) (k1 : Nat) (a2 : Option Addr) (k2 : Nat), Below w.heap.size w q → (k : Int) ≤ steps - 1 → Lst q a1 N k1 (DW k) → Lst q a2 N k2 (DM k) → Calls Try.prog 63 #[Cfg.val ⟨I, H, O, seed, B, steps, crate, decay, how, keep, clip⟩, .slice a n cap, .agg #[.slice a1 N k1, .slice a2 N k2], .int .i64 k] q fun e w' => ∃ b1 d1 b2 d2 bg R, e = .returned (.tuple #[.agg #[.slice b1 N d1, .slice b2 N d2], .slice (some ⟨bg, 0, none⟩) B B, .int .i64 R]) ∧ Lst w' b1 N d1 (DW (k + 1)) ∧ Lst w' b2 N d2 (DM (k + 1)) ∧ Below q.heap.size q w') := fun q k a1 k1 a2 k2 hq hk l1 l2 => by
    have hr := stateP_right ⟨I, H, O, seed, B, steps, crate, decay, how, keep, clip⟩ n DI DO N k
    rw [← HDW.out, ← HDM.out] at hr
    refine (tnext_calls I H O B k seed crate decay how keep clip hs steps hc N hN a n cap X DI DO a1 k1 (DW k) a2 k2 (DM k) q (hx.below hq (Nat.le_refl _)) hn1 hn2 hex l1 l2 hr.1 hr.2 hk).mono ?_
    rintro e w' ⟨x1, e1, x2, e2, bg, he, lw, lm, _, hb⟩
    refine ⟨x1, e1, x2, e2, bg, _, he, ?_, ?_, hb⟩
    · rw [HDW.out (k + 1)]; rw [HDW.out, HDM.out] at lw; exact lw
    · rw [HDM.out (k + 1)]; rw [HDW.out, HDM.out] at lm; exact lm
  have hal := low_alloc w (.cells (Cfg.cells ⟨I, H, O, seed, B, steps, crate, decay, how, keep, clip⟩) 49)
  have CK := HC.out _ hal
  have KB : Hid (∀ q, Below (w.alloc (.cells (Cfg.cells ⟨I, H, O, seed, B, steps, crate, decay, how, keep, clip⟩) 49)).heap.size (w.alloc (.cells (Cfg.cells ⟨I, H, O, seed, B, steps, crate, decay, how, keep, clip⟩) 49)) q → BoxC q w.heap.size ⟨I, H, O, seed, B, steps, crate, decay, how, keep, clip⟩) := fun q hq => boxC hq (by simp)
  have hmk := makeS nn (by omega)
  clear HC hx hex hc hN hNI hs HDW HDM
  simp only [Cfg.val, Cfg.cells] at *
  go_enter Try.func30, Try.ntmps30
  go_wp2_with fail
  refine CK.mono ?_
  rintro e w1 ⟨rfl, hw1⟩
  have KB1 : Hid (∀ q, Below w1.heap.size w1 q → BoxC q w.heap.size ⟨I, H, O, seed, B, steps, crate, decay, how, keep, clip⟩) := fun q hq => KB.out q (hw1.trans (hq.mono hw1.size))
  have hb1 := hal.trans (hw1.mono hal.size)
  have hlt1 : w.heap.size < w1.heap.size := by have := hw1.size; simp at this; omega
  clear CK KB hw1 hal
  have T0 : Below w1.heap.size w1 w1 := Below.refl _ _
  have Ta : Below w1.heap.size w1 (w1.alloc (.cells (madeCells #[.slice none 0 0, .slice none 0 0] ((nn + 1) * 2)) 51)) := T0.alloc T0.size _
  obtain ⟨c0, c1, c2, c3, c4, c5, c6, c7, c8, c9, c10⟩ := KB1.out _ T0
  obtain ⟨e0, e1, e2, e3, e4, e5, e6, e7, e8, e9, e10⟩ := KB1.out _ Ta
  dsimp only at c0 c1 c2 c3 c4 c5 c6 c7 c8 c9 c10 e0 e1 e2 e3 e4 e5 e6 e7 e8 e9 e10
  have rowz := made2 w1 (.slice none 0 0) ((nn + 1) * 2) 51
  have z0 : ¬ (nn : Int) < 0 := by omega
  have z1 : ¬ steps < (nn : Int) := by omega
  go_wp2_with fail
  refine (HS.out _).mono ?_
  rintro e w2 ⟨ga, gb, rfl, hga, hgb, l1, l2, hw2⟩
  have T2 := Ta.trans (hw2.mono Ta.size)
  have row2 := rowz.of_block (hw2.block _ rowz.lt)
  have y0 : w2.cell? ⟨w1.heap.size, 0, none⟩ = some (.slice none 0 0) := row2.cell (by omega)
  have y1 : w2.cell? ⟨w1.heap.size, 1, none⟩ = some (.slice none 0 0) := row2.cell (by omega)
  have x0 := row2.frozen 0
  have x1 := row2.frozen 1
  have i0 : (0 : Int) < (nn : Int) + 1 := by omega
  clear c0 c1 c2 c3 c4 c5 c6 c7 c8 c9 c10 e0 e1 e2 e3 e4 e5 e6 e7 e8 e9 e10 hw2 rowz HS hmk
  go_wp2_with fail
  have y1' : (w2.setCell ⟨w1.heap.size, 0, none⟩ (.slice (some ⟨ga, 0, none⟩) N N)).cell? ⟨w1.heap.size, 1, none⟩ = some (.slice none 0 0) := (row2.set 0 _).cell (i := 1) (by omega)
  have row3 := outF_push (X := fun _ => ⟨some ⟨ga, 0, none⟩, N, N, some ⟨gb, 0, none⟩, N, N⟩) (outF_zero row2) ⟨some ⟨ga, 0, none⟩, N, N, some ⟨gb, 0, none⟩, N, N⟩
  have st3 : StIn ((w2.setCell ⟨w1.heap.size, 0, none⟩ (.slice (some ⟨ga, 0, none⟩) N N)).setCell ⟨w1.heap.size, 1, none⟩ (.slice (some ⟨gb, 0, none⟩) N N)) N 0 (fun j => if j = 0 then ⟨some ⟨ga, 0, none⟩, N, N, some ⟨gb, 0, none⟩, N, N⟩ else ⟨some ⟨ga, 0, none⟩, N, N, some ⟨gb, 0, none⟩, N, N⟩) DW DM := fun j hj => by
    obtain rfl : j = 0 := by omega
    exact ⟨⟨(l1.setOff y0 _).setOff y1' _, (l2.setOff y0 _).setOff y1' _⟩, rfl, rfl⟩
  have T3 : Below w1.heap.size w1 ((w2.setCell ⟨w1.heap.size, 0, none⟩ (.slice (some ⟨ga, 0, none⟩) N N)).setCell ⟨w1.heap.size, 1, none⟩ (.slice (some ⟨gb, 0, none⟩) N N)) := (T2.setCell (Nat.le_refl _) _).setCell (Nat.le_refl _) _
  go_loopw [33] (fun v wr => ∃ (k : Nat) (Y : Nat → Exm), k ≤ nn ∧ v = .int .i64 k ∧ wr.rowIs w1.heap.size 51 ((nn + 1) * 2) (outF Y (k + 1)) ∧ StIn wr N k Y DW DM ∧ Below w1.heap.size w1 wr) (fun v _ => nn - (intOf v).toNat)
  case atStart => exact ⟨0, _, Nat.zero_le _, rfl, row3, st3, T3⟩
  case round =>
    clear row3 st3 T3 y0 y1 y1' x0 x1 l1 l2 row2 T2 hga hgb
    obtain ⟨k, Y, hk, rfl, row, hst, hbel⟩ := hrel
    by_cases hlt : k < nn
    · have cells := outF_at row (show k < k + 1 by omega) (by omega)
      have hsk := hst k (Nat.le_refl _)
      obtain ⟨x, hxk⟩ : ∃ x, Y k = x := ⟨_, rfl⟩
      rw [hxk] at cells hsk
      obtain ⟨xa, xn, xk, xb, xm, xt⟩ := x
      obtain ⟨⟨lI, lO⟩, g1, g2⟩ := hsk
      dsimp only at cells lI lO g1 g2
      obtain rfl : N = xn := g1.symm
      obtain rfl : N = xm := g2.symm
      obtain ⟨u0, u1⟩ := cells
      obtain ⟨m, HM⟩ : ∃ m : Nat, Hid (m = k + 1) := ⟨_, rfl⟩
      have em : (k : Int) + 1 = (m : Int) := by rw [HM.out]; omega
      have ew : IntKind.i64.wrap (m : Int) = (m : Int) := wrap_in _ (by have := HM.out; omega) (by have := HM.out; omega)
      have m0 : (0 : Int) ≤ (m : Int) := by omega
      have m1 : (m : Int) < (nn : Int) + 1 := by have := HM.out; omega
      have k0 : (0 : Int) ≤ (k : Int) := by omega
      have k2 : (k : Int) < (nn : Int) + 1 := by omega
      have mk : m < nn + 1 := by have := HM.out; omega
      have KS : Hid (∀ q, Below wr.heap.size wr q → q.cell? ⟨w.heap.size, 0, none⟩ = some (.int .i64 I) ∧ q.cell? ⟨w.heap.size, 1, none⟩ = some (.int .i64 H) ∧ q.cell? ⟨w.heap.size, 2, none⟩ = some (.int .i64 O) ∧ q.cell? ⟨w.heap.size, 3, none⟩ = some (.int .u64 seed) ∧ q.cell? ⟨w.heap.size, 4, none⟩ = some (.int .i64 B) ∧ q.cell? ⟨w.heap.size, 5, none⟩ = some (.int .i64 steps) ∧ q.cell? ⟨w.heap.size, 6, none⟩ = some (.int .i64 crate) ∧ q.cell? ⟨w.heap.size, 7, none⟩ = some (.int .i64 decay) ∧ q.cell? ⟨w.heap.size, 8, none⟩ = some (.int .i64 how) ∧ q.cell? ⟨w.heap.size, 9, none⟩ = some (.int .i64 keep) ∧ q.cell? ⟨w.heap.size, 10, none⟩ = some (.int .i64 clip) ∧ q.cell? ⟨w1.heap.size, k * 2, none⟩ = some (.slice xa N xk) ∧ q.cell? ⟨w1.heap.size, k * 2 + 1, none⟩ = some (.slice xb N xt)) := fun q hq => by
        obtain ⟨x0, x1, x2, x3, x4, x5, x6, x7, x8, x9, x10⟩ := KB1.out q (hbel.trans (hq.mono hbel.size))
        exact ⟨x0, x1, x2, x3, x4, x5, x6, x7, x8, x9, x10, (hq.cell (p := ⟨w1.heap.size, k * 2, none⟩) row.lt).trans u0, (hq.cell (p := ⟨w1.heap.size, k * 2 + 1, none⟩) row.lt).trans u1⟩
      have bd : Below wr.heap.size wr wr.drew := below_drewN (Below.refl _ _) 1
      have S0 := KS.out _ bd
      have NX := HNX.out wr.drew k xa xk xb xt (hb1.trans ((hbel.trans (bd.mono hbel.size)).mono hb1.size)) (by omega) (lI.below bd (Nat.le_refl _)) (lO.below bd (Nat.le_refl _))
      have HNX2 : Hid (Calls Try.prog 63 #[.agg #[.int .i64 I, .int .i64 H, .int .i64 O, .int .u64 seed, .int .i64 B, .int .i64 steps, .int .i64 crate, .int .i64 decay, .int .i64 how, .int .i64 keep, .int .i64 clip], .slice a n cap, .agg #[.slice xa N xk, .slice xb N xt], .int .i64 k] wr.drew fun e w' => ∃ b1 d1 b2 d2 bg R, e = .returned (.tuple #[.agg #[.slice b1 N d1, .slice b2 N d2], .slice (some ⟨bg, 0, none⟩) B B, .int .i64 R]) ∧ Lst w' b1 N d1 (DW (k + 1)) ∧ Lst w' b2 N d2 (DM (k + 1)) ∧ Below wr.drew.heap.size wr.drew w') := NX
      clear NX lI lO hxk
      go_wp2_with fail
      go_region_held3 (fun q => q.cell? ⟨w.heap.size, 0, none⟩ = some (.int .i64 I) ∧ q.cell? ⟨w.heap.size, 1, none⟩ = some (.int .i64 H) ∧ q.cell? ⟨w.heap.size, 2, none⟩ = some (.int .i64 O) ∧ q.cell? ⟨w.heap.size, 3, none⟩ = some (.int .u64 seed) ∧ q.cell? ⟨w.heap.size, 4, none⟩ = some (.int .i64 B) ∧ q.cell? ⟨w.heap.size, 5, none⟩ = some (.int .i64 steps) ∧ q.cell? ⟨w.heap.size, 6, none⟩ = some (.int .i64 crate) ∧ q.cell? ⟨w.heap.size, 7, none⟩ = some (.int .i64 decay) ∧ q.cell? ⟨w.heap.size, 8, none⟩ = some (.int .i64 how) ∧ q.cell? ⟨w.heap.size, 9, none⟩ = some (.int .i64 keep) ∧ q.cell? ⟨w.heap.size, 10, none⟩ = some (.int .i64 clip) ∧ q.cell? ⟨w1.heap.size, k * 2, none⟩ = some (.slice xa N xk) ∧ q.cell? ⟨w1.heap.size, k * 2 + 1, none⟩ = some (.slice xb N xt)) (first | with_reducible exact S0 | with_reducible exact S2 | with_reducible exact S1)
        (first | (go_at_call 63; refine HNX2.out.mono ?_; rintro e v1 ⟨na, d1, nb, d2, bg, R, rfl, lw, lm, hv1d⟩; have hv1 := undrew hv1d; have S1 := KS.out _ hv1; have row1 := row.of_block (hv1.block _ row.lt); have o0 : v1.cell? ⟨w1.heap.size, m * 2, none⟩ = some (.slice none 0 0) := outF_new row1 (by have := HM.out; omega) (by omega); have o1 : v1.cell? ⟨w1.heap.size, m * 2 + 1, none⟩ = some (.slice none 0 0) := outF_new row1 (by have := HM.out; omega) (by omega); have p0 := row1.frozen (m * 2); have p1 := row1.frozen (m * 2 + 1); have rowm : v1.rowIs w1.heap.size 51 ((nn + 1) * 2) (outF Y m) := (by rw [HM.out]; exact row1); have row2 := outF_push rowm ⟨na, N, d1, nb, N, d2⟩; have o1' : (v1.setCell ⟨w1.heap.size, m * 2, none⟩ (.slice na N d1)).cell? ⟨w1.heap.size, m * 2 + 1, none⟩ = some (.slice none 0 0) := (by have h := (rowm.set (m * 2) (.slice na N d1)).cell (i := m * 2 + 1) (by omega); rw [if_neg (by omega)] at h; have h2 := o1; rw [rowm.cell (by omega)] at h2; exact h.trans h2); have p1' := (rowm.set (m * 2) (.slice na N d1)).frozen (m * 2 + 1); have bel2 : Below w1.heap.size w1 ((v1.setCell ⟨w1.heap.size, m * 2, none⟩ (.slice na N d1)).setCell ⟨w1.heap.size, m * 2 + 1, none⟩ (.slice nb N d2)) := ((hbel.trans (hv1.mono hbel.size)).setCell (Nat.le_refl _) _).setCell (Nat.le_refl _) _; have S2 : (fun q : World => q.cell? ⟨w.heap.size, 0, none⟩ = some (.int .i64 I) ∧ q.cell? ⟨w.heap.size, 1, none⟩ = some (.int .i64 H) ∧ q.cell? ⟨w.heap.size, 2, none⟩ = some (.int .i64 O) ∧ q.cell? ⟨w.heap.size, 3, none⟩ = some (.int .u64 seed) ∧ q.cell? ⟨w.heap.size, 4, none⟩ = some (.int .i64 B) ∧ q.cell? ⟨w.heap.size, 5, none⟩ = some (.int .i64 steps) ∧ q.cell? ⟨w.heap.size, 6, none⟩ = some (.int .i64 crate) ∧ q.cell? ⟨w.heap.size, 7, none⟩ = some (.int .i64 decay) ∧ q.cell? ⟨w.heap.size, 8, none⟩ = some (.int .i64 how) ∧ q.cell? ⟨w.heap.size, 9, none⟩ = some (.int .i64 keep) ∧ q.cell? ⟨w.heap.size, 10, none⟩ = some (.int .i64 clip) ∧ q.cell? ⟨w1.heap.size, k * 2, none⟩ = some (.slice xa N xk) ∧ q.cell? ⟨w1.heap.size, k * 2 + 1, none⟩ = some (.slice xb N xt)) ((v1.setCell ⟨w1.heap.size, m * 2, none⟩ (.slice na N d1)).setCell ⟨w1.heap.size, m * 2 + 1, none⟩ (.slice nb N d2)) := (by obtain ⟨x0, x1, x2, x3, x4, x5, x6, x7, x8, x9, x10⟩ := KB1.out _ bel2; have hc := outF_at row2 (show k < m + 1 by have := HM.out; omega) (by omega); have hne : k ≠ m := (by have := HM.out; omega); have hk0 : w1.heap.size = w1.heap.size := rfl; exact ⟨x0, x1, x2, x3, x4, x5, x6, x7, x8, x9, x10, (World.cell?_setCell_other _ _ _ _ (by simp <;> omega)).trans ((World.cell?_setCell_other _ _ _ _ (by simp <;> omega)).trans S1.2.2.2.2.2.2.2.2.2.2.2.1), (World.cell?_setCell_other _ _ _ _ (by simp <;> omega)).trans ((World.cell?_setCell_other _ _ _ _ (by simp <;> omega)).trans S1.2.2.2.2.2.2.2.2.2.2.2.2)⟩); dsimp only at S2))
      have st2 := hst.below hv1 (Nat.le_refl _)
      have st4 := (st2.setOff o0 (.slice na N d1)).setOff o1' (.slice nb N d2)
      have lw4 := (lw.setOff o0 (.slice na N d1)).setOff o1' (.slice nb N d2)
      have lm4 := (lm.setOff o0 (.slice na N d1)).setOff o1' (.slice nb N d2)
      have st5 := st4.push (x := ⟨na, N, d1, nb, N, d2⟩) ⟨lw4, lm4⟩ rfl rfl
      rw [← HM.out] at st5
      clear S0 S1 S2 KS bd HNX2 o0 o1 o1' p0 p1 p1' u0 u1 st2 st4 lw lm lw4 lm4 hv1 hv1d row1 rowm hst hbel row
      go_wp2_with fail
      go_roundw
      case rel => exact ⟨m, _, by omega, by first | rfl | go_num, row2, st5, bel2⟩
      case measure => simp [intOf]; have := HM.out; omega
    · obtain rfl : k = nn := by omega
      go_wp2_with fail
      go_ret2
      refine ⟨w1.heap.size, Y, rfl, ⟨Nat.le_refl _, .inr ⟨w1.heap.size, 0, rfl, row.lt, fun j hj => ?_⟩⟩, hb1.trans (hbel.mono hb1.size)⟩
      have hcl := outF_at row hj (Nat.le_refl _)
      rw [Nat.zero_add]
      exact ⟨hcl.1, hcl.2, (hst j (by omega)).1⟩
end Go.Proofs.Ytnlcheebdkjpbae.Fx

/- What train.Run returns, whatever is handed in. -/
namespace Go.Proofs.Ytnlcheebdkjpbae.Fx
open Go.RowKit

def runE (c : Cfg) (n : Nat) (X : Nat → Exm) (DI DO : Nat → List Int) (m : Int) : Int := if courseI c n X DI DO = 0 then (if inB m 0 c.steps = true then 0 else 1) else courseI c n X DI DO
def runN (c : Cfg) (n : Nat) (X : Nat → Exm) (DI DO : Nat → List Int) (m : Int) : Nat := if runE c n X DI DO m = 0 then m.toNat + 1 else 0
def stW (c : Cfg) (n : Nat) (DI DO : Nat → List Int) (j : Nat) : List Int := (stateP c n DI DO (sizeN c).toNat j).1
def stM (c : Cfg) (n : Nat) (DI DO : Nat → List Int) (j : Nat) : List Int := (stateP c n DI DO (sizeN c).toNat j).2
theorem Exs.nil (w : World) (a : Option Addr) (cap : Nat) (X : Nat → Exm) (DI DO : Nat → List Int) : Exs w a 0 cap X DI DO := ⟨Nat.zero_le _, .inl rfl⟩
def noEx (_ : Nat) : Exm := ⟨none, 0, 0, none, 0, 0⟩

set_option maxHeartbeats 800000 in
theorem tRun_c (c : Cfg) (a : Option Addr) (n cap : Nat) (m E : Int) (w : World) (hE : E ≠ 0) (HC : Hid (∀ q, Below w.heap.size w q → Calls Try.prog 61 #[c.val, .slice a n cap] q fun e w' => e = .returned (.int .i64 E) ∧ Below q.heap.size q w')) :
    Calls Try.prog 30 #[c.val, .slice a n cap, .int .i64 m] w fun e w' => e = .returned (.tuple #[.slice none 0 0, .int .i64 E]) ∧ Below w.heap.size w w' := by
  have hal := low_alloc w (.cells c.cells 49)
  have hne : (E != 0) = true := by rw [bne_iff_ne]; exact hE
  have CK := HC.out _ hal
  clear hE HC
  obtain ⟨i, h, o, seed, batch, steps, crate, decay, how, keep, clip⟩ := c
  simp only [Cfg.val, Cfg.cells] at *
  go_enter Try.func30, Try.ntmps30
  go_wp2_with fail
  refine CK.mono ?_
  rintro e w1 ⟨rfl, hw1⟩
  go_wp2_with fail
  go_ret2
  exact ⟨rfl, hal.trans (hw1.mono hal.size)⟩

set_option maxHeartbeats 800000 in
theorem tRun_r (c : Cfg) (a : Option Addr) (n cap : Nat) (m : Int) (w : World) (hm : inB m 0 c.steps = false) (HC : Hid (∀ q, Below w.heap.size w q → Calls Try.prog 61 #[c.val, .slice a n cap] q fun e w' => e = .returned (.int .i64 0) ∧ Below q.heap.size q w')) :
    Calls Try.prog 30 #[c.val, .slice a n cap, .int .i64 m] w fun e w' => e = .returned (.tuple #[.slice none 0 0, .int .i64 1]) ∧ Below w.heap.size w w' := by
  have hlow : ¬ (0 ≤ m ∧ m ≤ c.steps) := fun g => by rw [in_yes g] at hm; cases hm
  have hal := low_alloc w (.cells c.cells 49)
  have CK := HC.out _ hal
  have KB : Hid (∀ q, Below (w.alloc (.cells c.cells 49)).heap.size (w.alloc (.cells c.cells 49)) q → BoxC q w.heap.size c) := fun q hq => boxC hq (by simp)
  clear hm HC
  obtain ⟨i, h, o, seed, batch, steps, crate, decay, how, keep, clip⟩ := c
  simp only [Cfg.val, Cfg.cells] at *
  by_cases hn : m < 0
  · go_enter Try.func30, Try.ntmps30
    go_wp2_with fail
    refine CK.mono ?_
    rintro e w1 ⟨rfl, hw1⟩
    go_wp2_with fail
    go_ret2
    exact ⟨rfl, hal.trans (hw1.mono hal.size)⟩
  · have hge : steps < m := by omega
    go_enter Try.func30, Try.ntmps30
    go_wp2_with fail
    refine CK.mono ?_
    rintro e w1 ⟨rfl, hw1⟩
    have c5 := (KB.out _ hw1).c5
    dsimp only at c5
    go_wp2_with fail
    go_ret2
    exact ⟨rfl, hal.trans (hw1.mono hal.size)⟩

theorem tRun_calls (c : Cfg) (hs : okW c.seed) (a : Option Addr) (n cap : Nat) (X : Nat → Exm) (DI DO : Nat → List Int) (m : Int) (w : World) (hx : Exs w a n cap X DI DO) :
    Calls Try.prog 30 #[c.val, .slice a n cap, .int .i64 m] w fun e w' => ∃ b k Y, e = .returned (.tuple #[.slice b (runN c n X DI DO m) k, .int .i64 (runE c n X DI DO m)]) ∧ Exs w' b (runN c n X DI DO m) k Y (stW c n DI DO) (stM c n DI DO) ∧ Below w.heap.size w w' := by
  have HC : ∀ q, Below w.heap.size w q → Calls Try.prog 61 #[c.val, .slice a n cap] q fun e w' => e = .returned (.int .i64 (courseI c n X DI DO)) ∧ Below q.heap.size q w' := fun q hq => tcheck_calls c a n cap X DI DO q (hx.below hq (Nat.le_refl _))
  have bad : ∀ E : Int, E ≠ 0 → runE c n X DI DO m = E → Calls Try.prog 30 #[c.val, .slice a n cap, .int .i64 m] w (fun e w' => e = .returned (.tuple #[.slice none 0 0, .int .i64 E]) ∧ Below w.heap.size w w') →
      Calls Try.prog 30 #[c.val, .slice a n cap, .int .i64 m] w fun e w' => ∃ b k Y, e = .returned (.tuple #[.slice b (runN c n X DI DO m) k, .int .i64 (runE c n X DI DO m)]) ∧ Exs w' b (runN c n X DI DO m) k Y (stW c n DI DO) (stM c n DI DO) ∧ Below w.heap.size w w' := by
    intro E hE he hcall
    refine hcall.mono ?_
    rintro e w' ⟨rfl, hb⟩
    unfold runN
    rw [he, if_neg hE]
    exact ⟨none, 0, noEx, rfl, Exs.nil _ _ _ _ _ _, hb⟩
  by_cases hE : courseI c n X DI DO = 0
  · rw [hE] at HC
    obtain ⟨hc, hn1, hn2, hex⟩ := course_ok hE
    cases hm : inB m 0 c.steps with
    | false => exact bad 1 (by decide) (by unfold runE; rw [if_pos hE, hm]; rfl) (tRun_r c a n cap m w hm HC)
    | true =>
      have hz : runE c n X DI DO m = 0 := by unfold runE; rw [if_pos hE, hm]; rfl
      have hlow := in_is hm
      obtain ⟨M, hM⟩ := Int.eq_ofNat_of_zero_le hlow.1
      have hRN : runN c n X DI DO m = M + 1 := by unfold runN; rw [if_pos hz, hM]; rfl
      rw [hRN, hz]
      obtain ⟨⟨i1, i2⟩, ⟨h1, h2⟩, ⟨o1, o2⟩, ⟨b1, b2⟩, _⟩ := cfgB_is hc
      have hzn := sizeN_bd hc
      obtain ⟨N, hNz⟩ := Int.eq_ofNat_of_zero_le (show 0 ≤ sizeN c by omega)
      have hNt : (sizeN c).toNat = N := by rw [hNz]; rfl
      unfold stW stM
      rw [hNt]
      clear bad hRN hz hm
      subst hM
      obtain ⟨i, h, o, seed, batch, steps, crate, decay, how, keep, clip⟩ := c
      dsimp only at i1 i2 h1 h2 o1 o2 b1 b2 hs hlow
      obtain ⟨I, rfl⟩ := Int.eq_ofNat_of_zero_le (show 0 ≤ i by omega)
      obtain ⟨H, rfl⟩ := Int.eq_ofNat_of_zero_le (show 0 ≤ h by omega)
      obtain ⟨O, rfl⟩ := Int.eq_ofNat_of_zero_le (show 0 ≤ o by omega)
      obtain ⟨B, rfl⟩ := Int.eq_ofNat_of_zero_le (show 0 ≤ batch by omega)
      have hN : N = H * I + H + O * H + O := by have := hNz.symm; unfold sizeN at this; dsimp only at this; exact_mod_cast this
      refine (tRun_good I H O B seed crate decay how keep clip hs steps hc N hN a n cap X DI DO M w hx hn1 hn2 hex (by omega) HC).mono ?_
      rintro e w' ⟨g, Y, he, hY, hb⟩
      exact ⟨some ⟨g, 0, none⟩, M + 1, Y, he, hY, hb⟩
  · exact bad _ hE (by unfold runE; rw [if_neg hE]) (tRun_c c a n cap m _ w hE HC)
end Go.Proofs.Ytnlcheebdkjpbae.Fx

/- What coachref.Rest returns: a number below the second one. -/
namespace Go.Proofs.Ytnlcheebdkjpbae.Fx
open Go.RowKit

theorem rest_any (n : Int) (m : Nat) (h1 : 1 ≤ m) (h2 : m ≤ 2000) (w : World) :
    Calls Try.prog 11 #[.int .i64 n, .int .i64 m] w fun e w' => (∃ k : Nat, k < m ∧ e = .returned (.int .i64 k)) ∧ w' = w := by
  obtain ⟨r, hr⟩ : ∃ r, n.tmod (m : Int) = r := ⟨_, rfl⟩
  have r1 : r < (m : Int) := by rw [← hr]; exact Int.tmod_lt_of_pos _ (by omega)
  have r2 : -(m : Int) < r := by
    rw [← hr]
    have := Int.tmod_lt_of_pos (-n) (b := (m : Int)) (by omega)
    rw [Int.neg_tmod] at this
    omega
  by_cases h : r < 0
  · go_enter Try.func11, Try.ntmps11
    go_wp2
    go_ret
    exact ⟨⟨(r + m).toNat, by omega, ret_word (by omega)⟩, rfl⟩
  · go_enter Try.func11, Try.ntmps11
    go_wp2
    go_ret
    exact ⟨⟨r.toNat, by omega, ret_word (by omega)⟩, rfl⟩
end Go.Proofs.Ytnlcheebdkjpbae.Fx
