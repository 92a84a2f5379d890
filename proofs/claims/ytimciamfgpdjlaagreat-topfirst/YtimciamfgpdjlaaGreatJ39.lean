/- How a slice of records that comes in as an argument is opened. -/
import Derived.Test.YtimciamfgpdjlaaGreatJ26
import Derived.Deep.Slices
import Derived.Test.YtimciamfgpdjlaaGreatJ06
import Derived.Test.YtimciamfgpdjlaaGreatJ05
import Derived.Test.YtimciamfgpdjlaaGreatJ19
import Derived.Test.YtimciamfgpdjlaaGreatJ21
import Derived.Test.YtimciamfgpdjlaaGreatJ10
import Derived.Test.YtimciamfgpdjlaaGreatJ24
namespace Go.Proofs.YtimciamfgpdjlaaGreat.Fx
open Go.ChangeShapes Go.WideShapes Go.ChangeAt Go.RowKit

/-- A slice of records that a law is handed. -/
structure RecsIn (w : World) (a : Option Addr) (n cap : Nat) (R : Nat → Rcm) (D : Nat → List Int) : Prop where
  recs : Recs w a n cap R D
  len : cap ≤ maxLen
  each : ∀ j, j < n → RecIn w (R j) (D j)

set_option maxRecDepth 100000 in
theorem came_rec {H : Type} {enc : TypeId × Value → H} {W : World} {fuel : Nat} {cs : List Value} {x : DataW H × List MemPlace} (hcl : cs.length = 5) (hf : DataW.trod enc Tryz.prog W 0 (fun _ => true) true fuel 30 cs = some x) :
    ∃ (e : Rcm) (bs : List Int), cs = [.int .i64 e.s, .slice e.a e.n e.k, .int .i64 e.r, .int .u64 e.root, .int .u64 e.chain] ∧ RecIn W e bs := by
  match cs, hcl with
  | [c0, c1, c2, c3, c4], _ =>
    obtain ⟨xs, n, _, _, _, hlen, hfs⟩ := DataW.trod_struct Tryz.underlying30 hf
    have hl : xs.length = 5 := hlen
    obtain ⟨i0, rfl, w0⟩ := fieldInt (v := c0) Tryz.underlying3 cellsOfInt (by omega) (hfs 0 _ rfl) rfl
    obtain ⟨a, l, c, B, rfl, g⟩ := fieldInts (v := c1) (by omega) (hfs 1 _ rfl) rfl
    obtain ⟨i2, rfl, w2⟩ := fieldInt (v := c2) Tryz.underlying3 cellsOfInt (by omega) (hfs 2 _ rfl) rfl
    obtain ⟨i3, rfl, w3⟩ := fieldInt (v := c3) Tryz.underlying22 cellsOfWord (by omega) (hfs 3 _ rfl) rfl
    obtain ⟨i4, rfl, w4⟩ := fieldInt (v := c4) Tryz.underlying22 cellsOfWord (by omega) (hfs 4 _ rfl) rfl
    refine ⟨⟨i0, a, l, c, i2, i3, i4⟩, B, rfl, g.1, wf_int w0, wf_int w2, wf_word w3, wf_word w4, fun j hj => wf_int (g.2.2 _ ?_), Nat.le_trans g.1.cap g.2.1⟩
    rw [List.getD_eq_getElem?_getD, List.getElem?_eq_getElem hj, Option.getD_some]
    exact List.getElem_mem hj

set_option maxRecDepth 100000 in
theorem openRecs {H : Type} {enc : TypeId × Value → H} {W : World} {b0 : Nat} {v : Value} {d : DataW H} {p : List MemPlace} (hv : Value.okWide Tryz.prog W .any b0 49 v) (h : DataW.Trod enc Tryz.prog W 0 (fun _ => true) true 49 v d p) :
    ∃ a len cap R D, v = .slice a len cap ∧ RecsIn W a len cap R D := by
  obtain ⟨a, len, cap, rfl⟩ := okWide_slice Tryz.underlying49 hv
  obtain ⟨fuel, hf⟩ := h
  rcases Go.Deep.open_slice Tryz.underlying49 hf with ⟨hcs, _⟩ | ⟨a', len', cap', m, n, D, Pl, hcs, _, hl, hmx, hm, _, hel⟩
  · simp [Value.cells] at hcs
    obtain ⟨rfl, rfl, rfl⟩ := hcs
    exact ⟨_, _, _, fun _ => ⟨0, none, 0, 0, 0, 0, 0⟩, fun _ => [], rfl, ⟨Nat.le_refl _, .inl rfl⟩, by unfold maxLen; omega, fun j hj => by omega⟩
  · simp [Value.cells] at hcs
    obtain ⟨rfl, rfl, rfl⟩ := hcs
    have hm' : m = cap := by simpa using hm
    subst hm'
    have each : ∀ i, i < m → ∃ (e : Rcm) (bs : List Int), W.cell? (a'.add (i * 5)) = some (.int .i64 e.s) ∧ W.cell? ((a'.add (i * 5)).add 1) = some (.slice e.a e.n e.k) ∧ W.cell? ((a'.add (i * 5)).add 2) = some (.int .i64 e.r) ∧ W.cell? ((a'.add (i * 5)).add 3) = some (.int .u64 e.root) ∧ W.cell? ((a'.add (i * 5)).add 4) = some (.int .u64 e.chain) ∧ RecIn W e bs := by
      intro i hi
      obtain ⟨cs', h1, h2⟩ := hel i hi
      rw [cellsRec] at h1
      obtain ⟨e, bs, rfl, hin⟩ := came_rec (World.cells?_some h1).2.1 h2
      have hc := (World.cells?_some h1).2.2
      have c0 := hc 0 (by omega)
      have c1 := hc 1 (by omega)
      have c2 := hc 2 (by omega)
      have c3 := hc 3 (by omega)
      have c4 := hc 4 (by omega)
      exact ⟨e, bs, by simpa [Addr.add] using c0, by simpa using c1, by simpa using c2, by simpa using c3, by simpa using c4, hin⟩
    refine ⟨_, _, _, fun i => if hi : i < m then (each i hi).choose else ⟨0, none, 0, 0, 0, 0, 0⟩, fun i => if hi : i < m then (each i hi).choose_spec.choose else [], rfl, ⟨hl, ?_⟩, hmx, fun j hj => ?_⟩
    · by_cases h0 : len = 0
      · exact .inl h0
      · obtain ⟨b, off, spot⟩ := a'
        have hs := (each 0 (by omega)).choose_spec.choose_spec.1
        have hspot : spot = none := by simpa [Addr.add] using World.cell?_spot hs
        subst hspot
        refine .inr ⟨b, off, rfl, ?_, fun i hi => ?_⟩
        · have := cell_lt hs
          simpa [Addr.add] using this
        · have hs := (each i (by omega)).choose_spec.choose_spec
          have a0 : ∀ t, W.cell? ⟨b, off + i * 5 + t, none⟩ = W.cell? (((⟨b, off, none⟩ : Addr).add (i * 5)).add t) := fun t => by rw [add_plain, add_plain]
          have a1 : W.cell? ⟨b, off + i * 5, none⟩ = W.cell? ((⟨b, off, none⟩ : Addr).add (i * 5)) := by rw [add_plain]
          simp only [dif_pos (show i < m by omega)]
          exact ⟨a1.trans hs.1, (a0 1).trans hs.2.1, (a0 2).trans hs.2.2.1, (a0 3).trans hs.2.2.2.1, (a0 4).trans hs.2.2.2.2.1, hs.2.2.2.2.2.l⟩
    · have hs := (each j (by omega)).choose_spec.choose_spec
      simp only [dif_pos (show j < m by omega)]
      exact hs.2.2.2.2.2
end Go.Proofs.YtimciamfgpdjlaaGreat.Fx

/- A list of records that the program itself makes by append: what is known of it, and what one append more leaves. -/
namespace Go.Proofs.YtimciamfgpdjlaaGreat.Fx
open Go.RowKit

def rcCells (R : Nat → Rcm) : Nat → List Value
  | 0 => []
  | n + 1 => rcCells R n ++ [.int .i64 (R n).s, .slice (R n).a (R n).n (R n).k, .int .i64 (R n).r, .int .u64 (R n).root, .int .u64 (R n).chain]
theorem rcCells_len (R : Nat → Rcm) (n : Nat) : (rcCells R n).length = n * 5 := by
  induction n with
  | zero => rfl
  | succ k ih => simp [rcCells, ih]; omega
theorem rcCells_congr {X Y : Nat → Rcm} {n : Nat} (h : ∀ i, i < n → X i = Y i) : rcCells X n = rcCells Y n := by
  induction n with
  | zero => rfl
  | succ k ih => simp only [rcCells]; rw [ih (fun i hi => h i (by omega)), h k (by omega)]
theorem rcCells_at (R : Nat → Rcm) {n i : Nat} (h : i < n) : (rcCells R n)[i * 5]? = some (.int .i64 (R i).s) ∧ (rcCells R n)[i * 5 + 1]? = some (.slice (R i).a (R i).n (R i).k) ∧ (rcCells R n)[i * 5 + 2]? = some (.int .i64 (R i).r) ∧ (rcCells R n)[i * 5 + 3]? = some (.int .u64 (R i).root) ∧ (rcCells R n)[i * 5 + 4]? = some (.int .u64 (R i).chain) := by
  induction n with
  | zero => omega
  | succ k ih =>
    have hl := rcCells_len R k
    simp only [rcCells]
    by_cases e : i = k
    · subst e
      rw [List.getElem?_append_right (by omega), List.getElem?_append_right (by omega), List.getElem?_append_right (by omega), List.getElem?_append_right (by omega), List.getElem?_append_right (by omega), hl]
      simp
    · have g := ih (by omega)
      rw [List.getElem?_append_left (by omega), List.getElem?_append_left (by omega), List.getElem?_append_left (by omega), List.getElem?_append_left (by omega), List.getElem?_append_left (by omega)]
      exact g
/-- The slice value v, made from block number base on, owns the records R. -/
def OwnR (base : Nat) (w : World) (v : Value) (n : Nat) (R : Nat → Rcm) : Prop := w.ownsRow base 30 5 v n (rcCells R n)
theorem OwnR.nil (base : Nat) (w : World) (R : Nat → Rcm) : OwnR base w (.slice none 0 0) 0 R := World.ownsRow_nil _ _ _ _
theorem OwnR.below {base : Nat} {w w' : World} {v : Value} {n : Nat} {R : Nat → Rcm} (h : OwnR base w v n R) (hb : Below w.heap.size w w') : OwnR base w' v n R := by
  refine ⟨h.1, ?_⟩
  rcases h.2 with h0 | ⟨g, cap, cur, hv, hg, hh, r⟩
  · exact .inl h0
  · exact .inr ⟨g, cap, cur, hv, hg, by rw [hb.block g (Array.getElem?_eq_some_iff.1 hh).1]; exact hh, r⟩
theorem OwnR.congr {base : Nat} {w : World} {v : Value} {n : Nat} {X Y : Nat → Rcm} (h : OwnR base w v n X) (e : ∀ i, i < n → X i = Y i) : OwnR base w v n Y := by
  unfold OwnR at *
  rw [← rcCells_congr e]
  exact h
theorem OwnR.blk {base : Nat} {w : World} {v : Value} {n : Nat} {R : Nat → Rcm} (h : OwnR base w v n R) : v.ownBlock = none ∨ ∃ g, v.ownBlock = some g ∧ base ≤ g ∧ g < w.heap.size := by
  rcases h.2 with ⟨rfl, _⟩ | ⟨g, cap, cur, rfl, hg, hh, _⟩
  · exact .inl rfl
  · exact .inr ⟨g, rfl, hg, (Array.getElem?_eq_some_iff.1 hh).1⟩
theorem OwnR.recs {base : Nat} {w : World} {v : Value} {n : Nat} {R : Nat → Rcm} {D : Nat → List Int} (h : OwnR base w v n R) (hin : ∀ i, i < n → Lst w (R i).a (R i).n (R i).k (D i)) : ∃ a c, v = .slice a n c ∧ Recs w a n c R D := by
  obtain ⟨hl, h2⟩ := h
  rcases h2 with ⟨rfl, rfl⟩ | ⟨g, cap, cur, rfl, _, hh, hle, _, hsz, hcur⟩
  · exact ⟨none, 0, rfl, Recs.nil _ _ _ _ _⟩
  · refine ⟨_, cap, rfl, hle, .inr ⟨g, 0, rfl, (Array.getElem?_eq_some_iff.1 hh).1, fun i hi => ?_⟩⟩
    have hc : ∀ j, j < n * 5 → w.cell? ⟨g, j, none⟩ = (rcCells R n)[j]? := fun j hj => by
      rw [← hcur, List.getElem?_take_of_lt hj]
      simp [World.cell?, hh]
    have g2 := rcCells_at R hi
    simp only [Nat.zero_add]
    exact ⟨(hc _ (by omega)).trans g2.1, (hc _ (by omega)).trans g2.2.1, (hc _ (by omega)).trans g2.2.2.1, (hc _ (by omega)).trans g2.2.2.2.1, (hc _ (by omega)).trans g2.2.2.2.2, hin i hi⟩


section
variable {w' W0 : World} {ops : Array Oper} {o : Oper} {a : Act} {Q : Exit → Act → World → Prop}
theorem run_append_rc (ty : TypeId) (base : Nat) (v : Value) (n : Nat) (R : Nat → Rcm) (g : Nat) (hown : OwnR base w' v n R) (hrow : w'.rowIs g 30 5 (fn5 (.int .i64 (R n).s) (.slice (R n).a (R n).n (R n).k) (.int .i64 (R n).r) (.int .u64 (R n).root) (.int .u64 (R n).chain))) (hn : (n + 1) * 56 ≤ 140737488355328) (hbase : base ≤ w'.heap.size) :
    ∃ v' w1, (Builtin.append_ #[49, 49] ty #[v, .slice (some ⟨g, 0, none⟩) 1 1]).run Tryz.prog w' = .ok v' w1 ∧ OwnR base w1 v' (n + 1) R ∧ w'.grownBy w1 v.ownBlock ∧ (v'.ownBlock = v.ownBlock ∨ v'.ownBlock = some w'.heap.size) := by
  obtain ⟨i0, hi, hz0, hz1, hz2⟩ := info_parts infoR
  obtain ⟨b0, b1, b2, b3, b4⟩ := fn5_box hrow
  obtain ⟨v', w1, hrun, h1, h2, _, h3⟩ := run_append_own_at (P := Tryz.prog) w' base 49 ty 30 i0 (.agg #[.int .i64 0, .slice none 0 0, .int .i64 0, .int .u64 0, .int .u64 0]) 5 56 Tryz.underlying49 hi hz0 hz1 hz2 rfl (by decide) v n _ hown ⟨g, 0, none⟩ 1 1 [.int .i64 (R n).s, .slice (R n).a (R n).n (R n).k, .int .i64 (R n).r, .int .u64 (R n).root, .int .u64 (R n).chain] rfl
    (by intro j u hj
        match j, hj with
        | 0, hj => simp at hj; subst hj; simpa [Addr.add] using b0
        | 1, hj => simp at hj; subst hj; simpa [Addr.add] using b1
        | 2, hj => simp at hj; subst hj; simpa [Addr.add] using b2
        | 3, hj => simp at hj; subst hj; simpa [Addr.add] using b3
        | 4, hj => simp at hj; subst hj; simpa [Addr.add] using b4)
    (by intro u hu
        simp at hu
        rcases hu with rfl | rfl | rfl | rfl | rfl <;> rfl) (by unfold maxLen; omega) hn hbase
  exact ⟨v', w1, hrun, h1, h2, h3⟩

theorem wpList_append_rc {rest : List Oper} (hgd : o.guard = none) (s x : Operand) (ho : o.op = .call { callee := .builtin .append, args := #[s, x], argTypes := #[49, 49] })
    (base : Nat) (v : Value) (n : Nat) (R : Nat → Rcm) (g : Nat) (hs : a.eval s = v) (hx : a.eval x = .slice (some ⟨g, 0, none⟩) 1 1) (hown : OwnR base w' v n R) (hrow : w'.rowIs g 30 5 (fn5 (.int .i64 (R n).s) (.slice (R n).a (R n).n (R n).k) (.int .i64 (R n).r) (.int .u64 (R n).root) (.int .u64 (R n).chain))) (hn : (n + 1) * 56 ≤ 140737488355328) (hbase : base ≤ w'.heap.size)
    (h : ∀ v' w1, OwnR base w1 v' (n + 1) R → w'.grownBy w1 v.ownBlock → (v'.ownBlock = v.ownBlock ∨ v'.ownBlock = some w'.heap.size) → wpList Tryz.prog ops Q rest (a.put o.dst v') w1) : wpList Tryz.prog ops Q (o :: rest) a w' := by
  obtain ⟨v', w1, hrun, h1, h2, h3⟩ := run_append_rc o.type base v n R g hown hrow hn hbase
  refine wpList_plain hgd fun K hK => ?_
  unfold Oper.wp
  simp [execOp, ho, resolve, invoke, builtin, hs, hx, hrun, Result.andThen]
  exact hK _ _ (h v' w1 h1 h2 h3)
end

end Go.Proofs.YtimciamfgpdjlaaGreat.Fx

/- What audit.Whole returns, whatever is handed in. -/
namespace Go.Proofs.YtimciamfgpdjlaaGreat.Fx
open Go.RowKit

set_option maxRecDepth 100000 in
set_option maxHeartbeats 1600000 in
theorem whole_calls (c : Cfg) (hs : okW c.seed) (a : Option Addr) (n cap : Nat) (X : Nat → Exm) (DI DO : Nat → List Int) (la : Option Addr) (ln lc : Nat) (L : Nat → Rcm) (DL : Nat → List Int) (w : World) (hx : Exs w a n cap X DI DO) (hl : Recs w la ln lc L DL) (hL : ∀ j, j < ln → (L j).n ≤ 9223372036854775807) :
    Calls Tryz.prog 47 #[c.val, .slice a n cap, .slice la ln lc] w fun e w' => e = .returned (.tuple #[.int .i64 (whN c n X DI DO ln L DL : Nat), .int .i64 (whE c n X DI DO ln)]) ∧ Below w.heap.size w w' := by
  have hal := low_alloc w (.cells c.cells 24)
  have CK := tcheck_calls c a n cap X DI DO _ (hx.below hal (Nat.le_refl _))
  have KB : Hid (∀ q, Below (w.alloc (.cells c.cells 24)).heap.size (w.alloc (.cells c.cells 24)) q → BoxC q w.heap.size c) := fun q hq => boxC hq (by simp)
  by_cases h0 : courseI c n X DI DO = 0
  · by_cases hm : (ln : Int) ≤ c.steps
    · have hE : whE c n X DI DO ln = 0 := by unfold whE; rw [if_pos h0, if_pos hm]
      have hN : whN c n X DI DO ln L DL = firstNo (auB c n DI DO L DL) ln := by unfold whN; rw [if_pos hE]
      rw [hE, hN]
      exact whole_good c hs a n cap X DI DO la ln lc L DL w hx hl hL h0 hm
    · have hE : whE c n X DI DO ln = 2 := by unfold whE; rw [if_pos h0, if_neg hm]
      have hN : whN c n X DI DO ln L DL = 0 := by unfold whN; rw [hE, if_neg (by decide)]
      rw [hE, hN]
      rw [h0] at CK
      have z1 : c.steps < (ln : Int) := by omega
      clear hE hN hx hl hL hs h0 hm
      obtain ⟨i, h, o, seed, batch, steps, crate, decay, how, keep, clip⟩ := c
      simp only [Cfg.val, Cfg.cells] at *
      obtain ⟨c0, c1, c2, c3, c4, c5, c6, c7, c8, c9, c10⟩ := KB.out _ (Below.refl _ _)
      dsimp only at c0 c1 c2 c3 c4 c5 c6 c7 c8 c9 c10
      go_enter Tryz.func47, Tryz.ntmps47
      go_wp2_with fail
      refine CK.mono ?_
      rintro e w1 ⟨rfl, hw1⟩
      clear c0 c1 c2 c3 c4 c5 c6 c7 c8 c9 c10
      obtain ⟨c0, c1, c2, c3, c4, c5, c6, c7, c8, c9, c10⟩ := KB.out _ hw1
      dsimp only at c0 c1 c2 c3 c4 c5 c6 c7 c8 c9 c10
      have T1 := hal.trans (hw1.mono hal.size)
      go_wp2_with fail
      go_ret2
      exact ⟨rfl, T1⟩
  · have hE : whE c n X DI DO ln = courseI c n X DI DO := by unfold whE; rw [if_neg h0]
    have hN : whN c n X DI DO ln L DL = 0 := by unfold whN; rw [hE, if_neg h0]
    have hb : (courseI c n X DI DO != 0) = true := by rw [bne_iff_ne]; exact h0
    rw [hE, hN]
    generalize courseI c n X DI DO = E at *
    clear hE hN hx hl hL hs
    obtain ⟨i, h, o, seed, batch, steps, crate, decay, how, keep, clip⟩ := c
    simp only [Cfg.val, Cfg.cells] at *
    obtain ⟨c0, c1, c2, c3, c4, c5, c6, c7, c8, c9, c10⟩ := KB.out _ (Below.refl _ _)
    dsimp only at c0 c1 c2 c3 c4 c5 c6 c7 c8 c9 c10
    go_enter Tryz.func47, Tryz.ntmps47
    go_wp2_with fail
    refine CK.mono ?_
    rintro e w1 ⟨rfl, hw1⟩
    go_wp2_with fail
    go_ret2
    exact ⟨rfl, hal.trans (hw1.mono hal.size)⟩
end Go.Proofs.YtimciamfgpdjlaaGreat.Fx

/- Of a journal that is as journal.Make makes it audit.Whole tells how many records there are. -/
namespace Go.Proofs.YtimciamfgpdjlaaGreat.Fx
open Go.RowKit

theorem likeB_same (x y : Rcm) (xs : List Int) (h1 : x.s = y.s) (h2 : x.r = y.r) (h3 : x.root = y.root) : likeB x y xs xs = true := by
  unfold likeB
  rw [decide_eq_true h1, decide_eq_true h2, decide_eq_true h3, decide_eq_true rfl]; rfl
theorem auB_own {c : Cfg} {n : Nat} {DI DO : Nat → List Int} {m : Nat} {R : Nat → Rcm} (h : JrN m R (mkRV c) (mkRO c n DI DO) (mkCH c n DI DO)) {j : Nat} (hj : j < m) : auB c n DI DO R (jrBatch c n) j = true := by
  rw [auB_is h R (jrBatch c n) hj]
  unfold recB
  rw [likeB_same _ _ _ rfl rfl rfl, decide_eq_true rfl]; rfl
theorem whole_own (c : Cfg) (hs : okW c.seed) (a : Option Addr) (n cap : Nat) (X : Nat → Exm) (DI DO : Nat → List Int) (la : Option Addr) (ln lc : Nat) (R : Nat → Rcm) (w : World) (hx : Exs w a n cap X DI DO) (hl : Recs w la ln lc R (jrBatch c n)) (hL : ∀ j, j < ln → (R j).n ≤ 8) (h0 : courseI c n X DI DO = 0) (hm : (ln : Int) ≤ c.steps) (hJ : JrN ln R (mkRV c) (mkRO c n DI DO) (mkCH c n DI DO)) :
    Calls Tryz.prog 47 #[c.val, .slice a n cap, .slice la ln lc] w fun e w' => e = .returned (.tuple #[.int .i64 ln, .int .i64 0]) ∧ Below w.heap.size w w' := by
  have h := whole_good c hs a n cap X DI DO la ln lc R (jrBatch c n) w hx hl (fun j hj => Nat.le_trans (hL j hj) (by decide)) h0 hm
  rw [firstNo_eq _ ln ln (Nat.le_refl _) (fun j hj => auB_own hJ hj) (fun h => by omega)] at h
  exact h
end Go.Proofs.YtimciamfgpdjlaaGreat.Fx

/- A list of records with one bent record in it: how it lies, and which record is the first that is not as it was made. -/
namespace Go.Proofs.YtimciamfgpdjlaaGreat.Fx
open Go.RowKit

/-- The list with that record put in the place of number K. -/
def bentR (R : Nat → Rcm) (K : Nat) (x : Rcm) (j : Nat) : Rcm := if j = K then x else R j
def bentD (D : Nat → List Int) (K : Nat) (xs : List Int) (j : Nat) : List Int := if j = K then xs else D j
theorem rcsR_put {w : World} {b t n K N : Nat} {R : Nat → Rcm} (h : w.rowIs b t n (rcsR R N)) (x : Rcm) (hK : K < N) :
    (((((w.setCell ⟨b, K * 5, none⟩ (.int .i64 x.s)).setCell ⟨b, K * 5 + 1, none⟩ (.slice x.a x.n x.k)).setCell ⟨b, K * 5 + 2, none⟩ (.int .i64 x.r)).setCell ⟨b, K * 5 + 3, none⟩ (.int .u64 x.root)).setCell ⟨b, K * 5 + 4, none⟩ (.int .u64 x.chain)).rowIs b t n (rcsR (bentR R K x) N) := by
  refine (((((h.set (K * 5) (.int .i64 x.s)).set (K * 5 + 1) (.slice x.a x.n x.k)).set (K * 5 + 2) (.int .i64 x.r)).set (K * 5 + 3) (.int .u64 x.root)).set (K * 5 + 4) (.int .u64 x.chain)).congr (fun i hi => ?_)
  unfold rcsR
  by_cases h0 : i < N * 5
  · rw [if_pos h0]
    by_cases e : i / 5 = K
    · have hb : bentR R K x (i / 5) = x := by unfold bentR; rw [if_pos e]
      rw [hb]
      rcases lt5 (Nat.mod_lt i (show 0 < 5 by omega)) with hm | hm | hm | hm | hm
      · rw [if_neg (by omega), if_neg (by omega), if_neg (by omega), if_neg (by omega), if_pos (by omega), hm, if_pos h0]; rfl
      · rw [if_neg (by omega), if_neg (by omega), if_neg (by omega), if_pos (by omega), hm, if_pos h0]; rfl
      · rw [if_neg (by omega), if_neg (by omega), if_pos (by omega), hm, if_pos h0]; rfl
      · rw [if_neg (by omega), if_pos (by omega), hm, if_pos h0]; rfl
      · rw [if_pos (by omega), hm, if_pos h0]; rfl
    · have hb : bentR R K x (i / 5) = R (i / 5) := by unfold bentR; rw [if_neg e]
      rw [hb, if_neg (by omega), if_neg (by omega), if_neg (by omega), if_neg (by omega), if_neg (by omega), if_pos h0]
  · rw [if_neg h0, if_neg (by omega), if_neg (by omega), if_neg (by omega), if_neg (by omega), if_neg (by omega), if_neg h0]
theorem recs_bent {w : World} {g base B N K : Nat} {R : Nat → Rcm} {DG : Nat → Nat → Int} {x : Rcm} {xs : List Int} (h : w.rowIs g 30 (N * 5) (rcsR (bentR R K x) N)) (hj : JrIn w g base B N R DG) (hl : Lst w x.a x.n x.k xs) : Recs w (some ⟨g, 0, none⟩) N N (bentR R K x) (bentD (fun k => (List.range B).map (DG k)) K xs) := by
  refine ⟨Nat.le_refl _, .inr ⟨g, 0, rfl, h.lt, fun i hi => ?_⟩⟩
  rw [Nat.zero_add]
  refine ⟨rcsR_cell h hi (Nat.le_refl _) (i := 0) (by omega), rcsR_cell h hi (Nat.le_refl _) (i := 1) (by omega), rcsR_cell h hi (Nat.le_refl _) (i := 2) (by omega), rcsR_cell h hi (Nat.le_refl _) (i := 3) (by omega), rcsR_cell h hi (Nat.le_refl _) (i := 4) (by omega), ?_⟩
  by_cases e : i = K
  · unfold bentR bentD
    rw [if_pos e, if_pos e]
    exact hl
  · obtain ⟨h1, h2, bg, h3, _, _, ha⟩ := hj i hi
    unfold bentR bentD
    rw [if_neg e, if_neg e, h1, h2, h3]
    exact ha.lst
theorem one_recs {w : World} (x : Rcm) (xs : List Int) (h : Lst w x.a x.n x.k xs) : Recs (w.alloc (.cells x.cells 30)) (some ⟨w.heap.size, 0, none⟩) 1 1 (fun _ => x) (fun _ => xs) := by
  obtain ⟨b0, b1, b2, b3, b4⟩ := fn5_box (fn5_alloc w (.int .i64 x.s) (.slice x.a x.n x.k) (.int .i64 x.r) (.int .u64 x.root) (.int .u64 x.chain) 30)
  refine ⟨Nat.le_refl _, .inr ⟨w.heap.size, 0, rfl, by simp, fun i hi => ?_⟩⟩
  obtain rfl : i = 0 := by omega
  exact ⟨b0, b1, b2, b3, b4, h.below (low_alloc w _) (Nat.le_refl _)⟩
theorem part_recs {w : World} {g N : Nat} {R : Nat → Rcm} {D : Nat → List Int} (h : Recs w (some ⟨g, 0, none⟩) N N R D) (K : Nat) (hK : K < N) : Recs w (some ⟨g, K * 5, none⟩) 1 (N - K) (fun _ => R K) (fun _ => D K) := by
  obtain ⟨b, off, e, hc⟩ := h.at (by omega)
  simp only [Option.some.injEq, Addr.mk.injEq, and_true] at e
  obtain ⟨rfl, rfl⟩ := e
  have hh := hc K hK
  rw [Nat.zero_add] at hh
  refine ⟨by omega, .inr ⟨g, K * 5, rfl, cell_lt hh.1, fun i hi => ?_⟩⟩
  obtain rfl : i = 0 := by omega
  rw [Nat.zero_mul, Nat.add_zero]
  exact hh
theorem one_same (x y : Rcm) (xs ys : List Int) : recsB 1 1 (fun _ => x) (fun _ => y) (fun _ => xs) (fun _ => ys) = recB x y xs ys := by
  unfold recsB
  rw [decide_eq_true rfl, Bool.true_and]
  simp [List.range_succ]
/-- Of a list with one bent record the first that is not as it was made is that one, or there is none. -/
theorem first_bent {c : Cfg} {n : Nat} {DI DO : Nat → List Int} {m : Nat} {R : Nat → Rcm} (h : JrN m R (mkRV c) (mkRO c n DI DO) (mkCH c n DI DO)) (x : Rcm) (xs : List Int) {K : Nat} (hK : K < m) :
    firstNo (auB c n DI DO (bentR R K x) (bentD (jrBatch c n) K xs)) m = if recB x (R K) xs (jrBatch c n K) = true then m else K := by
  have hne : ∀ j, j < m → j ≠ K → auB c n DI DO (bentR R K x) (bentD (jrBatch c n) K xs) j = true := fun j hj e => by
    have h1 := auB_own h hj
    unfold auB at h1 ⊢
    unfold bentR bentD
    rw [if_neg e, if_neg e]
    exact h1
  have heq : auB c n DI DO (bentR R K x) (bentD (jrBatch c n) K xs) K = recB x (R K) xs (jrBatch c n K) := by
    rw [auB_is h _ _ hK]
    unfold bentR bentD
    rw [if_pos rfl, if_pos rfl]
  by_cases hr : recB x (R K) xs (jrBatch c n K) = true
  · rw [if_pos hr]
    refine firstNo_eq _ m m (Nat.le_refl _) (fun j hj => ?_) (fun h => by omega)
    by_cases e : j = K
    · subst e; rw [heq]; exact hr
    · exact hne j hj e
  · rw [if_neg hr]
    refine firstNo_eq _ m K (by omega) (fun j hj => hne j (by omega) (by omega)) (fun _ => ?_)
    rw [heq]
    exact Bool.not_eq_true _ ▸ hr

end Go.Proofs.YtimciamfgpdjlaaGreat.Fx

/- A list of records that the program itself has cloned, and writes other records into; slices.Clone over records. -/
namespace Go.Proofs.YtimciamfgpdjlaaGreat.Fx
open Go.RowKit

/-- A block of the program's own whose first N records are Rb's. -/
def RowR (w : World) (gb cap N : Nat) (Rb : Nat → Rcm) : Prop := N ≤ cap ∧ ∃ F, w.rowIs gb 30 (cap * 5) F ∧ ∀ i, i < N * 5 → F i = recC (Rb (i / 5)) (i % 5)
theorem RowR.lt {w : World} {gb cap N : Nat} {Rb : Nat → Rcm} (h : RowR w gb cap N Rb) : gb < w.heap.size := by obtain ⟨_, F, hr, _⟩ := h; exact hr.lt
theorem RowR.frozen {w : World} {gb cap N : Nat} {Rb : Nat → Rcm} (h : RowR w gb cap N Rb) (i : Nat) : w.frozen? ⟨gb, i, none⟩ = false := by obtain ⟨_, F, hr, _⟩ := h; exact hr.frozen i
theorem RowR.cell {w : World} {gb cap N : Nat} {Rb : Nat → Rcm} (h : RowR w gb cap N Rb) {j t : Nat} (hj : j < N) (ht : t < 5) : w.cell? ⟨gb, j * 5 + t, none⟩ = some (recC (Rb j) t) := by
  obtain ⟨hc, F, hr, hf⟩ := h
  rw [hr.cell (by omega), hf _ (by omega), show (j * 5 + t) / 5 = j by omega, show (j * 5 + t) % 5 = t by omega]
theorem RowR.below {w w' : World} {gb cap N : Nat} {Rb : Nat → Rcm} (h : RowR w gb cap N Rb) (hb : Below w.heap.size w w') : RowR w' gb cap N Rb := by
  obtain ⟨hc, F, hr, hf⟩ := h
  exact ⟨hc, F, hr.of_block (hb.block _ hr.lt), hf⟩
theorem RowR.congr {w : World} {gb cap N : Nat} {R1 R2 : Nat → Rcm} (h : RowR w gb cap N R1) (he : ∀ j, j < N → R1 j = R2 j) : RowR w gb cap N R2 := by
  obtain ⟨hc, F, hr, hf⟩ := h
  exact ⟨hc, F, hr, fun i hi => by rw [hf i hi, he _ (by omega)]⟩
theorem RowR.put {w : World} {gb cap N K : Nat} {Rb : Nat → Rcm} (h : RowR w gb cap N Rb) (x : Rcm) (_hK : K < N) :
    RowR (((((w.setCell ⟨gb, K * 5, none⟩ (.int .i64 x.s)).setCell ⟨gb, K * 5 + 1, none⟩ (.slice x.a x.n x.k)).setCell ⟨gb, K * 5 + 2, none⟩ (.int .i64 x.r)).setCell ⟨gb, K * 5 + 3, none⟩ (.int .u64 x.root)).setCell ⟨gb, K * 5 + 4, none⟩ (.int .u64 x.chain)) gb cap N (bentR Rb K x) := by
  obtain ⟨hc, F, hr, hf⟩ := h
  refine ⟨hc, _, ((((hr.set (K * 5) (.int .i64 x.s)).set (K * 5 + 1) (.slice x.a x.n x.k)).set (K * 5 + 2) (.int .i64 x.r)).set (K * 5 + 3) (.int .u64 x.root)).set (K * 5 + 4) (.int .u64 x.chain), fun i hi => ?_⟩
  by_cases e : i / 5 = K
  · have hb : bentR Rb K x (i / 5) = x := by unfold bentR; rw [if_pos e]
    rw [hb]
    rcases lt5 (Nat.mod_lt i (show 0 < 5 by omega)) with hm | hm | hm | hm | hm
    · rw [if_neg (by omega), if_neg (by omega), if_neg (by omega), if_neg (by omega), if_pos (by omega), hm]; rfl
    · rw [if_neg (by omega), if_neg (by omega), if_neg (by omega), if_pos (by omega), hm]; rfl
    · rw [if_neg (by omega), if_neg (by omega), if_pos (by omega), hm]; rfl
    · rw [if_neg (by omega), if_pos (by omega), hm]; rfl
    · rw [if_pos (by omega), hm]; rfl
  · have hb : bentR Rb K x (i / 5) = Rb (i / 5) := by unfold bentR; rw [if_neg e]
    rw [hb, if_neg (by omega), if_neg (by omega), if_neg (by omega), if_neg (by omega), if_neg (by omega)]
    exact hf i hi
theorem RowR.recs {w : World} {gb cap N : Nat} {Rb : Nat → Rcm} {D : Nat → List Int} (h : RowR w gb cap N Rb) (hl : ∀ j, j < N → Lst w (Rb j).a (Rb j).n (Rb j).k (D j)) : Recs w (some ⟨gb, 0, none⟩) N cap Rb D := by
  refine ⟨h.1, .inr ⟨gb, 0, rfl, h.lt, fun i hi => ?_⟩⟩
  rw [Nat.zero_add]
  exact ⟨h.cell hi (t := 0) (by omega), h.cell hi (t := 1) (by omega), h.cell hi (t := 2) (by omega), h.cell hi (t := 3) (by omega), h.cell hi (t := 4) (by omega), hl i hi⟩

/-- Of the first k records those of L that are wanted stand in the places of R's. -/
def overR (R L : Nat → Rcm) (k j : Nat) : Rcm := if j < k ∧ (L j).s ≠ -1 then L j else R j
def overD (D DL : Nat → List Int) (L : Nat → Rcm) (k j : Nat) : List Int := if j < k ∧ (L j).s ≠ -1 then DL j else D j
theorem overR_zero (R L : Nat → Rcm) : overR R L 0 = R := by funext j; unfold overR; rw [if_neg (by omega)]
theorem overR_put {R L : Nat → Rcm} {k : Nat} (h : (L k).s ≠ -1) : bentR (overR R L k) k (L k) = overR R L (k + 1) := by
  funext j
  unfold bentR
  by_cases e : j = k
  · subst e; rw [if_pos rfl]; unfold overR; rw [if_pos ⟨by omega, h⟩]
  · rw [if_neg e]
    unfold overR
    by_cases hj : j < k ∧ (L j).s ≠ -1
    · rw [if_pos hj, if_pos ⟨by omega, hj.2⟩]
    · rw [if_neg hj, if_neg (fun h2 => hj ⟨by omega, h2.2⟩)]
theorem overR_skip {R L : Nat → Rcm} {k : Nat} (h : (L k).s = -1) : overR R L k = overR R L (k + 1) := by
  funext j
  unfold overR
  by_cases hj : j < k ∧ (L j).s ≠ -1
  · rw [if_pos hj, if_pos ⟨by omega, hj.2⟩]
  · rw [if_neg hj, if_neg (fun h2 => by
      by_cases e : j = k
      · subst e; exact h2.2 h
      · exact hj ⟨by omega, h2.2⟩)]
theorem over_lst {w : World} {R L : Nat → Rcm} {D DL : Nat → List Int} {k N : Nat} (h1 : ∀ j, j < N → Lst w (R j).a (R j).n (R j).k (D j)) (h2 : ∀ j, j < k → Lst w (L j).a (L j).n (L j).k (DL j)) : ∀ j, j < N → Lst w (overR R L k j).a (overR R L k j).n (overR R L k j).k (overD D DL L k j) := fun j hj => by
  unfold overR overD
  by_cases h : j < k ∧ (L j).s ≠ -1
  · rw [if_pos h, if_pos h]; exact h2 j h.1
  · rw [if_neg h, if_neg h]; exact h1 j hj

section
variable {w' W0 : World} {ops : Array Oper} {o : Oper} {a : Act} {Q : Exit → Act → World → Prop}
theorem OwnR.empty (w : World) (R : Nat → Rcm) : OwnR w.heap.size (w.alloc (.cells #[] 30)) (.slice (some ⟨w.heap.size, 0, none⟩) 0 0) 0 R :=
  ⟨rfl, .inr ⟨w.heap.size, 0, #[], rfl, Nat.le_refl _, Go.Deep.blk_alloc_new _ _, Nat.le_refl _, Nat.zero_le _, rfl, rfl⟩⟩
theorem rcCells_one (R : Nat → Rcm) : ∀ n, ∀ u ∈ rcCells R n, u.oneCell' = true
  | 0, u, h => by cases h
  | n + 1, u, h => by
    rw [rcCells, List.mem_append] at h
    rcases h with h | h
    · exact rcCells_one R n u h
    · simp at h
      rcases h with rfl | rfl | rfl | rfl | rfl <;> rfl
theorem rcCells_rec (R : Nat → Rcm) {N j : Nat} {u : Value} (h : (rcCells R N)[j]? = some u) : j < N * 5 ∧ u = recC (R (j / 5)) (j % 5) := by
  have hj : j < N * 5 := by
    have := (List.getElem?_eq_some_iff.1 h).1
    rw [rcCells_len] at this
    exact this
  obtain ⟨g0, g1, g2, g3, g4⟩ := rcCells_at R (i := j / 5) (n := N) (by omega)
  refine ⟨hj, ?_⟩
  rcases lt5 (Nat.mod_lt j (show 0 < 5 by omega)) with hm | hm | hm | hm | hm
  · rw [show j / 5 * 5 = j by omega, h] at g0; rw [hm]; injection g0
  · rw [show j / 5 * 5 + 1 = j by omega, h] at g1; rw [hm]; injection g1
  · rw [show j / 5 * 5 + 2 = j by omega, h] at g2; rw [hm]; injection g2
  · rw [show j / 5 * 5 + 3 = j by omega, h] at g3; rw [hm]; injection g3
  · rw [show j / 5 * 5 + 4 = j by omega, h] at g4; rw [hm]; injection g4
theorem OwnR.row {base : Nat} {w : World} {v : Value} {N : Nat} {R : Nat → Rcm} (h : OwnR base w v N R) (hv : v ≠ .slice none 0 0) : ∃ gb cap, v = .slice (some ⟨gb, 0, none⟩) N cap ∧ base ≤ gb ∧ RowR w gb cap N R ∧ cap ≤ maxLen := by
  obtain ⟨hl, h2⟩ := h
  rcases h2 with ⟨rfl, _⟩ | ⟨g, cap, cur, rfl, hg, hh, hle, hm, hsz, hcur⟩
  · exact absurd rfl hv
  · refine ⟨g, cap, rfl, hg, ⟨hle, fun i => cur.getD i default, ⟨cur, hh, hsz, fun i hi => ?_⟩, fun i hi => ?_⟩, hm⟩
    · simp [Array.getD, show i < cur.size by omega]
    · have e : (rcCells R N)[i]? = some (cur.getD i default) := by
        rw [← hcur, List.getElem?_take_of_lt hi]
        simp [Array.getD, show i < cur.size by omega]
      exact (rcCells_rec R e).2
theorem run_append_allR (ty : TypeId) (g c N : Nat) (R : Nat → Rcm) (w : World) (hr : w.rowIs g 30 (N * 5) (rcsR R N)) (hN : N ≤ 1000) :
    ∃ gb cap w1, (Builtin.append_ #[49, 49] ty #[.slice (some ⟨w.heap.size, 0, none⟩) 0 0, .slice (some ⟨g, 0, none⟩) N c]).run Tryz.prog (w.alloc (.cells #[] 30)) = .ok (.slice (some ⟨gb, 0, none⟩) N cap) w1 ∧ w.heap.size ≤ gb ∧ RowR w1 gb cap N R ∧ cap ≤ maxLen ∧ Below w.heap.size w w1 := by
  obtain ⟨i0, hi, hz0, hz1, hz2⟩ := info_parts infoR
  have hal := low_alloc w (.cells #[] 30)
  have hr2 := hr.of_block (hal.block _ hr.lt)
  obtain ⟨v', w1, hrun, h1, h2, h3, _⟩ := run_append_own_at (P := Tryz.prog) (w.alloc (.cells #[] 30)) w.heap.size 49 ty 30 i0 (.agg #[.int .i64 0, .slice none 0 0, .int .i64 0, .int .u64 0, .int .u64 0]) 5 56 Tryz.underlying49 hi hz0 hz1 hz2 rfl (by decide) (.slice (some ⟨w.heap.size, 0, none⟩) 0 0) 0 _ (OwnR.empty w R) ⟨g, 0, none⟩ N c (rcCells R N) (rcCells_len R N)
    (by intro j u hj
        obtain ⟨hj2, rfl⟩ := rcCells_rec R hj
        have hc := rcsR_cell hr2 (j := j / 5) (K := N) (by omega) (Nat.le_refl _) (i := j % 5) (by omega)
        rw [show j / 5 * 5 + j % 5 = j by omega] at hc
        rw [Go.WideShapes.add_plain, Nat.zero_add]
        exact hc)
    (rcCells_one R N) (by unfold maxLen; omega) (by omega) (by simp)
  have hne : v' ≠ .slice none 0 0 := fun e => by
    have := (h3.1 e).1
    cases this
  rw [show rcCells R 0 ++ rcCells R N = rcCells R N from rfl, Nat.zero_add] at h1
  obtain ⟨gb, cap, rfl, hb, hrow, hm⟩ := OwnR.row (R := R) h1 hne
  refine ⟨gb, cap, w1, hrun, hb, hrow, hm, hal.grown h2 (by simp) ?_⟩
  intro k hk
  simp [Value.ownBlock] at hk
  omega
theorem wpList_append_allR {rest : List Oper} (hgd : o.guard = none) (s x : Operand) (ho : o.op = .call { callee := .builtin .append, args := #[s, x], argTypes := #[49, 49] })
    (g c N : Nat) (R : Nat → Rcm) (w : World) (hs : a.eval s = .slice (some ⟨w.heap.size, 0, none⟩) 0 0) (hx : a.eval x = .slice (some ⟨g, 0, none⟩) N c) (hr : w.rowIs g 30 (N * 5) (rcsR R N)) (hN : N ≤ 1000)
    (h : ∀ gb cap w1, w.heap.size ≤ gb → RowR w1 gb cap N R → cap ≤ maxLen → Below w.heap.size w w1 → wpList Tryz.prog ops Q rest (a.put o.dst (.slice (some ⟨gb, 0, none⟩) N cap)) w1) : wpList Tryz.prog ops Q (o :: rest) a (w.alloc (.cells #[] 30)) := by
  obtain ⟨gb, cap, w1, hrun, h1, h2, h3, h4⟩ := run_append_allR o.type g c N R w hr hN
  refine wpList_plain hgd fun K hK => ?_
  unfold Oper.wp
  simp [execOp, ho, resolve, invoke, builtin, hs, hx, hrun, Result.andThen]
  exact hK _ _ (h gb cap w1 h1 h2 h3 h4)
end

set_option maxRecDepth 100000 in
theorem cloneR_calls (g c N : Nat) (R : Nat → Rcm) (w : World) (hr : w.rowIs g 30 (N * 5) (rcsR R N)) (hN : N ≤ 1000) :
    Calls Tryz.prog 41 #[.slice (some ⟨g, 0, none⟩) N c] w fun e w' => ∃ gb cap, e = .returned (.slice (some ⟨gb, 0, none⟩) N cap) ∧ w.heap.size ≤ gb ∧ RowR w' gb cap N R ∧ cap ≤ maxLen ∧ Below w.heap.size w w' := by
  have q22 : ∀ (w : World) (a : Option Addr) (n c n' c' : Nat), (binOp .eql 49 (.slice a n c) (.slice none n' c')).run Tryz.prog w = .ok (.bool a.isNone) w := fun w a n c n' c' => Lib.run_eql_slice_nil w _ _ a n c n' c' Tryz.underlying49
  go_enter Tryz.func41, Tryz.ntmps41
  go_wp2_with (at_builtin; refine wpList_append_allR (by rfl) _ _ (by rfl) g c N R w (by rfl) (by rfl) hr hN ?_; intro gb cap w1 h1 h2 h3 h4)
  go_ret
  exact ⟨gb, cap, rfl, h1, h2, h3, h4⟩
end Go.Proofs.YtimciamfgpdjlaaGreat.Fx

/- What coachtop.said returns: a small course is kept, and a bent journal told. -/
namespace Go.Proofs.YtimciamfgpdjlaaGreat.Fx
open Go.RowKit

def rateR (x : Rcm) (r : Int) : Rcm := ⟨x.s, x.a, x.n, x.k, r, x.root, x.chain⟩
theorem rcsR_rate {w : World} {b t n K N : Nat} {R : Nat → Rcm} (h : w.rowIs b t n (rcsR R N)) (r : Int) (hK : K < N) : (w.setCell ⟨b, K * 5 + 2, none⟩ (.int .i64 r)).rowIs b t n (rcsR (bentR R K (rateR (R K) r)) N) := by
  refine (h.set (K * 5 + 2) (.int .i64 r)).congr (fun i hi => ?_)
  unfold rcsR
  by_cases h0 : i < N * 5
  · rw [if_pos h0]
    by_cases e : i / 5 = K
    · have hb : bentR R K (rateR (R K) r) (i / 5) = rateR (R K) r := by unfold bentR; rw [if_pos e]
      rw [hb, if_pos h0, e]
      rcases lt5 (Nat.mod_lt i (show 0 < 5 by omega)) with hm | hm | hm | hm | hm
      · rw [if_neg (by omega), hm]; rfl
      · rw [if_neg (by omega), hm]; rfl
      · rw [if_pos (by omega), hm]; rfl
      · rw [if_neg (by omega), hm]; rfl
      · rw [if_neg (by omega), hm]; rfl
    · have hb : bentR R K (rateR (R K) r) (i / 5) = R (i / 5) := by unfold bentR; rw [if_neg e]
      rw [hb, if_neg (by omega), if_pos h0]
  · rw [if_neg h0, if_neg (by omega), if_neg h0]
theorem small_rate : mkRV smallC 1 = 6554 := by decide +kernel

set_option maxRecDepth 100000 in
set_option maxHeartbeats 1600000 in
theorem said_calls (w : World) : Calls Tryz.prog 39 #[] w fun e w' => e = .returned (.bool true) ∧ Below w.heap.size w w' := by
  have h0 := low_alloc w (.cells smallC.cells 24)
  obtain ⟨v0, H0⟩ : ∃ q, Hid (q = w.alloc (.cells smallC.cells 24)) := ⟨_, rfl⟩
  have hs0 : v0.heap.size = w.heap.size + 1 := by rw [H0.out]; simp
  rw [← H0.out] at h0
  have h1 := low_alloc v0 (.cells #[.int .i64 65536] 3)
  have l1 := one_lst v0 65536 3
  obtain ⟨v1, H1⟩ : ∃ q, Hid (q = v0.alloc (.cells #[.int .i64 65536] 3)) := ⟨_, rfl⟩
  have hs1 : v1.heap.size = w.heap.size + 1 + 1 := by rw [H1.out]; simp [hs0]
  rw [← H1.out] at h1 l1
  have h2 := low_alloc v1 (.cells #[.int .i64 131072] 3)
  have l2 := one_lst v1 131072 3
  obtain ⟨v2, H2⟩ : ∃ q, Hid (q = v1.alloc (.cells #[.int .i64 131072] 3)) := ⟨_, rfl⟩
  have hs2 : v2.heap.size = w.heap.size + 1 + 1 + 1 := by rw [H2.out]; simp [hs1]
  rw [← H2.out] at h2 l2
  rw [hs0] at l1
  rw [hs1] at l2
  have h3 := low_alloc v2 (.cells #[.slice (some ⟨w.heap.size + 1, 0, none⟩) 1 1, .slice (some ⟨w.heap.size + 1 + 1, 0, none⟩) 1 1] 64)
  have row := fn2_alloc v2 (.slice (some ⟨w.heap.size + 1, 0, none⟩) 1 1) (.slice (some ⟨w.heap.size + 1 + 1, 0, none⟩) 1 1) 64
  obtain ⟨v3, H3⟩ : ∃ q, Hid (q = v2.alloc (.cells #[.slice (some ⟨w.heap.size + 1, 0, none⟩) 1 1, .slice (some ⟨w.heap.size + 1 + 1, 0, none⟩) 1 1] 64)) := ⟨_, rfl⟩
  rw [← H3.out] at h3 row
  rw [hs2] at row
  have b1 := h0.trans (h1.mono h0.size)
  have b2 := b1.trans (h2.mono b1.size)
  have b3 := b2.trans (h3.mono b2.size)
  have k1 := h1.trans ((h2.trans (h3.mono h2.size)).mono h1.size)
  have kc : BoxC v3 w.heap.size smallC := by
    rw [H0.out] at k1
    exact boxC k1 (by simp)
  have l1' := (l1.below h2 (Nat.le_refl _)).below h3 (Nat.le_refl _)
  have l2' := l2.below h3 (Nat.le_refl _)
  have hcl := fn2_cells row
  have hlt := row.lt
  have hx : Exs v3 (some ⟨w.heap.size + 1 + 1 + 1, 0, none⟩) 1 1 (fun _ => ⟨some ⟨w.heap.size + 1, 0, none⟩, 1, 1, some ⟨w.heap.size + 1 + 1, 0, none⟩, 1, 1⟩) smallI smallO := by
    refine ⟨Nat.le_refl _, .inr ⟨_, _, rfl, hlt, fun i hi => ?_⟩⟩
    obtain rfl : i = 0 := by omega
    exact ⟨hcl.1, hcl.2, ⟨l1', l2'⟩⟩
  have hco : courseI smallC 1 (fun _ => ⟨some ⟨w.heap.size + 1, 0, none⟩, 1, 1, some ⟨w.heap.size + 1 + 1, 0, none⟩, 1, 1⟩) smallI smallO = 0 := small_course rfl rfl
  have hs : okW smallC.seed := ⟨by decide, by decide⟩
  have KB : Hid (∀ q, Below v3.heap.size v3 q → BoxC q w.heap.size smallC) := fun q hq => by
    have k : ∀ i, q.cell? ⟨w.heap.size, i, none⟩ = v3.cell? ⟨w.heap.size, i, none⟩ := fun i => hq.cell (p := ⟨w.heap.size, i, none⟩) (by show w.heap.size < _; omega)
    exact ⟨(k 0).trans kc.c0, (k 1).trans kc.c1, (k 2).trans kc.c2, (k 3).trans kc.c3, (k 4).trans kc.c4, (k 5).trans kc.c5, (k 6).trans kc.c6, (k 7).trans kc.c7, (k 8).trans kc.c8, (k 9).trans kc.c9, (k 10).trans kc.c10⟩
  have MK : Calls Tryz.prog 21 #[.agg #[.int .i64 1, .int .i64 1, .int .i64 1, .int .u64 1, .int .i64 1, .int .i64 3, .int .i64 6554, .int .i64 0, .int .i64 0, .int .i64 0, .int .i64 0], .slice (some ⟨w.heap.size + 1 + 1 + 1, 0, none⟩) 1 1, .int .i64 3] v3 fun e w' => ∃ g R, e = .returned (.tuple #[.slice (some ⟨g, 0, none⟩) 3 3, .int .i64 0]) ∧ v3.heap.size ≤ g ∧ w'.rowIs g 30 (3 * 5) (rcsR R 3) ∧ JrIn w' g v3.heap.size 1 3 R (jrG smallC 1) ∧ JrN 3 R (mkRV smallC) (mkRO smallC 1 smallI smallO) (mkCH smallC 1 smallI smallO) ∧ Below v3.heap.size v3 w' := jMake_good smallC _ 1 1 _ smallI smallO 3 v3 hs hx hco (by decide)
  have HWO : Hid (∀ (q : World) (g : Nat) (R : Nat → Rcm), Below v3.heap.size v3 q → q.rowIs g 30 (3 * 5) (rcsR R 3) → JrIn q g v3.heap.size 1 3 R (jrG smallC 1) → JrN 3 R (mkRV smallC) (mkRO smallC 1 smallI smallO) (mkCH smallC 1 smallI smallO) → Calls Tryz.prog 47 #[.agg #[.int .i64 1, .int .i64 1, .int .i64 1, .int .u64 1, .int .i64 1, .int .i64 3, .int .i64 6554, .int .i64 0, .int .i64 0, .int .i64 0, .int .i64 0], .slice (some ⟨w.heap.size + 1 + 1 + 1, 0, none⟩) 1 1, .slice (some ⟨g, 0, none⟩) 3 3] q fun e w' => e = .returned (.tuple #[.int .i64 3, .int .i64 0]) ∧ Below q.heap.size q w') := fun q g R hq hr hj hJ => whole_own smallC hs _ 1 1 _ smallI smallO _ 3 3 R q (hx.below hq (Nat.le_refl _)) (recs_of hr hj) (fun j hj2 => by have := (hj j hj2).1; omega) hco (by decide) hJ
  have HWB : Hid (∀ (q : World) (g : Nat) (R : Nat → Rcm), Below v3.heap.size v3 q → q.rowIs g 30 (3 * 5) (rcsR (bentR R 1 (rateR (R 1) 6555)) 3) → JrIn q g v3.heap.size 1 3 R (jrG smallC 1) → JrN 3 R (mkRV smallC) (mkRO smallC 1 smallI smallO) (mkCH smallC 1 smallI smallO) → Calls Tryz.prog 47 #[.agg #[.int .i64 1, .int .i64 1, .int .i64 1, .int .u64 1, .int .i64 1, .int .i64 3, .int .i64 6554, .int .i64 0, .int .i64 0, .int .i64 0, .int .i64 0], .slice (some ⟨w.heap.size + 1 + 1 + 1, 0, none⟩) 1 1, .slice (some ⟨g, 0, none⟩) 3 3] q fun e w' => e = .returned (.tuple #[.int .i64 1, .int .i64 0]) ∧ Below q.heap.size q w') := fun q g R hq hr hj hJ => by
    obtain ⟨x1, x2, bg, x3, _, _, x6⟩ := hj 1 (by omega)
    have hl : Lst q (rateR (R 1) 6555).a (rateR (R 1) 6555).n (rateR (R 1) 6555).k (jrBatch smallC 1 1) := by
      show Lst q (R 1).a (R 1).n (R 1).k _
      rw [x1, x2, x3]
      exact x6.lst
    have h := whole_good smallC hs _ 1 1 _ smallI smallO _ 3 3 _ _ q (hx.below hq (Nat.le_refl _)) (recs_bent hr hj hl) (fun j hj2 => by
      unfold bentR
      by_cases e : j = 1
      · rw [if_pos e]; show (R 1).n ≤ _; omega
      · rw [if_neg e]; have := (hj j hj2).1; omega) hco (by decide)
    have e := first_bent hJ (rateR (R 1) 6555) (jrBatch smallC 1 1) (K := 1) (by omega)
    have hrb : recB (rateR (R 1) 6555) (R 1) (jrBatch smallC 1 1) (jrBatch smallC 1 1) = false := by
      unfold recB likeB
      have hr1 : (R 1).r = 6554 := by rw [(hJ 1 (by omega)).2.1]; exact small_rate
      have : ¬ (rateR (R 1) 6555).r = (R 1).r := by rw [hr1]; show ¬ (6555 : Int) = 6554; decide
      rw [decide_eq_false this]
      simp
    rw [hrb] at e
    rw [if_neg (by decide)] at e
    have e2 : firstNo (auB smallC 1 smallI smallO (bentR R 1 (rateR (R 1) 6555)) (bentD (fun k => (List.range 1).map (jrG smallC 1 k)) 1 (jrBatch smallC 1 1))) 3 = 1 := e
    rw [e2] at h
    exact h
  have HR1 : Hid (∀ R : Nat → Rcm, JrN 3 R (mkRV smallC) (mkRO smallC 1 smallI smallO) (mkCH smallC 1 smallI smallO) → (R 1).r = 6554) := fun R hJ => by rw [(hJ 1 (by omega)).2.1]; exact small_rate
  clear l1 l2 h0 h1 h2 h3 b1 b2 k1 hs1 hs0 hs2 l1' l2' hcl row hx hco hs hlt
  generalize jrG smallC 1 = DG at *
  generalize mkRV smallC = RV at *
  generalize mkRO smallC 1 smallI smallO = RO at *
  generalize mkCH smallC 1 smallI smallO = CH at *
  obtain ⟨c0, c1, c2, c3, c4, c5, c6, c7, c8, c9, c10⟩ := kc
  simp only [smallC, Cfg.cells] at *
  go_enter Tryz.func39, Tryz.ntmps39
  go_wp2_with fail
  rw [← H0.out, ← H1.out, ← H2.out, ← H3.out]
  clear H0 H1 H2 H3
  refine MK.mono ?_
  rintro e w4 ⟨g, R, rfl, hg, rrow, hji, hjn, hw4⟩
  have HJI : Hid (JrIn w4 g v3.heap.size 1 3 R DG) := hji
  have HJN : Hid (JrN 3 R RV RO CH) := hjn
  have WO := HWO.out w4 g R hw4 rrow hji hjn
  clear MK HWO hji hjn c0 c1 c2 c3 c4 c5 c6 c7 c8 c9 c10
  obtain ⟨c0, c1, c2, c3, c4, c5, c6, c7, c8, c9, c10⟩ := KB.out _ hw4
  dsimp only at c0 c1 c2 c3 c4 c5 c6 c7 c8 c9 c10
  go_wp2_with fail
  refine WO.mono ?_
  rintro e w5 ⟨rfl, hw5⟩
  have T5 := hw4.trans (hw5.mono hw4.size)
  have rrow5 := rrow.of_block (hw5.block _ rrow.lt)
  have HJI5 : Hid (JrIn w5 g v3.heap.size 1 3 R DG) := HJI.out.below hw5
  have r7 : w5.cell? ⟨g, 7, none⟩ = some (.int .i64 6554) := by
    have h := rcsR_cell rrow5 (j := 1) (by omega) (Nat.le_refl _) (i := 2) (by omega)
    have e : recC (R 1) 2 = .int .i64 6554 := by show Value.int .i64 (R 1).r = _; rw [HR1.out R HJN.out]
    rw [e] at h
    exact h
  have f7 := rrow5.frozen 7
  have T6 : Below v3.heap.size v3 (w5.setCell ⟨g, 7, none⟩ (.int .i64 6555)) := T5.setCell hg _
  have WB := HWB.out (w5.setCell ⟨g, 7, none⟩ (.int .i64 6555)) g R T6 (rcsR_rate rrow5 (K := 1) 6555 (by omega)) (HJI5.out.setO _ _) HJN.out
  clear WO HWB HJI HJI5 HJN HR1 rrow rrow5 c0 c1 c2 c3 c4 c5 c6 c7 c8 c9 c10
  obtain ⟨c0, c1, c2, c3, c4, c5, c6, c7, c8, c9, c10⟩ := KB.out _ T6
  dsimp only at c0 c1 c2 c3 c4 c5 c6 c7 c8 c9 c10
  have hT6 := b3.trans (T6.mono b3.size)
  go_wp2_with fail
  refine WB.mono ?_
  rintro e w7 ⟨rfl, hw7⟩
  go_wp2_with fail
  go_ret
  exact ⟨rfl, hT6.trans (hw7.mono hT6.size)⟩
end Go.Proofs.YtimciamfgpdjlaaGreat.Fx

/- coachref.SameRecords, of records whose batches are of whatever length. -/
namespace Go.Proofs.YtimciamfgpdjlaaGreat.Fx
open Go.RowKit

set_option maxRecDepth 100000 in
set_option maxHeartbeats 1600000 in
theorem rsame1_big (x y : Rcm) (xs ys : List Int) (w : World) (l1 : Lst w x.a x.n x.k xs) (l2 : Lst w y.a y.n y.k ys) (hn : x.n ≤ 9223372036854775807) :
    Calls Tryz.prog 108 #[x.val, y.val] w fun e w' => e = .returned (.bool (recB x y xs ys)) ∧ Below w.heap.size w w' := by
  have ha1 := low_alloc w (.cells x.cells 30)
  have hal := ha1.trans ((low_alloc (w.alloc (.cells x.cells 30)) (.cells y.cells 30)).mono ha1.size)
  have HLK : Hid (Calls Tryz.prog 17 #[x.val, y.val] ((w.alloc (.cells x.cells 30)).alloc (.cells y.cells 30)) fun e w' => e = .returned (.bool (likeB x y xs ys)) ∧ Below ((w.alloc (.cells x.cells 30)).alloc (.cells y.cells 30)).heap.size ((w.alloc (.cells x.cells 30)).alloc (.cells y.cells 30)) w') := rlike_big x y xs ys _ (l1.below hal (Nat.le_refl _)) (l2.below hal (Nat.le_refl _)) hn
  have rx := (fn5_alloc w (.int .i64 x.s) (.slice x.a x.n x.k) (.int .i64 x.r) (.int .u64 x.root) (.int .u64 x.chain) 30).alloc (.cells y.cells 30)
  have ry := fn5_alloc (w.alloc (.cells x.cells 30)) (.int .i64 y.s) (.slice y.a y.n y.k) (.int .i64 y.r) (.int .u64 y.root) (.int .u64 y.chain) 30
  unfold recB
  clear l1 l2 ha1
  generalize likeB x y xs ys = LB at *
  obtain ⟨s, a, n, k, r, root, chain⟩ := x
  obtain ⟨s', a', n', k', r', root', chain'⟩ := y
  simp only [Rcm.val, Rcm.cells] at *
  simp at ry
  cases LB with
  | false =>
    go_enter Tryz.func108, Tryz.ntmps108
    go_wp2_with fail
    refine HLK.out.mono ?_
    rintro e w1 ⟨rfl, hw1⟩
    go_wp2_with fail
    go_ret
    exact ⟨rfl, hal.trans (hw1.mono hal.size)⟩
  | true =>
    go_enter Tryz.func108, Tryz.ntmps108
    go_wp2_with fail
    refine HLK.out.mono ?_
    rintro e w1 ⟨rfl, hw1⟩
    have x4 := (fn5_box (rx.of_block (hw1.block _ rx.lt))).c4
    have y4 := (fn5_box (ry.of_block (hw1.block _ ry.lt))).c4
    go_wp2_with fail
    go_ret
    exact ⟨ret_bool (by rw [Bool.true_and]; exact beq_dec _ _), hal.trans (hw1.mono hal.size)⟩

set_option maxRecDepth 100000 in
set_option maxHeartbeats 3200000 in
theorem eqr_big (a b : Option Addr) (n m c1 c2 : Nat) (X Y : Nat → Rcm) (DX DY : Nat → List Int) (w : World) (hx : Recs w a n c1 X DX) (hy : Recs w b m c2 Y DY) (hn : n ≤ 1000000000000000) (hxn : ∀ j, j < n → (X j).n ≤ 9223372036854775807) :
    Calls Tryz.prog 107 #[.slice a n c1, .slice b m c2, .func (.func 108) #[] #[]] w fun e w' => e = .returned (.bool (recsB n m X Y DX DY)) ∧ Below w.heap.size w w' := by
  by_cases hnm : n = m
  · subst hnm
    have hne : ((n : Int) != (n : Int)) = false := by simp
    have HXN : Hid (∀ j, j < n → (X j).n ≤ 9223372036854775807) := hxn
    have HOK : Hid ((∀ j, j < n → recB (X j) (Y j) (DX j) (DY j) = true) → recsB n n X Y DX DY = true) := fun h => by
      unfold recsB
      rw [decide_eq_true rfl, Bool.true_and, List.all_eq_true]
      exact fun i hi => h i (List.mem_range.1 hi)
    have HBAD : Hid (∀ j, j < n → recB (X j) (Y j) (DX j) (DY j) = false → recsB n n X Y DX DY = false) := fun j hj h => by
      unfold recsB
      rw [decide_eq_true rfl, Bool.true_and, List.all_eq_false]
      exact ⟨j, List.mem_range.2 hj, by rw [h]; decide⟩
    generalize recsB n n X Y DX DY = RB at *
    clear hxn
    go_enter Tryz.func107, Tryz.ntmps107
    go_wp2_with fail
    go_loopw [17] (fun v wr => ∃ k : Nat, k ≤ n ∧ v = .int .i64 k ∧ Hid (∀ j, j < k → recB (X j) (Y j) (DX j) (DY j) = true) ∧ Below w.heap.size w wr) (fun v _ => n - (intOf v).toNat)
    case atStart => exact ⟨0, Nat.zero_le _, rfl, fun j hj => by omega, Below.refl _ _⟩
    case round =>
      obtain ⟨k, hk, rfl, hg, hbel⟩ := hrel
      have hx1 := hx.below hbel (Nat.le_refl _)
      have hy1 := hy.below hbel (Nat.le_refl _)
      by_cases hlt : k < n
      · have hlen := HXN.out k hlt
        rcases hx1.2 with h0 | ⟨xb, xo, rfl, _, hc⟩
        · omega
        rcases hy1.2 with h0 | ⟨yb, yo, rfl, _, hd⟩
        · omega
        obtain ⟨e0, e1, e2, e3, e4, lx⟩ := hc k hlt
        obtain ⟨f0, f1, f2, f3, f4, ly⟩ := hd k hlt
        have hbad := HBAD.out k hlt
        have hgood : recB (X k) (Y k) (DX k) (DY k) = true → ∀ j, j < k + 1 → recB (X j) (Y j) (DX j) (DY j) = true := fun g j hj => by
          by_cases e : j = k
          · subst e; exact g
          · exact hg.out j (by omega)
        obtain ⟨x, hxk⟩ : ∃ x, X k = x := ⟨_, rfl⟩
        obtain ⟨y, hyk⟩ : ∃ y, Y k = y := ⟨_, rfl⟩
        rw [hxk] at e0 e1 e2 e3 e4 lx hlen hbad hgood
        rw [hyk] at f0 f1 f2 f3 f4 ly hbad hgood
        have ha := low_alloc wr (.cells x.cells 30)
        have ha2 := ha.trans ((low_alloc (wr.alloc (.cells x.cells 30)) (.cells y.cells 30)).mono ha.size)
        have SM : Calls Tryz.prog 108 #[x.val, y.val] ((wr.alloc (.cells x.cells 30)).alloc (.cells y.cells 30)) fun e w' => e = .returned (.bool (recB x y (DX k) (DY k))) ∧ Below ((wr.alloc (.cells x.cells 30)).alloc (.cells y.cells 30)).heap.size ((wr.alloc (.cells x.cells 30)).alloc (.cells y.cells 30)) w' := rsame1_big x y (DX k) (DY k) _ (lx.below ha2 (Nat.le_refl _)) (ly.below ha2 (Nat.le_refl _)) hlen
        have g0 := (ha.cell (p := ⟨yb, yo + k * 5, none⟩) (cell_lt f0)).trans f0
        have g1 := (ha.cell (p := ⟨yb, yo + k * 5 + 1, none⟩) (cell_lt f1)).trans f1
        have g2 := (ha.cell (p := ⟨yb, yo + k * 5 + 2, none⟩) (cell_lt f2)).trans f2
        have g3 := (ha.cell (p := ⟨yb, yo + k * 5 + 3, none⟩) (cell_lt f3)).trans f3
        have g4 := (ha.cell (p := ⟨yb, yo + k * 5 + 4, none⟩) (cell_lt f4)).trans f4
        have kn : (k : Int) < (n : Int) := by omega
        have HB : Hid (recB x y (DX k) (DY k) = false → RB = false) := hbad
        have HG : Hid (recB x y (DX k) (DY k) = true → ∀ j, j < k + 1 → recB (X j) (Y j) (DX j) (DY j) = true) := hgood
        clear hx hy hx1 hy1 hxk hyk lx ly hlen HXN hc hd f0 f1 f2 f3 f4 hbad hgood hg
        generalize recB x y (DX k) (DY k) = QB at *
        obtain ⟨s, ax, nx, kx, r, root, chain⟩ := x
        obtain ⟨s', ay, ny, ky, r', root', chain'⟩ := y
        simp only [Rcm.val, Rcm.cells] at *
        cases QB with
        | false =>
          go_wp2_with fail
          refine SM.mono ?_
          rintro e w1 ⟨rfl, hw1⟩
          go_wp2_with fail
          go_ret
          exact ⟨ret_bool (HB.out (by trivial)).symm, hbel.trans ((ha2.trans (hw1.mono ha2.size)).mono hbel.size)⟩
        | true =>
          go_wp2_with fail
          refine SM.mono ?_
          rintro e w1 ⟨rfl, hw1⟩
          have hb1 := hbel.trans ((ha2.trans (hw1.mono ha2.size)).mono hbel.size)
          go_wp2_with fail
          go_roundw
          case rel => exact ⟨k + 1, by omega, by go_num, HG.out (by trivial), hb1⟩
          case measure => simp [intOf]; omega
      · obtain rfl : k = n := by omega
        go_wp2_with fail
        go_ret
        exact ⟨ret_bool (HOK.out hg.out).symm, hbel⟩
  · have hne : ((n : Int) != (m : Int)) = true := by rw [bne_iff_ne]; omega
    have HR : Hid (recsB n m X Y DX DY = false) := by show recsB n m X Y DX DY = false; unfold recsB; rw [decide_eq_false hnm, Bool.false_and]
    clear hx hy hxn hnm
    go_enter Tryz.func107, Tryz.ntmps107
    go_wp2_with fail
    go_ret
    exact ⟨ret_bool HR.out.symm, Below.refl _ _⟩

theorem rsameR_big (a b : Option Addr) (n m c1 c2 : Nat) (X Y : Nat → Rcm) (DX DY : Nat → List Int) (w : World) (hx : Recs w a n c1 X DX) (hy : Recs w b m c2 Y DY) (hn : n ≤ 1000000000000000) (hxn : ∀ j, j < n → (X j).n ≤ 9223372036854775807) :
    Calls Tryz.prog 50 #[.slice a n c1, .slice b m c2] w fun e w' => e = .returned (.bool (recsB n m X Y DX DY)) ∧ Below w.heap.size w w' := by
  have K := eqr_big a b n m c1 c2 X Y DX DY w hx hy hn hxn
  clear hx hy hn hxn
  go_enter Tryz.func50, Tryz.ntmps50
  go_wp2_with fail
  refine K.mono ?_
  rintro e w1 ⟨rfl, hw1⟩
  go_wp2_with fail
  go_ret
  exact ⟨rfl, hw1⟩
end Go.Proofs.YtimciamfgpdjlaaGreat.Fx
