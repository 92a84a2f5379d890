/- What journal.Make returns, whatever is handed in. -/
import Derived.Test.YtimciamfgpdjlaaGreatJ22
import Derived.Test.YtimciamfgpdjlaaGreatJ21
import Derived.Test.YtimciamfgpdjlaaGreatJ18
import Derived.Test.YtimciamfgpdjlaaGreatJ03
import Derived.Test.YtimciamfgpdjlaaGreatJ00
namespace Go.Proofs.YtimciamfgpdjlaaGreat.Fx
open Go.RowKit

/-- What is known of the records that Make tells: where they lie, and that each batch lies in a block of its own. -/
structure MadeR (w w' : World) (c : Cfg) (n : Nat) (DI DO : Nat → List Int) (b : Option Addr) (m k : Nat) (R : Nat → Rcm) : Prop where
  recs : Recs w' b m k R (jrBatch c n)
  says : JrN m R (mkRV c) (mkRO c n DI DO) (mkCH c n DI DO)
  len8 : ∀ j, j < m → (R j).n ≤ 8
  own : 0 < m → ∃ g, b = some ⟨g, 0, none⟩ ∧ k = m ∧ w.heap.size ≤ g ∧ w'.rowIs g 30 (m * 5) (rcsR R m) ∧ JrIn w' g w.heap.size c.batch.toNat m R (jrG c n)
  bel : Below w.heap.size w w'

theorem recs_of {w : World} {g base B m : Nat} {R : Nat → Rcm} {DG : Nat → Nat → Int} (h : w.rowIs g 30 (m * 5) (rcsR R m)) (hj : JrIn w g base B m R DG) : Recs w (some ⟨g, 0, none⟩) m m R (fun k => (List.range B).map (DG k)) := by
  refine ⟨Nat.le_refl _, .inr ⟨g, 0, rfl, h.lt, fun i hi => ?_⟩⟩
  obtain ⟨h1, h2, bg, h3, _, _, hl⟩ := hj i hi
  rw [Nat.zero_add]
  refine ⟨rcsR_cell h hi (Nat.le_refl _) (i := 0) (by omega), rcsR_cell h hi (Nat.le_refl _) (i := 1) (by omega), rcsR_cell h hi (Nat.le_refl _) (i := 2) (by omega), rcsR_cell h hi (Nat.le_refl _) (i := 3) (by omega), rcsR_cell h hi (Nat.le_refl _) (i := 4) (by omega), ?_⟩
  rw [h1, h2, h3]
  exact hl.lst

set_option maxRecDepth 100000 in
set_option maxHeartbeats 1600000 in
theorem jMake_good (c : Cfg) (a : Option Addr) (n cap : Nat) (X : Nat → Exm) (DI DO : Nat → List Int) (M : Nat) (w : World) (hs : okW c.seed) (hx : Exs w a n cap X DI DO) (h0 : courseI c n X DI DO = 0) (hm : (M : Int) ≤ c.steps) :
    Calls Tryz.prog 21 #[c.val, .slice a n cap, .int .i64 M] w fun e w' => ∃ g R, e = .returned (.tuple #[.slice (some ⟨g, 0, none⟩) M M, .int .i64 0]) ∧ w.heap.size ≤ g ∧ w'.rowIs g 30 (M * 5) (rcsR R M) ∧ JrIn w' g w.heap.size c.batch.toNat M R (jrG c n) ∧ JrN M R (mkRV c) (mkRO c n DI DO) (mkCH c n DI DO) ∧ Below w.heap.size w w' := by
  have hal := low_alloc w (.cells c.cells 24)
  have CK := tcheck_calls c a n cap X DI DO _ (hx.below hal (Nat.le_refl _))
  have KB : Hid (∀ q, Below (w.alloc (.cells c.cells 24)).heap.size (w.alloc (.cells c.cells 24)) q → BoxC q w.heap.size c) := fun q hq => boxC hq (by simp)
  rw [h0] at CK
  obtain ⟨hc, hn1, hn2, hex⟩ := course_ok h0
  have HRC : Hid (∀ q, Below w.heap.size w q → Calls Tryz.prog 67 #[c.val, .slice a n cap, .int .i64 M] q fun e w' => ∃ g R, e = .returned (.slice (some ⟨g, 0, none⟩) M M) ∧ w.heap.size ≤ g ∧ w'.rowIs g 30 (M * 5) (rcsR R M) ∧ JrIn w' g w.heap.size c.batch.toNat M R (jrG c n) ∧ JrN M R (mkRV c) (mkRO c n DI DO) (mkCH c n DI DO) ∧ Below q.heap.size q w') := fun q hq => by
    obtain ⟨⟨i1, i2⟩, ⟨h1, h2⟩, ⟨o1, o2⟩, ⟨b1, b2⟩, _⟩ := cfgB_is hc
    have hzn := sizeN_bd hc
    obtain ⟨N, hNz⟩ := Int.eq_ofNat_of_zero_le (show 0 ≤ sizeN c by omega)
    have hNt : (sizeN c).toNat = N := by rw [hNz]; rfl
    have HX := hx.below hq (Nat.le_refl _)
    have hle := hq.size
    clear CK KB hal h0 hx
    have e1 : mkRO c n DI DO = jrRoot c n DI DO N := by unfold mkRO; rw [hNt]
    have e2 : mkCH c n DI DO = jrChain c n DI DO N := by unfold mkCH; rw [hNt]
    have e3 : mkRV c = fun j : Nat => rateV c j := rfl
    rw [e1, e2, e3]
    clear e1 e2 e3 hNt
    obtain ⟨i, h, o, seed, batch, steps, crate, decay, how, keep, clip⟩ := c
    dsimp only at i1 i2 h1 h2 o1 o2 b1 b2 hs hm
    obtain ⟨I, rfl⟩ := Int.eq_ofNat_of_zero_le (show 0 ≤ i by omega)
    obtain ⟨H, rfl⟩ := Int.eq_ofNat_of_zero_le (show 0 ≤ h by omega)
    obtain ⟨O, rfl⟩ := Int.eq_ofNat_of_zero_le (show 0 ≤ o by omega)
    obtain ⟨B, rfl⟩ := Int.eq_ofNat_of_zero_le (show 0 ≤ batch by omega)
    have hN : N = H * I + H + O * H + O := by have := hNz.symm; unfold sizeN at this; dsimp only at this; exact_mod_cast this
    refine (jrecords_calls I H O B seed crate decay how keep clip hs steps hc N hN a n cap X DI DO M q HX hn1 hn2 hex hm).mono ?_
    rintro e w' ⟨g, R, he, g1, g2, g3, g4, g5⟩
    exact ⟨g, R, he, by omega, g2, (fun j hj => by
      obtain ⟨x1, x2, bg, x3, x4, x5, x6⟩ := g3 j hj
      exact ⟨x1, x2, bg, x3, by omega, x5, x6⟩), g4, g5⟩
  generalize jrG c n = DG at *
  generalize mkRV c = RV at *
  generalize mkRO c n DI DO = RO at *
  generalize mkCH c n DI DO = CH at *
  have z0 : ¬ (M : Int) < 0 := by omega
  have z1 : ¬ c.steps < (M : Int) := by omega
  clear hx hex hc hs h0
  generalize hBB : c.batch.toNat = BB at *
  clear hBB
  obtain ⟨i, h, o, seed, batch, steps, crate, decay, how, keep, clip⟩ := c
  simp only [Cfg.val, Cfg.cells] at *
  obtain ⟨c0, c1, c2, c3, c4, c5, c6, c7, c8, c9, c10⟩ := KB.out _ (Below.refl _ _)
  dsimp only at c0 c1 c2 c3 c4 c5 c6 c7 c8 c9 c10
  go_enter Tryz.func21, Tryz.ntmps21
  go_wp2_with fail
  refine CK.mono ?_
  rintro e w1 ⟨rfl, hw1⟩
  clear c0 c1 c2 c3 c4 c5 c6 c7 c8 c9 c10
  obtain ⟨c0, c1, c2, c3, c4, c5, c6, c7, c8, c9, c10⟩ := KB.out _ hw1
  dsimp only at c0 c1 c2 c3 c4 c5 c6 c7 c8 c9 c10
  have T1 := hal.trans (hw1.mono hal.size)
  go_wp2_with fail
  refine (HRC.out _ T1).mono ?_
  rintro e w2 ⟨g, R, rfl, g1, g2, g3, g4, g5⟩
  have G4 : Hid (JrN M R RV RO CH) := g4
  have G3 : Hid (JrIn w2 g w.heap.size BB M R DG) := g3
  clear g4 g3
  go_wp2_with fail
  go_ret2
  exact ⟨g, R, rfl, g1, g2, G3.out, G4.out, T1.trans (g5.mono T1.size)⟩

set_option maxRecDepth 100000 in
set_option maxHeartbeats 1600000 in
theorem jMake_calls (c : Cfg) (a : Option Addr) (n cap : Nat) (X : Nat → Exm) (DI DO : Nat → List Int) (m : Int) (w : World) (hs : okW c.seed) (hx : Exs w a n cap X DI DO) :
    Calls Tryz.prog 21 #[c.val, .slice a n cap, .int .i64 m] w fun e w' => ∃ b k R, e = .returned (.tuple #[.slice b (mkN c n X DI DO m) k, .int .i64 (mkE c n X DI DO m)]) ∧ MadeR w w' c n DI DO b (mkN c n X DI DO m) k R := by
  have hal := low_alloc w (.cells c.cells 24)
  have CK := tcheck_calls c a n cap X DI DO _ (hx.below hal (Nat.le_refl _))
  have KB : Hid (∀ q, Below (w.alloc (.cells c.cells 24)).heap.size (w.alloc (.cells c.cells 24)) q → BoxC q w.heap.size c) := fun q hq => boxC hq (by simp)
  have none_ : ∀ w', Below w.heap.size w w' → MadeR w w' c n DI DO none 0 0 noRec := fun w' hb => ⟨Recs.nil _ _ _ _ _, (fun j hj => by omega), (fun j hj => by omega), (fun h => by omega), hb⟩
  by_cases h0 : courseI c n X DI DO = 0
  · obtain ⟨hc, hn1, hn2, hex⟩ := course_ok h0
    by_cases hm : 0 ≤ m ∧ m ≤ c.steps
    · have hE : mkE c n X DI DO m = 0 := by unfold mkE; rw [if_pos h0, if_pos (in_yes hm)]
      obtain ⟨M, rfl⟩ := Int.eq_ofNat_of_zero_le hm.1
      have hMN : mkN c n X DI DO (M : Int) = M := by unfold mkN; rw [if_pos hE]; rfl
      rw [hE, hMN]
      refine (jMake_good c a n cap X DI DO M w hs hx h0 hm.2).mono ?_
      rintro e w' ⟨g, R, he, g1, g2, g3, g4, g5⟩
      obtain ⟨_, _, _, ⟨b1, b2⟩, _⟩ := cfgB_is hc
      refine ⟨some ⟨g, 0, none⟩, M, R, he, recs_of g2 g3, g4, fun j hj => ?_, fun _ => ⟨g, rfl, rfl, g1, g2, g3⟩, g5⟩
      have := (g3 j hj).1
      omega
    · have hE : mkE c n X DI DO m = 1 := by
        unfold mkE
        rw [if_pos h0, if_neg (fun h => hm (in_is h))]
      have hMN : mkN c n X DI DO m = 0 := by unfold mkN; rw [hE, if_neg (by decide)]
      rw [hE, hMN]
      rw [h0] at CK
      have HNO : Hid (∀ w', Below w.heap.size w w' → MadeR w w' c n DI DO none 0 0 noRec) := none_
      obtain ⟨MR, HMR⟩ : ∃ P : World → Option Addr → Nat → (Nat → Rcm) → Prop, Hid (P = fun w' b k R => MadeR w w' c n DI DO b 0 k R) := ⟨_, rfl⟩
      have hPQ : ∀ w' b k R, MadeR w w' c n DI DO b 0 k R = MR w' b k R := fun w' b k R => by rw [HMR.out]
      simp only [hPQ] at HNO ⊢
      clear hPQ HMR none_ hE hMN hx hex hc hs h0
      obtain ⟨i, h, o, seed, batch, steps, crate, decay, how, keep, clip⟩ := c
      simp only [Cfg.val, Cfg.cells] at *
      obtain ⟨c0, c1, c2, c3, c4, c5, c6, c7, c8, c9, c10⟩ := KB.out _ (Below.refl _ _)
      dsimp only at c0 c1 c2 c3 c4 c5 c6 c7 c8 c9 c10
      by_cases hm0 : m < 0
      · go_enter Tryz.func21, Tryz.ntmps21
        go_wp2_with fail
        refine CK.mono ?_
        rintro e w1 ⟨rfl, hw1⟩
        have T1 := hal.trans (hw1.mono hal.size)
        go_wp2_with fail
        go_ret2
        exact ⟨none, 0, noRec, rfl, HNO.out _ T1⟩
      · have hm1 : steps < m := by omega
        go_enter Tryz.func21, Tryz.ntmps21
        go_wp2_with fail
        refine CK.mono ?_
        rintro e w1 ⟨rfl, hw1⟩
        clear c0 c1 c2 c3 c4 c5 c6 c7 c8 c9 c10
        obtain ⟨c0, c1, c2, c3, c4, c5, c6, c7, c8, c9, c10⟩ := KB.out _ hw1
        dsimp only at c0 c1 c2 c3 c4 c5 c6 c7 c8 c9 c10
        have T1 := hal.trans (hw1.mono hal.size)
        go_wp2_with fail
        go_ret2
        exact ⟨none, 0, noRec, rfl, HNO.out _ T1⟩
  · have hE : mkE c n X DI DO m = courseI c n X DI DO := if_neg h0
    have hMN : mkN c n X DI DO m = 0 := by unfold mkN; rw [hE, if_neg h0]
    have hb : (courseI c n X DI DO != 0) = true := by rw [bne_iff_ne]; exact h0
    rw [hE, hMN]
    have HNO : Hid (∀ w', Below w.heap.size w w' → MadeR w w' c n DI DO none 0 0 noRec) := none_
    obtain ⟨MR, HMR⟩ : ∃ P : World → Option Addr → Nat → (Nat → Rcm) → Prop, Hid (P = fun w' b k R => MadeR w w' c n DI DO b 0 k R) := ⟨_, rfl⟩
    have hPQ : ∀ w' b k R, MadeR w w' c n DI DO b 0 k R = MR w' b k R := fun w' b k R => by rw [HMR.out]
    simp only [hPQ] at HNO ⊢
    generalize courseI c n X DI DO = E at *
    clear hPQ HMR none_ hE hMN hx hs
    obtain ⟨i, h, o, seed, batch, steps, crate, decay, how, keep, clip⟩ := c
    simp only [Cfg.val, Cfg.cells] at *
    obtain ⟨c0, c1, c2, c3, c4, c5, c6, c7, c8, c9, c10⟩ := KB.out _ (Below.refl _ _)
    dsimp only at c0 c1 c2 c3 c4 c5 c6 c7 c8 c9 c10
    go_enter Tryz.func21, Tryz.ntmps21
    go_wp2_with fail
    refine CK.mono ?_
    rintro e w1 ⟨rfl, hw1⟩
    go_wp2_with fail
    go_ret2
    exact ⟨none, 0, noRec, rfl, HNO.out _ (hal.trans (hw1.mono hal.size))⟩
end Go.Proofs.YtimciamfgpdjlaaGreat.Fx

/- What coachkeep.taught returns, with journal.Make's contract. -/
namespace Go.Proofs.YtimciamfgpdjlaaGreat.Fx
open Go.RowKit

theorem make_says : MakeSays := fun c a n cap X DI DO m w hs hx => by
  refine (jMake_calls c a n cap X DI DO m w hs hx).mono ?_
  rintro e w' ⟨b, k, R, he, h⟩
  exact ⟨b, k, R, he, h.recs, h.says, h.len8, h.bel⟩
theorem taught_any (w : World) : Calls Tryz.prog 19 #[] w fun e w' => e = .returned (.bool true) ∧ Below w.heap.size w w' := taught_calls make_says w
end Go.Proofs.YtimciamfgpdjlaaGreat.Fx

/- What coachref.Like and SameRecords return, whatever records lie there. -/
namespace Go.Proofs.YtimciamfgpdjlaaGreat.Fx
open Go.RowKit

/-- Are two records the same, but for the chain? -/
def likeB (x y : Rcm) (xs ys : List Int) : Bool := decide (x.s = y.s) && decide (x.r = y.r) && decide (x.root = y.root) && decide (xs = ys)
def recB (x y : Rcm) (xs ys : List Int) : Bool := likeB x y xs ys && decide (x.chain = y.chain)
def recsB (n m : Nat) (X Y : Nat → Rcm) (DX DY : Nat → List Int) : Bool := decide (n = m) && (List.range n).all fun i => recB (X i) (Y i) (DX i) (DY i)
theorem beq_dec (x y : Int) : (x == y) = decide (x = y) := by
  by_cases h : x = y
  · rw [decide_eq_true h]; simpa using h
  · rw [decide_eq_false h]; simpa using h

set_option maxRecDepth 100000 in
set_option maxHeartbeats 1600000 in
theorem rlike_calls (x y : Rcm) (xs ys : List Int) (w : World) (l1 : Lst w x.a x.n x.k xs) (l2 : Lst w y.a y.n y.k ys) (hn : x.n ≤ 1000000000000000000) :
    Calls Tryz.prog 17 #[x.val, y.val] w fun e w' => e = .returned (.bool (likeB x y xs ys)) ∧ Below w.heap.size w w' := by
  have hal := (low_alloc w (.cells x.cells 30)).trans ((low_alloc (w.alloc (.cells x.cells 30)) (.cells y.cells 30)).mono (low_alloc w (.cells x.cells 30)).size)
  have m1 := l1.below hal (Nat.le_refl _)
  have m2 := l2.below hal (Nat.le_refl _)
  unfold likeB
  clear l1 l2
  obtain ⟨s, a, n, k, r, root, chain⟩ := x
  obtain ⟨s', a', n', k', r', root', chain'⟩ := y
  simp only [Rcm.val, Rcm.cells] at *
  by_cases h1 : s = s'
  rotate_left
  · have qh1 : (s == s') = false := by simpa using h1
    go_enter Tryz.func17, Tryz.ntmps17
    go_wp2_with fail
    go_ret
    exact ⟨ret_bool (by simp [h1]), hal⟩
  have qh1 : (s == s') = true := by simpa using h1
  by_cases h2 : r = r'
  rotate_left
  · have qh2 : (r == r') = false := by simpa using h2
    clear h1
    go_enter Tryz.func17, Tryz.ntmps17
    go_wp2_with fail
    go_ret
    exact ⟨ret_bool (by simp [h2]), hal⟩
  have qh2 : (r == r') = true := by simpa using h2
  by_cases h3 : root = root'
  rotate_left
  · have qh3 : (root == root') = false := by simpa using h3
    clear h1 h2
    go_enter Tryz.func17, Tryz.ntmps17
    go_wp2_with fail
    go_ret
    exact ⟨ret_bool (by simp [h3]), hal⟩
  have qh3 : (root == root') = true := by simpa using h3
  have HL : Hid ((decide (s = s') && decide (r = r') && decide (root = root') && decide (xs = ys)) = decide (xs = ys)) := by show _ = _; rw [decide_eq_true h1, decide_eq_true h2, decide_eq_true h3]; simp
  clear h1 h2 h3
  go_enter Tryz.func17, Tryz.ntmps17
  go_wp2_with fail
  refine (eq_calls _ _ _ _ _ _ xs ys _ m1 m2 (by omega)).mono ?_
  rintro e w1 ⟨rfl, k5, hw5⟩
  subst hw5
  go_wp2_with fail
  go_ret
  exact ⟨ret_bool (by rw [HL.out]), below_drewN hal _⟩

set_option maxRecDepth 100000 in
set_option maxHeartbeats 1600000 in
theorem rsame1_calls (x y : Rcm) (xs ys : List Int) (w : World) (l1 : Lst w x.a x.n x.k xs) (l2 : Lst w y.a y.n y.k ys) (hn : x.n ≤ 1000000000000000000) :
    Calls Tryz.prog 108 #[x.val, y.val] w fun e w' => e = .returned (.bool (recB x y xs ys)) ∧ Below w.heap.size w w' := by
  have ha1 := low_alloc w (.cells x.cells 30)
  have hal := ha1.trans ((low_alloc (w.alloc (.cells x.cells 30)) (.cells y.cells 30)).mono ha1.size)
  have HLK : Hid (Calls Tryz.prog 17 #[x.val, y.val] ((w.alloc (.cells x.cells 30)).alloc (.cells y.cells 30)) fun e w' => e = .returned (.bool (likeB x y xs ys)) ∧ Below ((w.alloc (.cells x.cells 30)).alloc (.cells y.cells 30)).heap.size ((w.alloc (.cells x.cells 30)).alloc (.cells y.cells 30)) w') := rlike_calls x y xs ys _ (l1.below hal (Nat.le_refl _)) (l2.below hal (Nat.le_refl _)) hn
  have rx := (fn5_alloc w (.int .i64 x.s) (.slice x.a x.n x.k) (.int .i64 x.r) (.int .u64 x.root) (.int .u64 x.chain) 30).alloc (.cells y.cells 30)
  have ry := fn5_alloc (w.alloc (.cells x.cells 30)) (.int .i64 y.s) (.slice y.a y.n y.k) (.int .i64 y.r) (.int .u64 y.root) (.int .u64 y.chain) 30
  unfold recB
  clear l1 l2 ha1
  generalize likeB x y xs ys = LB at *
  obtain ⟨s, a, n, k, r, root, chain⟩ := x
  obtain ⟨s', a', n', k', r', root', chain'⟩ := y
  simp only [Rcm.val, Rcm.cells] at *
  simp at ry
  cases LB with
  | false =>
    go_enter Tryz.func108, Tryz.ntmps108
    go_wp2_with fail
    refine HLK.out.mono ?_
    rintro e w1 ⟨rfl, hw1⟩
    go_wp2_with fail
    go_ret
    exact ⟨rfl, hal.trans (hw1.mono hal.size)⟩
  | true =>
    go_enter Tryz.func108, Tryz.ntmps108
    go_wp2_with fail
    refine HLK.out.mono ?_
    rintro e w1 ⟨rfl, hw1⟩
    have x4 := (fn5_box (rx.of_block (hw1.block _ rx.lt))).c4
    have y4 := (fn5_box (ry.of_block (hw1.block _ ry.lt))).c4
    go_wp2_with fail
    go_ret
    exact ⟨ret_bool (by rw [Bool.true_and]; exact beq_dec _ _), hal.trans (hw1.mono hal.size)⟩

set_option maxRecDepth 100000 in
set_option maxHeartbeats 3200000 in
theorem eqr_calls (a b : Option Addr) (n m c1 c2 : Nat) (X Y : Nat → Rcm) (DX DY : Nat → List Int) (w : World) (hx : Recs w a n c1 X DX) (hy : Recs w b m c2 Y DY) (hn : n ≤ 1000000000000000) (hxn : ∀ j, j < n → (X j).n ≤ 1000000000000000000) :
    Calls Tryz.prog 107 #[.slice a n c1, .slice b m c2, .func (.func 108) #[] #[]] w fun e w' => e = .returned (.bool (recsB n m X Y DX DY)) ∧ Below w.heap.size w w' := by
  by_cases hnm : n = m
  · subst hnm
    have hne : ((n : Int) != (n : Int)) = false := by simp
    have HXN : Hid (∀ j, j < n → (X j).n ≤ 1000000000000000000) := hxn
    have HOK : Hid ((∀ j, j < n → recB (X j) (Y j) (DX j) (DY j) = true) → recsB n n X Y DX DY = true) := fun h => by
      unfold recsB
      rw [decide_eq_true rfl, Bool.true_and, List.all_eq_true]
      exact fun i hi => h i (List.mem_range.1 hi)
    have HBAD : Hid (∀ j, j < n → recB (X j) (Y j) (DX j) (DY j) = false → recsB n n X Y DX DY = false) := fun j hj h => by
      unfold recsB
      rw [decide_eq_true rfl, Bool.true_and, List.all_eq_false]
      exact ⟨j, List.mem_range.2 hj, by rw [h]; decide⟩
    generalize recsB n n X Y DX DY = RB at *
    clear hxn
    go_enter Tryz.func107, Tryz.ntmps107
    go_wp2_with fail
    go_loopw [17] (fun v wr => ∃ k : Nat, k ≤ n ∧ v = .int .i64 k ∧ Hid (∀ j, j < k → recB (X j) (Y j) (DX j) (DY j) = true) ∧ Below w.heap.size w wr) (fun v _ => n - (intOf v).toNat)
    case atStart => exact ⟨0, Nat.zero_le _, rfl, fun j hj => by omega, Below.refl _ _⟩
    case round =>
      obtain ⟨k, hk, rfl, hg, hbel⟩ := hrel
      have hx1 := hx.below hbel (Nat.le_refl _)
      have hy1 := hy.below hbel (Nat.le_refl _)
      by_cases hlt : k < n
      · have hlen := HXN.out k hlt
        rcases hx1.2 with h0 | ⟨xb, xo, rfl, _, hc⟩
        · omega
        rcases hy1.2 with h0 | ⟨yb, yo, rfl, _, hd⟩
        · omega
        obtain ⟨e0, e1, e2, e3, e4, lx⟩ := hc k hlt
        obtain ⟨f0, f1, f2, f3, f4, ly⟩ := hd k hlt
        have hbad := HBAD.out k hlt
        have hgood : recB (X k) (Y k) (DX k) (DY k) = true → ∀ j, j < k + 1 → recB (X j) (Y j) (DX j) (DY j) = true := fun g j hj => by
          by_cases e : j = k
          · subst e; exact g
          · exact hg.out j (by omega)
        obtain ⟨x, hxk⟩ : ∃ x, X k = x := ⟨_, rfl⟩
        obtain ⟨y, hyk⟩ : ∃ y, Y k = y := ⟨_, rfl⟩
        rw [hxk] at e0 e1 e2 e3 e4 lx hlen hbad hgood
        rw [hyk] at f0 f1 f2 f3 f4 ly hbad hgood
        have ha := low_alloc wr (.cells x.cells 30)
        have ha2 := ha.trans ((low_alloc (wr.alloc (.cells x.cells 30)) (.cells y.cells 30)).mono ha.size)
        have SM : Calls Tryz.prog 108 #[x.val, y.val] ((wr.alloc (.cells x.cells 30)).alloc (.cells y.cells 30)) fun e w' => e = .returned (.bool (recB x y (DX k) (DY k))) ∧ Below ((wr.alloc (.cells x.cells 30)).alloc (.cells y.cells 30)).heap.size ((wr.alloc (.cells x.cells 30)).alloc (.cells y.cells 30)) w' := rsame1_calls x y (DX k) (DY k) _ (lx.below ha2 (Nat.le_refl _)) (ly.below ha2 (Nat.le_refl _)) hlen
        have g0 := (ha.cell (p := ⟨yb, yo + k * 5, none⟩) (cell_lt f0)).trans f0
        have g1 := (ha.cell (p := ⟨yb, yo + k * 5 + 1, none⟩) (cell_lt f1)).trans f1
        have g2 := (ha.cell (p := ⟨yb, yo + k * 5 + 2, none⟩) (cell_lt f2)).trans f2
        have g3 := (ha.cell (p := ⟨yb, yo + k * 5 + 3, none⟩) (cell_lt f3)).trans f3
        have g4 := (ha.cell (p := ⟨yb, yo + k * 5 + 4, none⟩) (cell_lt f4)).trans f4
        have kn : (k : Int) < (n : Int) := by omega
        have HB : Hid (recB x y (DX k) (DY k) = false → RB = false) := hbad
        have HG : Hid (recB x y (DX k) (DY k) = true → ∀ j, j < k + 1 → recB (X j) (Y j) (DX j) (DY j) = true) := hgood
        clear hx hy hx1 hy1 hxk hyk lx ly hlen HXN hc hd f0 f1 f2 f3 f4 hbad hgood hg
        generalize recB x y (DX k) (DY k) = QB at *
        obtain ⟨s, ax, nx, kx, r, root, chain⟩ := x
        obtain ⟨s', ay, ny, ky, r', root', chain'⟩ := y
        simp only [Rcm.val, Rcm.cells] at *
        cases QB with
        | false =>
          go_wp2_with fail
          refine SM.mono ?_
          rintro e w1 ⟨rfl, hw1⟩
          go_wp2_with fail
          go_ret
          exact ⟨ret_bool (HB.out (by trivial)).symm, hbel.trans ((ha2.trans (hw1.mono ha2.size)).mono hbel.size)⟩
        | true =>
          go_wp2_with fail
          refine SM.mono ?_
          rintro e w1 ⟨rfl, hw1⟩
          have hb1 := hbel.trans ((ha2.trans (hw1.mono ha2.size)).mono hbel.size)
          go_wp2_with fail
          go_roundw
          case rel => exact ⟨k + 1, by omega, by go_num, HG.out (by trivial), hb1⟩
          case measure => simp [intOf]; omega
      · obtain rfl : k = n := by omega
        go_wp2_with fail
        go_ret
        exact ⟨ret_bool (HOK.out hg.out).symm, hbel⟩
  · have hne : ((n : Int) != (m : Int)) = true := by rw [bne_iff_ne]; omega
    have HR : Hid (recsB n m X Y DX DY = false) := by show recsB n m X Y DX DY = false; unfold recsB; rw [decide_eq_false hnm, Bool.false_and]
    clear hx hy hxn hnm
    go_enter Tryz.func107, Tryz.ntmps107
    go_wp2_with fail
    go_ret
    exact ⟨ret_bool HR.out.symm, Below.refl _ _⟩

theorem rsameR_calls (a b : Option Addr) (n m c1 c2 : Nat) (X Y : Nat → Rcm) (DX DY : Nat → List Int) (w : World) (hx : Recs w a n c1 X DX) (hy : Recs w b m c2 Y DY) (hn : n ≤ 1000000000000000) (hxn : ∀ j, j < n → (X j).n ≤ 1000000000000000000) :
    Calls Tryz.prog 50 #[.slice a n c1, .slice b m c2] w fun e w' => e = .returned (.bool (recsB n m X Y DX DY)) ∧ Below w.heap.size w w' := by
  have K := eqr_calls a b n m c1 c2 X Y DX DY w hx hy hn hxn
  clear hx hy hn hxn
  go_enter Tryz.func50, Tryz.ntmps50
  go_wp2_with fail
  refine K.mono ?_
  rintro e w1 ⟨rfl, hw1⟩
  go_wp2_with fail
  go_ret
  exact ⟨rfl, hw1⟩
end Go.Proofs.YtimciamfgpdjlaaGreat.Fx

/- slices.Equal over integers and coachref.Like, of lists of whatever length. -/
namespace Go.Proofs.YtimciamfgpdjlaaGreat.Fx
open Go.RowKit

set_option maxHeartbeats 400000 in
theorem eq_big (a b : Option Addr) (la ca lb cb : Nat) (xs ys : List Int) (w : World) (ha : Lst w a la ca xs) (hb : Lst w b lb cb ys) (h63 : la ≤ 9223372036854775807) :
    Calls Tryz.prog 38 #[.slice a la ca, .slice b lb cb] w fun e w' => e = .returned (.bool (decide (xs = ys))) ∧ ∃ k, w' = w.drewN k := by
  by_cases hl : la = lb
  · subst hl
    have hab : ((la : Int) != (la : Int)) = false := by simp
    go_enter Tryz.func38, Tryz.ntmps38
    go_wp2
    go_loopw [13] (fun i wr => ∃ k n : Nat, k ≤ la ∧ i = .int .i64 k ∧ Hid (∀ j, j < k → xs.getD j 0 = ys.getD j 0) ∧ wr = w.drewN n) (fun i _ => la - (intOf i).toNat)
    case atStart => exact ⟨0, 0, Nat.zero_le _, rfl, fun j hj => by omega, rfl⟩
    case round =>
      obtain ⟨k, n, hk, rfl, he, rfl⟩ := hrel
      by_cases hlt : k < la
      · obtain ⟨b1, o1, x, rfl, _, c1, HX⟩ := ha.at1 hlt
        obtain ⟨b2, o2, y, rfl, _, c2, HY⟩ := hb.at1 hlt
        by_cases hxy : x = y
        · subst hxy
          have hne : (x != x) = false := by simp
          go_wp2
          go_quiet (fail)
          go_wp2
          go_roundw
          case rel => exact ⟨k + 1, _, by omega, by go_num, fun j hj => by
            by_cases e : j = k
            · subst e; rw [HX.out, HY.out]
            · exact he.out j (by omega), rfl⟩
          case measure => simp [intOf]; omega
        · have hne : (x != y) = true := by simpa using hxy
          go_wp2
          go_quiet (fail)
          go_wp2
          go_ret
          refine ⟨ret_bool ?_, _, World.drewN_drewN _ _ _⟩
          exact (decide_eq_false (fun e => hxy (by rw [← HX.out, ← HY.out, e]))).symm
      · go_wp2
        go_ret
        refine ⟨ret_bool ?_, _, rfl⟩
        exact (decide_eq_true (eq_of_getD ha.len hb.len (fun j hj => he.out j (by omega)))).symm
  · have hab : ((la : Int) != (lb : Int)) = true := by rw [bne_iff_ne]; omega
    go_enter Tryz.func38, Tryz.ntmps38
    go_wp2
    go_ret
    refine ⟨ret_bool ?_, 0, rfl⟩
    exact (decide_eq_false (fun e => hl (by rw [← ha.len, ← hb.len, e]))).symm

set_option maxRecDepth 100000 in
set_option maxHeartbeats 1600000 in
theorem rlike_big (x y : Rcm) (xs ys : List Int) (w : World) (l1 : Lst w x.a x.n x.k xs) (l2 : Lst w y.a y.n y.k ys) (hn : x.n ≤ 9223372036854775807) :
    Calls Tryz.prog 17 #[x.val, y.val] w fun e w' => e = .returned (.bool (likeB x y xs ys)) ∧ Below w.heap.size w w' := by
  have hal := (low_alloc w (.cells x.cells 30)).trans ((low_alloc (w.alloc (.cells x.cells 30)) (.cells y.cells 30)).mono (low_alloc w (.cells x.cells 30)).size)
  have m1 := l1.below hal (Nat.le_refl _)
  have m2 := l2.below hal (Nat.le_refl _)
  unfold likeB
  clear l1 l2
  obtain ⟨s, a, n, k, r, root, chain⟩ := x
  obtain ⟨s', a', n', k', r', root', chain'⟩ := y
  simp only [Rcm.val, Rcm.cells] at *
  by_cases h1 : s = s'
  rotate_left
  · have qh1 : (s == s') = false := by simpa using h1
    go_enter Tryz.func17, Tryz.ntmps17
    go_wp2_with fail
    go_ret
    exact ⟨ret_bool (by simp [h1]), hal⟩
  have qh1 : (s == s') = true := by simpa using h1
  by_cases h2 : r = r'
  rotate_left
  · have qh2 : (r == r') = false := by simpa using h2
    clear h1
    go_enter Tryz.func17, Tryz.ntmps17
    go_wp2_with fail
    go_ret
    exact ⟨ret_bool (by simp [h2]), hal⟩
  have qh2 : (r == r') = true := by simpa using h2
  by_cases h3 : root = root'
  rotate_left
  · have qh3 : (root == root') = false := by simpa using h3
    clear h1 h2
    go_enter Tryz.func17, Tryz.ntmps17
    go_wp2_with fail
    go_ret
    exact ⟨ret_bool (by simp [h3]), hal⟩
  have qh3 : (root == root') = true := by simpa using h3
  have HL : Hid ((decide (s = s') && decide (r = r') && decide (root = root') && decide (xs = ys)) = decide (xs = ys)) := by show _ = _; rw [decide_eq_true h1, decide_eq_true h2, decide_eq_true h3]; simp
  clear h1 h2 h3
  go_enter Tryz.func17, Tryz.ntmps17
  go_wp2_with fail
  refine (eq_big _ _ _ _ _ _ xs ys _ m1 m2 (by omega)).mono ?_
  rintro e w1 ⟨rfl, k5, hw5⟩
  subst hw5
  go_wp2_with fail
  go_ret
  exact ⟨ret_bool (by rw [HL.out]), below_drewN hal _⟩
end Go.Proofs.YtimciamfgpdjlaaGreat.Fx
