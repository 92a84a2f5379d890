/- The walk of TreePaths: it returns true, whatever integers lie there, and nothing that was there is written. -/
import Derived.Test.YtimciamfgpdjlaaGreatJ18
import Derived.Test.YtimciamfgpdjlaaGreatJ24
import Derived.Test.YtimciamfgpdjlaaGreatJ21
import Derived.Test.YtimciamfgpdjlaaGreatJ23
import Derived.Test.YtimciamfgpdjlaaGreatJ25
import Derived.Test.YtimciamfgpdjlaaGreatJ12
import Derived.Test.YtimciamfgpdjlaaGreatJ00
import Derived.Deep.DeepCutAuto
import Derived.Deep.CutBlock
import Derived.Deep.QuietTactic
import Derived.BigQuiet
import Derived.Deep.RegionHeld3
import Derived.Test.YtimciamfgpdjlaaGreatJ16
import Derived.Test.YtimciamfgpdjlaaGreatJ05
namespace Go.Proofs.YtimciamfgpdjlaaGreat.Fx
open Go.RowKit

theorem Lst.one (w : World) (x : Int) (t : TypeId) : Lst (w.alloc (.cells #[.int .i64 x] t)) (some ⟨w.heap.size, 0, none⟩) 1 1 [x] := by
  refine ⟨rfl, Nat.le_refl _, .inr ⟨w.heap.size, 0, rfl, by simp, fun i hi => ?_⟩⟩
  obtain rfl : i = 0 := by omega
  exact cell_new _ _ _

theorem grown_tree : treeP (leavesP [5] 1) = ofA 4 (numL [5] 1) 1 := by decide +kernel
theorem grown_not : (ofP 3 [((1 : Nat) : Int), ofA 4 (numL [5] 1) 1] != 0) = true := by decide +kernel
theorem ofA_ok (kind : Int) (xs : List Int) (n : Nat) : okW (ofA kind xs n) := by
  unfold ofA
  by_cases h : 200 < n
  · rw [if_pos h]; exact ⟨by omega, by omega⟩
  · rw [if_neg h]; exact okW_of_P (ofP_ok _ _)

theorem grown_calls (w : World) : Calls Tryz.prog 25 #[] w fun e w' => e = .returned (.bool true) ∧ Below w.heap.size w w' := by
  have HT : Hid (treeP (leavesP [5] 1) = ofA 4 (numL [5] 1) 1) := grown_tree
  have HN : Hid ((ofP 3 [((1 : Nat) : Int), ofA 4 (numL [5] 1) 1] != 0) = true) := grown_not
  have HO : Hid (okW (ofA 4 (numL [5] 1) 1)) := ofA_ok _ _ _
  have HB : Hid (bigI 1 = 0) := rfl
  generalize hX : ofA 4 (numL [5] 1) 1 = X at *
  have HX : Hid (ofA 4 (numL [5] 1) 1 = X) := hX
  generalize hR : ofP 3 [((1 : Nat) : Int), X] = R at *
  have HR : Hid (ofP 3 [(1 : Int), X] = R) := hR
  have HN2 := HN.out
  clear hX hR HN
  go_enter Tryz.func25, Tryz.ntmps25
  go_wp2_with fail
  refine (root_good _ _ _ [5] _ (Lst.one _ _ _) (by omega) (by omega)).mono ?_
  rintro e w1 ⟨rfl, hw1⟩
  rw [HT.out, show ((1 : Nat) : Int) = 1 from rfl, HR.out]
  have b1 : Below w.heap.size w w1 := ((Below.refl _ _).alloc (Nat.le_refl _) _).trans (hw1.mono (by simp))
  clear hw1
  go_wp2_with fail
  refine (dNumbers_calls _ _ _ [5] _ (Lst.one _ _ _)).mono ?_
  rintro e w2 ⟨a2, n2, rfl, hn2, l2, hw2⟩
  obtain rfl : 1 = n2 := l2.len
  have b2 := (b1.alloc b1.size (.cells #[.int .i64 5] 3)).trans (hw2.mono (by have := b1.size; simp; omega))
  rw [HB.out]
  clear hw2 b1
  go_wp2_with fail
  refine (dOf_calls 4 ⟨by omega, by omega⟩ _ _ _ _ _ l2 (numL_ok _ _)).mono ?_
  rintro e w3 ⟨rfl, hw3⟩
  have b3 := b2.trans (hw3.mono b2.size)
  rw [HB.out, HX.out]
  clear hw3 b2
  go_wp2_with fail
  refine (dPair_calls _ _ ⟨by omega, by omega⟩ HO.out _).mono ?_
  rintro e w4 ⟨rfl, hw4⟩
  rw [HR.out]
  have b4 := b3.trans (hw4.mono b3.size)
  clear hw4 b3
  go_wp2
  go_ret
  exact ⟨rfl, b4⟩

theorem rest_calls (n : Int) (m : Nat) (h1 : 1 ≤ m) (h2 : m ≤ 200) (w : World) :
    Calls Tryz.prog 20 #[.int .i64 n, .int .i64 m] w fun e w' => (∃ k : Nat, k < m ∧ e = .returned (.int .i64 k)) ∧ w' = w := by
  obtain ⟨r, hr⟩ : ∃ r, n.tmod (m : Int) = r := ⟨_, rfl⟩
  have r1 : r < (m : Int) := by rw [← hr]; exact Int.tmod_lt_of_pos _ (by omega)
  have r2 : -(m : Int) < r := by
    rw [← hr]
    have := Int.tmod_lt_of_pos (-n) (b := (m : Int)) (by omega)
    rw [Int.neg_tmod] at this
    omega
  by_cases h : r < 0
  · go_enter Tryz.func20, Tryz.ntmps20
    go_wp2
    go_ret
    exact ⟨⟨(r + m).toNat, by omega, ret_word (by omega)⟩, rfl⟩
  · go_enter Tryz.func20, Tryz.ntmps20
    go_wp2
    go_ret
    exact ⟨⟨r.toNat, by omega, ret_word (by omega)⟩, rfl⟩

theorem list_calls (a : Option Addr) (la ca : Nat) (xs : List Int) (w : World) (ha : Lst w a la ca xs) :
    Calls Tryz.prog 28 #[.slice a la ca] w fun e w' => ∃ a' n c' ys, e = .returned (.slice a' n c') ∧ 1 ≤ n ∧ n ≤ 60 ∧ Lst w' a' n c' ys ∧ Below w.heap.size w w' := by
  by_cases h0 : la = 0
  · have n0 : ((la : Int) == 0) = true := by rw [beq_iff_eq]; omega
    go_enter Tryz.func28, Tryz.ntmps28
    go_wp2
    go_ret
    exact ⟨_, _, _, [7], rfl, by omega, by omega, Lst.one _ _ _, (Below.refl _ _).alloc (Nat.le_refl _) _⟩
  · have n0 : ((la : Int) == 0) = false := by rw [beq_eq_false_iff_ne]; omega
    have hk := ha.cap
    obtain ⟨b, off, x, rfl, hb, _, _⟩ := ha.at1 (k := 0) (by omega)
    have hA : Hid (∀ k, k ≤ la → Lst w (some ⟨b, off, none⟩) k ca (xs.take k)) := fun k hk => by simpa using ha.sub (by omega) 0 k (Nat.zero_le _) hk
    clear ha
    by_cases h1 : la < 60
    · go_enter Tryz.func28, Tryz.ntmps28
      go_wp2
      go_ret
      exact ⟨_, _, _, _, rfl, by omega, by omega, hA.out la (Nat.le_refl _), Below.refl _ _⟩
    · go_enter Tryz.func28, Tryz.ntmps28
      go_wp2
      go_ret
      exact ⟨_, _, _, _, rfl, by omega, by omega, hA.out 60 (by omega), Below.refl _ _⟩

/-- Merkle's law in the program's terms: by a leaf's own way one comes to the root. -/
theorem climb_root (xs : List Int) (n k : Nat) (h1 : 1 ≤ n) (h2 : n ≤ 200) (hk : k < (n + 3) / 4) :
    upL k n ((leavesP xs n).getD k 0) (wayP (leavesP xs n) k) (deepP k ((n + 3) / 4)) = ofP 3 [(n : Int), treeP (leavesP xs n)] ∧ errC k n (deepP k ((n + 3) / 4)) = 0 := by
  have hc : okC k n := ⟨by omega, by omega, by omega, by omega⟩
  have hd : deepP k ((n + 3) / 4) = dpC k n := by unfold dpC; simp
  have hw := way_up _ (leavesP xs n) k (Nat.le_refl _) (by rw [leavesP_len]; exact hk)
  rw [leavesP_len] at hw
  refine ⟨?_, ?_⟩
  · unfold upL
    rw [if_pos (And.intro hc hd)]
    simp only [Int.toNat_natCast]
    rw [hw]
  · unfold errC
    rw [if_pos hc, if_pos hd]

end Go.Proofs.YtimciamfgpdjlaaGreat.Fx

/- What package spot's Chunk and Opens answer, in plain numbers, for every input; what a law may ask of them is said as contracts that are handed in. -/
namespace Go.Proofs.YtimciamfgpdjlaaGreat.Fx
open Go.RowKit

/-- Chunk i of n numbers. -/
def partL (xs : List Int) (n i : Nat) : List Int := (xs.drop (i * 4)).take (hiN n i - i * 4)
def ckP (xs : List Int) (n : Nat) (i : Int) : List Int := if errP i n = 0 then partL xs n i.toNat else []
def opE (n i : Int) (m p : Nat) : Int := if errC i n p = 0 then (if (m : Int) = min 4 (n - 4 * i) then 0 else 5) else errC i n p
def opB (root n i : Int) (m : Nat) (xs : List Int) (p : Nat) (ps : List Int) : Bool := if opE n i m p = 0 then decide (upL i n (ofP 4 (numL xs m)) ps p = root % 2305843009213693951) else false
theorem partL_len {xs : List Int} {n i : Nat} (h : xs.length = n) (hi : i < (n + 3) / 4) : (partL xs n i).length = hiN n i - i * 4 := by
  unfold partL hiN
  rw [List.length_take, List.length_drop, h]
  omega
theorem honest_chunk {xs : List Int} {n k : Nat} (h1 : 1 ≤ n) (h2 : n ≤ 200) (hk : k < (n + 3) / 4) :
    errP k n = 0 ∧ ckP xs n k = partL xs n k ∧ wayL xs n k = wayP (leavesP xs n) k := by
  have e : errP k n = 0 := by
    unfold errP
    rw [if_neg (by omega), if_pos ⟨by omega, by omega⟩]
  refine ⟨e, by unfold ckP; rw [if_pos e]; rfl, ?_⟩
  unfold wayL
  rw [if_pos ⟨by omega, by omega, by omega⟩]
  rfl
theorem honest_opens {xs : List Int} {n k : Nat} (h : xs.length = n) (h1 : 1 ≤ n) (h2 : n ≤ 200) (hk : k < (n + 3) / 4) {r : Int} (hr : ofP 3 [(n : Int), treeP (leavesP xs n)] = r) :
    opE n k (partL xs n k).length (wayP (leavesP xs n) k).length = 0 ∧ opB r n k (partL xs n k).length (partL xs n k) (wayP (leavesP xs n) k).length (wayP (leavesP xs n) k) = true := by
  have hl := leavesP_len xs n
  have hw := (way_deep (leavesP xs n).length (leavesP xs n) k (Nat.le_refl _) (leavesP_ok xs n)).1
  rw [hl] at hw
  obtain ⟨c1, c2⟩ := climb_root xs n k h1 h2 hk
  have hp := partL_len h hk
  have hE : opE n k (partL xs n k).length (wayP (leavesP xs n) k).length = 0 := by
    unfold opE
    rw [hw, if_pos c2, hp, if_pos (by unfold hiN; omega)]
  refine ⟨hE, ?_⟩
  unfold opB
  rw [if_pos hE, hw]
  have hleaf : ofP 4 (numL (partL xs n k) (partL xs n k).length) = (leavesP xs n).getD k 0 := by
    rw [hp]
    unfold leavesP
    rw [List.getD_eq_getElem?_getD, List.getElem?_map, List.getElem?_range hk]
    rfl
  rw [hleaf, c1, hr]
  have ho := ofP_ok 3 [(n : Int), treeP (leavesP xs n)]
  rw [hr] at ho
  rw [decide_eq_true]
  rw [Int.emod_eq_of_lt ho.1 ho.2]

/-- What spot.Chunk is to answer. -/
def ChunkSays : Prop := ∀ (a1 : Option Addr) (n1 k1 : Nat) (ws : List Int) (a2 : Option Addr) (n2 k2 : Nat) (ms : List Int) (i : Int) (w : World), Lst w a1 n1 k1 ws → Lst w a2 n2 k2 ms → n1 + n2 ≤ 1048576 →
  Calls Tryz.prog 23 #[.agg #[.slice a1 n1 k1, .slice a2 n2 k2], .int .i64 i] w fun e w' => ∃ b1 m1 d1 b2 m2 d2, e = .returned (.tuple #[.slice b1 m1 d1, .slice b2 m2 d2, .int .i64 (errP i (n1 + n2))]) ∧ m1 ≤ 200 ∧ m2 ≤ 200 ∧ Lst w' b1 m1 d1 (ckP (ws ++ ms) (n1 + n2) i) ∧ LstW w' b2 m2 d2 (wayL (ws ++ ms) (n1 + n2) i) ∧ Below w.heap.size w w'

/-- What spot.Opens is to answer. -/
def OpensSays : Prop := ∀ (root n i : Int) (a : Option Addr) (m c : Nat) (xs : List Int) (b : Option Addr) (p d : Nat) (ps : List Int) (w : World), okW root → (-9223372036854775808 ≤ n ∧ n ≤ 9223372036854775807) → (-9223372036854775808 ≤ i ∧ i ≤ 9223372036854775807) → Lst w a m c xs → LstW w b p d ps → okL ps → m ≤ 9223372036854775807 → p ≤ 9223372036854775807 →
  Calls Tryz.prog 24 #[.int .u64 root, .int .i64 n, .int .i64 i, .slice a m c, .slice b p d] w fun e w' => e = .returned (.tuple #[.bool (opB root n i m xs p ps), .int .i64 (opE n i m p)]) ∧ Below w.heap.size w w'

end Go.Proofs.YtimciamfgpdjlaaGreat.Fx

/- What coachkeep.taught returns, with journal.Make's contract. -/
namespace Go.Proofs.YtimciamfgpdjlaaGreat.Fx
open Go.RowKit

theorem make_says : MakeSays := fun c a n cap X DI DO m w hs hx => by
  refine (jMake_calls c a n cap X DI DO m w hs hx).mono ?_
  rintro e w' ⟨b, k, R, he, h⟩
  exact ⟨b, k, R, he, h.recs, h.says, h.len8, h.bel⟩
theorem taught_any (w : World) : Calls Tryz.prog 19 #[] w fun e w' => e = .returned (.bool true) ∧ Below w.heap.size w w' := taught_calls make_says w
end Go.Proofs.YtimciamfgpdjlaaGreat.Fx

/- The walk of SpotHonest: it returns true, whatever is handed in, and nothing that was there is written; package spot's contracts are handed in. -/
namespace Go.Proofs.YtimciamfgpdjlaaGreat.Fx
open Go.RowKit

set_option maxRecDepth 100000 in
set_option maxHeartbeats 3200000 in
theorem spotHonest_core (c : Cfg) (hs : okW c.seed) (a : Option Addr) (n cap : Nat) (X : Nat → Exm) (DI DO : Nat → List Int) (t0 i0 : Int) (w : World) (hx : Exs w a n cap X DI DO) (HPS : ProveSays) (HHS : HoldsSays) (HCS : ChunkSays) (HOS : OpensSays) :
    Calls Tryz.prog 4 #[c.val, .slice a n cap, .int .i64 t0, .int .i64 i0] w fun e w' => e = .returned (.bool true) ∧ Below w.heap.size w w' := by
  have hal := low_alloc w (.cells c.cells 24)
  have KB : Hid (∀ q, Below (w.alloc (.cells c.cells 24)).heap.size (w.alloc (.cells c.cells 24)) q → BoxC q w.heap.size c) := fun q hq => boxC hq (by simp)
  have HRK : Hid (∀ q, Below w.heap.size w q → Calls Tryz.prog 9 #[c.val, .slice a n cap] q fun e w' => e = .returned (.int .i64 (courseI c n X DI DO)) ∧ Below q.heap.size q w') := fun q hq => rcourse_calls c a n cap X DI DO q (hx.below hq (Nat.le_refl _))
  have HST : Hid (courseI c n X DI DO = 0 → (1 ≤ c.steps ∧ c.steps ≤ 40) ∧ (4 ≤ (sizeN c).toNat ∧ (sizeN c).toNat ≤ 40)) := fun hF => by
    obtain ⟨_, _, _, _, p, _⟩ := cfgB_is (course_ok hF).1
    have := sizeN_bd (course_ok hF).1
    exact ⟨p, by omega, by omega⟩
  have HMK : Hid (courseI c n X DI DO = 0 → ∀ (k : Nat) q, (k : Int) ≤ c.steps → Below w.heap.size w q → Calls Tryz.prog 21 #[c.val, .slice a n cap, .int .i64 k] q fun e w' => ∃ g R, e = .returned (.tuple #[.slice (some ⟨g, 0, none⟩) k k, .int .i64 0]) ∧ Recs w' (some ⟨g, 0, none⟩) k k R (jrBatch c n) ∧ (∀ j, j < k → (R j).n ≤ 8) ∧ JrN k R (mkRV c) (mkRO c n DI DO) (mkCH c n DI DO) ∧ Below q.heap.size q w') := fun hF k q hk hq => by
    refine (jMake_good c a n cap X DI DO k q hs (hx.below hq (Nat.le_refl _)) hF hk).mono ?_
    rintro e w' ⟨g, R, he, g1, g2, g3, g4, g5⟩
    obtain ⟨_, _, _, ⟨b1, b2⟩, _⟩ := cfgB_is (course_ok hF).1
    exact ⟨g, R, he, recs_of g2 g3, fun j hj => by have := (g3 j hj).1; omega, g4, g5⟩
  have HPR : Hid (courseI c n X DI DO = 0 → ∀ (K : Nat) (q : World), (K : Int) < c.steps → Below w.heap.size w q → Calls Tryz.prog 12 #[c.val, .slice a n cap, .int .i64 K] q fun e w' => ∃ b1 d1 b2 d2, e = .returned (.tuple #[.agg #[.slice b1 (sizeN c).toNat d1, .slice b2 (sizeN c).toNat d2], .int .i64 0]) ∧ Lst w' b1 (sizeN c).toNat d1 (stW c n DI DO K) ∧ Lst w' b2 (sizeN c).toNat d2 (stM c n DI DO K) ∧ Below q.heap.size q w') := fun h0 K q hK hq => by
    refine (HPS c hs a n cap X DI DO K q (hx.below hq (Nat.le_refl _))).mono ?_
    rintro e w' ⟨b1, m1, d1, b2, m2, d2, he, _, _, l1, l2, hb⟩
    obtain ⟨e0, e1, e2⟩ := prE_in h0 (step := K) (in_yes ⟨by omega, by omega⟩)
    rw [e0] at he
    rw [e1] at l1
    rw [e2] at l2
    have hl := stateP_len c n DI DO (sizeN c).toNat K
    have q1 : m1 = (sizeN c).toNat := by rw [← l1.len]; exact hl.1
    have q2 : m2 = (sizeN c).toNat := by rw [← l2.len]; exact hl.2
    subst q1 q2
    exact ⟨b1, d1, b2, d2, he, l1, l2, hb⟩
  obtain ⟨RT, HRT⟩ : ∃ f : Nat → Int, Hid (∀ K, f K = rootP (stW c n DI DO K) (stM c n DI DO K) ((sizeN c).toNat + (sizeN c).toNat)) := ⟨_, fun _ => rfl⟩
  have HRO : Hid (∀ K, mkRO c n DI DO K = RT (K + 1)) := fun K => by rw [HRT.out]; rfl
  have HLN : Hid (∀ K, (stW c n DI DO K).length = (sizeN c).toNat ∧ (stM c n DI DO K).length = (sizeN c).toNat) := fun K => stateP_len c n DI DO (sizeN c).toNat K
  have HROT : Hid (courseI c n X DI DO = 0 → ∀ (K : Nat) (b1 : Option Addr) (d1 : Nat) (b2 : Option Addr) (d2 : Nat) (q : World), Lst q b1 (sizeN c).toNat d1 (stW c n DI DO K) → Lst q b2 (sizeN c).toNat d2 (stM c n DI DO K) → Calls Tryz.prog 22 #[.agg #[.slice b1 (sizeN c).toNat d1, .slice b2 (sizeN c).toNat d2]] q fun e w' => e = .returned (.tuple #[.int .u64 (RT K), .int .i64 0]) ∧ Below q.heap.size q w') := fun hF K b1 d1 b2 d2 q l1 l2 => by
    have hz := sizeN_bd (course_ok hF).1
    have h := jroot_calls b1 _ d1 _ b2 _ d2 _ q l1 l2 (by omega)
    have hE : rootE (sizeN c).toNat (sizeN c).toNat = 0 := by unfold rootE; rw [if_neg (by omega), if_neg (by omega)]
    have hV : rootV (sizeN c).toNat (stW c n DI DO K) (sizeN c).toNat (stM c n DI DO K) = RT K := by unfold rootV; rw [if_pos hE, HRT.out]
    rw [hE, hV] at h
    exact h
  have HOK : Hid (∀ K, okP (RT K)) := fun K => by rw [HRT.out]; exact ofP_ok _ _
  have HHO : Hid (courseI c n X DI DO = 0 → ∀ (q : World) (N K : Nat) (R : Nat → Rcm) (b1 : Option Addr) (d1 : Nat) (b2 : Option Addr) (d2 : Nat), K < N → (N : Int) ≤ c.steps → Below w.heap.size w q → JrN N R (mkRV c) (mkRO c n DI DO) (mkCH c n DI DO) → Lst q b1 (sizeN c).toNat d1 (stW c n DI DO K) → Lst q b2 (sizeN c).toNat d2 (stM c n DI DO K) → Lst q (R K).a (R K).n (R K).k (jrBatch c n K) → (R K).n ≤ 8 → Calls Tryz.prog 18 #[c.val, .slice a n cap, .int .i64 K, .int .u64 (RT K), .agg #[.slice b1 (sizeN c).toNat d1, .slice b2 (sizeN c).toNat d2], (R K).val] q fun e w' => e = .returned (.tuple #[.bool true, .int .i64 0]) ∧ Below q.heap.size q w') := fun h0 q N K R b1 d1 b2 d2 hK hN hq hJ l1 l2 ly hy => by
    have hz := sizeN_bd (course_ok h0).1
    have hnx := own_next h0 (k := K) (by omega)
    have h := HHS c hs a n cap X DI DO b1 _ d1 _ b2 _ d2 _ K (RT K) (R K) (jrBatch c n K) q (okP_W (HOK.out K)) (hx.below hq (Nat.le_refl _)) l1 l2 ly (by omega) (by omega)
    have hE : rootE (sizeN c).toNat (sizeN c).toNat = 0 := by unfold rootE; rw [if_neg (by omega), if_neg (by omega)]
    have hV : rootV (sizeN c).toNat (stW c n DI DO K) (sizeN c).toNat (stM c n DI DO K) = RT K := by unfold rootV; rw [if_pos hE, HRT.out]
    have hB : hoB c n X DI DO (sizeN c).toNat (stW c n DI DO K) (sizeN c).toNat (stM c n DI DO K) K (RT K) (R K) (jrBatch c n K) = true := by
      unfold hoB
      rw [if_pos hnx, own_like h0 hJ hK (by omega), likeB_refl, hV, Int.emod_eq_of_lt (HOK.out K).1 (HOK.out K).2, decide_eq_true rfl]
      rfl
    rw [hnx, hB] at h
    exact h
  have HCH : Hid (courseI c n X DI DO = 0 → ∀ (K k : Nat) (b1 : Option Addr) (d1 : Nat) (b2 : Option Addr) (d2 : Nat) (q : World), k < ((sizeN c).toNat + (sizeN c).toNat + 3) / 4 → Lst q b1 (sizeN c).toNat d1 (stW c n DI DO K) → Lst q b2 (sizeN c).toNat d2 (stM c n DI DO K) → Calls Tryz.prog 23 #[.agg #[.slice b1 (sizeN c).toNat d1, .slice b2 (sizeN c).toNat d2], .int .i64 k] q fun e w' => ∃ g1 m1 e1 g2 m2 e2, e = .returned (.tuple #[.slice g1 m1 e1, .slice g2 m2 e2, .int .i64 0]) ∧ (∀ q2, Below w'.heap.size w' q2 → Calls Tryz.prog 24 #[.int .u64 (RT K), .int .i64 ((sizeN c).toNat + (sizeN c).toNat : Nat), .int .i64 k, .slice g1 m1 e1, .slice g2 m2 e2] q2 fun e w'' => e = .returned (.tuple #[.bool true, .int .i64 0]) ∧ Below q2.heap.size q2 w'') ∧ Below q.heap.size q w') := fun h0 K k b1 d1 b2 d2 q hk l1 l2 => by
    have hz := sizeN_bd (course_ok h0).1
    obtain ⟨s1, s2⟩ := HLN.out K
    have hlen : (stW c n DI DO K ++ stM c n DI DO K).length = (sizeN c).toNat + (sizeN c).toNat := by rw [List.length_append, s1, s2]
    obtain ⟨h1, h2, h3⟩ := honest_chunk (xs := stW c n DI DO K ++ stM c n DI DO K) (n := (sizeN c).toNat + (sizeN c).toNat) (k := k) (by omega) (by omega) hk
    obtain ⟨h4, h5⟩ := honest_opens (xs := stW c n DI DO K ++ stM c n DI DO K) (n := (sizeN c).toNat + (sizeN c).toNat) (k := k) hlen (by omega) (by omega) hk (r := RT K) (by rw [HRT.out]; rfl)
    have h := HCS b1 _ d1 _ b2 _ d2 _ k q l1 l2 (by omega)
    rw [h1, h2, h3] at h
    refine h.mono ?_
    rintro e w' ⟨g1, m1, e1, g2, m2, e2, he, hm1, hm2, lp, lw, hb⟩
    have q1 := lp.len
    have q2 := lw.len
    refine ⟨g1, m1, e1, g2, m2, e2, he, fun q3 hq3 => ?_, hb⟩
    have ho := HOS (RT K) ((sizeN c).toNat + (sizeN c).toNat : Nat) k g1 m1 e1 _ g2 m2 e2 _ q3 (okP_W (HOK.out K)) ⟨by omega, by omega⟩ ⟨by omega, by omega⟩ (lp.below hq3 (Nat.le_refl _)) (lw.below hq3 (Nat.le_refl _)) (way_deep _ _ k (Nat.le_refl _) (leavesP_ok _ _)).2 (by omega) (by omega)
    rw [q1, q2] at h4 h5
    rw [h4, h5] at ho
    exact ho
  clear hx hs HPS HHS HCS HOS HRT HOK
  generalize (sizeN c).toNat = NN at *
  generalize stW c n DI DO = SW at *
  generalize stM c n DI DO = SM at *
  generalize courseI c n X DI DO = F at *
  generalize jrBatch c n = DB at *
  generalize mkRV c = RV at *
  generalize mkRO c n DI DO = RO at *
  generalize mkCH c n DI DO = CH at *
  obtain ⟨W0, HW0⟩ : ∃ q, Hid (q = w.alloc (.cells c.cells 24)) := ⟨_, rfl⟩
  rw [← HW0.out] at hal KB
  obtain ⟨i, h, o, seed, batch, steps, crate, decay, how, keep, clip⟩ := c
  simp only [Cfg.val, Cfg.cells] at *
  go_enter Tryz.func4, Tryz.ntmps4
  go_wp2_with fail
  rw [← HW0.out]
  clear HW0
  refine (taught_any _).mono ?_
  rintro e w1 ⟨rfl, T1⟩
  obtain ⟨c0, c1, c2, c3, c4, c5, c6, c7, c8, c9, c10⟩ := KB.out _ T1
  dsimp only at c0 c1 c2 c3 c4 c5 c6 c7 c8 c9 c10
  go_wp2_with fail
  refine (HRK.out _ (hal.trans (T1.mono hal.size))).mono ?_
  rintro e w2 ⟨rfl, hw2⟩
  have T2 := T1.trans (hw2.mono T1.size)
  clear hw2 HRK c0 c1 c2 c3 c4 c5 c6 c7 c8 c9 c10 T1
  obtain ⟨c0, c1, c2, c3, c4, c5, c6, c7, c8, c9, c10⟩ := KB.out _ T2
  dsimp only at c0 c1 c2 c3 c4 c5 c6 c7 c8 c9 c10
  by_cases hF : F = 0
  rotate_left
  · have hFn : (F != 0) = true := by rw [bne_iff_ne]; exact hF
    clear HMK HPR HROT HHO HCH HST hF HRO HLN
    go_wp2_with fail
    go_ret
    exact ⟨rfl, hal.trans (T2.mono hal.size)⟩
  subst hF
  obtain ⟨⟨s1, s2⟩, hN4, hN40⟩ := HST.out (by trivial)
  clear HST
  go_upto_region 5 with fail
  go_cut [2] (fun v q => ∃ T : Nat, T ≤ 4 ∧ (T : Int) < steps ∧ v = .int .i64 T ∧ q = w2)
  case first =>
    clear HMK HPR HROT HHO HCH HRO HLN KB
    by_cases h6 : steps ≤ 5
    · obtain ⟨S, hS⟩ : ∃ S : Nat, steps = (S : Int) := ⟨steps.toNat, by omega⟩
      subst hS
      have RS := rest_any t0 S (by omega) (by omega) w2
      go_wp2_with ((go_at_call 20; refine RS.mono ?_; rintro e w' ⟨⟨N1, hN1, rfl⟩, hw'⟩; replace hw' := hw'.symm; subst hw'))
      go_meet
      case rel => exact ⟨N1, by omega, by omega, rfl, rfl⟩
    · have h7 : 5 < steps := by omega
      have RS : Calls Tryz.prog 20 #[.int .i64 t0, .int .i64 5] w2 fun e w' => (∃ k : Nat, k < 5 ∧ e = .returned (.int .i64 k)) ∧ w' = w2 := rest_any t0 5 (by omega) (by omega) w2
      go_wp2_with ((go_at_call 20; refine RS.mono ?_; rintro e w' ⟨⟨N1, hN1, rfl⟩, hw'⟩; replace hw' := hw'.symm; subst hw'))
      go_meet
      case rel => exact ⟨N1, by omega, by omega, rfl, rfl⟩
  case rest =>
  obtain ⟨T, hT4, hTs, rfl, hwq⟩ := hcut
  replace hwq := hwq.symm
  subst hwq
  have PR := HPR.out (by trivial) T _ hTs (hal.trans (T2.mono hal.size))
  go_wp2_with fail
  refine PR.mono ?_
  rintro e u1 ⟨b1, d1, b2, d2, rfl, ls1, ls2, hu1⟩
  have hal1 := low_alloc u1 (.cells #[.slice b1 NN d1, .slice b2 NN d2] 28)
  have srow := fn2_alloc u1 (.slice b1 NN d1) (.slice b2 NN d2) 28
  obtain ⟨U, HU⟩ : ∃ q, Hid (q = u1.alloc (.cells #[.slice b1 NN d1, .slice b2 NN d2] 28)) := ⟨_, rfl⟩
  have hU1 := hu1.trans (hal1.mono hu1.size)
  have lt1 := ls1.below hal1 (Nat.le_refl _)
  have lt2 := ls2.below hal1 (Nat.le_refl _)
  rw [← HU.out] at hU1 srow lt1 lt2
  have T3 := T2.trans (hU1.mono T2.size)
  have hsl := srow.lt
  obtain ⟨z0, z1⟩ := fn2_cells srow
  have HSC : Hid (∀ q, Below U.heap.size U q → q.cell? ⟨u1.heap.size, 0, none⟩ = some (.slice b1 NN d1) ∧ q.cell? ⟨u1.heap.size, 1, none⟩ = some (.slice b2 NN d2)) := fun q hq => ⟨(hq.cell (p := ⟨u1.heap.size, 0, none⟩) hsl).trans z0, (hq.cell (p := ⟨u1.heap.size, 1, none⟩) hsl).trans z1⟩
  clear PR hal1 hu1 ls1 ls2 hU1 HPR srow c0 c1 c2 c3 c4 c5 c6 c7 c8 c9 c10 z0 z1
  obtain ⟨TN, HTN⟩ : ∃ t : Nat, Hid (T + 1 = t) := ⟨_, rfl⟩
  have eT : (T : Int) + 1 = (TN : Int) := by have := HTN.out; omega
  have MK := HMK.out (by trivial) TN _ (by have := HTN.out; omega) (hal.trans (T3.mono hal.size))
  obtain ⟨c0, c1, c2, c3, c4, c5, c6, c7, c8, c9, c10⟩ := KB.out _ T3
  dsimp only at c0 c1 c2 c3 c4 c5 c6 c7 c8 c9 c10
  go_upto_region 7 with fail
  rw [← HU.out]
  clear HU
  go_wp2_with fail
  refine MK.mono ?_
  rintro e v1 ⟨g, R, rfl, hR, h8, hJ, hv1⟩
  have HJN : Hid (JrN TN R RV RO CH) := hJ
  have H8 : Hid (∀ j, j < TN → (R j).n ≤ 8) := h8
  have RO1 := HROT.out (by trivial) T b1 d1 b2 d2 v1 (lt1.below hv1 (Nat.le_refl _)) (lt2.below hv1 (Nat.le_refl _))
  obtain ⟨z0, z1⟩ := HSC.out _ hv1
  clear MK HMK HROT hJ h8 c0 c1 c2 c3 c4 c5 c6 c7 c8 c9 c10
  go_wp2_with fail
  refine RO1.mono ?_
  rintro e v2 ⟨rfl, hv2⟩
  have V2 := hv1.trans (hv2.mono hv1.size)
  have T4 := T3.trans (V2.mono T3.size)
  have HRR : Hid (∀ q, Below v2.heap.size v2 q → Recs q (some ⟨g, 0, none⟩) TN TN R DB) := fun q hq => (hR.below hv2 (Nat.le_refl _)).below hq (Nat.le_refl _)
  clear RO1 hR z0 z1
  have hTT : T < TN := by have := HTN.out; omega
  have hT4' := hal.trans (T4.mono hal.size)
  have HO0 : ∀ q, Below v2.heap.size v2 q → Calls Tryz.prog 18 #[.agg #[.int .i64 i, .int .i64 h, .int .i64 o, .int .u64 seed, .int .i64 batch, .int .i64 steps, .int .i64 crate, .int .i64 decay, .int .i64 how, .int .i64 keep, .int .i64 clip], .slice a n cap, .int .i64 T, .int .u64 (RT T), .agg #[.slice b1 NN d1, .slice b2 NN d2], (R T).val] q fun e w' => e = .returned (.tuple #[.bool true, .int .i64 0]) ∧ Below q.heap.size q w' := fun q hq => by
    obtain ⟨yb, yo, eyb, hcy⟩ := (HRR.out q hq).at (by omega)
    exact HHO.out (by trivial) q TN T R b1 d1 b2 d2 hTT (by have := HTN.out; omega) (hT4'.trans (hq.mono hT4'.size)) HJN.out (lt1.below (V2.trans (hq.mono V2.size)) (Nat.le_refl _)) (lt2.below (V2.trans (hq.mono V2.size)) (Nat.le_refl _)) (hcy T hTT).2.2.2.2.2 (H8.out T hTT)
  obtain ⟨yb, yo, eyb, hcy⟩ := (HRR.out _ (Below.refl _ _)).at (by omega)
  simp only [Option.some.injEq, Addr.mk.injEq, and_true] at eyb
  obtain ⟨rfl, rfl⟩ := eyb
  obtain ⟨f0, f1, f2, f3, f4, _⟩ := hcy T hTT
  rw [Nat.zero_add] at f0 f1 f2 f3 f4
  have HPV : Hid (∀ P : Nat, P + 1 = T → v2.cell? ⟨g, P * 5 + 3, none⟩ = some (.int .u64 (RT T))) := fun P hP => by
    have hc := (hcy P (by omega)).2.2.2.1
    rw [Nat.zero_add] at hc
    rw [hc, (HJN.out P (by omega)).2.2.1, HRO.out P, hP]
  clear HHO HRR H8 HJN HRO hcy
  generalize R T = y at *
  obtain ⟨ys0, ya, yn, yk, yr, yroot, ychain⟩ := y
  simp only [Rcm.val, Rcm.cells] at *
  have KS : Hid (∀ q, Below v2.heap.size v2 q → q.cell? ⟨w.heap.size, 0, none⟩ = some (.int .i64 i) ∧ q.cell? ⟨w.heap.size, 1, none⟩ = some (.int .i64 h) ∧ q.cell? ⟨w.heap.size, 2, none⟩ = some (.int .i64 o) ∧ q.cell? ⟨w.heap.size, 3, none⟩ = some (.int .u64 seed) ∧ q.cell? ⟨w.heap.size, 4, none⟩ = some (.int .i64 batch) ∧ q.cell? ⟨w.heap.size, 5, none⟩ = some (.int .i64 steps) ∧ q.cell? ⟨w.heap.size, 6, none⟩ = some (.int .i64 crate) ∧ q.cell? ⟨w.heap.size, 7, none⟩ = some (.int .i64 decay) ∧ q.cell? ⟨w.heap.size, 8, none⟩ = some (.int .i64 how) ∧ q.cell? ⟨w.heap.size, 9, none⟩ = some (.int .i64 keep) ∧ q.cell? ⟨w.heap.size, 10, none⟩ = some (.int .i64 clip) ∧ q.cell? ⟨u1.heap.size, 0, none⟩ = some (.slice b1 NN d1) ∧ q.cell? ⟨u1.heap.size, 1, none⟩ = some (.slice b2 NN d2) ∧ q.cell? ⟨g, T * 5, none⟩ = some (.int .i64 ys0) ∧ q.cell? ⟨g, T * 5 + 1, none⟩ = some (.slice ya yn yk) ∧ q.cell? ⟨g, T * 5 + 2, none⟩ = some (.int .i64 yr) ∧ q.cell? ⟨g, T * 5 + 3, none⟩ = some (.int .u64 yroot) ∧ q.cell? ⟨g, T * 5 + 4, none⟩ = some (.int .u64 ychain)) := fun q hq => by
    obtain ⟨c0, c1, c2, c3, c4, c5, c6, c7, c8, c9, c10⟩ := KB.out _ (T4.trans (hq.mono T4.size))
    obtain ⟨z0, z1⟩ := HSC.out _ (V2.trans (hq.mono V2.size))
    exact ⟨c0, c1, c2, c3, c4, c5, c6, c7, c8, c9, c10, z0, z1, (hq.cell (p := ⟨g, T * 5, none⟩) (cell_lt f0)).trans f0, (hq.cell (p := ⟨g, T * 5 + 1, none⟩) (cell_lt f1)).trans f1, (hq.cell (p := ⟨g, T * 5 + 2, none⟩) (cell_lt f2)).trans f2, (hq.cell (p := ⟨g, T * 5 + 3, none⟩) (cell_lt f3)).trans f3, (hq.cell (p := ⟨g, T * 5 + 4, none⟩) (cell_lt f4)).trans f4⟩
  have S0 := KS.out _ (Below.drew (Below.refl _ _))
  have HD := HO0 _ (Below.drew (Below.refl _ _))
  have t0' : (0 : Int) ≤ (T : Int) := by omega
  have t1' : (T : Int) < (TN : Int) := by omega
  clear HO0 f0 f1 f2 f3 f4
  have rr : (RT T != RT T) = false := by simp
  go_upto_region 9 with fail
  go_cut [75] (fun v q => v = .bool false ∧ q = v2)
  case first =>
    clear KS S0 HD HCH KB HSC
    by_cases hT0 : T = 0
    · have d1 : decide ((0 : Int) < (T : Int)) = false := decide_eq_false (by omega)
      have d2 : decide (0 < T) = false := decide_eq_false (by omega)
      clear hT0
      go_wp2_with fail
      go_meet
      case rel => exact ⟨rfl, rfl⟩
    · obtain ⟨P, HP⟩ : ∃ P : Nat, Hid (P + 1 = T) := ⟨T - 1, by show T - 1 + 1 = T; omega⟩
      have eP : (T : Int) - 1 = (P : Int) := by have := HP.out; omega
      have p0 : (0 : Int) ≤ (P : Int) := by omega
      have p1 : (P : Int) < (TN : Int) := by have := HP.out; omega
      have d1 : decide ((0 : Int) < (T : Int)) = true := decide_eq_true (by omega)
      have d2 : decide (0 < T) = true := decide_eq_true (by omega)
      have hc := HPV.out P HP.out
      clear hT0
      go_wp2_with fail
      go_meet
      case rel => exact ⟨rfl, rfl⟩
  case rest =>
  obtain ⟨rfl, hwq⟩ := hcut
  replace hwq := hwq.symm
  subst hwq
  clear HPV
  go_wp2_with fail
  go_region_held3 (fun q => q.cell? ⟨w.heap.size, 0, none⟩ = some (.int .i64 i) ∧ q.cell? ⟨w.heap.size, 1, none⟩ = some (.int .i64 h) ∧ q.cell? ⟨w.heap.size, 2, none⟩ = some (.int .i64 o) ∧ q.cell? ⟨w.heap.size, 3, none⟩ = some (.int .u64 seed) ∧ q.cell? ⟨w.heap.size, 4, none⟩ = some (.int .i64 batch) ∧ q.cell? ⟨w.heap.size, 5, none⟩ = some (.int .i64 steps) ∧ q.cell? ⟨w.heap.size, 6, none⟩ = some (.int .i64 crate) ∧ q.cell? ⟨w.heap.size, 7, none⟩ = some (.int .i64 decay) ∧ q.cell? ⟨w.heap.size, 8, none⟩ = some (.int .i64 how) ∧ q.cell? ⟨w.heap.size, 9, none⟩ = some (.int .i64 keep) ∧ q.cell? ⟨w.heap.size, 10, none⟩ = some (.int .i64 clip) ∧ q.cell? ⟨u1.heap.size, 0, none⟩ = some (.slice b1 NN d1) ∧ q.cell? ⟨u1.heap.size, 1, none⟩ = some (.slice b2 NN d2) ∧ q.cell? ⟨g, T * 5, none⟩ = some (.int .i64 ys0) ∧ q.cell? ⟨g, T * 5 + 1, none⟩ = some (.slice ya yn yk) ∧ q.cell? ⟨g, T * 5 + 2, none⟩ = some (.int .i64 yr) ∧ q.cell? ⟨g, T * 5 + 3, none⟩ = some (.int .u64 yroot) ∧ q.cell? ⟨g, T * 5 + 4, none⟩ = some (.int .u64 ychain)) (first | with_reducible exact S1' | with_reducible exact S0) ((go_at_call 18; refine HD.mono ?_; rintro e v3 ⟨rfl, hv3⟩; have V3 := undrew hv3; have S1' := KS.out _ V3))
  have V4 := V2.trans (V3.mono V2.size)
  obtain ⟨z0, z1⟩ := HSC.out _ V4
  obtain ⟨CN, HCN⟩ : ∃ t : Nat, Hid ((NN + NN + 3) / 4 = t) := ⟨_, rfl⟩
  have RS := rest_any i0 CN (by have := HCN.out; omega) (by have := HCN.out; omega) v3
  have eN : (NN : Int) + (NN : Int) = ((NN + NN : Nat) : Int) := by omega
  obtain ⟨N2, HN2⟩ : ∃ t : Nat, Hid (NN + NN = t) := ⟨_, rfl⟩
  rw [HN2.out] at eN
  have eN3 : (N2 : Int) + 3 = ((N2 + 3 : Nat) : Int) := by omega
  obtain ⟨N3, HN3⟩ : ∃ t : Nat, Hid (N2 + 3 = t) := ⟨_, rfl⟩
  rw [HN3.out] at eN3
  have eQ : (N3 : Int).tdiv 4 = (CN : Int) := by
    rw [← HCN.out, HN2.out, HN3.out]
    rfl
  have cn1 : CN ≤ 100 := by have := HCN.out; omega
  have cn2 : (CN : Int) ≤ 100 := by omega
  have cn3 : (0 : Int) ≤ (CN : Int) := by omega
  clear S0 HD S1' KS
  go_wp2_with fail
  refine RS.mono ?_
  rintro e v4 ⟨⟨k, hk, rfl⟩, hv4⟩
  replace hv4 := hv4.symm
  subst hv4
  have CC := HCH.out (by trivial) T k b1 d1 b2 d2 v3 (by rw [HCN.out]; exact hk) (lt1.below V4 (Nat.le_refl _)) (lt2.below V4 (Nat.le_refl _))
  rw [HN2.out] at CC
  clear RS
  go_wp2_with fail
  refine CC.mono ?_
  rintro e v5 ⟨g1, m1, e1, g2, m2, e2, rfl, OP, hv5⟩
  have OP1 := OP _ (Below.refl _ _)
  clear OP CC HCH
  have T5 := T3.trans ((V4.trans (hv5.mono V4.size)).mono T3.size)
  have hT5 := hal.trans (T5.mono hal.size)
  go_wp2_with fail
  refine OP1.mono ?_
  rintro e v6 ⟨rfl, hv6⟩
  go_wp2_with fail
  go_ret
  exact ⟨rfl, hT5.trans (hv6.mono hT5.size)⟩
end Go.Proofs.YtimciamfgpdjlaaGreat.Fx

/- What slices.Clone returns of whatever list of integers, nil and the empty one too. -/
namespace Go.Proofs.YtimciamfgpdjlaaGreat.Fx
open Go.RowKit

set_option maxRecDepth 100000 in
theorem cloneI_any (a : Option Addr) (n c : Nat) (xs : List Int) (w : World) (h : Lst w a n c xs) (hn : n ≤ 1048576) :
    Calls Tryz.prog 27 #[.slice a n c] w fun e w' => ∃ v, e = .returned v ∧ OwnI w.heap.size w' v xs ∧ Below w.heap.size w w' := by
  have q22 : ∀ (w : World) (a : Option Addr) (n c n' c' : Nat), (binOp .eql 26 (.slice a n c) (.slice none n' c')).run Tryz.prog w = .ok (.bool a.isNone) w := fun w a n c n' c' => Lib.run_eql_slice_nil w _ _ a n c n' c' Tryz.underlying26
  have hlen := h.len
  cases a with
  | none =>
    have h0 : xs = [] := by
      rcases h.2.2 with h0 | ⟨b, off, e, _⟩
      · exact List.length_eq_zero_iff.1 (by omega)
      · cases e
    subst h0
    clear h
    go_enter Tryz.func27, Tryz.ntmps27
    go_wp2_with fail
    go_ret
    exact ⟨_, rfl, OwnI.nil _ _, Below.refl _ _⟩
  | some ad =>
    have hb := (Below.refl w.heap.size w).alloc (Nat.le_refl _) (.cells #[] 3)
    have hl := h.below hb (Nat.le_refl _)
    clear h
    go_enter Tryz.func27, Tryz.ntmps27
    go_wp2_with (at_builtin; refine wpList_append_any (by rfl) _ _ (by rfl) w.heap.size _ [] xs (some ad) n c w (by rfl) (by rfl) (by exact OwnI.empty w) (by exact hl) (by simp; omega) (by simp) (by exact hb) ?_; intro v1 w1 hown1 hbel1)
    have hown2 : OwnI w.heap.size w1 v1 xs := by simpa using hown1
    clear hown1
    go_ret
    exact ⟨_, rfl, hown2, hbel1⟩
end Go.Proofs.YtimciamfgpdjlaaGreat.Fx

/- What spot.Chunk returns, whatever is handed in: what it tells lies in blocks of its own. -/
namespace Go.Proofs.YtimciamfgpdjlaaGreat.Fx
open Go.RowKit

theorem OwnI.mono {base base' : Nat} {w : World} {v : Value} {xs : List Int} (h : OwnI base w v xs) (hb : base' ≤ base) : OwnI base' w v xs :=
  ⟨h.1, h.2.imp id fun ⟨g, cap, cur, h1, h2, h3⟩ => ⟨g, cap, cur, h1, Nat.le_trans hb h2, h3⟩⟩

set_option maxRecDepth 100000 in
set_option maxHeartbeats 800000 in
theorem chunk_own (a1 : Option Addr) (n1 k1 : Nat) (ws : List Int) (a2 : Option Addr) (n2 k2 : Nat) (ms : List Int) (i : Int) (w : World) (l1 : Lst w a1 n1 k1 ws) (l2 : Lst w a2 n2 k2 ms) (hz : n1 + n2 ≤ 4611686018427387904) :
    Calls Tryz.prog 23 #[.agg #[.slice a1 n1 k1, .slice a2 n2 k2], .int .i64 i] w fun e w' => ∃ v b2 m2 d2, e = .returned (.tuple #[v, .slice b2 m2 d2, .int .i64 (errP i (n1 + n2))]) ∧ m2 ≤ 50 ∧ OwnI w.heap.size w' v (ckP (ws ++ ms) (n1 + n2) i) ∧ LstW w' b2 m2 d2 (wayL (ws ++ ms) (n1 + n2) i) ∧ Below w.heap.size w w' := by
  have hal := low_alloc w (.cells #[.slice a1 n1 k1, .slice a2 n2 k2] 28)
  obtain ⟨c0, c1⟩ := two_cells w (.slice a1 n1 k1) (.slice a2 n2 k2) 28
  have l1' := l1.below hal (Nat.le_refl _)
  have l2' := l2.below hal (Nat.le_refl _)
  have hlen : (ws ++ ms).length = n1 + n2 := by rw [List.length_append, l1.len, l2.len]
  by_cases h : 200 < n1 + n2
  · have hE : errP i (n1 + n2) = 2 := by unfold errP errL; rw [if_pos (.inr h), if_neg (by omega), if_pos h]
    have hC : ckP (ws ++ ms) (n1 + n2) i = [] := by unfold ckP; rw [hE, if_neg (by decide)]
    have hW : wayL (ws ++ ms) (n1 + n2) i = [] := by unfold wayL; rw [if_neg (fun g => g.1 (.inr h))]
    rw [hE, hC, hW]
    have h1 : (n1 : Int) + (n2 : Int) > 200 := by omega
    clear l1 l2 l1' l2' hE hC hW hlen
    go_enter Tryz.func23, Tryz.ntmps23
    go_wp2_with fail
    go_ret3
    exact ⟨_, none, 0, 0, rfl, by omega, OwnI.nil _ _, LstW.nil _ _ _, hal⟩
  · have h1 : ¬ (n1 : Int) + (n2 : Int) > 200 := by omega
    have hsz := hal.size
    obtain ⟨W, HW⟩ : ∃ q, Hid (q = w.alloc (.cells #[.slice a1 n1 k1, .slice a2 n2 k2] 28)) := ⟨_, rfl⟩
    rw [← HW.out] at hal c0 c1 l1' l2' hsz
    have CC : Hid (Calls Tryz.prog 69 #[.slice (some ⟨W.heap.size, 0, none⟩) 2 2] (W.alloc (.cells #[.slice a1 n1 k1, .slice a2 n2 k2] 26)) fun e w' => ∃ a c, e = .returned (.slice a (n1 + n2) c) ∧ Lst w' a (n1 + n2) c (ws ++ ms) ∧ Below W.heap.size W w') := concat2 a1 a2 n1 n2 k1 k2 ws ms _ _ rfl l1' l2' (by omega)
    clear l1 l2 l1' l2'
    generalize ws ++ ms = L at *
    by_cases hE : errP i (n1 + n2) = 0
    rotate_left
    · have hne : (errP i (n1 + n2) != 0) = true := by rw [bne_iff_ne]; exact hE
      have hC : ckP L (n1 + n2) i = [] := by unfold ckP; rw [if_neg hE]
      have hW : wayL L (n1 + n2) i = [] := by
        unfold wayL
        rw [if_neg]
        intro g
        apply hE
        unfold errP
        rw [if_neg g.1, if_pos g.2]
      have HPA : Hid (∀ a c q, Lst q a (n1 + n2) c L → Calls Tryz.prog 70 #[.slice a (n1 + n2 : Nat) c, .int .i64 i] q fun e w' => ∃ a' N c', e = .returned (.tuple #[.slice a' N c', .int .i64 (errP i (n1 + n2))]) ∧ Below q.heap.size q w') := fun a c q hl => by
        refine (Path_calls a (n1 + n2) c L i q hl).mono ?_
        rintro e w' ⟨a', N, c', he, _, _, hb⟩
        exact ⟨a', N, c', he, hb⟩
      rw [hC, hW]
      clear hC hW hE
      generalize errP i (n1 + n2) = E at *
      go_enter Tryz.func23, Tryz.ntmps23
      go_upto_region 1 with fail
      rw [← HW.out]
      clear HW
      go_wp2_with fail
      refine CC.out.mono ?_
      rintro e w1 ⟨a, c, rfl, hl, hw1⟩
      have PA := HPA.out a c w1 hl
      have hbw1 := hal.trans (hw1.mono hal.size)
      clear c0 c1 CC HPA
      go_wp2_with fail
      refine PA.mono ?_
      rintro e w2 ⟨a', m, c', rfl, hw2⟩
      go_wp2_with fail
      go_ret3
      exact ⟨_, none, 0, 0, rfl, by omega, OwnI.nil _ _, LstW.nil _ _ _, hbw1.trans (hw2.mono hbw1.size)⟩
    · obtain ⟨g1, g2, g3, g4⟩ : 1 ≤ n1 + n2 ∧ n1 + n2 ≤ 200 ∧ 0 ≤ i ∧ i < ((n1 + n2 + 3) / 4 : Nat) := by
        unfold errP at hE
        by_cases x1 : n1 + n2 = 0 ∨ 200 < n1 + n2
        · rw [if_pos x1] at hE
          unfold errL at hE
          rcases x1 with x1 | x1
          · rw [if_pos x1] at hE; cases hE
          · rw [if_neg (by omega), if_pos x1] at hE; cases hE
        · rw [if_neg x1] at hE
          by_cases x2 : 0 ≤ i ∧ i < ((n1 + n2 + 3) / 4 : Nat)
          · exact ⟨by omega, by omega, x2.1, x2.2⟩
          · rw [if_neg x2] at hE; cases hE
      have hC : ckP L (n1 + n2) i = partL L (n1 + n2) i.toNat := by unfold ckP; rw [if_pos hE]
      have HPA : Hid (∀ a c q, Lst q a (n1 + n2) c L → Calls Tryz.prog 70 #[.slice a (n1 + n2 : Nat) c, .int .i64 i] q fun e w' => ∃ a' N c', e = .returned (.tuple #[.slice a' N c', .int .i64 0]) ∧ N ≤ 50 ∧ LstW w' a' N c' (wayL L (n1 + n2) i) ∧ Below q.heap.size q w') := fun a c q hl => by
        have h := Path_calls a (n1 + n2) c L i q hl
        rw [hE] at h
        exact h
      rw [hE, hC]
      clear hC hE
      obtain ⟨k, hk⟩ := Int.eq_ofNat_of_zero_le g3
      subst hk
      have hT : (k : Int).toNat = k := rfl
      rw [hT]
      clear hT
      obtain ⟨hi, hhi⟩ : ∃ hi, hiN (n1 + n2) k = hi := ⟨_, rfl⟩
      have hh : k * 4 < hi ∧ hi ≤ n1 + n2 ∧ hi ≤ k * 4 + 4 := by unfold hiN at hhi; omega
      have HSB : Hid (∀ b off c q, Lst q (some ⟨b, off, none⟩) (n1 + n2) c L → Lst q (some ⟨b, off + k * 4, none⟩) (hi - k * 4) (c - k * 4) (partL L (n1 + n2) k)) := fun b off c q hl => by
        have h := hl.sub (by omega) (k * 4) hi (Nat.le_of_lt hh.1) hh.2.1
        unfold partL
        rw [hhi]
        exact h
      have SZ := fun q => size_calls ((n1 + n2 : Nat) : Int) k ⟨by omega, by omega⟩ ⟨by omega, by omega⟩ q
      have hmin : min 4 (((n1 + n2 : Nat) : Int) - 4 * (k : Int)) = ((hi - k * 4 : Nat) : Int) := by unfold hiN at hhi; omega
      rw [hmin] at SZ
      have HSZ : Hid (∀ q, Calls Tryz.prog 71 #[.int .i64 (n1 + n2 : Nat), .int .i64 k] q fun e w' => e = .returned (.int .i64 ((hi - k * 4 : Nat) : Int)) ∧ w' = q) := SZ
      generalize partL L (n1 + n2) k = PL at *
      generalize wayL L (n1 + n2) (k : Int) = WL at *
      obtain ⟨d, hd⟩ : ∃ d, hi - k * 4 = d := ⟨_, rfl⟩
      rw [hd] at HSB HSZ
      have hkd : k * 4 + d = hi := by omega
      have hk50 : (k : Int) ≤ 50 := by omega
      have hd4 : d ≤ 4 := by omega
      have x1 : (k : Int) * 4 ≤ (k : Int) * 4 + (d : Int) := by omega
      obtain ⟨N, HN⟩ : ∃ q, Hid (n1 + n2 = q) := ⟨_, rfl⟩
      rw [HN.out] at CC HPA HSB HSZ hh
      have hkN : k * 4 + d ≤ N := by omega
      have hN1 : 1 ≤ N := by have := HN.out; omega
      clear SZ hmin hhi HN hd
      go_enter Tryz.func23, Tryz.ntmps23
      go_upto_region 1 with fail
      rw [← HW.out]
      clear HW
      go_wp2_with fail
      refine CC.out.mono ?_
      rintro e w1 ⟨a, c, rfl, hl, hw1⟩
      have PA := HPA.out a c w1 hl
      have hbw1 := hal.trans (hw1.mono hal.size)
      clear c0 c1 CC HPA
      go_wp2_with fail
      refine PA.mono ?_
      rintro e w2 ⟨a', m, c', rfl, hm, lp, hw2⟩
      obtain ⟨b, off, rfl, _⟩ := hl.at (by omega)
      have hNc := hl.cap
      have SZ1 := HSZ.out w2
      have hsub := (HSB.out b off c w1 hl).below hw2 (Nat.le_refl _)
      have CL := cloneI_any _ _ _ _ w2 hsub (by omega)
      have y1 : (k : Int) * 4 + (d : Int) ≤ (c : Int) := by omega
      have y2 : (0 : Int) ≤ (k : Int) * 4 := by omega
      have hdd : k * 4 + d - k * 4 = d := by omega
      have hck : ¬ c = k * 4 := by omega
      have hck2 : ¬ c - k * 4 = 0 := by omega
      clear HSB HSZ hsub PA hkd hh
      go_wp2_with fail
      refine SZ1.mono ?_
      rintro e w3 ⟨rfl, hw3⟩
      replace hw3 := hw3.symm
      subst hw3
      go_wp2_with fail
      refine CL.mono ?_
      rintro e w4 ⟨v, rfl, hv, hw4⟩
      have hbw2 := hbw1.trans (hw2.mono hbw1.size)
      have hv2 : OwnI w.heap.size w4 v PL := hv.mono hbw2.size
      go_wp2_with fail
      go_ret3
      exact ⟨v, a', m, c', rfl, hm, hv2, lp.below hw4 (Nat.le_refl _), hbw2.trans (hw4.mono hbw2.size)⟩

theorem chunk_says : ChunkSays := by
  intro a1 n1 k1 ws a2 n2 k2 ms i w l1 l2 hz
  refine (chunk_own a1 n1 k1 ws a2 n2 k2 ms i w l1 l2 (by omega)).mono ?_
  rintro e w' ⟨v, b2, m2, d2, rfl, hm, hv, lp, hb⟩
  obtain ⟨b1, d1, rfl, l⟩ := hv.lst
  refine ⟨b1, _, d1, b2, m2, d2, rfl, ?_, by omega, l, lp, hb⟩
  unfold ckP
  split
  · unfold partL
    rw [List.length_take, hiN]
    omega
  · simp
end Go.Proofs.YtimciamfgpdjlaaGreat.Fx
