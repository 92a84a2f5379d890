/- What optim's isPupil returns, of a config that was checked, and slices.Clone of a list that is not empty. -/
import Derived.Test.YtgihnliipfdokaaGreatJ12
import Derived.Test.YtgihnliipfdokaaGreatJ05
import Derived.Test.YtgihnliipfdokaaGreatJ09
namespace Go.Proofs.YtgihnliipfdokaaGreat.Fx
open Go.RowKit

theorem shp_fit {c : Cfg} (h : cfgB c = true) (len : Nat) (xs : List Int) : shpI c.i c.h c.o len xs = if fitB c len xs = true then 0 else 5 := by
  obtain ⟨⟨i1, i2⟩, ⟨h1, h2⟩, ⟨o1, o2⟩, _⟩ := cfgB_is h
  unfold shpI
  rw [if_pos ⟨sideB_mk i1 i2, sideB_mk h1 h2, sideB_mk o1 o2⟩]
  have e : (fitB c len xs = true) = ((len : Int) = c.h * c.i + c.h + c.o * c.h + c.o ∧ rightB xs = true) := by
    unfold fitB sizeN
    rw [Bool.and_eq_true, decide_eq_true_eq]
  simp only [e]

set_option maxHeartbeats 800000 in
theorem isPup_calls (c : Cfg) (hc : cfgB c = true) (a : Option Addr) (len cap : Nat) (xs : List Int) (w : World) (ha : Lst w a len cap xs) :
    Calls Tryz.prog 97 #[c.val, .slice a len cap] w fun e w' => e = .returned (.bool (fitB c len xs)) ∧ Below w.heap.size w w' := by
  have hal := (Below.refl w.heap.size w).alloc (Nat.le_refl _) (.cells c.cells 24)
  have ha' := ha.below hal (Nat.le_refl _)
  have hs := shp_fit hc len xs
  cases hf : fitB c len xs with
  | false =>
    rw [if_neg (by rw [hf]; decide)] at hs
    have K := shape_bad c.i c.h c.o a len cap xs _ ha' (by rw [hs]; decide)
    rw [hs] at K
    have HK : Hid (Calls Tryz.prog 92 #[.int .i64 c.i, .int .i64 c.h, .int .i64 c.o, .slice a len cap] (w.alloc (.cells c.cells 24)) fun e w' => e = .returned (.tuple #[noPup.val, .int .i64 5]) ∧ Below (w.alloc (.cells c.cells 24)).heap.size (w.alloc (.cells c.cells 24)) w') := K
    clear K hs hf hc ha ha'
    obtain ⟨i, h, o, seed, batch, steps, rate, decay, how, keep, clip⟩ := c
    simp only [Cfg.val, Cfg.cells, noPup, Pup.val, Pup.cells] at *
    go_enter Tryz.func97, Tryz.ntmps97
    go_wp2_with fail
    refine HK.out.mono ?_
    rintro e w1 ⟨rfl, hw1⟩
    have hb := hal.trans (hw1.mono hal.size)
    clear hw1 hal HK
    have hz := hb.size
    go_wp2
    go_ret
    exact ⟨rfl, hb.alloc hz _⟩
  | true =>
    obtain ⟨⟨i1, i2⟩, ⟨h1, h2⟩, ⟨o1, o2⟩, _⟩ := cfgB_is hc
    have hfit := fit_len hc hf
    unfold sizeN at hfit
    obtain ⟨i, h, o, seed, batch, steps, rate, decay, how, keep, clip⟩ := c
    dsimp only at i1 i2 h1 h2 o1 o2 hfit
    obtain ⟨I, rfl⟩ := Int.eq_ofNat_of_zero_le (show 0 ≤ i by omega)
    obtain ⟨H, rfl⟩ := Int.eq_ofNat_of_zero_le (show 0 ≤ h by omega)
    obtain ⟨O, rfl⟩ := Int.eq_ofNat_of_zero_le (show 0 ≤ o by omega)
    have K := shape_good I H O a len cap xs _ ha' (by omega) (by omega) (by omega) (by omega) (by omega) (by omega) (by have := hfit.1; exact_mod_cast this) hfit.2.2.2
    have HK : Hid (Calls Tryz.prog 92 #[.int .i64 I, .int .i64 H, .int .i64 O, .slice a len cap] (w.alloc (.cells (Cfg.cells ⟨I, H, O, seed, batch, steps, rate, decay, how, keep, clip⟩) 24)) fun e w' => ∃ a1 a2 b1 b2, e = .returned (.tuple #[(rpup I H O a1 (H * I) a2 (O * H) b1 H b2 O).val, .int .i64 0]) ∧ Below (w.alloc (.cells (Cfg.cells ⟨I, H, O, seed, batch, steps, rate, decay, how, keep, clip⟩) 24)).heap.size (w.alloc (.cells (Cfg.cells ⟨I, H, O, seed, batch, steps, rate, decay, how, keep, clip⟩) 24)) w') := K.mono (by rintro e w' ⟨a1, a2, b1, b2, he, _, hb⟩; exact ⟨a1, a2, b1, b2, he, hb⟩)
    clear K hs hf hc ha ha' hfit i1 i2 h1 h2 o1 o2
    simp only [Cfg.val, Cfg.cells, rpup, Pup.val, Pup.cells] at *
    go_enter Tryz.func97, Tryz.ntmps97
    go_wp2_with fail
    refine HK.out.mono ?_
    rintro e w1 ⟨a1, a2, b1, b2, rfl, hw1⟩
    have hb := hal.trans (hw1.mono hal.size)
    clear hw1 hal HK
    have hz := hb.size
    go_wp2
    go_ret
    exact ⟨rfl, hb.alloc hz _⟩

theorem getD_self {xs : List Int} {n : Nat} (h : xs.length = n) : (List.range n).map (fun i => xs.getD i 0) = xs := by
  refine List.ext_getElem (by simp [h]) (fun i a b => ?_)
  simp only [List.getElem_map, List.getElem_range]
  rw [List.getD_eq_getElem?_getD, List.getElem?_eq_getElem b]
  rfl

theorem OwnI.capM {base : Nat} {w : World} {a : Option Addr} {n c : Nat} {xs : List Int} (h : OwnI base w (.slice a n c) xs) : c ≤ maxLen := by
  rcases h.2 with ⟨e, _⟩ | ⟨g, cap, cur, e, _, _, _, hm, _⟩
  · injection e with _ _ e3
    rw [e3]
    exact Nat.zero_le _
  · injection e with _ _ e3
    rw [e3]
    exact hm

set_option maxRecDepth 100000 in
theorem cloneL_own (b off n c : Nat) (xs : List Int) (w : World) (h : Lst w (some ⟨b, off, none⟩) n c xs) (h1 : 1 ≤ n) (h2 : n ≤ 1000) :
    Calls Tryz.prog 99 #[.slice (some ⟨b, off, none⟩) n c] w fun e w' => ∃ b' c', e = .returned (.slice (some ⟨b', 0, none⟩) n c') ∧ w.heap.size ≤ b' ∧ Arr w' b' c' n (fun i => xs.getD i 0) ∧ c' ≤ maxLen ∧ Below w.heap.size w w' := by
  have hb := (Below.refl w.heap.size w).alloc (Nat.le_refl _) (.cells #[] 3)
  have hl := h.below hb (Nat.le_refl _)
  have hn := h.len
  have q22 : ∀ (w : World) (a : Option Addr) (n c n' c' : Nat), (binOp .eql 33 (.slice a n c) (.slice none n' c')).run Tryz.prog w = .ok (.bool a.isNone) w := fun w a n c n' c' => Lib.run_eql_slice_nil w _ _ a n c n' c' Tryz.underlying33
  go_enter Tryz.func99, Tryz.ntmps99
  go_wp2_with (at_builtin; refine wpList_append_all (by rfl) _ _ (by rfl) w.heap.size _ [] xs b off n c w (by rfl) (by rfl) (by exact OwnI.empty w) (by exact hl) (by simp; omega) (by simp) (by exact hb) ?_; intro v1 w1 hown1 hbel1)
  have hown2 : OwnI w.heap.size w1 v1 ((List.range n).map (fun i => xs.getD i 0)) := by rw [getD_self hn]; simpa using hown1
  obtain ⟨b', c', rfl, hb', ha'⟩ := hown2.arr h1
  go_wp2
  go_ret
  exact ⟨_, _, rfl, hb', ha', hown2.capM, hbel1⟩

theorem cloneL_calls (b off n c : Nat) (xs : List Int) (w : World) (h : Lst w (some ⟨b, off, none⟩) n c xs) (h1 : 1 ≤ n) (h2 : n ≤ 1000) :
    Calls Tryz.prog 99 #[.slice (some ⟨b, off, none⟩) n c] w fun e w' => ∃ b' o' c', e = .returned (.slice (some ⟨b', o', none⟩) n c') ∧ w.heap.size ≤ b' ∧ Lst w' (some ⟨b', o', none⟩) n c' xs ∧ Below w.heap.size w w' := by
  refine (cloneL_own b off n c xs w h h1 h2).mono ?_
  rintro e w' ⟨b', c', he, hb', ha', _, hbel⟩
  have hl := ha'.lst
  rw [getD_self h.len] at hl
  exact ⟨b', 0, c', he, hb', hl, hbel⟩

theorem Lst.setFar {w : World} {b off n c : Nat} {xs : List Int} (h : Lst w (some ⟨b, off, none⟩) n c xs) {a : Addr} (ha : b ≠ a.block) (v : Value) : Lst (w.setCell a v) (some ⟨b, off, none⟩) n c xs := by
  refine ⟨h.1, h.2.1, ?_⟩
  rcases h.2.2 with h0 | ⟨b', off', e, hs, hc⟩
  · exact .inl h0
  · simp only [Option.some.injEq, Addr.mk.injEq, and_true] at e
    obtain ⟨rfl, rfl⟩ := e
    exact .inr ⟨b, off, rfl, by simpa using hs, fun i hi => (World.cell?_of_block (w := w) (a := ⟨b, off + i, none⟩) (Go.Deep.blk_setCell_other w a v b ha)).trans (hc i hi)⟩

end Go.Proofs.YtgihnliipfdokaaGreat.Fx
