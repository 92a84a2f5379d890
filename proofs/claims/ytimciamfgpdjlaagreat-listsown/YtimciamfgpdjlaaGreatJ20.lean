/- What train.Run returns, whatever is handed in. -/
import Derived.Test.YtimciamfgpdjlaaGreatJ17
import Derived.Test.YtimciamfgpdjlaaGreatJ18
namespace Go.Proofs.YtimciamfgpdjlaaGreat.Fx
open Go.RowKit

def runE (c : Cfg) (n : Nat) (X : Nat → Exm) (DI DO : Nat → List Int) (m : Int) : Int := if courseI c n X DI DO = 0 then (if inB m 0 c.steps = true then 0 else 1) else courseI c n X DI DO
def runN (c : Cfg) (n : Nat) (X : Nat → Exm) (DI DO : Nat → List Int) (m : Int) : Nat := if runE c n X DI DO m = 0 then m.toNat + 1 else 0
def stW (c : Cfg) (n : Nat) (DI DO : Nat → List Int) (j : Nat) : List Int := (stateP c n DI DO (sizeN c).toNat j).1
def stM (c : Cfg) (n : Nat) (DI DO : Nat → List Int) (j : Nat) : List Int := (stateP c n DI DO (sizeN c).toNat j).2
theorem Exs.nil (w : World) (a : Option Addr) (cap : Nat) (X : Nat → Exm) (DI DO : Nat → List Int) : Exs w a 0 cap X DI DO := ⟨Nat.zero_le _, .inl rfl⟩
def noEx (_ : Nat) : Exm := ⟨none, 0, 0, none, 0, 0⟩

set_option maxHeartbeats 800000 in
theorem tRun_c (c : Cfg) (a : Option Addr) (n cap : Nat) (m E : Int) (w : World) (hE : E ≠ 0) (HC : Hid (∀ q, Below w.heap.size w q → Calls Tryz.prog 54 #[c.val, .slice a n cap] q fun e w' => e = .returned (.int .i64 E) ∧ Below q.heap.size q w')) :
    Calls Tryz.prog 48 #[c.val, .slice a n cap, .int .i64 m] w fun e w' => e = .returned (.tuple #[.slice none 0 0, .int .i64 E]) ∧ Below w.heap.size w w' := by
  have hal := low_alloc w (.cells c.cells 24)
  have hne : (E != 0) = true := by rw [bne_iff_ne]; exact hE
  have CK := HC.out _ hal
  clear hE HC
  obtain ⟨i, h, o, seed, batch, steps, crate, decay, how, keep, clip⟩ := c
  simp only [Cfg.val, Cfg.cells] at *
  go_enter Tryz.func48, Tryz.ntmps48
  go_wp2_with fail
  refine CK.mono ?_
  rintro e w1 ⟨rfl, hw1⟩
  go_wp2_with fail
  go_ret2
  exact ⟨rfl, hal.trans (hw1.mono hal.size)⟩

set_option maxHeartbeats 800000 in
theorem tRun_r (c : Cfg) (a : Option Addr) (n cap : Nat) (m : Int) (w : World) (hm : inB m 0 c.steps = false) (HC : Hid (∀ q, Below w.heap.size w q → Calls Tryz.prog 54 #[c.val, .slice a n cap] q fun e w' => e = .returned (.int .i64 0) ∧ Below q.heap.size q w')) :
    Calls Tryz.prog 48 #[c.val, .slice a n cap, .int .i64 m] w fun e w' => e = .returned (.tuple #[.slice none 0 0, .int .i64 1]) ∧ Below w.heap.size w w' := by
  have hlow : ¬ (0 ≤ m ∧ m ≤ c.steps) := fun g => by rw [in_yes g] at hm; cases hm
  have hal := low_alloc w (.cells c.cells 24)
  have CK := HC.out _ hal
  have KB : Hid (∀ q, Below (w.alloc (.cells c.cells 24)).heap.size (w.alloc (.cells c.cells 24)) q → BoxC q w.heap.size c) := fun q hq => boxC hq (by simp)
  clear hm HC
  obtain ⟨i, h, o, seed, batch, steps, crate, decay, how, keep, clip⟩ := c
  simp only [Cfg.val, Cfg.cells] at *
  by_cases hn : m < 0
  · go_enter Tryz.func48, Tryz.ntmps48
    go_wp2_with fail
    refine CK.mono ?_
    rintro e w1 ⟨rfl, hw1⟩
    go_wp2_with fail
    go_ret2
    exact ⟨rfl, hal.trans (hw1.mono hal.size)⟩
  · have hge : steps < m := by omega
    go_enter Tryz.func48, Tryz.ntmps48
    go_wp2_with fail
    refine CK.mono ?_
    rintro e w1 ⟨rfl, hw1⟩
    have c5 := (KB.out _ hw1).c5
    dsimp only at c5
    go_wp2_with fail
    go_ret2
    exact ⟨rfl, hal.trans (hw1.mono hal.size)⟩

theorem tRun_calls (c : Cfg) (hs : okW c.seed) (a : Option Addr) (n cap : Nat) (X : Nat → Exm) (DI DO : Nat → List Int) (m : Int) (w : World) (hx : Exs w a n cap X DI DO) :
    Calls Tryz.prog 48 #[c.val, .slice a n cap, .int .i64 m] w fun e w' => ∃ b k Y, e = .returned (.tuple #[.slice b (runN c n X DI DO m) k, .int .i64 (runE c n X DI DO m)]) ∧ Exs w' b (runN c n X DI DO m) k Y (stW c n DI DO) (stM c n DI DO) ∧ Below w.heap.size w w' := by
  have HC : ∀ q, Below w.heap.size w q → Calls Tryz.prog 54 #[c.val, .slice a n cap] q fun e w' => e = .returned (.int .i64 (courseI c n X DI DO)) ∧ Below q.heap.size q w' := fun q hq => tcheck_calls c a n cap X DI DO q (hx.below hq (Nat.le_refl _))
  have bad : ∀ E : Int, E ≠ 0 → runE c n X DI DO m = E → Calls Tryz.prog 48 #[c.val, .slice a n cap, .int .i64 m] w (fun e w' => e = .returned (.tuple #[.slice none 0 0, .int .i64 E]) ∧ Below w.heap.size w w') →
      Calls Tryz.prog 48 #[c.val, .slice a n cap, .int .i64 m] w fun e w' => ∃ b k Y, e = .returned (.tuple #[.slice b (runN c n X DI DO m) k, .int .i64 (runE c n X DI DO m)]) ∧ Exs w' b (runN c n X DI DO m) k Y (stW c n DI DO) (stM c n DI DO) ∧ Below w.heap.size w w' := by
    intro E hE he hcall
    refine hcall.mono ?_
    rintro e w' ⟨rfl, hb⟩
    unfold runN
    rw [he, if_neg hE]
    exact ⟨none, 0, noEx, rfl, Exs.nil _ _ _ _ _ _, hb⟩
  by_cases hE : courseI c n X DI DO = 0
  · rw [hE] at HC
    obtain ⟨hc, hn1, hn2, hex⟩ := course_ok hE
    cases hm : inB m 0 c.steps with
    | false => exact bad 1 (by decide) (by unfold runE; rw [if_pos hE, hm]; rfl) (tRun_r c a n cap m w hm HC)
    | true =>
      have hz : runE c n X DI DO m = 0 := by unfold runE; rw [if_pos hE, hm]; rfl
      have hlow := in_is hm
      obtain ⟨M, hM⟩ := Int.eq_ofNat_of_zero_le hlow.1
      have hRN : runN c n X DI DO m = M + 1 := by unfold runN; rw [if_pos hz, hM]; rfl
      rw [hRN, hz]
      obtain ⟨⟨i1, i2⟩, ⟨h1, h2⟩, ⟨o1, o2⟩, ⟨b1, b2⟩, _⟩ := cfgB_is hc
      have hzn := sizeN_bd hc
      obtain ⟨N, hNz⟩ := Int.eq_ofNat_of_zero_le (show 0 ≤ sizeN c by omega)
      have hNt : (sizeN c).toNat = N := by rw [hNz]; rfl
      unfold stW stM
      rw [hNt]
      clear bad hRN hz hm
      subst hM
      obtain ⟨i, h, o, seed, batch, steps, crate, decay, how, keep, clip⟩ := c
      dsimp only at i1 i2 h1 h2 o1 o2 b1 b2 hs hlow
      obtain ⟨I, rfl⟩ := Int.eq_ofNat_of_zero_le (show 0 ≤ i by omega)
      obtain ⟨H, rfl⟩ := Int.eq_ofNat_of_zero_le (show 0 ≤ h by omega)
      obtain ⟨O, rfl⟩ := Int.eq_ofNat_of_zero_le (show 0 ≤ o by omega)
      obtain ⟨B, rfl⟩ := Int.eq_ofNat_of_zero_le (show 0 ≤ batch by omega)
      have hN : N = H * I + H + O * H + O := by have := hNz.symm; unfold sizeN at this; dsimp only at this; exact_mod_cast this
      refine (tRun_good I H O B seed crate decay how keep clip hs steps hc N hN a n cap X DI DO M w hx hn1 hn2 hex (by omega) HC).mono ?_
      rintro e w' ⟨g, Y, he, hY, hb⟩
      exact ⟨some ⟨g, 0, none⟩, M + 1, Y, he, hY, hb⟩
  · exact bad _ hE (by unfold runE; rw [if_neg hE]) (tRun_c c a n cap m _ w hE HC)
end Go.Proofs.YtimciamfgpdjlaaGreat.Fx

/- A small course in plain numbers: its records' chains are not the same. -/
namespace Go.Proofs.YtimciamfgpdjlaaGreat.Fx
open Go.RowKit

def smallC : Cfg := ⟨1, 1, 1, 1, 1, 3, 6554, 0, 0, 0, 0⟩
def smallI (_ : Nat) : List Int := [65536]
def smallO (_ : Nat) : List Int := [131072]
set_option maxRecDepth 1000000 in
theorem small_chain : jrChain smallC 1 smallI smallO 4 1 ≠ jrChain smallC 1 smallI smallO 4 2 := by decide +kernel
theorem small_cfg : cfgB smallC = true := by decide +kernel
theorem small_batch : jrBatch smallC 1 0 = [0] := by decide +kernel
end Go.Proofs.YtimciamfgpdjlaaGreat.Fx
