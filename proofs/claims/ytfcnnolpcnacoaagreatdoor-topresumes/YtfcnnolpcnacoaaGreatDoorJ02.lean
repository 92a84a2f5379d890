/- Lists of words (unsigned integers of 64 bits) as they lie in memory: what a slice reads as, in whatever world that holds its cells; no program is spoken of. -/
import Derived.Test.YtfcnnolpcnacoaaGreatDoorJ00
import Derived.Test.YtfcnnolpcnacoaaGreatDoorJ01
namespace Go.Proofs.YtfcnnolpcnacoaaGreatDoor.Fx
open Go.RowKit

def LstW (w : World) (a : Option Addr) (len cap : Nat) (xs : List Int) : Prop :=
  xs.length = len ∧ len ≤ cap ∧ (len = 0 ∨ ∃ b off, a = some ⟨b, off, none⟩ ∧ b < w.heap.size ∧ ∀ i, i < len → w.cell? ⟨b, off + i, none⟩ = some (.int .u64 (xs.getD i 0)))
theorem LstW.len {w : World} {a : Option Addr} {n c : Nat} {xs : List Int} (h : LstW w a n c xs) : xs.length = n := h.1
theorem LstW.cap {w : World} {a : Option Addr} {n c : Nat} {xs : List Int} (h : LstW w a n c xs) : n ≤ c := h.2.1
theorem LstW.at {w : World} {a : Option Addr} {n c : Nat} {xs : List Int} (h : LstW w a n c xs) (hn : 0 < n) :
    ∃ b off, a = some ⟨b, off, none⟩ ∧ b < w.heap.size ∧ ∀ i, i < n → w.cell? ⟨b, off + i, none⟩ = some (.int .u64 (xs.getD i 0)) := by
  rcases h.2.2 with h0 | h0
  · omega
  · exact h0
theorem LstW.at1 {w : World} {a : Option Addr} {n c : Nat} {xs : List Int} (h : LstW w a n c xs) {k : Nat} (hk : k < n) :
    ∃ b off x, a = some ⟨b, off, none⟩ ∧ b < w.heap.size ∧ w.cell? ⟨b, off + k, none⟩ = some (.int .u64 x) ∧ Hid (xs.getD k 0 = x) := by
  obtain ⟨b, off, e, hs, hc⟩ := h.at (by omega)
  exact ⟨b, off, _, e, hs, hc k hk, rfl⟩
theorem LstW.nil (w : World) (a : Option Addr) (c : Nat) : LstW w a 0 c [] := ⟨rfl, Nat.zero_le _, .inl rfl⟩
theorem LstW.below {w w' : World} {a : Option Addr} {n c : Nat} {xs : List Int} {B : Nat} (h : LstW w a n c xs) (hb : Below B w w') (hB : w.heap.size ≤ B) : LstW w' a n c xs := by
  refine ⟨h.1, h.2.1, ?_⟩
  rcases h.2.2 with h0 | ⟨b, off, e, hs, hc⟩
  · exact .inl h0
  · exact .inr ⟨b, off, e, Nat.lt_of_lt_of_le hs hb.size, fun i hi => (hb.cell (p := ⟨b, off + i, none⟩) (Nat.lt_of_lt_of_le hs hB)).trans (hc i hi)⟩
theorem LstW.drewN {w : World} {a : Option Addr} {n c : Nat} {xs : List Int} (h : LstW w a n c xs) (k : Nat) : LstW (w.drewN k) a n c xs := by
  refine ⟨h.1, h.2.1, ?_⟩
  rcases h.2.2 with h0 | ⟨b, off, e, hs, hc⟩
  · exact .inl h0
  · exact .inr ⟨b, off, e, by simpa using hs, fun i hi => by simpa using hc i hi⟩
theorem LstW.row {w : World} {b t n : Nat} {f : Nat → Value} {xs : List Int} (h : w.rowIs b t n f) (hl : xs.length = n) (hf : ∀ i, i < n → f i = .int .u64 (xs.getD i 0)) : LstW w (some ⟨b, 0, none⟩) n n xs :=
  ⟨hl, Nat.le_refl _, .inr ⟨b, 0, rfl, h.lt, fun i hi => by rw [Nat.zero_add, h.cell hi, hf i hi]⟩⟩
theorem getD_map_word (xs : List Int) (i : Nat) (hi : i < xs.length) : (xs.map (Value.int .u64))[i]? = some (.int .u64 (xs.getD i 0)) := by
  simp [hi]
theorem LstW.owned {w : World} {base e n : Nat} {v : Value} {xs : List Int} (h : w.ownsRow base e 1 v n (xs.map (Value.int .u64))) :
    ∃ a c, v = .slice a n c ∧ LstW w a n c xs := by
  obtain ⟨hl, h2⟩ := h
  rw [List.length_map, Nat.mul_one] at hl
  rcases h2 with ⟨rfl, rfl⟩ | ⟨g, cap, cur, rfl, _, hh, hle, _, hsz, hcur⟩
  · rw [List.length_eq_zero_iff] at hl
    subst hl
    exact ⟨none, 0, rfl, LstW.nil _ _ _⟩
  · refine ⟨_, cap, rfl, hl, hle, .inr ⟨g, 0, rfl, (Array.getElem?_eq_some_iff.1 hh).1, fun i hi => ?_⟩⟩
    have h3 := getD_map_word xs i (by omega)
    rw [← hcur, Nat.mul_one] at h3
    simp only [World.cell?, hh, Nat.zero_add]
    rw [List.getElem?_take_of_lt hi] at h3
    simpa using h3
theorem LstW.sub {w : World} {b off n c : Nat} {xs : List Int} (h : LstW w (some ⟨b, off, none⟩) n c xs) (hn : 0 < n) (lo hi : Nat) (h1 : lo ≤ hi) (h2 : hi ≤ n) :
    LstW w (some ⟨b, off + lo, none⟩) (hi - lo) (c - lo) ((xs.drop lo).take (hi - lo)) := by
  obtain ⟨b', off', e, hs, hc⟩ := h.at hn
  have := h.len
  have := h.cap
  simp only [Option.some.injEq, Addr.mk.injEq, and_true] at e
  obtain ⟨rfl, rfl⟩ := e
  refine ⟨by simp; omega, by omega, .inr ⟨b, off + lo, rfl, hs, fun i hi' => ?_⟩⟩
  rw [Nat.add_assoc, hc (lo + i) (by omega)]
  have e : ((xs.drop lo).take (hi - lo)).getD i 0 = xs.getD (lo + i) 0 := by
    rw [List.getD_eq_getElem?_getD, List.getElem?_take_of_lt hi', List.getElem?_drop, ← List.getD_eq_getElem?_getD]
  rw [e]
theorem LstW.at1b {w wr : World} {a : Option Addr} {n c : Nat} {xs : List Int} {B : Nat} (h : LstW w a n c xs) (hb : Below B w wr) (hB : w.heap.size ≤ B) {k : Nat} (hk : k < n) :
    ∃ b off x, a = some ⟨b, off, none⟩ ∧ b < w.heap.size ∧ wr.cell? ⟨b, off + k, none⟩ = some (.int .u64 x) ∧ Hid (xs.getD k 0 = x) := by
  obtain ⟨b, off, x, e, hs, hc, hx⟩ := h.at1 hk
  exact ⟨b, off, x, e, hs, (hb.cell (p := ⟨b, off + k, none⟩) (Nat.lt_of_lt_of_le hs hB)).trans hc, hx⟩
theorem LstW.came {w : World} {x : Addr} {len cap : Nat} {zs : List Int} (hl : len ≤ cap) (hz : zs.length = cap) (hc : ∀ i, i < zs.length → w.cell? (x.add i) = some (.int .u64 (zs.getD i 0))) : LstW w (some x) len cap (zs.take len) := by
  refine ⟨by simp; omega, hl, ?_⟩
  by_cases h0 : len = 0
  · exact .inl h0
  · obtain ⟨b, off, spot⟩ := x
    have hspot : spot = none := by simpa [Addr.add] using World.cell?_spot (hc 0 (by omega))
    subst hspot
    refine .inr ⟨b, off, rfl, ?_, fun i hi => ?_⟩
    · have := cell_lt (hc 0 (by omega)); simpa [Addr.add] using this
    · have h := hc i (by omega)
      rw [Go.WideShapes.add_plain] at h
      rw [h]
      simp [List.getD_eq_getElem?_getD, List.getElem?_take_of_lt hi]
def rowToW (g : Nat → Int) (k i : Nat) : Value := if i < k then .int .u64 (g i) else .int .u64 0
theorem rowToW_step {w : World} {b t n k : Nat} {g : Nat → Int} (h : w.rowIs b t n (rowToW g k)) : (w.setCell ⟨b, k, none⟩ (.int .u64 (g k))).rowIs b t n (rowToW g (k + 1)) := by
  refine (h.set k (.int .u64 (g k))).congr (fun i _ => ?_)
  unfold rowToW
  by_cases e : i = k
  · subst e; rw [if_pos rfl, if_pos (by omega)]
  · rw [if_neg e]
    by_cases e2 : i < k
    · rw [if_pos e2, if_pos (by omega)]
    · rw [if_neg e2, if_neg (by omega)]
theorem rowToW_made {w : World} {b t n : Nat} {g : Nat → Int} (h : w.rowIs b t n (fun _ => .int .u64 0)) : w.rowIs b t n (rowToW g 0) :=
  h.congr (fun i _ => by unfold rowToW; rw [if_neg (by omega)])
theorem rowToW_lst {w : World} {b t n : Nat} {g : Nat → Int} (h : w.rowIs b t n (rowToW g n)) : LstW w (some ⟨b, 0, none⟩) n n ((List.range n).map g) :=
  LstW.row h (by simp) (fun i hi => by unfold rowToW; rw [if_pos hi]; simp [hi])
theorem rowToW_cell {w : World} {b t n k : Nat} {g : Nat → Int} (h : w.rowIs b t n (rowToW g k)) (hk : k < n) : w.cell? ⟨b, k, none⟩ = some (.int .u64 0) := by
  rw [h.cell hk]; unfold rowToW; rw [if_neg (by omega)]

end Go.Proofs.YtfcnnolpcnacoaaGreatDoor.Fx

/- What digest.add, mul and power return, called with numbers below P. -/
namespace Go.Proofs.YtfcnnolpcnacoaaGreatDoor.Fx
open Go.RowKit

theorem dadd_calls (a b : Int) (ha : okP a) (hb : okP b) (w : World) : Calls Tryz.prog 85 #[.int .u64 a, .int .u64 b] w fun e w' => e = .returned (.int .u64 (addP a b)) ∧ w' = w := by
  obtain ⟨a0, a1⟩ := ha
  obtain ⟨b0, b1⟩ := hb
  go_enter Tryz.func85, Tryz.ntmps85
  go_wp2
  go_ret
  exact ⟨rfl, rfl⟩

theorem prodP (a b : Int) (ha : okP a) (hb : okP b) : okP (a * b / 18446744073709551616) ∧ okW (a * b % 18446744073709551616) ∧ (a * b / 18446744073709551616 * 18446744073709551616 + a * b % 18446744073709551616) % 2305843009213693951 = mulP a b := by
  obtain ⟨a0, a1⟩ := ha
  obtain ⟨b0, b1⟩ := hb
  have h0 : 0 ≤ a * b := Int.mul_nonneg a0 b0
  have h1 : a * b ≤ 2305843009213693951 * 2305843009213693951 := Int.mul_le_mul (by omega) (by omega) b0 (by omega)
  unfold okP okW mulP
  omega

theorem dmul_calls (a b : Int) (ha : okP a) (hb : okP b) (w : World) : Calls Tryz.prog 152 #[.int .u64 a, .int .u64 b] w fun e w' => e = .returned (.int .u64 (mulP a b)) ∧ ∃ k, w' = w.drewN k := by
  obtain ⟨p0, p1, p2⟩ := prodP a b ha hb
  have wa : okW a := ⟨ha.1, by have := ha.2; omega⟩
  have wb : okW b := ⟨hb.1, by have := hb.2; omega⟩
  have c1 := mul64_any a b wa wb w
  generalize a * b / 18446744073709551616 = hi at *
  generalize a * b % 18446744073709551616 = lo at *
  have P2 : Hid ((hi * 18446744073709551616 + lo) % 2305843009213693951 = mulP a b) := p2
  clear p2
  go_enter Tryz.func152, Tryz.ntmps152
  go_wp2_with (first | (go_at_call 165; refine c1.mono ?_; rintro e w' ⟨rfl, hw'⟩; replace hw' := hw'.symm; subst hw') | (go_at_call 166; refine (rem64_P _ _ p0 p1 _).mono ?_; rintro e w' ⟨rfl, k, rfl⟩; rw [P2.out]))
  go_ret
  exact ⟨rfl, k, rfl⟩

theorem dpower_calls (n : Int) (hn : okP n) (w : World) : Calls Tryz.prog 118 #[.int .u64 n] w fun e w' => e = .returned (.int .u64 (powP n)) ∧ ∃ k, w' = w.drewN k := by
  go_enter Tryz.func118, Tryz.ntmps118
  go_wp2
  go_loopw [3, 5] (fun s i wr => ∃ (k d : Nat) (x : Int), k ≤ 4 ∧ i = .int .i64 k ∧ s = .int .u64 x ∧ Hid (x = sqTo n k) ∧ wr = w.drewN d) (fun _ i _ => 4 - (intOf i).toNat)
  case atStart => exact ⟨0, 0, _, by omega, rfl, rfl, rfl, rfl⟩
  case round =>
    obtain ⟨k, d, x, hk, rfl, rfl, HX, rfl⟩ := hrel
    have hx : okP x := by rw [HX.out]; exact sqTo_ok hn k
    by_cases hlt : k < 4
    · go_wp2_with (go_at_call 152; refine (dmul_calls _ _ hx hx _).mono ?_; rintro e w' ⟨rfl, d2, rfl⟩)
      go_roundw
      case rel => exact ⟨k + 1, _, _, by omega, by go_num, rfl, by rw [HX.out]; rfl, rfl⟩
      case measure => simp [intOf]; omega
    · obtain rfl : k = 4 := by omega
      go_wp2_with (go_at_call 152; refine (dmul_calls _ _ hx hn _).mono ?_; rintro e w' ⟨rfl, d2, rfl⟩)
      go_ret
      exact ⟨ret_word (by rw [HX.out]; rfl), _, rfl⟩

end Go.Proofs.YtfcnnolpcnacoaaGreatDoor.Fx

/- Three words in one block of memory: how they are laid, read and written; no program is spoken of. -/
namespace Go.Proofs.YtfcnnolpcnacoaaGreatDoor.Fx
open Go.RowKit

def fnT (s : Tri) (i : Nat) : Value := if i = 0 then .int .u64 s.x else if i = 1 then .int .u64 s.y else .int .u64 s.z
def aggT (s : Tri) : Value := .agg #[.int .u64 s.x, .int .u64 s.y, .int .u64 s.z]
theorem lt3 {i : Nat} (h : i < 3) : i = 0 ∨ i = 1 ∨ i = 2 := by omega
theorem fnT_at {s : Tri} {i : Nat} (h : i < 3) : fnT s i = .int .u64 (s.at i) := by
  rcases lt3 h with rfl | rfl | rfl <;> rfl
theorem fnT_alloc (w : World) (x y z : Int) (t : TypeId) : (w.alloc (.cells #[.int .u64 x, .int .u64 y, .int .u64 z] t)).rowIs w.heap.size t 3 (fnT ⟨x, y, z⟩) :=
  World.rowIs_alloc w _ t (fnT ⟨x, y, z⟩) (by
    intro i hi
    rcases lt3 hi with rfl | rfl | rfl <;> rfl)
theorem fnT_cells {w : World} {b t : Nat} {s : Tri} (h : w.rowIs b t 3 (fnT s)) :
    w.cell? ⟨b, 0, none⟩ = some (.int .u64 s.x) ∧ w.cell? ⟨b, 1, none⟩ = some (.int .u64 s.y) ∧ w.cell? ⟨b, 2, none⟩ = some (.int .u64 s.z) :=
  ⟨h.cell (i := 0) (by omega), h.cell (i := 1) (by omega), h.cell (i := 2) (by omega)⟩
theorem fnT_set3 {w : World} {b t : Nat} {f : Nat → Value} (h : w.rowIs b t 3 f) (x y z : Int) : (((w.setCell ⟨b, 0, none⟩ (.int .u64 x)).setCell ⟨b, 1, none⟩ (.int .u64 y)).setCell ⟨b, 2, none⟩ (.int .u64 z)).rowIs b t 3 (fnT ⟨x, y, z⟩) := by
  refine (((h.set 0 (.int .u64 x)).set 1 (.int .u64 y)).set 2 (.int .u64 z)).congr (fun i hi => ?_)
  rcases lt3 hi with rfl | rfl | rfl <;> rfl

/-- What a mix has laid: the three numbers that it turns, and the cells of its answer. -/
structure MixRel (t : Nat) (w : World) (s : Tri) (wr : World) : Prop where
  box : wr.rowIs w.heap.size t 3 (fnT s)
  res : wr.rowIs (w.heap.size + 1) t 3 (fnT ⟨0, 0, 0⟩)
  old : Below w.heap.size w wr

theorem MixRel.start (t : Nat) (w : World) (x y z : Int) : MixRel t w ⟨x, y, z⟩ ((w.alloc (.cells #[.int .u64 x, .int .u64 y, .int .u64 z] t)).alloc (.cells #[.int .u64 0, .int .u64 0, .int .u64 0] t)) :=
  ⟨(fnT_alloc w x y z t).alloc _, by have h := fnT_alloc (w.alloc (.cells #[.int .u64 x, .int .u64 y, .int .u64 z] t)) 0 0 0 t; simpa using h, ((Below.refl _ _).alloc (Nat.le_refl _) _).alloc (by simp) _⟩
theorem MixRel.drewN {t : Nat} {w wr : World} {s : Tri} (h : MixRel t w s wr) (d : Nat) : MixRel t w s (wr.drewN d) := ⟨rowIs_drewN h.box d, rowIs_drewN h.res d, below_drewN h.old d⟩
theorem MixRel.set {t : Nat} {w wr : World} {s : Tri} (h : MixRel t w s wr) (x y z : Int) : MixRel t w ⟨x, y, z⟩ (((wr.setCell ⟨w.heap.size, 0, none⟩ (.int .u64 x)).setCell ⟨w.heap.size, 1, none⟩ (.int .u64 y)).setCell ⟨w.heap.size, 2, none⟩ (.int .u64 z)) :=
  ⟨fnT_set3 h.box x y z, ((h.res.setOther (by simp) _).setOther (by simp) _).setOther (by simp) _, ((h.old.setCell (Nat.le_refl _) _).setCell (Nat.le_refl _) _).setCell (Nat.le_refl _) _⟩

theorem fnT_set0 {w : World} {b t : Nat} {s : Tri} (h : w.rowIs b t 3 (fnT s)) (x : Int) : (w.setCell ⟨b, 0, none⟩ (.int .u64 x)).rowIs b t 3 (fnT ⟨x, s.y, s.z⟩) := by
  refine (h.set 0 (.int .u64 x)).congr (fun i hi => ?_)
  rcases lt3 hi with rfl | rfl | rfl <;> rfl

/-- What the making of a list's digest has laid: its three numbers, in block b. -/
structure OfRel (t : Nat) (w : World) (b : Nat) (s : Tri) (wr : World) : Prop where
  box : wr.rowIs b t 3 (fnT s)
  ge : w.heap.size ≤ b
  old : Below w.heap.size w wr

theorem OfRel.start {t : Nat} {w w1 : World} (h : Below w.heap.size w w1) (x y z : Int) : OfRel t w w1.heap.size ⟨x, y, z⟩ (w1.alloc (.cells #[.int .u64 x, .int .u64 y, .int .u64 z] t)) :=
  ⟨fnT_alloc w1 x y z t, h.size, h.alloc h.size _⟩
theorem OfRel.set0 {t b : Nat} {w wr : World} {s : Tri} (h : OfRel t w b s wr) (x : Int) : OfRel t w b ⟨x, s.y, s.z⟩ (wr.setCell ⟨b, 0, none⟩ (.int .u64 x)) :=
  ⟨fnT_set0 h.box x, h.ge, h.old.setCell h.ge _⟩
theorem OfRel.drewN {t b : Nat} {w wr : World} {s : Tri} (h : OfRel t w b s wr) (d : Nat) : OfRel t w b s (wr.drewN d) := ⟨rowIs_drewN h.box d, h.ge, below_drewN h.old d⟩
theorem OfRel.below {t b : Nat} {w wr w' : World} {s : Tri} (h : OfRel t w b s wr) (hb : Below wr.heap.size wr w') : OfRel t w b s w' :=
  ⟨h.box.of_block (hb.block b h.box.lt), h.ge, h.old.trans (hb.mono h.old.size)⟩
theorem OfRel.set {t b : Nat} {w wr : World} {s : Tri} (h : OfRel t w b s wr) (x y z : Int) : OfRel t w b ⟨x, y, z⟩ (((wr.setCell ⟨b, 0, none⟩ (.int .u64 x)).setCell ⟨b, 1, none⟩ (.int .u64 y)).setCell ⟨b, 2, none⟩ (.int .u64 z)) :=
  ⟨fnT_set3 h.box x y z, h.ge, ((h.old.setCell h.ge _).setCell h.ge _).setCell h.ge _⟩

/-- Two words that are laid as a list. -/
theorem LstW.two (w : World) (a b : Int) (t : TypeId) : LstW (w.alloc (.cells #[.int .u64 a, .int .u64 b] t)) (some ⟨w.heap.size, 0, none⟩) 2 2 [a, b] := by
  have h := World.rowIs_alloc w #[.int .u64 a, .int .u64 b] t (fun i => if i = 0 then .int .u64 a else .int .u64 b) (by
    intro i hi
    rcases (show i = 0 ∨ i = 1 from by have : i < 2 := hi
                                       omega) with rfl | rfl <;> rfl)
  refine LstW.row h rfl (fun i hi => ?_)
  rcases (show i = 0 ∨ i = 1 from by omega) with rfl | rfl <;> rfl

end Go.Proofs.YtfcnnolpcnacoaaGreatDoor.Fx

/- What digest.mix returns, called with three numbers below P. -/
namespace Go.Proofs.YtfcnnolpcnacoaaGreatDoor.Fx
open Go.RowKit

set_option maxHeartbeats 1600000 in
theorem dmix_calls (s : Tri) (hs : s.ok) (w : World) : Calls Tryz.prog 84 #[.agg #[.int .u64 s.x, .int .u64 s.y, .int .u64 s.z]] w fun e w' => e = .returned (aggT (mixP s)) ∧ Below w.heap.size w w' := by
  have HS : Hid s.ok := hs
  clear hs
  go_enter Tryz.func84, Tryz.ntmps84
  go_wp2
  go_loopw [3] (fun i wr => ∃ (k : Nat) (n : Int) (t : Tri), k ≤ 6 ∧ i = .int .u64 n ∧ n = (k : Int) + 1 ∧ Hid (t = mixTo s k) ∧ MixRel 131 w t wr) (fun i _ => 7 - (intOf i).toNat)
  case atStart => exact ⟨0, 1, s, by omega, rfl, rfl, rfl, MixRel.start _ _ _ _ _⟩
  case round =>
    obtain ⟨k, n, t, hk, rfl, hn, HT, R⟩ := hrel
    obtain ⟨c0, c1, c2⟩ := fnT_cells R.box
    have HN : Hid (n = (k : Int) + 1) := hn
    by_cases hlt : n ≤ 6
    · have ht : t.ok := by rw [HT.out]; exact mixTo_ok HS.out k
      obtain ⟨t0, t1, t2⟩ := ht
      have n1 : okP n := ⟨by omega, by omega⟩
      have n2 : okP (2 * n) := ⟨by omega, by omega⟩
      have n3 : okP (3 * n) := ⟨by omega, by omega⟩
      have m0 : 1 ≤ n := by omega
      have f0 := R.box.frozen 0
      have f1 := R.box.frozen 1
      have f2 := R.box.frozen 2
      have HM : Hid (sums (pows n t) = mixTo s (k + 1)) := by rw [hn, HT.out]; rfl
      clear hn
      go_wp2_with (first | (go_at_call 85; refine (dadd_calls _ _ (by with_reducible first | exact powP_ok _ | exact addP_ok _ _ | assumption) (by with_reducible first | exact powP_ok _ | exact addP_ok _ _ | assumption) _).mono ?_; rintro e w' ⟨rfl, hw'⟩; replace hw' := hw'.symm; subst hw') | (go_at_call 118; refine (dpower_calls _ (by with_reducible exact addP_ok _ _) _).mono ?_; rintro e w' ⟨rfl, d, rfl⟩))
      go_roundw
      case rel =>
        have hn := HN.out
        exact ⟨k + 1, _, _, by omega, rfl, by omega, HM.out, (R.drewN _).set _ _ _⟩
      case measure => simp [intOf]; omega
    · have e7 : n = 7 := by omega
      subst e7
      obtain rfl : k = 6 := by omega
      obtain ⟨r0, r1, r2⟩ := fnT_cells R.res
      have f0 := R.res.frozen 0
      have f1 := R.res.frozen 1
      have f2 := R.res.frozen 2
      go_wp2
      have hq := fnT_set3 R.res t.x t.y t.z
      obtain ⟨q0, q1, q2⟩ := fnT_cells hq
      refine bodyPost_ret (v := aggT t) (by simp [results, Tryz.results84, go_sem, q0, q1, q2, aggT]) rfl ⟨by rw [HT.out]; rfl, ?_⟩
      exact ((R.old.setCell (Nat.le_succ _) _).setCell (Nat.le_succ _) _).setCell (Nat.le_succ _) _

theorem dmix3 (x y z : Int) (hx : okP x) (hy : okP y) (hz : okP z) (w : World) : Calls Tryz.prog 84 #[.agg #[.int .u64 x, .int .u64 y, .int .u64 z]] w fun e w' =>
    ∃ m : Tri, Hid (m = mixP ⟨x, y, z⟩) ∧ e = .returned (.agg #[.int .u64 m.x, .int .u64 m.y, .int .u64 m.z]) ∧ Below w.heap.size w w' := by
  refine (dmix_calls ⟨x, y, z⟩ ⟨hx, hy, hz⟩ w).mono ?_
  rintro e w' ⟨rfl, h⟩
  exact ⟨_, rfl, rfl, h⟩

end Go.Proofs.YtfcnnolpcnacoaaGreatDoor.Fx

/- What digest.of, Of, Pair and Word return, whatever words lie there. -/
namespace Go.Proofs.YtfcnnolpcnacoaaGreatDoor.Fx
open Go.RowKit

set_option maxHeartbeats 1600000 in
theorem dof_calls (kind : Int) (hk : okW kind) (a : Option Addr) (len cap : Nat) (xs : List Int) (w : World) (ha : LstW w a len cap xs) (hx : okL xs) (hlen : len ≤ 200) :
    Calls Tryz.prog 63 #[.int .u64 kind, .slice a len cap] w fun e w' => e = .returned (.int .u64 (ofP kind xs)) ∧ Below w.heap.size w w' := by
  obtain ⟨k0, k1⟩ := hk
  have p0 : okP (kind % 2305843009213693951) := ⟨by omega, by omega⟩
  have p1 : okP (len : Int) := ⟨by omega, by omega⟩
  have p2 : okP 1 := ⟨by omega, by omega⟩
  have HX : Hid (okL xs) := hx
  have HL : Hid (xs.length = len) := ha.len
  clear hx
  go_enter Tryz.func63, Tryz.ntmps63
  go_wp2_with (go_at_call 84; refine (dmix3 _ _ _ p0 p1 p2 _).mono ?_; rintro e w1 ⟨m, HM, rfl, hw1⟩)
  go_loopw [17] (fun i wr => ∃ (k : Nat) (t : Tri), k ≤ len ∧ i = .int .i64 k ∧ Hid (t = ofTo kind xs k) ∧ OfRel 131 w w1.heap.size t wr) (fun i _ => len - (intOf i).toNat)
  case atStart => exact ⟨0, m, Nat.zero_le _, rfl, by rw [HM.out, ← HL.out]; rfl, OfRel.start hw1 _ _ _⟩
  case round =>
    obtain ⟨k, t, hk, rfl, HT, R⟩ := hrel
    obtain ⟨c0, c1, c2⟩ := fnT_cells R.box
    by_cases hlt : k < len
    · obtain ⟨b1, o1, y, rfl, s1, g1, HY⟩ := ha.at1b R.old (Nat.le_refl _) hlt
      have ht : t.ok := by rw [HT.out]; exact ofTo_ok _ _ _
      obtain ⟨t0, t1, t2⟩ := ht
      have hy : okW y := by rw [← HY.out]; exact HX.out k (by rw [HL.out]; exact hlt)
      obtain ⟨y0, y1⟩ := hy
      have py : okP (y % 2305843009213693951) := ⟨by omega, by omega⟩
      have f0 := R.box.frozen 0
      clear ha
      go_wp2_with (first | (go_at_call 85; refine (dadd_calls _ _ t0 py _).mono ?_; rintro e w' ⟨rfl, hw'⟩; replace hw' := hw'.symm; subst hw'; rw [addP_mod]) | (go_at_call 84; refine (dmix3 _ _ _ (addP_ok _ _) t1 t2 _).mono ?_; rintro e w2 ⟨m2, HM2, rfl, hw2⟩; have R2 := (R.set0 _).below hw2; obtain ⟨e0, e1, e2⟩ := fnT_cells R2.box; have z0 := R2.box.frozen 0; have z1 := R2.box.frozen 1; have z2 := R2.box.frozen 2))
      go_roundw
      case rel => exact ⟨k + 1, _, by omega, by go_num, by rw [HM2.out, HT.out, ← HY.out]; rfl, R2.set _ _ _⟩
      case measure => simp [intOf]; omega
    · obtain rfl : k = len := by omega
      go_wp2
      go_ret
      exact ⟨ret_word (by rw [HT.out]; unfold ofP; rw [HL.out]), R.old⟩

def bigI (n : Nat) : Int := if 200 < n then 2 else 0
def ofA (kind : Int) (xs : List Int) (n : Nat) : Int := if 200 < n then 0 else ofP kind xs

theorem dOf_calls (kind : Int) (hk : okW kind) (a : Option Addr) (len cap : Nat) (xs : List Int) (w : World) (ha : LstW w a len cap xs) (hx : okL xs) :
    Calls Tryz.prog 47 #[.int .u64 kind, .slice a len cap] w fun e w' => e = .returned (.tuple #[.int .u64 (ofA kind xs len), .int .i64 (bigI len)]) ∧ Below w.heap.size w w' := by
  unfold ofA bigI
  by_cases h : 200 < len
  · rw [if_pos h, if_pos h]
    go_enter Tryz.func47, Tryz.ntmps47
    go_wp2
    go_ret2
    exact ⟨rfl, Below.refl _ _⟩
  · rw [if_neg h, if_neg h]
    go_enter Tryz.func47, Tryz.ntmps47
    go_wp2_with (go_at_call 63; refine (dof_calls _ hk _ _ _ xs _ ha hx (by omega)).mono ?_; rintro e w' ⟨rfl, hw⟩)
    go_ret2
    exact ⟨rfl, hw⟩

theorem okL_two {a b : Int} (ha : okW a) (hb : okW b) : okL [a, b] := by
  intro i hi
  rcases (show i = 0 ∨ i = 1 from by simp at hi; omega) with rfl | rfl
  · exact ha
  · exact hb

theorem dPair_calls (a b : Int) (ha : okW a) (hb : okW b) (w : World) : Calls Tryz.prog 81 #[.int .u64 a, .int .u64 b] w fun e w' => e = .returned (.int .u64 (ofP 3 [a, b])) ∧ Below w.heap.size w w' := by
  go_enter Tryz.func81, Tryz.ntmps81
  go_wp2_with (go_at_call 63; refine (dof_calls _ ⟨by omega, by omega⟩ _ _ _ [a, b] _ (LstW.two _ _ _ _) (okL_two ha hb) (by omega)).mono ?_; rintro e w' ⟨rfl, hw⟩)
  go_ret
  exact ⟨rfl, ((Below.refl _ _).alloc (Nat.le_refl _) _).trans (hw.mono (by simp))⟩

theorem dWord_calls (a b : Int) (ha : okW a) (hb : okW b) (w : World) : Calls Tryz.prog 86 #[.int .u64 a, .int .u64 b] w fun e w' => e = .returned (.int .u64 (ofP 2 [a, b])) ∧ Below w.heap.size w w' := by
  go_enter Tryz.func86, Tryz.ntmps86
  go_wp2_with (go_at_call 63; refine (dof_calls _ ⟨by omega, by omega⟩ _ _ _ [a, b] _ (LstW.two _ _ _ _) (okL_two ha hb) (by omega)).mono ?_; rintro e w' ⟨rfl, hw⟩)
  go_ret
  exact ⟨rfl, ((Below.refl _ _).alloc (Nat.le_refl _) _).trans (hw.mono (by simp))⟩

def numG (xs : List Int) (i : Nat) : Int := boundP (xs.getD i 0)
def numL (xs : List Int) (n : Nat) : List Int := if 200 < n then [] else (List.range n).map (numG xs)
theorem bound_min (x : Int) : (if 4294967296 < if x < -4294967296 then -4294967296 else x then 4294967296 else if x < -4294967296 then -4294967296 else x) + 4294967296 = boundP x := by
  unfold boundP
  by_cases h : x < -4294967296
  · rw [if_pos h, if_pos h, if_neg (by omega)]
  · rw [if_neg h, if_neg h]
theorem infoW : (Tryz.prog.info? 22).map (fun i => (i.zero, i.size, i.bytes)) = some (some (.int .u64 0), 1, 8) := by kernel_rfl

set_option maxHeartbeats 1600000 in
theorem dNumbers_calls (a : Option Addr) (la ca : Nat) (xs : List Int) (w : World) (ha : Lst w a la ca xs) :
    Calls Tryz.prog 150 #[.slice a la ca] w fun e w' => ∃ a' n, e = .returned (.tuple #[.slice a' n n, .int .i64 (bigI la)]) ∧ n ≤ 200 ∧ LstW w' a' n n (numL xs la) ∧ Below w.heap.size w w' := by
  unfold numL bigI
  by_cases hl : 200 < la
  · rw [if_pos hl, if_pos hl]
    clear ha
    go_enter Tryz.func150, Tryz.ntmps150
    go_wp2
    go_ret2
    exact ⟨_, _, rfl, Nat.zero_le _, LstW.nil _ _ _, Below.refl _ _⟩
  · rw [if_neg hl, if_neg hl]
    have hmk := run_make_row' (P := Tryz.prog) 82 22 (.int .u64 0) 8 Tryz.underlying82 infoW rfl .i64 .i64 la (by omega) (by omega)
    go_enter Tryz.func150, Tryz.ntmps150
    go_wp2
    go_loopw [15] (fun i wr => ∃ k : Nat, k ≤ la ∧ i = .int .i64 k ∧ wr.rowIs w.heap.size 22 la (rowToW (numG xs) k) ∧ Below w.heap.size w wr) (fun i _ => la - (intOf i).toNat)
    case atStart => exact ⟨0, Nat.zero_le _, rfl, rowToW_made (World.rowIs_made _ _ _ _), (Below.refl _ _).alloc (Nat.le_refl _) _⟩
    case round =>
      obtain ⟨k, hk, rfl, hrow, hbel⟩ := hrel
      have ha' := ha.below hbel (Nat.le_refl _)
      clear ha hmk
      by_cases hlt : k < la
      · obtain ⟨b1, o1, x, rfl, _, c1, HX⟩ := ha'.at1 hlt
        have c3 := rowToW_cell hrow hlt
        have f3 := hrow.frozen k
        go_wp2
        rw [bound_min]
        go_roundw
        case rel =>
          have st := rowToW_step (g := numG xs) hrow
          simp only [numG, HX.out] at st
          exact ⟨k + 1, by omega, by go_num, st, hbel.setCell (Nat.le_refl _) _⟩
        case measure => simp [intOf]; omega
      · go_wp2
        go_ret2
        obtain rfl : k = la := by omega
        exact ⟨_, _, rfl, by omega, rowToW_lst hrow, hbel⟩

end Go.Proofs.YtfcnnolpcnacoaaGreatDoor.Fx
