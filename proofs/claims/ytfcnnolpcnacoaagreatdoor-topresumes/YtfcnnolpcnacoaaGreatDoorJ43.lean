/- What a store's methods do, whatever lies in it. -/
import Derived.Test.YtfcnnolpcnacoaaGreatDoorJ42
import Derived.BigQuiet
namespace Go.Proofs.YtfcnnolpcnacoaaGreatDoor.Fx
open Go.RowKit

/-- Of what was there only block b may have turned. -/
structure Keeps (b : Nat) (w w' : World) : Prop where
  os : w'.os = w.os
  tape : w'.tape = w.tape
  output : w'.output = w.output
  size : w.heap.size ≤ w'.heap.size
  block : ∀ k, k < w.heap.size → k ≠ b → w'.heap[k]? = w.heap[k]?
theorem Keeps.refl (b : Nat) (w : World) : Keeps b w w := ⟨rfl, rfl, rfl, Nat.le_refl _, fun _ _ _ => rfl⟩
theorem Keeps.trans {b : Nat} {w w1 w2 : World} (h : Keeps b w w1) (g : Keeps b w1 w2) : Keeps b w w2 :=
  ⟨g.os.trans h.os, g.tape.trans h.tape, g.output.trans h.output, Nat.le_trans h.size g.size, fun k hk hb => (g.block k (Nat.lt_of_lt_of_le hk h.size) hb).trans (h.block k hk hb)⟩
theorem Keeps.ofBelow {b : Nat} {w w' : World} (h : Below w.heap.size w w') : Keeps b w w' := ⟨h.os, h.tape, h.output, h.size, fun k hk _ => h.block k hk⟩
theorem Keeps.set (b i : Nat) (w : World) (v : Value) : Keeps b w (w.setCell ⟨b, i, none⟩ v) :=
  ⟨rfl, rfl, rfl, by simp, fun k _ hb => Below.heap_setCell w ⟨b, i, none⟩ v k hb⟩
theorem Keeps.below {b B : Nat} {w0 w w' : World} (h : Keeps b w w') (hB : Below B w0 w) (h1 : B ≤ b) (h2 : B ≤ w.heap.size) : Below B w0 w' :=
  ⟨h.os.trans hB.os, h.tape.trans hB.tape, h.output.trans hB.output, Nat.le_trans hB.size h.size, fun k hk => (h.block k (by omega) (by omega)).trans (hB.block k hk)⟩
theorem Keeps.cell {b : Nat} {w w' : World} (h : Keeps b w w') {a : Addr} (ha : a.block < w.heap.size) (hb : a.block ≠ b) : w'.cell? a = w.cell? a := by
  simp only [World.cell?, h.block _ ha hb]
theorem Lst.keeps {w w' : World} {a : Option Addr} {n c b : Nat} {xs : List Int} (h : Lst w a n c xs) (hk : Keeps b w w') (hne : n = 0 ∨ ∀ bb oo, a = some ⟨bb, oo, none⟩ → bb ≠ b) : Lst w' a n c xs := by
  refine ⟨h.1, h.2.1, ?_⟩
  rcases h.2.2 with h0 | ⟨b', off', e, hs, hc⟩
  · exact .inl h0
  · by_cases h0 : n = 0
    · exact .inl h0
    · exact .inr ⟨b', off', e, Nat.lt_of_lt_of_le hs hk.size, fun i hi => (hk.cell (a := ⟨b', off' + i, none⟩) hs ((hne.resolve_left h0) b' off' e)).trans (hc i hi)⟩

theorem arr_cat2 (x y : List UInt8) : (⟨x.toArray⟩ : ByteArray) ++ ⟨y.toArray⟩ = ⟨(x ++ y).toArray⟩ := by
  apply ByteArray.ext
  simp
def fnS (v0 v1 v2 : Value) (i : Nat) : Value := if i = 0 then v0 else if i = 1 then v1 else v2
theorem ltS {i : Nat} (h : i < 3) : i = 0 ∨ i = 1 ∨ i = 2 := by omega
/-- A store in block b. -/
def StoAt (w : World) (b : Nat) (T : List UInt8) (room sy : Int) : Prop := w.rowIs b 53 3 (fnS (.string ⟨T.toArray⟩) (.int .i64 room) (.int .i64 sy))
theorem StoAt.cells {w : World} {b : Nat} {T : List UInt8} {room sy : Int} (h : StoAt w b T room sy) : w.cell? ⟨b, 0, none⟩ = some (.string ⟨T.toArray⟩) ∧ w.cell? ⟨b, 1, none⟩ = some (.int .i64 room) ∧ w.cell? ⟨b, 2, none⟩ = some (.int .i64 sy) :=
  ⟨h.cell (i := 0) (by omega), h.cell (i := 1) (by omega), h.cell (i := 2) (by omega)⟩
theorem StoAt.lt {w : World} {b : Nat} {T : List UInt8} {room sy : Int} (h : StoAt w b T room sy) : b < w.heap.size := World.rowIs.lt h
theorem StoAt.below {w w' : World} {b : Nat} {T : List UInt8} {room sy : Int} (h : StoAt w b T room sy) (hb : Below w.heap.size w w') : StoAt w' b T room sy := World.rowIs.of_block h (hb.block _ h.lt)
theorem StoAt.setT {w : World} {b : Nat} {T : List UInt8} {room sy : Int} (h : StoAt w b T room sy) (T' : List UInt8) : StoAt (w.setCell ⟨b, 0, none⟩ (.string ⟨T'.toArray⟩)) b T' room sy := by
  refine World.rowIs.congr (World.rowIs.set h 0 _) (fun i hi => ?_)
  rcases ltS hi with rfl | rfl | rfl <;> rfl
theorem StoAt.setS {w : World} {b : Nat} {T : List UInt8} {room sy : Int} (h : StoAt w b T room sy) (x : Int) : StoAt (w.setCell ⟨b, 2, none⟩ (.int .i64 x)) b T room x := by
  refine World.rowIs.congr (World.rowIs.set h 2 _) (fun i hi => ?_)
  rcases ltS hi with rfl | rfl | rfl <;> rfl
theorem StoAt.made (w : World) (room : Int) : StoAt (w.alloc (.cells #[.string ⟨#[]⟩, .int .i64 room, .int .i64 0] 53)) w.heap.size [] room 0 :=
  World.rowIs_alloc w _ 53 _ (by
    intro i hi
    rcases ltS hi with rfl | rfl | rfl <;> rfl)

theorem new_good (room : Int) (h0 : 0 ≤ room) (h1 : room ≤ 8192) (w : World) : Calls Tryz.prog 8 #[.int .i64 room] w fun e w' => e = .returned (.tuple #[.pointer (some ⟨w.heap.size, 0, none⟩), .int .i64 0]) ∧ w' = w.alloc (.cells #[.string ⟨#[]⟩, .int .i64 room, .int .i64 0] 53) := by
  go_enter Tryz.func8, Tryz.ntmps8
  go_wp2
  go_ret2
  exact ⟨rfl, rfl⟩
theorem new_bad (room : Int) (h : room < 0 ∨ 8192 < room) (w : World) : Calls Tryz.prog 8 #[.int .i64 room] w fun e w' => e = .returned (.tuple #[.pointer none, .int .i64 1]) ∧ w' = w := by
  by_cases h0 : room < 0
  · go_enter Tryz.func8, Tryz.ntmps8
    go_wp2
    go_ret2
    exact ⟨rfl, rfl⟩
  · have h1 : 8192 < room := by omega
    clear h
    go_enter Tryz.func8, Tryz.ntmps8
    go_wp2
    go_ret2
    exact ⟨rfl, rfl⟩

theorem sync_calls (b : Nat) (T : List UInt8) (room sy : Int) (w : World) (h : StoAt w b T room sy) :
    Calls Tryz.prog 12 #[.pointer (some ⟨b, 0, none⟩)] w fun e w' => e = .returned (.tuple #[]) ∧ StoAt w' b T room T.length ∧ Keeps b w w' := by
  obtain ⟨c0, c1, c2⟩ := h.cells
  have f2 := World.rowIs.frozen h 2
  have HR := Lib.hid (h.setS T.length)
  obtain ⟨X, HX⟩ : ∃ X : ByteArray, Hid ((⟨T.toArray⟩ : ByteArray) = X) := ⟨_, rfl⟩
  have hx : X.size = T.length := by rw [← HX.out]; rfl
  rw [HX.out] at c0
  clear h
  go_enter Tryz.func12, Tryz.ntmps12
  go_wp2
  go_end0
  exact ⟨rfl, HR.out, Keeps.set _ _ _ _⟩

theorem leave_calls (b : Nat) (T : List UInt8) (room sy : Int) (n : Nat) (hn : n ≤ T.length) (w : World) (h : StoAt w b T room sy) :
    Calls Tryz.prog 23 #[.pointer (some ⟨b, 0, none⟩), .int .i64 n] w fun e w' => e = .returned (.tuple #[]) ∧ StoAt w' b (T.take n) room n ∧ Keeps b w w' := by
  obtain ⟨c0, c1, c2⟩ := h.cells
  have f0 := World.rowIs.frozen h 0
  have HR := Lib.hid (h.setT (T.take n))
  obtain ⟨X, HX⟩ : ∃ X : ByteArray, Hid ((⟨T.toArray⟩ : ByteArray) = X) := ⟨_, rfl⟩
  have hx : X.size = T.length := by rw [← HX.out]; rfl
  have HE : Hid (X.extract 0 n = ⟨(T.take n).toArray⟩) := by show _ = _; rw [← HX.out, take_arr]
  have hlen : (T.take n).length = n := by rw [List.length_take]; omega
  have HSy := Lib.hid (sync_calls b (T.take n) room sy _ (h.setT (T.take n)))
  rw [HX.out] at c0
  have n0 : (0 : Int) ≤ (n : Int) := by omega
  have n1 : (n : Int) ≤ (X.size : Int) := by omega
  rw [hlen] at HSy
  clear h hlen
  go_enter Tryz.func23, Tryz.ntmps23
  go_wp2_with fail
  rw [HE.out]
  refine HSy.out.mono ?_
  rintro e w1 ⟨rfl, S1, K1⟩
  go_wp2
  go_end0
  exact ⟨rfl, S1, (Keeps.set _ _ _ _).trans K1⟩

/-- How many bytes are left. -/
def crN (len sy : Nat) (keep : Int) : Nat := sy + (min (max keep 0) ((len : Int) - (sy : Int))).toNat
theorem crN_le {len sy : Nat} (keep : Int) (h : sy ≤ len) : sy ≤ crN len sy keep ∧ crN len sy keep ≤ len := by unfold crN; omega

set_option maxHeartbeats 800000 in
theorem crash_calls (b : Nat) (T : List UInt8) (room : Int) (sy : Nat) (hsy : sy ≤ T.length) (hT : T.length ≤ 8192) (keep : Int) (w : World) (h : StoAt w b T room sy) :
    Calls Tryz.prog 13 #[.pointer (some ⟨b, 0, none⟩), .int .i64 keep] w fun e w' => e = .returned (.tuple #[]) ∧ StoAt w' b (T.take (crN T.length sy keep)) room (crN T.length sy keep) ∧ Keeps b w w' := by
  obtain ⟨c0, c1, c2⟩ := h.cells
  obtain ⟨X, HX⟩ : ∃ X : ByteArray, Hid ((⟨T.toArray⟩ : ByteArray) = X) := ⟨_, rfl⟩
  have hx : X.size = T.length := by rw [← HX.out]; rfl
  rw [HX.out] at c0
  have hcr := crN_le keep hsy
  obtain ⟨N, HN⟩ : ∃ N, Hid (crN T.length sy keep = N) := ⟨_, rfl⟩
  rw [HN.out] at hcr
  have hd0 : w.drew.cell? ⟨b, 0, none⟩ = some (.string X) := c0
  have wr1 : IntKind.i64.wrap ((T.length : Int) - (sy : Int)) = (T.length : Int) - (sy : Int) := wrap_in _ (by omega) (by omega)
  obtain ⟨M, HM⟩ : ∃ M : Int, Hid (min (max keep 0) ((T.length : Int) - (sy : Int)) = M) := ⟨_, rfl⟩
  have hM : (sy : Int) + M = (N : Int) := by
    have h1 := HN.out
    have h2 := HM.out
    unfold crN at h1
    omega
  have wr2 : IntKind.i64.wrap ((sy : Int) + M) = (N : Int) := by rw [hM]; exact wrap_in _ (by omega) (by omega)
  have HLv := Lib.hid (fun q (hq : StoAt q b T room sy) => leave_calls b T room sy N (by omega) q hq)
  have Hdr : Hid (StoAt w.drew b T room sy) := h
  rw [HN.out]
  have hmm : min (max keep 0) ((T.length : Int) - (sy : Int)) = M := HM.out
  clear h
  go_enter Tryz.func13, Tryz.ntmps13
  go_wp2
  go_region
  all_goals
    go_wp2_with fail
    refine (HLv.out _ Hdr.out).mono ?_
    rintro e w1 ⟨rfl, S1, K1⟩
    go_wp2
    go_end0
    exact ⟨rfl, S1, (Keeps.ofBelow (Below.drew (Below.refl _ _))).trans K1⟩

/-- The records of a store. -/
def RecordsR (T : List UInt8) (w : World) (e : Ending) (w' : World) : Prop :=
  ∃ (ls : List Ln) (a : Option Addr) (c : Nat) (R : Nat → Rcm), Beg T ls ∧ (∀ j, j < ls.length → (R j).ln (lnAt ls j).b = lnAt ls j) ∧ Recs w' a ls.length c R (fun j => (lnAt ls j).b) ∧ FreshR w a R ls.length ∧ e = .returned (.slice a ls.length c)
theorem records_calls (b : Nat) (T : List UInt8) (room sy : Int) (hT : T.length ≤ 8192) (w : World) (h : StoAt w b T room sy) (hL : LD w) :
    Calls Tryz.prog 10 #[.pointer (some ⟨b, 0, none⟩)] w fun e w' => RecordsR T w e w' ∧ Below w.heap.size w w' := by
  obtain ⟨c0, c1, c2⟩ := h.cells
  have HC := Lib.hid (right_calls ⟨T.toArray⟩ T w (Lib.hid rfl) (by rw [sz_arr]; omega) hL)
  obtain ⟨X, HX⟩ : ∃ X : ByteArray, Hid ((⟨T.toArray⟩ : ByteArray) = X) := ⟨_, rfl⟩
  rw [HX.out] at c0 HC
  clear h hL
  go_enter Tryz.func10, Tryz.ntmps10
  go_wp2_with fail
  refine HC.out.mono ?_
  rintro e w1 ⟨⟨ls, a, c, R, hB, hE, hR, hF, rfl⟩, hw1⟩
  go_wp2
  go_ret
  exact ⟨⟨ls, a, c, R, hB, hE, hR, hF, rfl⟩, hw1⟩

theorem repair_calls (b : Nat) (T : List UInt8) (room sy : Int) (hT : T.length ≤ 8192) (w : World) (h : StoAt w b T room sy) (hL : LD w) :
    Calls Tryz.prog 14 #[.pointer (some ⟨b, 0, none⟩)] w fun e w' => ∃ (ls : List Ln) (N : Nat), Beg T ls ∧ Hid ((flatLn ls).length = N) ∧ N ≤ T.length ∧ e = .returned (.int .i64 ((T.length : Int) - (N : Int))) ∧ StoAt w' b (T.take N) room N ∧ Keeps b w w' := by
  obtain ⟨c0, c1, c2⟩ := h.cells
  have HC := Lib.hid (right_calls ⟨T.toArray⟩ T w (Lib.hid rfl) (by rw [sz_arr]; omega) hL)
  obtain ⟨X, HX⟩ : ∃ X : ByteArray, Hid ((⟨T.toArray⟩ : ByteArray) = X) := ⟨_, rfl⟩
  have hx : X.size = T.length := by rw [← HX.out]; rfl
  have HSt : Hid (∀ q, Below w.heap.size w q → StoAt q b T room sy) := fun q hq => h.below hq
  rw [HX.out] at c0 HC
  clear h hL
  go_enter Tryz.func14, Tryz.ntmps14
  go_wp2_with fail
  refine HC.out.mono ?_
  rintro e w1 ⟨⟨ls, a, c, R, hB, hE, hR, hF, rfl⟩, hw1⟩
  have S1 := HSt.out _ hw1
  obtain ⟨N, HN⟩ : ∃ N, Hid ((flatLn ls).length = N) := ⟨_, rfl⟩
  have hN : N ≤ T.length := by rw [← HN.out]; exact hB.toBegTo.le
  have HLv := Lib.hid (leave_calls b T room sy N hN w1 S1)
  obtain ⟨d0, d1, d2⟩ := S1.cells
  rw [HX.out] at d0
  rw [HN.out]
  have HB := Lib.hid hB
  clear hB hE hR hF c0 c1 c2
  go_wp2_with fail
  refine HLv.out.mono ?_
  rintro e w2 ⟨rfl, S2, K2⟩
  go_wp2
  go_ret
  exact ⟨ls, N, HB.out, HN, hN, rfl, S2, (Keeps.ofBelow hw1).trans K2⟩

/-- What an append leaves: its error, and the bytes. -/
def AppR (l : Ln) (T : List UInt8) (room : Int) (E : Int) (T' : List UInt8) : Prop :=
  (¬ l.ok ∧ E = 5 ∧ T' = T) ∨ (l.ok ∧ room < ((T.length + l.text.length : Nat) : Int) ∧ E = 6 ∧ T' = T) ∨ (l.ok ∧ ((T.length + l.text.length : Nat) : Int) ≤ room ∧ E = 0 ∧ T' = T ++ l.text)

set_option maxRecDepth 100000 in
set_option maxHeartbeats 1600000 in
theorem append_calls (b : Nat) (T : List UInt8) (room sy : Int) (hT : T.length ≤ 8192) (x : Rcm) (D : List Int) (w : World) (h : StoAt w b T room sy) (hl : Lst w x.a x.n x.k D) (hr : 0 ≤ x.root) (hc : 0 ≤ x.chain) (hL : LD w) :
    Calls Tryz.prog 11 #[.pointer (some ⟨b, 0, none⟩), x.val] w fun e w' => ∃ (E : Int) (T' : List UInt8), AppR (x.ln D) T room E T' ∧ e = .returned (.int .i64 E) ∧ StoAt w' b T' room sy ∧ Keeps b w w' := by
  have hal := (Below.refl w.heap.size w).alloc (Nat.le_refl _) (.cells x.cells 40)
  have HPr : Hid (∀ q, Below w.heap.size w q → Calls Tryz.prog 22 #[x.val] q fun e w' => PrintR (x.ln D) e ∧ Below q.heap.size q w') := fun q hq => print_calls x D q (hl.below hq (Nat.le_refl _)) hr hc (hL.below hq (Nat.le_refl _))
  have HSt : Hid (∀ q, Below w.heap.size w q → StoAt q b T room sy) := fun q hq => h.below hq
  generalize x.ln D = l at *
  clear hl hr hc hL h
  obtain ⟨xs, xa, xn, xk, xr, xroot, xchain⟩ := x
  simp only [Rcm.val, Rcm.cells] at *
  go_enter Tryz.func11, Tryz.ntmps11
  go_wp2_with fail
  refine (HPr.out _ hal).mono ?_
  rintro e w1 ⟨hp, hw1⟩
  have T1 := hal.trans (hw1.mono hal.size)
  have S1 := HSt.out _ T1
  rcases hp with ⟨hok, rfl⟩ | ⟨hno, rfl⟩
  rotate_left
  · have HNo := Lib.hid hno
    clear hno
    go_wp2
    go_ret
    exact ⟨5, T, .inl ⟨HNo.out, rfl, rfl⟩, rfl, S1, Keeps.ofBelow T1⟩
  have hsh := hok.short
  have HOk := Lib.hid hok
  obtain ⟨c0, c1, c2⟩ := S1.cells
  have f0 := World.rowIs.frozen S1 0
  obtain ⟨X, HX⟩ : ∃ X : ByteArray, Hid ((⟨T.toArray⟩ : ByteArray) = X) := ⟨_, rfl⟩
  have hx : X.size = T.length := by rw [← HX.out]; rfl
  obtain ⟨Y, HY⟩ : ∃ Y : ByteArray, Hid ((⟨l.text.toArray⟩ : ByteArray) = Y) := ⟨_, rfl⟩
  obtain ⟨YN, HYN⟩ : ∃ n, Hid (l.text.length = n) := ⟨_, rfl⟩
  have hy : Y.size = YN := by rw [← HY.out, ← HYN.out]; rfl
  rw [HYN.out] at hsh
  rw [HX.out] at c0
  rw [HY.out]
  have wr1 : IntKind.i64.wrap ((T.length : Int) + (YN : Int)) = (T.length : Int) + (YN : Int) := wrap_in _ (by omega) (by omega)
  have hcat : ¬ 9223372036854775807 < X.size + Y.size := by omega
  have hcat2 : ¬ 9223372036854775807 < T.length + YN := by omega
  have HRes : Hid (Value.string (X ++ Y) = .string ⟨(T ++ l.text).toArray⟩) := by show _ = _; rw [← HX.out, ← HY.out, arr_cat2]
  have Hdr : Hid (StoAt w1.drew b T room sy) := S1
  by_cases hfull : room < (T.length : Int) + (YN : Int)
  · clear hok S1
    go_wp2
    go_region
    all_goals
      go_wp2
      go_ret
      exact ⟨6, T, .inr (.inl ⟨HOk.out, by rw [HYN.out]; omega, rfl, rfl⟩), rfl, Hdr.out, Keeps.ofBelow (Below.drew T1)⟩
  · have HS2 := Lib.hid (Hdr.out.setT (T ++ l.text))
    clear hok S1
    go_wp2
    go_region
    all_goals
      go_wp2
      go_ret
      rw [HRes.out]
      exact ⟨0, T ++ l.text, .inr (.inr ⟨HOk.out, by rw [HYN.out]; omega, rfl, rfl⟩), rfl, HS2.out, (Keeps.ofBelow (Below.drew T1)).trans (Keeps.set _ _ _ _)⟩
end Go.Proofs.YtfcnnolpcnacoaaGreatDoor.Fx
