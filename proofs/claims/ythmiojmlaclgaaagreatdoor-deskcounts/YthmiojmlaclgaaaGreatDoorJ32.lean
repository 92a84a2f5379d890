/- What a desk does with a line of at least one word. -/
import Derived.Test.YthmiojmlaclgaaaGreatDoorJ30
import Derived.Test.YthmiojmlaclgaaaGreatDoorJ31
import Derived.Test.YthmiojmlaclgaaaGreatDoorJ25
import Derived.Lib.OthersKept
import Derived.Test.YthmiojmlaclgaaaGreatDoorJ20
import Derived.Shelf.Strings.BuilderK
import Derived.Test.YthmiojmlaclgaaaGreatDoorJ24
namespace Go.Proofs.YthmiojmlaclgaaaGreatDoor.Fx
open Go.RowKit

variable {base : Nat} {w w' : World} {b s : Nat} {d : Dsk} {a : Option Addr} {cap : Nat} {X : Nat → Exm}
theorem DkIn.drewN (h : DkIn base w b s d a cap X) (k : Nat) : DkIn base (w.drewN k) b s d a cap X := h.below (below_drewN (Below.refl _ _) k)

set_option maxRecDepth 100000 in
set_option maxHeartbeats 3200000 in
theorem do_data (h : DkIn base w b s d a cap X) (al : Option Addr) (nl cl : Nat) (ws : List (List UInt8)) (hl : LstS w al nl cl ws) (hn1 : 1 ≤ nl) (hn : nl ≤ 70000) (hw : ∀ i, (ws.getD i []).length ≤ 70000) (hv : ws.headD [] = [100, 97, 116, 97]) : Calls Tryz.prog 18 #[.pointer (some ⟨b, 0, none⟩), .slice al nl cl] w fun e w' => DoR base b s w (dStep d ws) e w' := by
  have hlen := hl.len
  have hcap := hl.cap
  have ehd : ws.headD [] = ws.getD 0 [] := by cases ws <;> rfl
  obtain ⟨g0, o0, rfl, hg0, hcl⟩ := hl.at (by omega)
  have c0 := hcl 0 (by omega)
  clear hcl
  rw [Nat.add_zero] at c0
  obtain ⟨v, HVL⟩ : ∃ t, Hid (ws.getD 0 [] = t) := ⟨_, rfl⟩
  rw [HVL.out] at c0 ehd
  obtain ⟨V, HV⟩ : ∃ X : ByteArray, Hid ((⟨v.toArray⟩ : ByteArray) = X) := ⟨_, rfl⟩
  have c0d : ∀ k, (w.drewN k).cell? ⟨g0, o0, none⟩ = some (.string ⟨v.toArray⟩) := fun _ => c0
  rw [ehd] at hv
  have e0 := hv
  have q0 : (V.toList == [100, 97, 116, 97]) = true := by rw [← HV.out]; exact (strEqL v [100, 97, 116, 97]).trans (decide_eq_true e0)
  have HD : Hid (dStep d ws = dData (ws.drop 1) d) := by show _ = _; unfold dStep; rw [ehd, if_pos hv]
  have HAE : Hid (∀ k aa, (1 < nl → aa = some ⟨g0, o0 + 1, none⟩) → Calls Tryz.prog 30 #[.pointer (some ⟨b, 0, none⟩), .slice aa (nl - 1) (cl - 1)] (w.drewN k) fun e w' => DoR base b s (w.drewN k) (dData (ws.drop 1) d) e w') := fun k aa ha => addExample_calls (h.drewN k) aa _ _ _ ((hl.below (below_drewN (Below.refl _ _) k) (Nat.le_refl _)).rest (by omega) aa ha) (by omega) (getD_drop_len hw 1)
  obtain ⟨rs, HRS⟩ : ∃ t, Hid (ws.drop 1 = t) := ⟨_, rfl⟩
  rw [HRS.out] at HD HAE
  rw [HV.out] at c0d c0
  have n1 : (1 : Int) ≤ ((nl : Nat) : Int) := by omega
  have n2 : ((nl : Nat) : Int) ≤ (cl : Int) := by omega
  have n3 : (0 : Int) < ((nl : Nat) : Int) := by omega
  have n4 : 0 < nl := by omega
  clear hw
  by_cases hc1 : cl = 1
  · obtain rfl : nl = 1 := by omega
    subst hc1
    go_enter Tryz.func18, Tryz.ntmps18
    go_wp2_with fail
    go_quiet (fail)
    go_wp2_with fail
    refine (HAE.out _ _ (fun hlt => by omega)).mono ?_
    rintro e w1 ⟨rfl, hk, hc⟩
    go_wp2_with fail
    go_ret2
    exact ⟨by rw [HD.out]; rfl, by rw [HD.out]; exact hk, (DkCh.ofBelow (below_drewN (Below.refl _ _) _) h.lt).trans hc⟩
  · have n5 : ¬ cl = 1 := hc1
    go_enter Tryz.func18, Tryz.ntmps18
    go_wp2_with fail
    go_quiet (fail)
    go_wp2_with fail
    refine (HAE.out _ _ (fun _ => rfl)).mono ?_
    rintro e w1 ⟨rfl, hk, hc⟩
    go_wp2_with fail
    go_ret2
    exact ⟨by rw [HD.out]; rfl, by rw [HD.out]; exact hk, (DkCh.ofBelow (below_drewN (Below.refl _ _) _) h.lt).trans hc⟩

set_option maxRecDepth 100000 in
set_option maxHeartbeats 3200000 in
theorem do_alone (h : DkIn base w b s d a cap X) (al : Option Addr) (nl cl : Nat) (ws : List (List UInt8)) (hl : LstS w al nl cl ws) (hn1 : 1 ≤ nl) (hn : nl ≤ 70000) (hw : ∀ i, (ws.getD i []).length ≤ 70000) (hv : ws.headD [] ≠ [100, 97, 116, 97]) (hr : ws.drop 1 = []) : Calls Tryz.prog 18 #[.pointer (some ⟨b, 0, none⟩), .slice al nl cl] w fun e w' => DoR base b s w (dStep d ws) e w' := by
  have hlen := hl.len
  have hcap := hl.cap
  have ehd : ws.headD [] = ws.getD 0 [] := by cases ws <;> rfl
  obtain ⟨g0, o0, rfl, hg0, hcl⟩ := hl.at (by omega)
  have c0 := hcl 0 (by omega)
  clear hcl
  rw [Nat.add_zero] at c0
  obtain ⟨v, HVL⟩ : ∃ t, Hid (ws.getD 0 [] = t) := ⟨_, rfl⟩
  rw [HVL.out] at c0 ehd
  obtain ⟨V, HV⟩ : ∃ X : ByteArray, Hid ((⟨v.toArray⟩ : ByteArray) = X) := ⟨_, rfl⟩
  have c0d : ∀ k, (w.drewN k).cell? ⟨g0, o0, none⟩ = some (.string ⟨v.toArray⟩) := fun _ => c0
  rw [ehd] at hv
  have e0 := hv
  have q0 : (V.toList == [100, 97, 116, 97]) = false := by rw [← HV.out]; exact (strEqL v [100, 97, 116, 97]).trans (decide_eq_false e0)
  have HD : Hid (dStep d ws = dAlone v d) := by show _ = _; unfold dStep; rw [ehd, if_neg hv, if_pos hr]
  have hn2 : nl = 1 := by have := congrArg List.length hr; rw [List.length_drop] at this; simp at this; omega
  subst hn2
  have HAL : Hid (∀ k, Calls Tryz.prog 31 #[.pointer (some ⟨b, 0, none⟩), .string V] (w.drewN k) fun e w' => DoR base b s (w.drewN k) (dAlone v d) e w') := fun k => by rw [← HV.out]; exact alone_calls (h.drewN k) v
  rw [HV.out] at c0d c0
  have n1 : (1 : Int) ≤ (1 : Int) := by omega
  have n2 : (1 : Int) ≤ (cl : Int) := by omega
  have n3 : (0 : Int) < (1 : Int) := by omega
  have n4 : 0 < 1 := by omega
  clear hw
  by_cases hc1 : cl = 1
  · subst hc1
    go_enter Tryz.func18, Tryz.ntmps18
    go_wp2_with fail
    go_quiet (fail)
    go_wp2_with fail
    refine (HAL.out _).mono ?_
    rintro e w1 ⟨rfl, hk, hc⟩
    go_wp2_with fail
    go_ret2
    exact ⟨by rw [HD.out]; rfl, by rw [HD.out]; exact hk, (DkCh.ofBelow (below_drewN (Below.refl _ _) _) h.lt).trans hc⟩
  · have n5 : ¬ cl = 1 := hc1
    go_enter Tryz.func18, Tryz.ntmps18
    go_wp2_with fail
    go_quiet (fail)
    go_wp2_with fail
    refine (HAL.out _).mono ?_
    rintro e w1 ⟨rfl, hk, hc⟩
    go_wp2_with fail
    go_ret2
    exact ⟨by rw [HD.out]; rfl, by rw [HD.out]; exact hk, (DkCh.ofBelow (below_drewN (Below.refl _ _) _) h.lt).trans hc⟩

set_option maxRecDepth 100000 in
set_option maxHeartbeats 3200000 in
theorem do_nonum (h : DkIn base w b s d a cap X) (al : Option Addr) (nl cl : Nat) (ws : List (List UInt8)) (hl : LstS w al nl cl ws) (hn1 : 1 ≤ nl) (hn : nl ≤ 70000) (hw : ∀ i, (ws.getD i []).length ≤ 70000) (hv : ws.headD [] ≠ [100, 97, 116, 97]) (hr : ws.drop 1 ≠ []) (hz : numsO (ws.drop 1) = none) : Calls Tryz.prog 18 #[.pointer (some ⟨b, 0, none⟩), .slice al nl cl] w fun e w' => DoR base b s w (dStep d ws) e w' := by
  have hlen := hl.len
  have hcap := hl.cap
  have ehd : ws.headD [] = ws.getD 0 [] := by cases ws <;> rfl
  obtain ⟨g0, o0, rfl, hg0, hcl⟩ := hl.at (by omega)
  have c0 := hcl 0 (by omega)
  clear hcl
  rw [Nat.add_zero] at c0
  obtain ⟨v, HVL⟩ : ∃ t, Hid (ws.getD 0 [] = t) := ⟨_, rfl⟩
  rw [HVL.out] at c0 ehd
  obtain ⟨V, HV⟩ : ∃ X : ByteArray, Hid ((⟨v.toArray⟩ : ByteArray) = X) := ⟨_, rfl⟩
  have c0d : ∀ k, (w.drewN k).cell? ⟨g0, o0, none⟩ = some (.string ⟨v.toArray⟩) := fun _ => c0
  rw [ehd] at hv
  have e0 := hv
  have q0 : (V.toList == [100, 97, 116, 97]) = false := by rw [← HV.out]; exact (strEqL v [100, 97, 116, 97]).trans (decide_eq_false e0)
  have hn2 : 2 ≤ nl := by
    cases ws with
    | nil => simp at hr
    | cons x r =>
      cases r with
      | nil => simp at hr
      | cons y r => simp at hlen; omega
  have HD : Hid (dStep d ws = ⟨[], 3, d⟩) := by
    show _ = _
    unfold dStep
    rw [ehd, if_neg hv, if_neg hr, hz]
  have hzl : True := trivial
  have HNB : Hid (∀ k, Calls Tryz.prog 32 #[.slice (some ⟨g0, o0 + 1, none⟩) (nl - 1) (cl - 1)] (w.drewN k) fun e w' => NumsR (ws.drop 1) (nl - 1) (w.drewN k) e w' ∧ Below (w.drewN k).heap.size (w.drewN k) w') := fun k => numbersOf_calls _ _ _ _ _ ((hl.below (below_drewN (Below.refl _ _) k) (Nat.le_refl _)).rest (by omega) _ (fun _ => rfl)) (by omega) (getD_drop_len hw 1) (h.drewN k).ld
  obtain ⟨rs, HRS⟩ : ∃ t, Hid (ws.drop 1 = t) := ⟨_, rfl⟩
  rw [HRS.out] at HNB hz
  rw [HV.out] at c0d c0
  have n1 : (1 : Int) ≤ (nl : Int) := by omega
  have n2 : (nl : Int) ≤ (cl : Int) := by omega
  have n3 : (0 : Int) < (nl : Int) := by omega
  have n4 : 0 < nl := by omega
  have n5 : ¬ cl = 1 := by omega
  have n6 : (((nl - 1 : Nat) : Int) == 0) = false := by rw [beq_eq_false_iff_ne]; omega
  clear hw
  go_enter Tryz.func18, Tryz.ntmps18
  go_wp2_with fail
  go_quiet (fail)
  go_wp2_with fail
  refine (HNB.out _).mono ?_
  rintro e w1 ⟨hr1, hw1⟩
  have hd1 : Below w.heap.size w w1 := (below_drewN (Below.refl _ _) _).trans hw1
  rcases hr1 with ⟨z', hz', _⟩ | ⟨_, rfl⟩
  · rw [hz] at hz'; cases hz'
  have h1 := h.below hd1
  go_wp2_with fail
  go_ret2
  exact ⟨by rw [HD.out]; rfl, ⟨a, cap, X, by rw [HD.out]; exact h1⟩, DkCh.ofBelow hd1 h.lt⟩

set_option maxRecDepth 100000 in
set_option maxHeartbeats 3200000 in
theorem do_config (h : DkIn base w b s d a cap X) (al : Option Addr) (nl cl : Nat) (ws : List (List UInt8)) (hl : LstS w al nl cl ws) (hn1 : 1 ≤ nl) (hn : nl ≤ 70000) (hw : ∀ i, (ws.getD i []).length ≤ 70000) (hv : ws.headD [] ≠ [100, 97, 116, 97]) (hr : ws.drop 1 ≠ []) (z : List Int) (hz : numsO (ws.drop 1) = some z) (e1 : ws.headD [] = [99, 111, 110, 102, 105, 103]) (hzn : z.length = 11) : Calls Tryz.prog 18 #[.pointer (some ⟨b, 0, none⟩), .slice al nl cl] w fun e w' => DoR base b s w (dStep d ws) e w' := by
  have hlen := hl.len
  have hcap := hl.cap
  have ehd : ws.headD [] = ws.getD 0 [] := by cases ws <;> rfl
  obtain ⟨g0, o0, rfl, hg0, hcl⟩ := hl.at (by omega)
  have c0 := hcl 0 (by omega)
  clear hcl
  rw [Nat.add_zero] at c0
  obtain ⟨v, HVL⟩ : ∃ t, Hid (ws.getD 0 [] = t) := ⟨_, rfl⟩
  rw [HVL.out] at c0 ehd
  obtain ⟨V, HV⟩ : ∃ X : ByteArray, Hid ((⟨v.toArray⟩ : ByteArray) = X) := ⟨_, rfl⟩
  have c0d : ∀ k, (w.drewN k).cell? ⟨g0, o0, none⟩ = some (.string ⟨v.toArray⟩) := fun _ => c0
  rw [ehd] at hv
  have e0 := hv
  rw [ehd] at e1
  have q0 : (V.toList == [100, 97, 116, 97]) = false := by rw [← HV.out]; exact (strEqL v [100, 97, 116, 97]).trans (decide_eq_false e0)
  have q1 : (V.toList == [99, 111, 110, 102, 105, 103]) = true := by rw [← HV.out]; exact (strEqL v [99, 111, 110, 102, 105, 103]).trans (decide_eq_true e1)
  have hn2 : 2 ≤ nl := by
    cases ws with
    | nil => simp at hr
    | cons x r =>
      cases r with
      | nil => simp at hr
      | cons y r => simp at hlen; omega
  have HD : Hid (dStep d ws = dConf z d) := by
    show _ = _
    unfold dStep
    rw [ehd, if_neg hv, if_neg hr, hz]
    show dNums v z d = _
    unfold dNums
    rw [if_pos ⟨e1, hzn⟩]
  have hzl : z.length = nl - 1 := by rw [numsO_len hz, List.length_drop]; omega
  have HNB : Hid (∀ k, Calls Tryz.prog 32 #[.slice (some ⟨g0, o0 + 1, none⟩) (nl - 1) (cl - 1)] (w.drewN k) fun e w' => NumsR (ws.drop 1) (nl - 1) (w.drewN k) e w' ∧ Below (w.drewN k).heap.size (w.drewN k) w') := fun k => numbersOf_calls _ _ _ _ _ ((hl.below (below_drewN (Below.refl _ _) k) (Nat.le_refl _)).rest (by omega) _ (fun _ => rfl)) (by omega) (getD_drop_len hw 1) (h.drewN k).ld
  obtain ⟨rs, HRS⟩ : ∃ t, Hid (ws.drop 1 = t) := ⟨_, rfl⟩
  rw [HRS.out] at HNB hz
  obtain rfl : nl = 12 := by omega
  have HZB := Lib.hid (numsO_bd hz)
  simp only [Nat.reduceSub] at HNB
  rw [HV.out] at c0d c0
  have n2 : (12 : Int) ≤ (cl : Int) := by omega
  have n5 : ¬ cl = 1 := by omega
  clear hw
  go_enter Tryz.func18, Tryz.ntmps18
  go_wp2_with fail
  go_quiet (fail)
  go_wp2_with fail
  refine (HNB.out _).mono ?_
  rintro e w1 ⟨hr1, hw1⟩
  have hd1 : Below w.heap.size w w1 := (below_drewN (Below.refl _ _) _).trans hw1
  rcases hr1 with ⟨z', hz', rfl, lz, hlt1, _⟩ | ⟨hz', _⟩
  rotate_left
  · rw [hz] at hz'; cases hz'
  obtain rfl : z = z' := by rw [hz] at hz'; simpa using hz'
  clear hz'
  have h1 := h.below hd1
  go_wp2_with fail
  refine (configure_calls h1 _ z lz HZB.out).mono ?_
  rintro e w2 ⟨rfl, hk, hc⟩
  go_wp2_with fail
  go_ret2
  exact ⟨by rw [HD.out]; rfl, by rw [HD.out]; exact hk, (DkCh.ofBelow hd1 h.lt).trans hc⟩

set_option maxRecDepth 100000 in
set_option maxHeartbeats 3200000 in
theorem do_crash (h : DkIn base w b s d a cap X) (al : Option Addr) (nl cl : Nat) (ws : List (List UInt8)) (hl : LstS w al nl cl ws) (hn1 : 1 ≤ nl) (hn : nl ≤ 70000) (hw : ∀ i, (ws.getD i []).length ≤ 70000) (hv : ws.headD [] ≠ [100, 97, 116, 97]) (hr : ws.drop 1 ≠ []) (z : List Int) (hz : numsO (ws.drop 1) = some z) (e1 : ws.headD [] ≠ [99, 111, 110, 102, 105, 103]) (e2 : ws.headD [] = [99, 114, 97, 115, 104]) (hzn : z.length = 1) : Calls Tryz.prog 18 #[.pointer (some ⟨b, 0, none⟩), .slice al nl cl] w fun e w' => DoR base b s w (dStep d ws) e w' := by
  have hlen := hl.len
  have hcap := hl.cap
  have ehd : ws.headD [] = ws.getD 0 [] := by cases ws <;> rfl
  obtain ⟨g0, o0, rfl, hg0, hcl⟩ := hl.at (by omega)
  have c0 := hcl 0 (by omega)
  clear hcl
  rw [Nat.add_zero] at c0
  obtain ⟨v, HVL⟩ : ∃ t, Hid (ws.getD 0 [] = t) := ⟨_, rfl⟩
  rw [HVL.out] at c0 ehd
  obtain ⟨V, HV⟩ : ∃ X : ByteArray, Hid ((⟨v.toArray⟩ : ByteArray) = X) := ⟨_, rfl⟩
  have c0d : ∀ k, (w.drewN k).cell? ⟨g0, o0, none⟩ = some (.string ⟨v.toArray⟩) := fun _ => c0
  rw [ehd] at hv
  have e0 := hv
  rw [ehd] at e1 e2
  have q0 : (V.toList == [100, 97, 116, 97]) = false := by rw [← HV.out]; exact (strEqL v [100, 97, 116, 97]).trans (decide_eq_false e0)
  have q1 : (V.toList == [99, 111, 110, 102, 105, 103]) = false := by rw [← HV.out]; exact (strEqL v [99, 111, 110, 102, 105, 103]).trans (decide_eq_false e1)
  have q2 : (V.toList == [99, 114, 97, 115, 104]) = true := by rw [← HV.out]; exact (strEqL v [99, 114, 97, 115, 104]).trans (decide_eq_true e2)
  have hn2 : 2 ≤ nl := by
    cases ws with
    | nil => simp at hr
    | cons x r =>
      cases r with
      | nil => simp at hr
      | cons y r => simp at hlen; omega
  have HD : Hid (dStep d ws = dCrash (z.getD 0 0) d) := by
    show _ = _
    unfold dStep
    rw [ehd, if_neg hv, if_neg hr, hz]
    show dNums v z d = _
    unfold dNums
    rw [if_neg (fun h => e1 h.1), if_pos ⟨e2, hzn⟩]
  have hzl : z.length = nl - 1 := by rw [numsO_len hz, List.length_drop]; omega
  have HNB : Hid (∀ k, Calls Tryz.prog 32 #[.slice (some ⟨g0, o0 + 1, none⟩) (nl - 1) (cl - 1)] (w.drewN k) fun e w' => NumsR (ws.drop 1) (nl - 1) (w.drewN k) e w' ∧ Below (w.drewN k).heap.size (w.drewN k) w') := fun k => numbersOf_calls _ _ _ _ _ ((hl.below (below_drewN (Below.refl _ _) k) (Nat.le_refl _)).rest (by omega) _ (fun _ => rfl)) (by omega) (getD_drop_len hw 1) (h.drewN k).ld
  obtain ⟨rs, HRS⟩ : ∃ t, Hid (ws.drop 1 = t) := ⟨_, rfl⟩
  rw [HRS.out] at HNB hz
  obtain rfl : nl = 2 := by omega
  simp only [Nat.reduceSub] at HNB
  rw [HV.out] at c0d c0
  have n2 : (2 : Int) ≤ (cl : Int) := by omega
  have n5 : ¬ cl = 1 := by omega
  clear hw
  go_enter Tryz.func18, Tryz.ntmps18
  go_wp2_with fail
  go_quiet (fail)
  go_wp2_with fail
  refine (HNB.out _).mono ?_
  rintro e w1 ⟨hr1, hw1⟩
  have hd1 : Below w.heap.size w w1 := (below_drewN (Below.refl _ _) _).trans hw1
  rcases hr1 with ⟨z', hz', rfl, lz, hlt1, _⟩ | ⟨hz', _⟩
  rotate_left
  · rw [hz] at hz'; cases hz'
  obtain rfl : z = z' := by rw [hz] at hz'; simpa using hz'
  clear hz'
  have h1 := h.below hd1
  obtain ⟨g', o', e', _, hcz⟩ := lz.at (by omega)
  simp only [Option.some.injEq, Addr.mk.injEq, and_true] at e'
  obtain ⟨rfl, rfl⟩ := e'
  have z0 := hcz 0 (by omega)
  clear hcz
  rw [Nat.add_zero] at z0
  obtain ⟨kp, HK⟩ : ∃ t, Hid (z.getD 0 0 = t) := ⟨_, rfl⟩
  rw [HK.out] at z0 HD
  have c12 := h1.cells.2.2
  replace z0 : w1.cell? ⟨w.heap.size, 0, none⟩ = some (.int .i64 kp) := z0
  have hlt2 : w.heap.size < w1.heap.size := hlt1
  have hsl := h.st.lt
  have hcr := crN_le kp h.ok.sy
  have hok' : Dsk.ok { d with T := d.T.take (crN d.T.length d.sy kp), sy := crN d.T.length d.sy kp } := ⟨h.ok.c, h.ok.s, h.ok.n, by have := h.ok.T; show (d.T.take _).length ≤ 4096; rw [List.length_take]; omega, by show crN d.T.length d.sy kp ≤ (d.T.take _).length; rw [List.length_take]; omega⟩
  have h2 : DkIn base w1.drew b s d a cap X := h1.below (Below.refl _ _).drew
  have hd2 : Below w.heap.size w w1.drew := hd1.drew
  have CR := Lib.hid (crash_calls s d.T 4096 d.sy h.ok.sy (by have := h.ok.T; omega) kp w1.drew h2.st)
  have KC : Hid (w1.drew.cell? ⟨b, 12, none⟩ = some (.pointer (some ⟨s, 0, none⟩)) ∧ w1.drew.cell? ⟨w.heap.size, 0, none⟩ = some (.int .i64 kp)) := ⟨c12, z0⟩
  clear lz hlt1
  go_wp2_with fail
  refine wp_region_held_drew (S := fun q => q.cell? ⟨b, 12, none⟩ = some (.pointer (some ⟨s, 0, none⟩)) ∧ q.cell? ⟨w.heap.size, 0, none⟩ = some (.int .i64 kp)) (by kernel_rfl) (by with_reducible exact KC.out) (fun hHeld => ?_)
  refine wpAnyH_take (i := 0) (oi := _) (v := ?_) rfl (by kernel_rfl) (by kernel_rfl) (by kernel_rfl) (fun _ _ _ h => h) (Or.inl ⟨by rfl, ?_⟩) (by assumption) ?_
  rotate_left
  · intro w hSw
    try dsimp only at hSw
    go_simp
    try with_reducible rfl
  simp only [Act.put, List.getElem_toArray, List.getElem_cons_zero, List.setIfInBounds_toArray, List.set_cons_zero, List.set_cons_succ]
  refine wpAnyH_take (i := 1) (oi := _) (v := ?_) rfl (by kernel_rfl) (by kernel_rfl) (by kernel_rfl) (fun _ _ _ h => h) (Or.inl ⟨by rfl, ?_⟩) (by assumption) ?_
  rotate_left
  · intro w hSw
    try dsimp only at hSw
    go_simp
    try with_reducible rfl
  simp only [Act.put, List.getElem_toArray, List.getElem_cons_zero, List.getElem_cons_succ, List.setIfInBounds_toArray, List.set_cons_zero, List.set_cons_succ]
  refine wpAnyH_take (i := 2) (oi := _) (v := ?_) rfl (by kernel_rfl) (by kernel_rfl) (by kernel_rfl) (fun _ _ _ h => h) (Or.inl ⟨by rfl, ?_⟩) (by assumption) ?_
  rotate_left
  · intro w hSw
    try dsimp only at hSw
    go_simp
    try with_reducible rfl
  simp only [Act.put, List.getElem_toArray, List.getElem_cons_zero, List.getElem_cons_succ, List.setIfInBounds_toArray, List.set_cons_zero, List.set_cons_succ]
  refine wpAnyH_take (i := 3) (oi := _) (v := ?_) rfl (by kernel_rfl) (by kernel_rfl) (by kernel_rfl) (fun _ _ _ h => h) (Or.inl ⟨by rfl, ?_⟩) (by assumption) ?_
  rotate_left
  · intro w hSw
    try dsimp only at hSw
    go_simp
    try with_reducible rfl
  simp only [Act.put, List.getElem_toArray, List.getElem_cons_zero, List.getElem_cons_succ, List.setIfInBounds_toArray, List.set_cons_zero, List.set_cons_succ]
  refine wpAnyH_take (i := 4) (oi := _) (v := ?_) rfl (by kernel_rfl) (by kernel_rfl) (by kernel_rfl) (fun _ _ _ h => h) (Or.inl ⟨by rfl, ?_⟩) (by assumption) ?_
  rotate_left
  · intro w hSw
    try dsimp only at hSw
    go_simp
    try with_reducible rfl
  simp only [Act.put, List.getElem_toArray, List.getElem_cons_zero, List.getElem_cons_succ, List.setIfInBounds_toArray, List.set_cons_zero, List.set_cons_succ]
  refine wpAnyH_take (i := 5) (oi := _) (v := ?_) rfl (by kernel_rfl) (by kernel_rfl) (by kernel_rfl) (fun _ _ _ h => h) (Or.inl ⟨by rfl, ?_⟩) (by assumption) ?_
  rotate_left
  · intro w hSw
    try dsimp only at hSw
    go_simp
    try with_reducible rfl
  simp only [Act.put, List.getElem_toArray, List.getElem_cons_zero, List.getElem_cons_succ, List.setIfInBounds_toArray, List.set_cons_zero, List.set_cons_succ]
  refine wpAnyH_take (i := 6) (oi := _) (v := ?_) rfl (by kernel_rfl) (by kernel_rfl) (by kernel_rfl) (fun _ _ _ h => h) (Or.inl ⟨by rfl, ?_⟩) (by assumption) ?_
  rotate_left
  · intro w hSw
    try dsimp only at hSw
    go_simp
    try with_reducible rfl
  simp only [Act.put, List.getElem_toArray, List.getElem_cons_zero, List.getElem_cons_succ, List.setIfInBounds_toArray, List.set_cons_zero, List.set_cons_succ]
  refine wpAnyH_ready (rs := [7]) (by kernel_rfl) (by simp) ?_
  refine AllReadyH.cons (o := _) rfl (fun K hK => ?_) AllReadyH.nil
  clear hHeld
  go_simp
  (go_at_call 34; refine CR.out.mono ?_; rintro e w2 ⟨rfl, hS, hKs⟩; have h3 : DkIn base w2 b s { d with T := d.T.take (crN d.T.length d.sy kp), sy := crN d.T.length d.sy kp } a cap X := h2.keeps hKs hS hok'; have Z1 : w2.cell? ⟨b, 12, none⟩ = some (.pointer (some ⟨s, 0, none⟩)) ∧ w2.cell? ⟨w.heap.size, 0, none⟩ = some (.int .i64 kp) := ⟨h3.cells.2.2, (hKs.cell (a := ⟨w.heap.size, 0, none⟩) hlt2 (by show w.heap.size ≠ s; omega)).trans KC.out.2⟩)
  go_wp2_with fail
  refine hK.out _ _ ?_ (fun hHeld => ?_)
  · with_reducible exact Z1
  clear hK K
  try simp only [Act.put, List.setIfInBounds_toArray, List.set_cons_zero, List.set_cons_succ]
  refine wpAnyH_done (by kernel_rfl) ?_ _
  go_wp2_with fail
  go_ret2
  exact ⟨by rw [HD.out]; rfl, ⟨a, cap, X, by rw [HD.out]; exact h3⟩, (DkCh.ofBelow hd2 h.lt).trans (DkCh.ofKeeps hKs h.hs h2.lt h2.st)⟩

theorem loss_calls (h : DkIn base w b s d a cap X) (z : Int) : Calls Tryz.prog 36 #[.pointer (some ⟨b, 0, none⟩), .int .i64 z] w fun e w' => LossR z d e ∧ Below w.heap.size w w' := by
  by_cases hz : 0 ≤ z ∧ z < (d.n : Int)
  · by_cases hE : runE d.c d.n d.X d.DI d.DO (d.k : Int) = 0
    · exact loss_good h z hz hE
    · exact loss_bad h z hz hE
  · exact loss_out h z hz
theorem dLoss_of {z v : Int} {d : Dsk} (h : lossE z d = 0 → v = lossV z d) : dNum v (lossE z d) d = dLoss z d := by
  unfold dLoss
  by_cases hE : lossE z d = 0
  · rw [h hE]
  · unfold dNum
    rw [if_neg hE, if_neg hE]

set_option maxRecDepth 100000 in
set_option maxHeartbeats 3200000 in
theorem do_loss (h : DkIn base w b s d a cap X) (al : Option Addr) (nl cl : Nat) (ws : List (List UInt8)) (hl : LstS w al nl cl ws) (hn1 : 1 ≤ nl) (hn : nl ≤ 70000) (hw : ∀ i, (ws.getD i []).length ≤ 70000) (hv : ws.headD [] ≠ [100, 97, 116, 97]) (hr : ws.drop 1 ≠ []) (z : List Int) (hz : numsO (ws.drop 1) = some z) (e1 : ws.headD [] ≠ [99, 111, 110, 102, 105, 103]) (e2 : ws.headD [] ≠ [99, 114, 97, 115, 104]) (e3 : ws.headD [] = [108, 111, 115, 115]) (hzn : z.length = 1) : Calls Tryz.prog 18 #[.pointer (some ⟨b, 0, none⟩), .slice al nl cl] w fun e w' => DoR base b s w (dStep d ws) e w' := by
  have hlen := hl.len
  have hcap := hl.cap
  have ehd : ws.headD [] = ws.getD 0 [] := by cases ws <;> rfl
  obtain ⟨g0, o0, rfl, hg0, hcl⟩ := hl.at (by omega)
  have c0 := hcl 0 (by omega)
  clear hcl
  rw [Nat.add_zero] at c0
  obtain ⟨v, HVL⟩ : ∃ t, Hid (ws.getD 0 [] = t) := ⟨_, rfl⟩
  rw [HVL.out] at c0 ehd
  obtain ⟨V, HV⟩ : ∃ X : ByteArray, Hid ((⟨v.toArray⟩ : ByteArray) = X) := ⟨_, rfl⟩
  have c0d : ∀ k, (w.drewN k).cell? ⟨g0, o0, none⟩ = some (.string ⟨v.toArray⟩) := fun _ => c0
  rw [ehd] at hv
  have e0 := hv
  rw [ehd] at e1 e2 e3
  have q0 : (V.toList == [100, 97, 116, 97]) = false := by rw [← HV.out]; exact (strEqL v [100, 97, 116, 97]).trans (decide_eq_false e0)
  have q1 : (V.toList == [99, 111, 110, 102, 105, 103]) = false := by rw [← HV.out]; exact (strEqL v [99, 111, 110, 102, 105, 103]).trans (decide_eq_false e1)
  have q2 : (V.toList == [99, 114, 97, 115, 104]) = false := by rw [← HV.out]; exact (strEqL v [99, 114, 97, 115, 104]).trans (decide_eq_false e2)
  have q3 : (V.toList == [108, 111, 115, 115]) = true := by rw [← HV.out]; exact (strEqL v [108, 111, 115, 115]).trans (decide_eq_true e3)
  have hn2 : 2 ≤ nl := by
    cases ws with
    | nil => simp at hr
    | cons x r =>
      cases r with
      | nil => simp at hr
      | cons y r => simp at hlen; omega
  have HD : Hid (dStep d ws = dLoss (z.getD 0 0) d) := by
    show _ = _
    unfold dStep
    rw [ehd, if_neg hv, if_neg hr, hz]
    show dNums v z d = _
    unfold dNums
    rw [if_neg (fun h => e1 h.1), if_neg (fun h => e2 h.1), if_pos ⟨e3, hzn⟩]
  have hzl : z.length = nl - 1 := by rw [numsO_len hz, List.length_drop]; omega
  have HNB : Hid (∀ k, Calls Tryz.prog 32 #[.slice (some ⟨g0, o0 + 1, none⟩) (nl - 1) (cl - 1)] (w.drewN k) fun e w' => NumsR (ws.drop 1) (nl - 1) (w.drewN k) e w' ∧ Below (w.drewN k).heap.size (w.drewN k) w') := fun k => numbersOf_calls _ _ _ _ _ ((hl.below (below_drewN (Below.refl _ _) k) (Nat.le_refl _)).rest (by omega) _ (fun _ => rfl)) (by omega) (getD_drop_len hw 1) (h.drewN k).ld
  obtain ⟨rs, HRS⟩ : ∃ t, Hid (ws.drop 1 = t) := ⟨_, rfl⟩
  rw [HRS.out] at HNB hz
  obtain rfl : nl = 2 := by omega
  simp only [Nat.reduceSub] at HNB
  rw [HV.out] at c0d c0
  have n2 : (2 : Int) ≤ (cl : Int) := by omega
  have n5 : ¬ cl = 1 := by omega
  clear hw
  go_enter Tryz.func18, Tryz.ntmps18
  go_wp2_with fail
  go_quiet (fail)
  go_wp2_with fail
  refine (HNB.out _).mono ?_
  rintro e w1 ⟨hr1, hw1⟩
  have hd1 : Below w.heap.size w w1 := (below_drewN (Below.refl _ _) _).trans hw1
  rcases hr1 with ⟨z', hz', rfl, lz, hlt1, _⟩ | ⟨hz', _⟩
  rotate_left
  · rw [hz] at hz'; cases hz'
  obtain rfl : z = z' := by rw [hz] at hz'; simpa using hz'
  clear hz'
  have h1 := h.below hd1
  obtain ⟨g', o', e', _, hcz⟩ := lz.at (by omega)
  simp only [Option.some.injEq, Addr.mk.injEq, and_true] at e'
  obtain ⟨rfl, rfl⟩ := e'
  have z0 := hcz 0 (by omega)
  clear hcz
  rw [Nat.add_zero] at z0
  obtain ⟨kp, HK⟩ : ∃ t, Hid (z.getD 0 0 = t) := ⟨_, rfl⟩
  rw [HK.out] at z0 HD
  have c12 := h1.cells.2.2
  replace z0 : w1.cell? ⟨w.heap.size, 0, none⟩ = some (.int .i64 kp) := z0
  clear lz hlt1
  have LS := Lib.hid (loss_calls h1 kp)
  have HH : Hid (∀ q, Below w.heap.size w q → DkIn base q b s d a cap X) := fun q hq => h.below hq
  have HNC : Hid (∀ q v2, Below w.heap.size w q → (lossE kp d = 0 → v2 = lossV kp d) → -2147483647 ≤ v2 → v2 ≤ 2147483647 → Calls Tryz.prog 35 #[.int .i64 v2, .int .i64 (lossE kp d)] q fun e w' => e = .returned (.tuple #[.string ⟨(dLoss kp d).told.toArray⟩, .int .i64 (dLoss kp d).e]) ∧ Below q.heap.size q w') := fun q v2 hq hv0 hv1 hv2 => by
    have N := number_calls v2 (lossE kp d) (by omega) (by omega) d q (h.below hq).ld
    rw [dLoss_of hv0] at N
    exact N
  have HDD : Hid ((dLoss kp d).d = d) := dNum_d _ _ d
  have hlt0 := h.lt
  obtain ⟨ND, HND⟩ : ∃ t, Hid (dLoss kp d = t) := ⟨_, rfl⟩
  rw [HND.out] at HNC HD HDD
  obtain ⟨told, ne, nd⟩ := ND
  dsimp only at HNC HDD
  obtain rfl : d = nd := HDD.out.symm
  obtain ⟨Z, HZ⟩ : ∃ X : ByteArray, Hid ((⟨told.toArray⟩ : ByteArray) = X) := ⟨_, rfl⟩
  rw [HZ.out] at HNC
  go_wp2_with (go_at_call 36; refine LS.out.mono ?_; rintro e w2 ⟨⟨v2, rfl, hv0, hv1, hv2⟩, hw2⟩; have hd2 := hd1.trans (hw2.mono hd1.size); have NC := HNC.out w2 v2 hd2 hv0 hv1 hv2)
  go_wp2_with (go_at_call 35; refine NC.mono ?_; rintro e w3 ⟨rfl, hw3⟩; have hd3 := hd2.trans (hw3.mono hd2.size))
  go_ret2
  exact ⟨by rw [HD.out]; dsimp only; rw [HZ.out]; rfl, ⟨a, cap, X, by rw [HD.out]; exact HH.out _ hd3⟩, DkCh.ofBelow hd3 hlt0⟩

set_option maxRecDepth 100000 in
set_option maxHeartbeats 3200000 in
theorem do_other_oconfig (h : DkIn base w b s d a cap X) (al : Option Addr) (nl cl : Nat) (ws : List (List UInt8)) (hl : LstS w al nl cl ws) (hn1 : 1 ≤ nl) (hn : nl ≤ 70000) (hw : ∀ i, (ws.getD i []).length ≤ 70000) (hv : ws.headD [] ≠ [100, 97, 116, 97]) (hr : ws.drop 1 ≠ []) (z : List Int) (hz : numsO (ws.drop 1) = some z) (e1 : ws.headD [] = [99, 111, 110, 102, 105, 103]) (hzn : z.length ≠ 11) : Calls Tryz.prog 18 #[.pointer (some ⟨b, 0, none⟩), .slice al nl cl] w fun e w' => DoR base b s w (dStep d ws) e w' := by
  have hlen := hl.len
  have hcap := hl.cap
  have ehd : ws.headD [] = ws.getD 0 [] := by cases ws <;> rfl
  obtain ⟨g0, o0, rfl, hg0, hcl⟩ := hl.at (by omega)
  have c0 := hcl 0 (by omega)
  clear hcl
  rw [Nat.add_zero] at c0
  obtain ⟨v, HVL⟩ : ∃ t, Hid (ws.getD 0 [] = t) := ⟨_, rfl⟩
  rw [HVL.out] at c0 ehd
  obtain ⟨V, HV⟩ : ∃ X : ByteArray, Hid ((⟨v.toArray⟩ : ByteArray) = X) := ⟨_, rfl⟩
  have c0d : ∀ k, (w.drewN k).cell? ⟨g0, o0, none⟩ = some (.string ⟨v.toArray⟩) := fun _ => c0
  rw [ehd] at hv
  have e0 := hv
  rw [ehd] at e1
  have e2 : v ≠ [99, 114, 97, 115, 104] := by rw [e1]; decide
  have e3 : v ≠ [108, 111, 115, 115] := by rw [e1]; decide
  have q1 : (V.toList == [99, 111, 110, 102, 105, 103]) = true := by rw [← HV.out]; exact (strEqL v [99, 111, 110, 102, 105, 103]).trans (decide_eq_true e1)
  have q2 : (V.toList == [99, 114, 97, 115, 104]) = false := by rw [← HV.out]; exact (strEqL v [99, 114, 97, 115, 104]).trans (decide_eq_false e2)
  have q3 : (V.toList == [108, 111, 115, 115]) = false := by rw [← HV.out]; exact (strEqL v [108, 111, 115, 115]).trans (decide_eq_false e3)
  have q0 : (V.toList == [100, 97, 116, 97]) = false := by rw [← HV.out]; exact (strEqL v [100, 97, 116, 97]).trans (decide_eq_false e0)
  have hn2 : 2 ≤ nl := by
    cases ws with
    | nil => simp at hr
    | cons x r =>
      cases r with
      | nil => simp at hr
      | cons y r => simp at hlen; omega
  have HD : Hid (dStep d ws = ⟨[], 3, d⟩) := by
    show _ = _
    unfold dStep
    rw [ehd, if_neg hv, if_neg hr, hz]
    show dNums v z d = _
    unfold dNums
    rw [if_neg (fun h => hzn h.2), if_neg (fun h => e2 h.1), if_neg (fun h => e3 h.1)]
  have hzl : z.length = nl - 1 := by rw [numsO_len hz, List.length_drop]; omega
  have HNB : Hid (∀ k, Calls Tryz.prog 32 #[.slice (some ⟨g0, o0 + 1, none⟩) (nl - 1) (cl - 1)] (w.drewN k) fun e w' => NumsR (ws.drop 1) (nl - 1) (w.drewN k) e w' ∧ Below (w.drewN k).heap.size (w.drewN k) w') := fun k => numbersOf_calls _ _ _ _ _ ((hl.below (below_drewN (Below.refl _ _) k) (Nat.le_refl _)).rest (by omega) _ (fun _ => rfl)) (by omega) (getD_drop_len hw 1) (h.drewN k).ld
  obtain ⟨rs, HRS⟩ : ∃ t, Hid (ws.drop 1 = t) := ⟨_, rfl⟩
  rw [HRS.out] at HNB hz
  have n7 : (((nl - 1 : Nat) : Int) == 11) = false := by rw [beq_eq_false_iff_ne]; omega
  rw [HV.out] at c0d c0
  have n1 : (1 : Int) ≤ (nl : Int) := by omega
  have n2 : (nl : Int) ≤ (cl : Int) := by omega
  have n3 : (0 : Int) < (nl : Int) := by omega
  have n4 : 0 < nl := by omega
  have n5 : ¬ cl = 1 := by omega
  have n6 : (((nl - 1 : Nat) : Int) == 0) = false := by rw [beq_eq_false_iff_ne]; omega
  clear hw
  go_enter Tryz.func18, Tryz.ntmps18
  go_wp2_with fail
  go_quiet (fail)
  go_wp2_with fail
  refine (HNB.out _).mono ?_
  rintro e w1 ⟨hr1, hw1⟩
  have hd1 : Below w.heap.size w w1 := (below_drewN (Below.refl _ _) _).trans hw1
  rcases hr1 with ⟨z', hz', rfl, lz, hlt1, _⟩ | ⟨hz', _⟩
  rotate_left
  · rw [hz] at hz'; cases hz'
  obtain rfl : z = z' := by rw [hz] at hz'; simpa using hz'
  clear hz'
  have h1 := h.below hd1
  go_wp2_with fail
  go_ret2
  exact ⟨by rw [HD.out]; rfl, ⟨a, cap, X, by rw [HD.out]; exact h1⟩, DkCh.ofBelow hd1 h.lt⟩

set_option maxRecDepth 100000 in
set_option maxHeartbeats 3200000 in
theorem do_other_ocrash (h : DkIn base w b s d a cap X) (al : Option Addr) (nl cl : Nat) (ws : List (List UInt8)) (hl : LstS w al nl cl ws) (hn1 : 1 ≤ nl) (hn : nl ≤ 70000) (hw : ∀ i, (ws.getD i []).length ≤ 70000) (hv : ws.headD [] ≠ [100, 97, 116, 97]) (hr : ws.drop 1 ≠ []) (z : List Int) (hz : numsO (ws.drop 1) = some z) (e2 : ws.headD [] = [99, 114, 97, 115, 104]) (hzn : z.length ≠ 1) : Calls Tryz.prog 18 #[.pointer (some ⟨b, 0, none⟩), .slice al nl cl] w fun e w' => DoR base b s w (dStep d ws) e w' := by
  have hlen := hl.len
  have hcap := hl.cap
  have ehd : ws.headD [] = ws.getD 0 [] := by cases ws <;> rfl
  obtain ⟨g0, o0, rfl, hg0, hcl⟩ := hl.at (by omega)
  have c0 := hcl 0 (by omega)
  clear hcl
  rw [Nat.add_zero] at c0
  obtain ⟨v, HVL⟩ : ∃ t, Hid (ws.getD 0 [] = t) := ⟨_, rfl⟩
  rw [HVL.out] at c0 ehd
  obtain ⟨V, HV⟩ : ∃ X : ByteArray, Hid ((⟨v.toArray⟩ : ByteArray) = X) := ⟨_, rfl⟩
  have c0d : ∀ k, (w.drewN k).cell? ⟨g0, o0, none⟩ = some (.string ⟨v.toArray⟩) := fun _ => c0
  rw [ehd] at hv
  have e0 := hv
  rw [ehd] at e2
  have e1 : v ≠ [99, 111, 110, 102, 105, 103] := by rw [e2]; decide
  have e3 : v ≠ [108, 111, 115, 115] := by rw [e2]; decide
  have q1 : (V.toList == [99, 111, 110, 102, 105, 103]) = false := by rw [← HV.out]; exact (strEqL v [99, 111, 110, 102, 105, 103]).trans (decide_eq_false e1)
  have q2 : (V.toList == [99, 114, 97, 115, 104]) = true := by rw [← HV.out]; exact (strEqL v [99, 114, 97, 115, 104]).trans (decide_eq_true e2)
  have q3 : (V.toList == [108, 111, 115, 115]) = false := by rw [← HV.out]; exact (strEqL v [108, 111, 115, 115]).trans (decide_eq_false e3)
  have q0 : (V.toList == [100, 97, 116, 97]) = false := by rw [← HV.out]; exact (strEqL v [100, 97, 116, 97]).trans (decide_eq_false e0)
  have hn2 : 2 ≤ nl := by
    cases ws with
    | nil => simp at hr
    | cons x r =>
      cases r with
      | nil => simp at hr
      | cons y r => simp at hlen; omega
  have HD : Hid (dStep d ws = ⟨[], 3, d⟩) := by
    show _ = _
    unfold dStep
    rw [ehd, if_neg hv, if_neg hr, hz]
    show dNums v z d = _
    unfold dNums
    rw [if_neg (fun h => e1 h.1), if_neg (fun h => hzn h.2), if_neg (fun h => e3 h.1)]
  have hzl : z.length = nl - 1 := by rw [numsO_len hz, List.length_drop]; omega
  have HNB : Hid (∀ k, Calls Tryz.prog 32 #[.slice (some ⟨g0, o0 + 1, none⟩) (nl - 1) (cl - 1)] (w.drewN k) fun e w' => NumsR (ws.drop 1) (nl - 1) (w.drewN k) e w' ∧ Below (w.drewN k).heap.size (w.drewN k) w') := fun k => numbersOf_calls _ _ _ _ _ ((hl.below (below_drewN (Below.refl _ _) k) (Nat.le_refl _)).rest (by omega) _ (fun _ => rfl)) (by omega) (getD_drop_len hw 1) (h.drewN k).ld
  obtain ⟨rs, HRS⟩ : ∃ t, Hid (ws.drop 1 = t) := ⟨_, rfl⟩
  rw [HRS.out] at HNB hz
  have n7 : (((nl - 1 : Nat) : Int) == 1) = false := by rw [beq_eq_false_iff_ne]; omega
  rw [HV.out] at c0d c0
  have n1 : (1 : Int) ≤ (nl : Int) := by omega
  have n2 : (nl : Int) ≤ (cl : Int) := by omega
  have n3 : (0 : Int) < (nl : Int) := by omega
  have n4 : 0 < nl := by omega
  have n5 : ¬ cl = 1 := by omega
  have n6 : (((nl - 1 : Nat) : Int) == 0) = false := by rw [beq_eq_false_iff_ne]; omega
  clear hw
  go_enter Tryz.func18, Tryz.ntmps18
  go_wp2_with fail
  go_quiet (fail)
  go_wp2_with fail
  refine (HNB.out _).mono ?_
  rintro e w1 ⟨hr1, hw1⟩
  have hd1 : Below w.heap.size w w1 := (below_drewN (Below.refl _ _) _).trans hw1
  rcases hr1 with ⟨z', hz', rfl, lz, hlt1, _⟩ | ⟨hz', _⟩
  rotate_left
  · rw [hz] at hz'; cases hz'
  obtain rfl : z = z' := by rw [hz] at hz'; simpa using hz'
  clear hz'
  have h1 := h.below hd1
  go_wp2_with fail
  go_ret2
  exact ⟨by rw [HD.out]; rfl, ⟨a, cap, X, by rw [HD.out]; exact h1⟩, DkCh.ofBelow hd1 h.lt⟩

set_option maxRecDepth 100000 in
set_option maxHeartbeats 3200000 in
theorem do_other_oloss (h : DkIn base w b s d a cap X) (al : Option Addr) (nl cl : Nat) (ws : List (List UInt8)) (hl : LstS w al nl cl ws) (hn1 : 1 ≤ nl) (hn : nl ≤ 70000) (hw : ∀ i, (ws.getD i []).length ≤ 70000) (hv : ws.headD [] ≠ [100, 97, 116, 97]) (hr : ws.drop 1 ≠ []) (z : List Int) (hz : numsO (ws.drop 1) = some z) (e3 : ws.headD [] = [108, 111, 115, 115]) (hzn : z.length ≠ 1) : Calls Tryz.prog 18 #[.pointer (some ⟨b, 0, none⟩), .slice al nl cl] w fun e w' => DoR base b s w (dStep d ws) e w' := by
  have hlen := hl.len
  have hcap := hl.cap
  have ehd : ws.headD [] = ws.getD 0 [] := by cases ws <;> rfl
  obtain ⟨g0, o0, rfl, hg0, hcl⟩ := hl.at (by omega)
  have c0 := hcl 0 (by omega)
  clear hcl
  rw [Nat.add_zero] at c0
  obtain ⟨v, HVL⟩ : ∃ t, Hid (ws.getD 0 [] = t) := ⟨_, rfl⟩
  rw [HVL.out] at c0 ehd
  obtain ⟨V, HV⟩ : ∃ X : ByteArray, Hid ((⟨v.toArray⟩ : ByteArray) = X) := ⟨_, rfl⟩
  have c0d : ∀ k, (w.drewN k).cell? ⟨g0, o0, none⟩ = some (.string ⟨v.toArray⟩) := fun _ => c0
  rw [ehd] at hv
  have e0 := hv
  rw [ehd] at e3
  have e1 : v ≠ [99, 111, 110, 102, 105, 103] := by rw [e3]; decide
  have e2 : v ≠ [99, 114, 97, 115, 104] := by rw [e3]; decide
  have q1 : (V.toList == [99, 111, 110, 102, 105, 103]) = false := by rw [← HV.out]; exact (strEqL v [99, 111, 110, 102, 105, 103]).trans (decide_eq_false e1)
  have q2 : (V.toList == [99, 114, 97, 115, 104]) = false := by rw [← HV.out]; exact (strEqL v [99, 114, 97, 115, 104]).trans (decide_eq_false e2)
  have q3 : (V.toList == [108, 111, 115, 115]) = true := by rw [← HV.out]; exact (strEqL v [108, 111, 115, 115]).trans (decide_eq_true e3)
  have q0 : (V.toList == [100, 97, 116, 97]) = false := by rw [← HV.out]; exact (strEqL v [100, 97, 116, 97]).trans (decide_eq_false e0)
  have hn2 : 2 ≤ nl := by
    cases ws with
    | nil => simp at hr
    | cons x r =>
      cases r with
      | nil => simp at hr
      | cons y r => simp at hlen; omega
  have HD : Hid (dStep d ws = ⟨[], 3, d⟩) := by
    show _ = _
    unfold dStep
    rw [ehd, if_neg hv, if_neg hr, hz]
    show dNums v z d = _
    unfold dNums
    rw [if_neg (fun h => e1 h.1), if_neg (fun h => e2 h.1), if_neg (fun h => hzn h.2)]
  have hzl : z.length = nl - 1 := by rw [numsO_len hz, List.length_drop]; omega
  have HNB : Hid (∀ k, Calls Tryz.prog 32 #[.slice (some ⟨g0, o0 + 1, none⟩) (nl - 1) (cl - 1)] (w.drewN k) fun e w' => NumsR (ws.drop 1) (nl - 1) (w.drewN k) e w' ∧ Below (w.drewN k).heap.size (w.drewN k) w') := fun k => numbersOf_calls _ _ _ _ _ ((hl.below (below_drewN (Below.refl _ _) k) (Nat.le_refl _)).rest (by omega) _ (fun _ => rfl)) (by omega) (getD_drop_len hw 1) (h.drewN k).ld
  obtain ⟨rs, HRS⟩ : ∃ t, Hid (ws.drop 1 = t) := ⟨_, rfl⟩
  rw [HRS.out] at HNB hz
  have n7 : (((nl - 1 : Nat) : Int) == 1) = false := by rw [beq_eq_false_iff_ne]; omega
  rw [HV.out] at c0d c0
  have n1 : (1 : Int) ≤ (nl : Int) := by omega
  have n2 : (nl : Int) ≤ (cl : Int) := by omega
  have n3 : (0 : Int) < (nl : Int) := by omega
  have n4 : 0 < nl := by omega
  have n5 : ¬ cl = 1 := by omega
  have n6 : (((nl - 1 : Nat) : Int) == 0) = false := by rw [beq_eq_false_iff_ne]; omega
  clear hw
  go_enter Tryz.func18, Tryz.ntmps18
  go_wp2_with fail
  go_quiet (fail)
  go_wp2_with fail
  refine (HNB.out _).mono ?_
  rintro e w1 ⟨hr1, hw1⟩
  have hd1 : Below w.heap.size w w1 := (below_drewN (Below.refl _ _) _).trans hw1
  rcases hr1 with ⟨z', hz', rfl, lz, hlt1, _⟩ | ⟨hz', _⟩
  rotate_left
  · rw [hz] at hz'; cases hz'
  obtain rfl : z = z' := by rw [hz] at hz'; simpa using hz'
  clear hz'
  have h1 := h.below hd1
  go_wp2_with fail
  go_ret2
  exact ⟨by rw [HD.out]; rfl, ⟨a, cap, X, by rw [HD.out]; exact h1⟩, DkCh.ofBelow hd1 h.lt⟩

set_option maxRecDepth 100000 in
set_option maxHeartbeats 3200000 in
theorem do_other_onone (h : DkIn base w b s d a cap X) (al : Option Addr) (nl cl : Nat) (ws : List (List UInt8)) (hl : LstS w al nl cl ws) (hn1 : 1 ≤ nl) (hn : nl ≤ 70000) (hw : ∀ i, (ws.getD i []).length ≤ 70000) (hv : ws.headD [] ≠ [100, 97, 116, 97]) (hr : ws.drop 1 ≠ []) (z : List Int) (hz : numsO (ws.drop 1) = some z) (e1 : ws.headD [] ≠ [99, 111, 110, 102, 105, 103]) (e2 : ws.headD [] ≠ [99, 114, 97, 115, 104]) (e3 : ws.headD [] ≠ [108, 111, 115, 115]) : Calls Tryz.prog 18 #[.pointer (some ⟨b, 0, none⟩), .slice al nl cl] w fun e w' => DoR base b s w (dStep d ws) e w' := by
  have hlen := hl.len
  have hcap := hl.cap
  have ehd : ws.headD [] = ws.getD 0 [] := by cases ws <;> rfl
  obtain ⟨g0, o0, rfl, hg0, hcl⟩ := hl.at (by omega)
  have c0 := hcl 0 (by omega)
  clear hcl
  rw [Nat.add_zero] at c0
  obtain ⟨v, HVL⟩ : ∃ t, Hid (ws.getD 0 [] = t) := ⟨_, rfl⟩
  rw [HVL.out] at c0 ehd
  obtain ⟨V, HV⟩ : ∃ X : ByteArray, Hid ((⟨v.toArray⟩ : ByteArray) = X) := ⟨_, rfl⟩
  have c0d : ∀ k, (w.drewN k).cell? ⟨g0, o0, none⟩ = some (.string ⟨v.toArray⟩) := fun _ => c0
  rw [ehd] at hv
  have e0 := hv
  rw [ehd] at e1 e2 e3
  have q1 : (V.toList == [99, 111, 110, 102, 105, 103]) = false := by rw [← HV.out]; exact (strEqL v [99, 111, 110, 102, 105, 103]).trans (decide_eq_false e1)
  have q2 : (V.toList == [99, 114, 97, 115, 104]) = false := by rw [← HV.out]; exact (strEqL v [99, 114, 97, 115, 104]).trans (decide_eq_false e2)
  have q3 : (V.toList == [108, 111, 115, 115]) = false := by rw [← HV.out]; exact (strEqL v [108, 111, 115, 115]).trans (decide_eq_false e3)
  have q0 : (V.toList == [100, 97, 116, 97]) = false := by rw [← HV.out]; exact (strEqL v [100, 97, 116, 97]).trans (decide_eq_false e0)
  have hn2 : 2 ≤ nl := by
    cases ws with
    | nil => simp at hr
    | cons x r =>
      cases r with
      | nil => simp at hr
      | cons y r => simp at hlen; omega
  have HD : Hid (dStep d ws = ⟨[], 3, d⟩) := by
    show _ = _
    unfold dStep
    rw [ehd, if_neg hv, if_neg hr, hz]
    show dNums v z d = _
    unfold dNums
    rw [if_neg (fun h => e1 h.1), if_neg (fun h => e2 h.1), if_neg (fun h => e3 h.1)]
  have hzl : z.length = nl - 1 := by rw [numsO_len hz, List.length_drop]; omega
  have HNB : Hid (∀ k, Calls Tryz.prog 32 #[.slice (some ⟨g0, o0 + 1, none⟩) (nl - 1) (cl - 1)] (w.drewN k) fun e w' => NumsR (ws.drop 1) (nl - 1) (w.drewN k) e w' ∧ Below (w.drewN k).heap.size (w.drewN k) w') := fun k => numbersOf_calls _ _ _ _ _ ((hl.below (below_drewN (Below.refl _ _) k) (Nat.le_refl _)).rest (by omega) _ (fun _ => rfl)) (by omega) (getD_drop_len hw 1) (h.drewN k).ld
  obtain ⟨rs, HRS⟩ : ∃ t, Hid (ws.drop 1 = t) := ⟨_, rfl⟩
  rw [HRS.out] at HNB hz
  rw [HV.out] at c0d c0
  have n1 : (1 : Int) ≤ (nl : Int) := by omega
  have n2 : (nl : Int) ≤ (cl : Int) := by omega
  have n3 : (0 : Int) < (nl : Int) := by omega
  have n4 : 0 < nl := by omega
  have n5 : ¬ cl = 1 := by omega
  have n6 : (((nl - 1 : Nat) : Int) == 0) = false := by rw [beq_eq_false_iff_ne]; omega
  clear hw
  go_enter Tryz.func18, Tryz.ntmps18
  go_wp2_with fail
  go_quiet (fail)
  go_wp2_with fail
  refine (HNB.out _).mono ?_
  rintro e w1 ⟨hr1, hw1⟩
  have hd1 : Below w.heap.size w w1 := (below_drewN (Below.refl _ _) _).trans hw1
  rcases hr1 with ⟨z', hz', rfl, lz, hlt1, _⟩ | ⟨hz', _⟩
  rotate_left
  · rw [hz] at hz'; cases hz'
  obtain rfl : z = z' := by rw [hz] at hz'; simpa using hz'
  clear hz'
  have h1 := h.below hd1
  go_wp2_with fail
  go_ret2
  exact ⟨by rw [HD.out]; rfl, ⟨a, cap, X, by rw [HD.out]; exact h1⟩, DkCh.ofBelow hd1 h.lt⟩

theorem do_calls (h : DkIn base w b s d a cap X) (al : Option Addr) (nl cl : Nat) (ws : List (List UInt8)) (hl : LstS w al nl cl ws) (hn1 : 1 ≤ nl) (hn : nl ≤ 70000) (hw : ∀ i, (ws.getD i []).length ≤ 70000) : Calls Tryz.prog 18 #[.pointer (some ⟨b, 0, none⟩), .slice al nl cl] w fun e w' => DoR base b s w (dStep d ws) e w' := by
  by_cases h0 : ws.headD [] = [100, 97, 116, 97]
  · exact do_data h al nl cl ws hl hn1 hn hw h0
  by_cases hr : ws.drop 1 = []
  · exact do_alone h al nl cl ws hl hn1 hn hw h0 hr
  cases hz : numsO (ws.drop 1) with
  | none => exact do_nonum h al nl cl ws hl hn1 hn hw h0 hr hz
  | some z =>
    by_cases h1 : ws.headD [] = [99, 111, 110, 102, 105, 103]
    · by_cases hn2 : z.length = 11
      · exact do_config h al nl cl ws hl hn1 hn hw h0 hr z hz h1 hn2
      · exact do_other_oconfig h al nl cl ws hl hn1 hn hw h0 hr z hz h1 hn2
    by_cases h2 : ws.headD [] = [99, 114, 97, 115, 104]
    · by_cases hn2 : z.length = 1
      · exact do_crash h al nl cl ws hl hn1 hn hw h0 hr z hz h1 h2 hn2
      · exact do_other_ocrash h al nl cl ws hl hn1 hn hw h0 hr z hz h2 hn2
    by_cases h3 : ws.headD [] = [108, 111, 115, 115]
    · by_cases hn2 : z.length = 1
      · exact do_loss h al nl cl ws hl hn1 hn hw h0 hr z hz h1 h2 h3 hn2
      · exact do_other_oloss h al nl cl ws hl hn1 hn hw h0 hr z hz h3 hn2
    exact do_other_onone h al nl cl ws hl hn1 hn hw h0 hr z hz h1 h2 h3
end Go.Proofs.YthmiojmlaclgaaaGreatDoor.Fx

/- What a line tells is short, and its error is small. -/
namespace Go.Proofs.YthmiojmlaclgaaaGreatDoor.Fx
open Go.RowKit
def OutB (o : Out) : Prop := o.told.length ≤ 5000 ∧ 0 ≤ o.e ∧ o.e ≤ 99
theorem outB_err {e : Int} (h0 : 0 ≤ e) (h1 : e ≤ 99) (d : Dsk) : OutB ⟨[], e, d⟩ := ⟨Nat.zero_le _, h0, h1⟩
theorem outB_ok (d : Dsk) : OutB ⟨okA, 0, d⟩ := ⟨by show okA.length ≤ 5000; decide, by show (0 : Int) ≤ 0; decide, by show (0 : Int) ≤ 99; decide⟩
theorem outB_itoa {n : Int} (h0 : -9223372036854775808 ≤ n) (h1 : n ≤ 9223372036854775807) (d : Dsk) : OutB ⟨Lib.itoa n, 0, d⟩ := ⟨Nat.le_trans (Lib.itoa_length_le n h0 h1) (by decide), by show (0 : Int) ≤ 0; decide, by show (0 : Int) ≤ 99; decide⟩
theorem outB_num {n e : Int} (h0 : -9223372036854775808 ≤ n) (h1 : n ≤ 9223372036854775807) (h2 : 0 ≤ e) (h3 : e ≤ 99) (d : Dsk) : OutB (dNum n e d) := by
  unfold dNum
  split
  · exact outB_itoa h0 h1 d
  · exact outB_err h2 h3 d
theorem courseI_bd (c : Cfg) (n : Nat) (X : Nat → Exm) (DI DO : Nat → List Int) : 0 ≤ courseI c n X DI DO ∧ courseI c n X DI DO ≤ 99 := by
  unfold courseI
  split
  · split
    · decide
    · split
      · decide
      · split <;> decide
  · decide
theorem cfgI_bd (c : Cfg) : 0 ≤ cfgI c ∧ cfgI c ≤ 99 := by
  unfold cfgI
  split <;> decide
theorem mkE_bd (c : Cfg) (n : Nat) (X : Nat → Exm) (DI DO : Nat → List Int) (m : Int) : 0 ≤ mkE c n X DI DO m ∧ mkE c n X DI DO m ≤ 99 := by
  unfold mkE
  split
  · split <;> decide
  · exact courseI_bd c n X DI DO
theorem runE_bd (c : Cfg) (n : Nat) (X : Nat → Exm) (DI DO : Nat → List Int) (m : Int) : 0 ≤ runE c n X DI DO m ∧ runE c n X DI DO m ≤ 99 := by
  unfold runE
  split
  · split <;> decide
  · exact courseI_bd c n X DI DO
theorem whE_bd (c : Cfg) (n : Nat) (X : Nat → Exm) (DI DO : Nat → List Int) (m : Nat) : 0 ≤ whE c n X DI DO m ∧ whE c n X DI DO m ≤ 99 := by
  unfold whE
  split
  · split <;> decide
  · exact courseI_bd c n X DI DO
theorem lossE_bd (z : Int) (d : Dsk) : 0 ≤ lossE z d ∧ lossE z d ≤ 99 := by
  unfold lossE
  split
  · exact runE_bd _ _ _ _ _ _
  · decide
theorem outB_take (d : Dsk) : OutB (dTake d) := by
  unfold dTake
  split
  · split
    · exact outB_err (by decide) (by decide) d
    · rename_i h
      refine ⟨?_, by show (0 : Int) ≤ 0; decide, by show (0 : Int) ≤ 99; decide⟩
      show (jrL d.c d.n d.DI d.DO d.k).line.length ≤ 5000
      have : (jrL d.c d.n d.DI d.DO d.k).text.length = (jrL d.c d.n d.DI d.DO d.k).line.length + 1 := by unfold Ln.text; rw [List.length_append]; rfl
      omega
  · exact outB_err (mkE_bd _ _ _ _ _ _).1 (mkE_bd _ _ _ _ _ _).2 d
theorem flat_le (T : List UInt8) : (flatLn (begL T)).length ≤ T.length := by
  obtain ⟨r, hr⟩ := (begL_is T).toBegTo.pre
  have := congrArg List.length hr
  rw [List.length_append] at this
  omega
theorem outB_alone {d : Dsk} (h : d.ok) (v : List UInt8) : OutB (dAlone v d) := by
  have hT := h.T
  have hF := flat_le d.T
  unfold dAlone
  split
  · exact outB_take d
  split
  · exact outB_ok _
  split
  · unfold dRepair
    exact outB_itoa (by omega) (by omega) _
  split
  · unfold dAudit
    have hk : d.k ≤ 100 := (begL_is d.T).toBegTo.len
    have hN : whN d.c d.n d.X d.DI d.DO d.k (rcL (begL d.T)) (fun j => (lnAt (begL d.T) j).b) ≤ 100 := by
      unfold whN
      split
      · exact Nat.le_trans (firstNo_le _ _) hk
      · omega
    exact outB_num (by omega) (by omega) (whE_bd _ _ _ _ _ _).1 (whE_bd _ _ _ _ _ _).2 d
  split
  · exact outB_itoa (by omega) (by omega) _
  · exact outB_err (by decide) (by decide) d
theorem outB_step {d : Dsk} (h : d.ok) (ws : List (List UInt8)) : OutB (dStep d ws) := by
  unfold dStep
  split
  · unfold dData
    split
    · exact outB_err (by decide) (by decide) d
    · split
      · exact outB_err (by decide) (by decide) d
      · exact outB_ok _
  split
  · exact outB_alone h _
  split
  · exact outB_err (by decide) (by decide) d
  · unfold dNums
    split
    · unfold dConf
      split
      · exact outB_ok _
      · exact outB_err (cfgI_bd _).1 (cfgI_bd _).2 d
    split
    · unfold dCrash
      exact outB_ok _
    split
    · unfold dLoss
      rename_i z _ _ _ _
      have := lossV_bd (z.getD 0 0) d
      exact outB_num (by omega) (by omega) (lossE_bd _ d).1 (lossE_bd _ d).2 d
    · exact outB_err (by decide) (by decide) d
theorem Out.line_is (o : Out) : (if o.e = 0 then o.told else errA o.e) = o.line := rfl
theorem Out.line_short {o : Out} (h : OutB o) : o.line.length ≤ 5000 := by
  unfold Out.line
  split
  · exact h.1
  · unfold errA
    have := Lib.itoa_length_le o.e (by have := h.2.1; omega) (by have := h.2.2; omega)
    rw [List.length_append]
    show 6 + _ ≤ _
    omega
end Go.Proofs.YthmiojmlaclgaaaGreatDoor.Fx

/- A desk lives through what is written into a builder, and a builder through what a desk does. -/
namespace Go.Proofs.YthmiojmlaclgaaaGreatDoor.Fx
open Go.RowKit
variable {base : Nat} {w w' : World} {b s : Nat} {d : Dsk} {a : Option Addr} {cap : Nat} {X : Nat → Exm}
theorem others_at {bB : Nat} {cs : Array Value} {fz : Nat × Nat} (hB : w.heap[bB]? = some (.cells cs 38 fz)) (ho : Lib.OthersKept 5 (some bB) w w') (k : Nat) (cs2 : Array Value) (t : TypeId) (fz2 : Nat × Nat) (hk : w.heap[k]? = some (.cells cs2 t fz2)) (h1 : t ≠ 38) (h2 : t ≠ 5) : w'.heap[k]? = w.heap[k]? := by
  rw [hk]
  refine ho k _ hk (fun e => ?_) (fun c f e => ?_)
  · cases e
    rw [hk] at hB
    cases hB
    exact h1 rfl
  · cases e
    exact h2 rfl
theorem DkIn.others (h : DkIn base w b s d a cap X) {bB : Nat} {cs : Array Value} {fz : Nat × Nat} (hB : w.heap[bB]? = some (.cells cs 38 fz)) (hsz : w.heap.size ≤ w'.heap.size) (ho : Lib.OthersKept 5 (some bB) w w') (hL : LDb base w') : DkIn base w' b s d a cap X := by
  have key := others_at hB ho
  have tyk : ∀ g, TyI w g → w'.heap[g]? = w.heap[g]? := fun g hg => by
    obtain ⟨c1, f1, e1⟩ := hg
    exact key g c1 _ f1 e1 (by decide) (by decide)
  have kept : ∀ (aa : Option Addr) (n c : Nat) (xs : List Int), Lst w aa n c xs → (∀ g o, aa = some ⟨g, o, none⟩ → base ≤ g ∧ g ≠ b ∧ g ≠ s ∧ (Value.slice a d.n cap).ownBlock ≠ some g ∧ TyI w g) → Lst w' aa n c xs := fun aa n c xs hl hf => by
    refine ⟨hl.1, hl.2.1, ?_⟩
    rcases hl.2.2 with h0 | ⟨g, off, e, hs', hc⟩
    · exact .inl h0
    · exact .inr ⟨g, off, e, Nat.lt_of_lt_of_le hs' hsz, fun i hi => (World.cell?_of_block (a := ⟨g, off + i, none⟩) (tyk g (hf g off e).2.2.2.2)).trans (hc i hi)⟩
  have kb : w'.heap[b]? = w.heap[b]? := by
    obtain ⟨c, g1, _⟩ := h.row
    exact key b _ _ _ g1 (by decide) (by decide)
  have ks : w'.heap[s]? = w.heap[s]? := by
    obtain ⟨c, g1, _⟩ := h.st
    exact key s _ _ _ g1 (by decide) (by decide)
  refine ⟨h.row.of_block kb, World.rowIs.of_block h.st ks, ⟨h.own.1, ?_⟩, fun i hi => ⟨kept _ _ _ _ (h.ex i hi).i (h.fa i hi), kept _ _ _ _ (h.ex i hi).o (h.fb i hi)⟩, fun i hi g o e => ⟨(h.fa i hi g o e).1, (h.fa i hi g o e).2.1, (h.fa i hi g o e).2.2.1, (h.fa i hi g o e).2.2.2.1, (h.fa i hi g o e).2.2.2.2.of (tyk g (h.fa i hi g o e).2.2.2.2)⟩, fun i hi g o e => ⟨(h.fb i hi g o e).1, (h.fb i hi g o e).2.1, (h.fb i hi g o e).2.2.1, (h.fb i hi g o e).2.2.2.1, (h.fb i hi g o e).2.2.2.2.of (tyk g (h.fb i hi g o e).2.2.2.2)⟩, h.hb, h.hs, h.ok, hL⟩
  rcases h.own.2 with h0 | ⟨g, cp, cur, hv, hg, hh, r⟩
  · exact .inl h0
  · refine .inr ⟨g, cp, cur, hv, hg, ?_, r⟩
    rw [key g _ _ _ hh (by decide) (by decide)]
    exact hh
end Go.Proofs.YthmiojmlaclgaaaGreatDoor.Fx

/- A builder: what is written into it, and what it tells. -/
namespace Go.Proofs.YthmiojmlaclgaaaGreatDoor.Fx
open Go.RowKit
variable {base : Nat} {w w' : World}
/-- A builder lives through what a desk does. -/
theorem builder_ch {B bB : Nat} {p : Value} {bs : List Value} (hc : DkCh base w w') (h : Lib.BuilderAtF 38 5 B bB p bs w) : Lib.BuilderAtF 38 5 B bB p bs w' := by
  obtain ⟨hB, v, hb, hown, hne⟩ := h
  refine ⟨hB, v, hc.typ bB _ _ _ hb (by decide) (by decide) (by decide), ⟨hown.1, ?_⟩, hne⟩
  rcases hown.2 with hn | ⟨g, cap, cur, fz, hv, hbg, hg, rest⟩
  · exact .inl hn
  · exact .inr ⟨g, cap, cur, fz, hv, hbg, hc.typ g _ _ _ hg (by decide) (by decide) (by decide), rest⟩
theorem isBuilder_ch {B bB : Nat} {bs : List Value} (hc : DkCh base w w') (h : Lib.IsBuilderF 38 5 B bB bs w) : Lib.IsBuilderF 38 5 B bB bs w' := h.elim (fun x => .inl (builder_ch hc x)) (fun x => .inr (builder_ch hc x))
theorem wstr_calls (B bB : Nat) (bs : List Value) (s : ByteArray) (w : World) (h : Lib.IsBuilderF 38 5 B bB bs w) (hlen : bs.length + s.size ≤ 140737488355328) (hBw : B ≤ w.heap.size) :
    Calls Tryz.prog (laysJoin_ren.f 166) #[.pointer (some ⟨bB, 0, none⟩), .string s] w fun e w' => e = .returned (.tuple #[.int .i64 s.size, .nilIface]) ∧ (Lib.BuilderAtF 38 5 B bB (.pointer (some ⟨bB, 0, none⟩)) (bs ++ Lib.strCells s) w' ∧ Below B w w' ∧ Lib.OthersKept 5 (some bB) w w') :=
  Any.Builder_WriteString_k { laysJoin with } extraB B bB bs s w h hlen hBw
theorem bstr_calls (B bB : Nat) (l : List UInt8) (w : World) (h : Lib.IsBuilderF 38 5 B bB (Lib.byteCells l) w) (hBw : B ≤ w.heap.size) :
    Calls Tryz.prog (laysJoin_ren.f 169) #[.pointer (some ⟨bB, 0, none⟩)] w fun e w' => e = .returned (.string ⟨l.toArray⟩) ∧ (Lib.IsBuilderF 38 5 B bB (Lib.byteCells l) w' ∧ Below B w w') :=
  Any.Builder_String_any_f { laysJoin with } extraB B bB l w h hBw
end Go.Proofs.YthmiojmlaclgaaaGreatDoor.Fx

/- What a desk answers to a text. -/
namespace Go.Proofs.YthmiojmlaclgaaaGreatDoor.Fx
open Go.RowKit
set_option maxRecDepth 100000 in
set_option maxHeartbeats 3200000 in
theorem run_large (s : List UInt8) (hs : s.length ≤ 9223372036854775807) (w : World) (hL : LD w) (hb : 65536 < s.length ∨ 200 < (tlines s).length) :
    Calls Tryz.prog 6 #[.string ⟨s.toArray⟩] w fun e w' => e = .returned (.string ⟨(runP s).toArray⟩) ∧ Below w.heap.size w w' := by
  have LN := Lib.hid (linesOf_calls s hs w hL)
  have HR : Hid (runP s = errA 2 ++ [10]) := by show _ = _; unfold runP; rw [if_pos hb]
  obtain ⟨Z, HZ⟩ : ∃ X : ByteArray, Hid ((⟨s.toArray⟩ : ByteArray) = X) := ⟨_, rfl⟩
  obtain ⟨V, HV⟩ : ∃ X : ByteArray, Hid ((⟨(runP s).toArray⟩ : ByteArray) = X) := ⟨_, rfl⟩
  rw [HZ.out] at LN ⊢
  rw [HV.out]
  go_enter Tryz.func6, Tryz.ntmps6
  go_wp2_with fail
  refine LN.out.mono ?_
  rintro e w1 ⟨hr, hw1⟩
  rcases hr with ⟨_, rfl⟩ | ⟨hn, _⟩
  · have AN : Calls Tryz.prog 14 #[.string ⟨#[]⟩, .int .i64 2] w1 fun e w' => e = .returned (.string ⟨(errA 2 ++ [10]).toArray⟩) ∧ Below w1.heap.size w1 w' := answer_calls [] (by decide) 2 (by decide) (by decide) w1 (hL.below hw1 (Nat.le_refl _))
    rw [← HR.out, HV.out] at AN
    go_wp2_with fail
    refine AN.mono ?_
    rintro e w2 ⟨rfl, hw2⟩
    go_wp2_with fail
    go_ret
    exact ⟨rfl, hw1.trans (hw2.mono hw1.size)⟩
  · exact absurd hb hn
end Go.Proofs.YthmiojmlaclgaaaGreatDoor.Fx
