/- What the law stands on: DkNum RefDkM. -/
import Derived.Test.YthmiojmlaclgaaaGreatDoorJ00
import Derived.Test.YthmiojmlaclgaaaGreatDoorJ28
import Derived.Test.YthmiojmlaclgaaaGreatDoorJ22
import Derived.Lib.AtoiAllCases
import Derived.Lib.ItoaMem
import Derived.Maps.OwnSet
import Derived.Maps.Views
set_option maxRecDepth 100000
set_option maxHeartbeats 12800000
namespace Go.Proofs.YthmiojmlaclgaaaGreatDoor.Fx
open Go.RowKit
theorem trim_minus (r:List UInt8):Lib.trimPrefix (45 :: r) [45]=r:=by
 unfold Lib.trimPrefix Lib.hasPrefix
 rw [if_pos (by simp [List.isPrefixOf])]
 rfl
theorem trim_other {c:UInt8} {r:List UInt8} (h:c ≠ 45):Lib.trimPrefix (c :: r) [45]=c :: r:=by
 unfold Lib.trimPrefix Lib.hasPrefix
 rw [if_neg (by simp [List.isPrefixOf]; exact fun e=>h e.symm)]
theorem dec_cons (u:Nat):∃ c r,Lib.decDigits u=c :: r/\c ≠ 45/\c.toNat ≠ 43/\c.toNat ≠ 45:=by
 cases h:Lib.decDigits u with
 | nil=>exact absurd h (dec_ne u)
 | cons c r =>
   have hd:=Zcu u c (by rw [h]; simp)
   refine ⟨c,r,rfl,fun e=>?_,by omega,by omega⟩
   rw [e] at hd
   revert hd
   decide
theorem trim_itoa (v:Int):Lib.trimPrefix (Lib.itoa v) [45]=Lib.decDigits v.natAbs:=by
 unfold Lib.itoa
 by_cases h:v < 0
 ·rw [if_pos h,trim_minus]
 ·rw [if_neg h]
  have e:v.toNat=v.natAbs:=by omega
  rw [e]
  obtain ⟨c,r,h1,h2,_⟩:=dec_cons v.natAbs
  rw [h1,trim_other h2]
theorem dec_ltN {u k:Nat} (h:(Lib.decDigits u).length<=k):u < 10 ^ k:=by
 rw [Lib.decDigits_length] at h
 exact Nat.lt_of_lt_of_le (Lib.lt_pow_nDigits u) (Nat.pow_le_pow_right (by decide) h)
theorem atoi_itoa {v:Int} (h:v.natAbs < 10 ^ 10):Lib.atoiAll (Lib.itoa v)=.ok v:=by
 have hp:Lib.parseMag (Lib.decDigits v.natAbs)=.ok v.natAbs:=by
  have:=ZcL v.natAbs (by omega)
  rw [Lib.parseUintB_64] at this
  exact this
 unfold Lib.itoa
 by_cases hv:v < 0
 ·rw [if_pos hv,Lib.atoiAll]
  have e:(if (45:UInt8).toNat=43\/(45:UInt8).toNat=45 then Lib.decDigits v.natAbs else 45 :: Lib.decDigits v.natAbs)=Lib.decDigits v.natAbs:=rfl
  rw [e,hp]
  have t:(45:UInt8).toNat=45:=rfl
  simp only [t,not_true_eq_false,false_and,if_false,true_and,if_true]
  rw [if_neg (by omega)]
  congr 1
  omega
 ·rw [if_neg hv]
  have e:v.toNat=v.natAbs:=by omega
  rw [e]
  obtain ⟨c,r,h1,_,h3,h4⟩:=dec_cons v.natAbs
  rw [h1] at hp ⊢
  rw [Lib.atoiAll]
  rw [if_neg (by omega),hp]
  simp only [h4,not_false_eq_true,true_and,false_and,if_false]
  rw [if_neg (by omega)]
  congr 1
  omega
theorem num_of {x:List UInt8} {v:Int} (h:numO x=some v):Lib.itoa v=x/\Lib.trimPrefix x [45]=Lib.decDigits v.natAbs/\(Lib.trimPrefix x [45]).length<=10:=by
 unfold numO at h
 split at h
 ·rename_i h10
  split at h
  ·split at h
   ·rename_i u _ hu
    injection h with h
    subst h
    exact ⟨hu,by rw [← hu]; exact trim_itoa u,h10⟩
   ·cases h
  ·cases h
 ·cases h
theorem num_yes {x:List UInt8} {v:Int} (h:Lib.itoa v=x) (h10:(Lib.trimPrefix x [45]).length<=10):numO x=some v:=by
 subst h
 have hb:v.natAbs < 10 ^ 10:=by
  rw [trim_itoa] at h10
  exact dec_ltN h10
 unfold numO
 rw [if_pos h10,atoi_itoa hb]
 simp
theorem num_long {x:List UInt8} (h:10 < (Lib.trimPrefix x [45]).length):numO x=none:=by
 unfold numO
 rw [if_neg (by omega)]
theorem num_bad {x:List UInt8} {c:UInt8} (hc:c ∈ Lib.trimPrefix x [45]) (hd:¬ (48<=c.toNat/\c.toNat<=57)):numO x=none:=by
 cases h:numO x with
 | none=>rfl
 | some v =>
   have:=(num_of h).2.1
   rw [this] at hc
   exact absurd (Zcu _ _ hc) hd
theorem num_empty {x:List UInt8} (h:Lib.trimPrefix x [45]=[]):numO x=none:=by
 cases hx:numO x with
 | none=>rfl
 | some v =>
   have:=(num_of hx).2.1
   rw [h] at this
   exact absurd this.symm (dec_ne _)
def sgnI (x:List UInt8):Int:=if (Lib.trimPrefix x [45]).length=x.length then (valN (Lib.trimPrefix x [45]):Int) else -(valN (Lib.trimPrefix x [45]):Int)
theorem num_sgn {x:List UInt8} {v:Int} (h:numO x=some v):sgnI x=v:=by
 obtain ⟨h1,h2,_⟩:=num_of h
 unfold sgnI
 rw [h2,dec_val]
 subst h1
 unfold Lib.itoa
 by_cases hv:v < 0
 ·rw [if_pos hv,if_neg (by simp)]
  omega
 ·rw [if_neg hv]
  have e:v.toNat=v.natAbs:=by omega
  rw [e,if_pos rfl]
  omega
theorem num_is {x:List UInt8} (h10:(Lib.trimPrefix x [45]).length<=10):numO x=if Lib.itoa (sgnI x)=x then some (sgnI x) else none:=by
 by_cases h:Lib.itoa (sgnI x)=x
 ·rw [if_pos h]
  exact num_yes h h10
 ·rw [if_neg h]
  cases hx:numO x with
  | none=>rfl
  | some v=>exact absurd (by rw [num_sgn hx]; exact (num_of hx).1) h
section
open Go.RowKit Go.Maps Go.WideMaps
def manyO (v:List UInt8):Option Int :=
 if v=[98,121,116,101,115] then some 0
 else if v=[108,111,115,115] then some 1
 else if v=[97,117,100,105,116] then some 0
 else if v=[114,101,112,97,105,114] then some 0
 else if v=[99,114,97,115,104] then some 1
 else if v=[115,121,110,99] then some 0
 else if v=[115,116,101,112] then some 0
 else if v=[99,111,110,102,105,103] then some 11
 else none
theorem keyLaw:Keyed Tryz.prog 9:=string_keyed Tryz.underlying9
theorem zeroI (w:World):(zeroValue 3).run Tryz.prog w=.ok (.int .i64 0) w:=by kernel_rfl
theorem ZcA {D:DataW Unit} (hD:IsMap D) (k v:List UInt8) (n:Int) (z:DataW Unit):(D.put (.string k) (.lit (.int .i64 n))).atKey (.string v) z=if v=k then .lit (.int .i64 n) else D.atKey (.string v) z:=by
 by_cases h:v=k
 ·subst h
  rw [if_pos rfl]
  exact atKey_put_same hD (by simp [WideAt.IsKeyLit]) _ _
 ·rw [if_neg h]
  exact atKey_put_other (fun e=>h (by injection e)) _ _
theorem ZbK {D:DataW Unit} (hD:IsMap D) (k v:List UInt8) (d:DataW Unit):Maps.has (D.put (.string k) d) (.string v)=if v=k then true else Maps.has D (.string v):=by
 by_cases h:v=k
 ·subst h
  rw [if_pos rfl]
  exact has_put_same hD (by simp [WideAt.IsKeyLit]) _
 ·rw [if_neg h]
  exact has_put_other (fun e=>h (by injection e)) _
def mD0:DataW Unit:=.map []
def mD1:DataW Unit:=mD0.put (.string [99,111,110,102,105,103]) (.lit (.int .i64 11))
def mD2:DataW Unit:=mD1.put (.string [115,116,101,112]) (.lit (.int .i64 0))
def mD3:DataW Unit:=mD2.put (.string [115,121,110,99]) (.lit (.int .i64 0))
def mD4:DataW Unit:=mD3.put (.string [99,114,97,115,104]) (.lit (.int .i64 1))
def mD5:DataW Unit:=mD4.put (.string [114,101,112,97,105,114]) (.lit (.int .i64 0))
def mD6:DataW Unit:=mD5.put (.string [97,117,100,105,116]) (.lit (.int .i64 0))
def mD7:DataW Unit:=mD6.put (.string [108,111,115,115]) (.lit (.int .i64 1))
def mD8:DataW Unit:=mD7.put (.string [98,121,116,101,115]) (.lit (.int .i64 0))
theorem mI0:IsMap mD0:=isMap_empty
theorem mI1:IsMap mD1:=mI0.put _ _
theorem mI2:IsMap mD2:=mI1.put _ _
theorem mI3:IsMap mD3:=mI2.put _ _
theorem mI4:IsMap mD4:=mI3.put _ _
theorem mI5:IsMap mD5:=mI4.put _ _
theorem mI6:IsMap mD6:=mI5.put _ _
theorem mI7:IsMap mD7:=mI6.put _ _
theorem many_at (v:List UInt8):mD8.atKey (.string v) (.lit (.int .i64 0))=.lit (.int .i64 ((manyO v).getD 0)):=by
 rw [show mD8=mD7.put (.string [98,121,116,101,115]) (.lit (.int .i64 0)) from rfl,ZcA mI7]
 rw [show mD7=mD6.put (.string [108,111,115,115]) (.lit (.int .i64 1)) from rfl,ZcA mI6]
 rw [show mD6=mD5.put (.string [97,117,100,105,116]) (.lit (.int .i64 0)) from rfl,ZcA mI5]
 rw [show mD5=mD4.put (.string [114,101,112,97,105,114]) (.lit (.int .i64 0)) from rfl,ZcA mI4]
 rw [show mD4=mD3.put (.string [99,114,97,115,104]) (.lit (.int .i64 1)) from rfl,ZcA mI3]
 rw [show mD3=mD2.put (.string [115,121,110,99]) (.lit (.int .i64 0)) from rfl,ZcA mI2]
 rw [show mD2=mD1.put (.string [115,116,101,112]) (.lit (.int .i64 0)) from rfl,ZcA mI1]
 rw [show mD1=mD0.put (.string [99,111,110,102,105,103]) (.lit (.int .i64 11)) from rfl,ZcA mI0]
 unfold manyO
 (repeat' split) <;> rfl
theorem many_has (v:List UInt8):Maps.has mD8 (.string v)=(manyO v).isSome:=by
 rw [show mD8=mD7.put (.string [98,121,116,101,115]) (.lit (.int .i64 0)) from rfl,ZbK mI7]
 rw [show mD7=mD6.put (.string [108,111,115,115]) (.lit (.int .i64 1)) from rfl,ZbK mI6]
 rw [show mD6=mD5.put (.string [97,117,100,105,116]) (.lit (.int .i64 0)) from rfl,ZbK mI5]
 rw [show mD5=mD4.put (.string [114,101,112,97,105,114]) (.lit (.int .i64 0)) from rfl,ZbK mI4]
 rw [show mD4=mD3.put (.string [99,114,97,115,104]) (.lit (.int .i64 1)) from rfl,ZbK mI3]
 rw [show mD3=mD2.put (.string [115,121,110,99]) (.lit (.int .i64 0)) from rfl,ZbK mI2]
 rw [show mD2=mD1.put (.string [115,116,101,112]) (.lit (.int .i64 0)) from rfl,ZbK mI1]
 rw [show mD1=mD0.put (.string [99,111,110,102,105,103]) (.lit (.int .i64 11)) from rfl,ZbK mI0]
 unfold manyO
 (repeat' split) <;> rfl
theorem vsz {v:List UInt8} (hv:v.length<=70000):(⟨v.toArray⟩:ByteArray).size<=maxLen:=by
 have:(⟨v.toArray⟩:ByteArray).size=v.length:=rfl
 rw [this]
 unfold maxLen
 omega
theorem Zbo (w:World):∃ q1 q2 q3 q4 q5 q6 q7 q8:World,(Instr.mapUpdate 79 (.map (some w.heap.size)) (.string ⟨#[99,111,110,102,105,103]⟩) (.int .i64 11)).run Tryz.prog (w.alloc (.map #[] 0))=.ok () q1/\(Instr.mapUpdate 79 (.map (some w.heap.size)) (.string ⟨#[115,116,101,112]⟩) (.int .i64 0)).run Tryz.prog (q1)=.ok () q2/\(Instr.mapUpdate 79 (.map (some w.heap.size)) (.string ⟨#[115,121,110,99]⟩) (.int .i64 0)).run Tryz.prog (q2)=.ok () q3/\(Instr.mapUpdate 79 (.map (some w.heap.size)) (.string ⟨#[99,114,97,115,104]⟩) (.int .i64 1)).run Tryz.prog (q3)=.ok () q4/\(Instr.mapUpdate 79 (.map (some w.heap.size)) (.string ⟨#[114,101,112,97,105,114]⟩) (.int .i64 0)).run Tryz.prog (q4)=.ok () q5/\(Instr.mapUpdate 79 (.map (some w.heap.size)) (.string ⟨#[97,117,100,105,116]⟩) (.int .i64 0)).run Tryz.prog (q5)=.ok () q6/\(Instr.mapUpdate 79 (.map (some w.heap.size)) (.string ⟨#[108,111,115,115]⟩) (.int .i64 1)).run Tryz.prog (q6)=.ok () q7/\(Instr.mapUpdate 79 (.map (some w.heap.size)) (.string ⟨#[98,121,116,101,115]⟩) (.int .i64 0)).run Tryz.prog (q7)=.ok () q8/\Hid (∀ v:List UInt8,v.length<=70000->(Instr.lookup 79 (.map (some w.heap.size)) (.string ⟨v.toArray⟩) true).run Tryz.prog q8=.ok (.tuple #[.int .i64 ((manyO v).getD 0),.bool (manyO v).isSome]) q8)/\Hid (Below w.heap.size w q8):=by
 have h0:(w.alloc (.map #[] 0)).ownsMap Tryz.prog 9 (plainElem (H:=Unit) Tryz.prog 3) w.heap.size 0 mD0:=World.ownsMap_made w _ _ _
 have B0:Below w.heap.size w (w.alloc (.map #[] 0)):=br.alloc nr _
 obtain ⟨q1,r1,h1,g1⟩:=h0.update keyLaw Tryz.underlying79 (by decide) (key:=.string ⟨#[99,111,110,102,105,103]⟩) (val:=.int .i64 11) (kl:=.string [99,111,110,102,105,103]) (d:=.lit (.int .i64 11)) (ps:=[]) (keyOf_string_mk Tryz.underlying9 (by decide)) (plainElem_int Tryz.underlying3 (by decide))
 have B1:=B0.grown g1 B0.size (fun j hj=>by cases hj; exact nr)
 obtain ⟨q2,r2,h2,g2⟩:=h1.update keyLaw Tryz.underlying79 (by decide) (key:=.string ⟨#[115,116,101,112]⟩) (val:=.int .i64 0) (kl:=.string [115,116,101,112]) (d:=.lit (.int .i64 0)) (ps:=[]) (keyOf_string_mk Tryz.underlying9 (by decide)) (plainElem_int Tryz.underlying3 (by decide))
 have B2:=B1.grown g2 B1.size (fun j hj=>by cases hj; exact nr)
 obtain ⟨q3,r3,h3,g3⟩:=h2.update keyLaw Tryz.underlying79 (by decide) (key:=.string ⟨#[115,121,110,99]⟩) (val:=.int .i64 0) (kl:=.string [115,121,110,99]) (d:=.lit (.int .i64 0)) (ps:=[]) (keyOf_string_mk Tryz.underlying9 (by decide)) (plainElem_int Tryz.underlying3 (by decide))
 have B3:=B2.grown g3 B2.size (fun j hj=>by cases hj; exact nr)
 obtain ⟨q4,r4,h4,g4⟩:=h3.update keyLaw Tryz.underlying79 (by decide) (key:=.string ⟨#[99,114,97,115,104]⟩) (val:=.int .i64 1) (kl:=.string [99,114,97,115,104]) (d:=.lit (.int .i64 1)) (ps:=[]) (keyOf_string_mk Tryz.underlying9 (by decide)) (plainElem_int Tryz.underlying3 (by decide))
 have B4:=B3.grown g4 B3.size (fun j hj=>by cases hj; exact nr)
 obtain ⟨q5,r5,h5,g5⟩:=h4.update keyLaw Tryz.underlying79 (by decide) (key:=.string ⟨#[114,101,112,97,105,114]⟩) (val:=.int .i64 0) (kl:=.string [114,101,112,97,105,114]) (d:=.lit (.int .i64 0)) (ps:=[]) (keyOf_string_mk Tryz.underlying9 (by decide)) (plainElem_int Tryz.underlying3 (by decide))
 have B5:=B4.grown g5 B4.size (fun j hj=>by cases hj; exact nr)
 obtain ⟨q6,r6,h6,g6⟩:=h5.update keyLaw Tryz.underlying79 (by decide) (key:=.string ⟨#[97,117,100,105,116]⟩) (val:=.int .i64 0) (kl:=.string [97,117,100,105,116]) (d:=.lit (.int .i64 0)) (ps:=[]) (keyOf_string_mk Tryz.underlying9 (by decide)) (plainElem_int Tryz.underlying3 (by decide))
 have B6:=B5.grown g6 B5.size (fun j hj=>by cases hj; exact nr)
 obtain ⟨q7,r7,h7,g7⟩:=h6.update keyLaw Tryz.underlying79 (by decide) (key:=.string ⟨#[108,111,115,115]⟩) (val:=.int .i64 1) (kl:=.string [108,111,115,115]) (d:=.lit (.int .i64 1)) (ps:=[]) (keyOf_string_mk Tryz.underlying9 (by decide)) (plainElem_int Tryz.underlying3 (by decide))
 have B7:=B6.grown g7 B6.size (fun j hj=>by cases hj; exact nr)
 obtain ⟨q8,r8,h8,g8⟩:=h7.update keyLaw Tryz.underlying79 (by decide) (key:=.string ⟨#[98,121,116,101,115]⟩) (val:=.int .i64 0) (kl:=.string [98,121,116,101,115]) (d:=.lit (.int .i64 0)) (ps:=[]) (keyOf_string_mk Tryz.underlying9 (by decide)) (plainElem_int Tryz.underlying3 (by decide))
 have B8:=B7.grown g8 B7.size (fun j hj=>by cases hj; exact nr)
 refine ⟨q1,q2,q3,q4,q5,q6,q7,q8,r1,r2,r3,r4,r5,r6,r7,r8,fun v hv=>?_,B8⟩
 have h9:q8.ownsMap Tryz.prog 9 (plainElem (H:=Unit) Tryz.prog 3) w.heap.size (0+1+1+1+1+1+1+1+1) mD8:=h8
 obtain ⟨x,ps,hrun,hx⟩:=h9.look_ok keyLaw Tryz.underlying79 (zeroI _) (zd:=.lit (.int .i64 0)) (zp:=[]) (plainElem_int Tryz.underlying3 (by decide)) (key:=.string ⟨v.toArray⟩) (kl:=.string v) (keyOf_string_mk Tryz.underlying9 (vsz hv))
 rw [many_has] at hrun
 rw [many_at] at hx
 obtain ⟨c,rfl,hc,_⟩:=plainElem_int_inv Tryz.underlying3 hx
 have hc1:=congrArg Prod.fst hc
 simp only [DataW.lit.injEq,Lit.int.injEq,true_and] at hc1
 rw [hrun,hc1]
end
end Go.Proofs.YthmiojmlaclgaaaGreatDoor.Fx
