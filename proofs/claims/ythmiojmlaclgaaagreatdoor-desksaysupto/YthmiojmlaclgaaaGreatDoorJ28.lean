/- What the law stands on: DkP DkA DkB DkC DkD DkL0. -/
import Derived.Test.YthmiojmlaclgaaaGreatDoorJ00
import Derived.Test.YthmiojmlaclgaaaGreatDoorJ24
import Derived.Test.YthmiojmlaclgaaaGreatDoorJ25
import Derived.Test.YthmiojmlaclgaaaGreatDoorJ02
import Derived.Test.YthmiojmlaclgaaaGreatDoorJ21
import Derived.Lib.AtoiAll
import Derived.Lib.SlicesS
import Derived.Lib.ItoaNum
import Derived.Test.YthmiojmlaclgaaaGreatDoorJ12
import Derived.Test.YthmiojmlaclgaaaGreatDoorJ17
import Derived.Deep.DeepCutAuto
import Derived.Deep.CutBlock
import Derived.Test.YthmiojmlaclgaaaGreatDoorJ08
import Derived.Lib.ItoaLen
set_option maxRecDepth 100000
set_option maxHeartbeats 12800000
namespace Go.Proofs.YthmiojmlaclgaaaGreatDoor.Fx
open Go.RowKit
def lwords (l:List UInt8):List (List UInt8):=(wordsOf 32 l).filter (fun p => !p.isEmpty)
def tlines (s:List UInt8):List (List UInt8):=if (wordsOf 10 s).getLastD []=[] then (wordsOf 10 s).dropLast else wordsOf 10 s
def silB (ws:List (List UInt8)):Bool:=decide (ws=[]) || decide ((ws.headD []).headD 0=35)
def numO (x:List UInt8):Option Int :=
 if (Lib.trimPrefix x [45]).length<=10 then (match Lib.atoiAll x with
  | .ok v=>if Lib.itoa v=x then some v else none
  | _=>none) else none
def numsO:List (List UInt8)->Option (List Int)
 | []=>some []
 | x :: xs => match numO x with
   | none=>none
   | some z=>(numsO xs).map (z :: ·)
def bas (ws:List (List UInt8)):List ByteArray:=ws.map fun x=>⟨x.toArray⟩
def slashAt (ws:List (List UInt8)):Int:=Lib.idxOfS (bas ws) ⟨#[47]⟩
def exO (ws:List (List UInt8)):Option (List Int × List Int) :=
 if slashAt ws < 0 then none else
  match numsO (ws.take (slashAt ws).toNat),numsO (ws.drop ((slashAt ws).toNat+1)) with
  | some a,some b=>some (a,b)
  | _,_=>none
structure Dsk where
 c:Cfg
 ex:List (List Int × List Int)
 T:List UInt8
 sy:Nat
def d0:Dsk:=⟨⟨1,1,1,1,1,3,6554,0,0,0,0⟩,[],[],0⟩
def Dsk.DI (d:Dsk) (i:Nat):List Int:=(d.ex.getD i ([],[])).1
def Dsk.DO (d:Dsk) (i:Nat):List Int:=(d.ex.getD i ([],[])).2
def Dsk.X (d:Dsk) (i:Nat):Exm:=⟨none,(d.DI i).length,0,none,(d.DO i).length,0⟩
def Dsk.n (d:Dsk):Nat:=d.ex.length
noncomputable def begL (s:List UInt8):List Ln:=Classical.choose (beg_exists s)
theorem begL_is (s:List UInt8):Beg s (begL s):=Classical.choose_spec (beg_exists s)
theorem begL_of {s:List UInt8} {ls:List Ln} (h:Beg s ls):begL s=ls:=(begL_is s).unique h
def rcL (ls:List Ln) (j:Nat):Rcm:=⟨(lnAt ls j).s,none,(lnAt ls j).b.length,0,(lnAt ls j).r,(lnAt ls j).root,(lnAt ls j).chain⟩
structure Out where
 told:List UInt8
 e:Int
 d:Dsk
def okA:List UInt8:=[111,107]
def errA (e:Int):List UInt8:=[101,114,114,111,114,32] ++ Lib.itoa e
def Out.line (o:Out):List UInt8:=if o.e=0 then o.told else errA o.e
def dNum (n e:Int) (d:Dsk):Out:=if e=0 then ⟨Lib.itoa n,0,d⟩ else ⟨[],e,d⟩
noncomputable def Dsk.k (d:Dsk):Nat:=(begL d.T).length
noncomputable def dTake (d:Dsk):Out :=
 if mkE d.c d.n d.X d.DI d.DO ((d.k:Int)+1)=0 then
  (if 4096 < d.T.length+(jrL d.c d.n d.DI d.DO d.k).text.length then ⟨[],6,d⟩ else ⟨(jrL d.c d.n d.DI d.DO d.k).line,0,{ d with T:=d.T ++ (jrL d.c d.n d.DI d.DO d.k).text }⟩)
 else ⟨[],mkE d.c d.n d.X d.DI d.DO ((d.k:Int)+1),d⟩
noncomputable def dRepair (d:Dsk):Out:=⟨Lib.itoa ((d.T.length:Int) - ((flatLn (begL d.T)).length:Int)),0,{ d with T:=d.T.take (flatLn (begL d.T)).length,sy:=(flatLn (begL d.T)).length }⟩
noncomputable def dAudit (d:Dsk):Out:=dNum (whN d.c d.n d.X d.DI d.DO d.k (rcL (begL d.T)) (fun j=>(lnAt (begL d.T) j).b):Nat) (whE d.c d.n d.X d.DI d.DO d.k) d
noncomputable def dAlone (v:List UInt8) (d:Dsk):Out :=
 if v=[115,116,101,112] then dTake d
 else if v=[115,121,110,99] then ⟨okA,0,{ d with sy:=d.T.length }⟩
 else if v=[114,101,112,97,105,114] then dRepair d
 else if v=[97,117,100,105,116] then dAudit d
 else if v=[98,121,116,101,115] then ⟨Lib.itoa d.T.length,0,d⟩
 else ⟨[],3,d⟩
def cfgOf (z:List Int):Cfg:=⟨z.getD 0 0,z.getD 1 0,z.getD 2 0,max (z.getD 3 0) 0,z.getD 4 0,z.getD 5 0,z.getD 6 0,z.getD 7 0,z.getD 8 0,z.getD 9 0,z.getD 10 0⟩
def dConf (z:List Int) (d:Dsk):Out:=if cfgI (cfgOf z)=0 then ⟨okA,0,{ d with c:=cfgOf z }⟩ else ⟨[],cfgI (cfgOf z),d⟩
def dCrash (z:Int) (d:Dsk):Out:=⟨okA,0,{ d with T:=d.T.take (crN d.T.length d.sy z),sy:=crN d.T.length d.sy z }⟩
noncomputable def lossE (z:Int) (d:Dsk):Int:=if 0<=z/\z < (d.n:Int) then runE d.c d.n d.X d.DI d.DO (d.k:Int) else 4
noncomputable def lossV (z:Int) (d:Dsk):Int:=lossI (cutD d.c.i.toNat d.c.h.toNat d.c.o.toNat (stW d.c d.n d.DI d.DO d.k)) (d.DI z.toNat) (d.DO z.toNat) d.c.i.toNat d.c.h.toNat d.c.o.toNat
noncomputable def dLoss (z:Int) (d:Dsk):Out:=dNum (lossV z d) (lossE z d) d
def dData (ws:List (List UInt8)) (d:Dsk):Out :=
 match exO ws with
 | none=>⟨[],3,d⟩
 | some x=>if 16<=d.ex.length then ⟨[],2,d⟩ else ⟨okA,0,{ d with ex:=d.ex ++ [x] }⟩
noncomputable def dNums (v:List UInt8) (z:List Int) (d:Dsk):Out :=
 if v=[99,111,110,102,105,103]/\z.length=11 then dConf z d
 else if v=[99,114,97,115,104]/\z.length=1 then dCrash (z.getD 0 0) d
 else if v=[108,111,115,115]/\z.length=1 then dLoss (z.getD 0 0) d
 else ⟨[],3,d⟩
noncomputable def dStep (d:Dsk) (ws:List (List UInt8)):Out :=
 if ws.headD []=[100,97,116,97] then dData (ws.drop 1) d
 else if ws.drop 1=[] then dAlone (ws.headD []) d
 else match numsO (ws.drop 1) with
  | none=>⟨[],3,d⟩
  | some z=>dNums (ws.headD []) z d
noncomputable def dLine (p:Dsk × List UInt8) (l:List UInt8):Dsk × List UInt8 :=
 if silB (lwords l)=true then p else ((dStep p.1 (lwords l)).d,p.2 ++ ((dStep p.1 (lwords l)).line ++ [10]))
noncomputable def dTo (ls:List (List UInt8)) (j:Nat):Dsk × List UInt8:=(ls.take j).foldl dLine (d0,[])
noncomputable def runP (s:List UInt8):List UInt8:=if 65536 < s.length\/200 < (tlines s).length then errA 2 ++ [10] else (dTo (tlines s) (tlines s).length).2
theorem dTo_zero (ls:List (List UInt8)):dTo ls 0=(d0,[]):=by unfold dTo; rfl
theorem dTo_succ {ls:List (List UInt8)} {j:Nat} (h:j < ls.length):dTo ls (j+1)=dLine (dTo ls j) (ls.getD j []):=by
 unfold dTo
 rw [List.take_add_one,List.getD_eq_getElem?_getD,List.getElem?_eq_getElem h,List.foldl_append]
 rfl
structure Dsk.ok (d:Dsk):Prop where
 c:cfgB d.c=true
 s:0<=d.c.seed/\d.c.seed < 18446744073709551616
 n:d.ex.length<=16
 T:d.T.length<=4096
 sy:d.sy<=d.T.length
theorem d0_ok:d0.ok:=⟨by decide,by decide,by decide,by decide,by decide⟩
theorem courseI_X {c:Cfg} {n:Nat} {X Y:Nat->Exm} {DI DO:Nat->List Int} (h:∀ i,i < n->(X i).n=(Y i).n/\(X i).m=(Y i).m):courseI c n X DI DO=courseI c n Y DI DO:=by
 have e:allEx c n X DI DO=allEx c n Y DI DO:=by
  unfold allEx
  rw [Bool.eq_iff_iff,List.all_eq_true,List.all_eq_true]
  have key:∀ i,i < n->exB c (X i) (DI i) (DO i)=exB c (Y i) (DI i) (DO i):=fun i hi=>by unfold exB; rw [(h i hi).1,(h i hi).2]
  exact ⟨fun g i hi=>by rw [← key i (List.mem_range.1 hi)]; exact g i hi,fun g i hi=>by rw [key i (List.mem_range.1 hi)]; exact g i hi⟩
 unfold courseI
 rw [e]
theorem auB_rc {c:Cfg} {n:Nat} {DI DO:Nat->List Int} {L:Nat->Rcm} {DL:Nat->List Int} {ls:List Ln} {j:Nat} (h:(L j).ln (DL j)=lnAt ls j):auB c n DI DO L DL j=auB c n DI DO (rcL ls) (fun j=>(lnAt ls j).b) j:=by
 unfold auB rcL
 simp only [← h,Rcm.ln]
theorem Zce {f g:Nat->Bool}:∀ {n:Nat},(∀ j,j < n->f j=g j)->firstNo f n=firstNo g n
 | 0,_=>rfl
 | n + 1, h => by
   unfold firstNo
   rw [Zce (fun j hj=>h j (by omega)),h n (by omega)]
section
open Go.RowKit Go.Shelf
theorem ZaC (z:Int) (h0:-9223372036854775808<=z) (h1:z<=9223372036854775807) (w:World) (hL:LD w) :
  Calls Tryz.prog 28 #[.int .i64 z] w fun e w'=>e=.returned (.string ⟨(Lib.itoa z).toArray⟩)/\Below w.heap.size w w':=by
 have h:=Any.strconv_Itoa laysItoa z h0 h1 w hL.pow
 refine Calls.mono (show Calls Tryz.prog 28 _ _ _ from h) ?_
 rintro e w' ⟨rfl,k,os,rfl⟩
 exact ⟨rfl,Lib.below_grow _ _ nr _ _⟩
theorem hasP_calls (s p:ByteArray) (w:World):Calls Tryz.prog 9 #[.string s,.string p] w fun e w'=>e=.returned (.bool (Lib.hasPrefix s.data.toList p.data.toList))/\w'=w :=
 show Calls Tryz.prog 9 _ _ _ from Any.strings_HasPrefix laysHasP s p w
theorem trimP_calls (s p:ByteArray) (w:World):Calls Tryz.prog 86 #[.string s,.string p] w fun e w'=>e=.returned (.string ⟨(Lib.trimPrefix s.data.toList p.data.toList).toArray⟩)/\w'=w :=
 show Calls Tryz.prog 86 _ _ _ from Any.strings_TrimPrefix laysTrimP s p w
theorem trimS_calls (s p:ByteArray) (w:World) (hs:s.size<=9223372036854775807):Calls Tryz.prog 81 #[.string s,.string p] w fun e w'=>e=.returned (.string ⟨(Lib.trimSuffix s.data.toList p.data.toList).toArray⟩)/\w'=w :=
 show Calls Tryz.prog 81 _ _ _ from Any.strings_TrimSuffix laysTrimS s p w hs
theorem bas_getD (ws:List (List UInt8)) (i:Nat) (h:i < ws.length):(bas ws).getD i ByteArray.empty=⟨(ws.getD i []).toArray⟩:=by
 unfold bas
 simp [List.getD_eq_getElem?_getD,h]
theorem idxS_calls (a:Option Addr) (n c:Nat) (ws:List (List UInt8)) (w:World) (h:LstS w a n c ws) (hn:n<=9223372036854775807) :
  Calls Tryz.prog 38 #[.slice a n c,.string ⟨#[47]⟩] w fun e w'=>e=.returned (.int .i64 (slashAt ws))/\w'=w:=by
 have hl:=h.len
 by_cases h0:n=0
 ·subst h0
  rw [List.length_eq_zero_iff] at hl
  subst hl
  have k:=Any.slices_Index_string_empty laysIdxS a c ⟨#[47]⟩ w
  refine Calls.mono (show Calls Tryz.prog 38 _ _ _ from k) ?_
  rintro e w' ⟨rfl,rfl⟩
  exact ⟨rfl,rfl⟩
 ·obtain ⟨b,off,rfl,hb,hc⟩:=h.at (by omega)
  have hbl:(bas ws).length=n:=by unfold bas; simp [hl]
  have k:=Any.slices_Index_string laysIdxS b off n c (bas ws) ⟨#[47]⟩ w (by omega) hn (fun j hj=>by rw [hc j (by omega),bas_getD ws j (by omega)])
  refine Calls.mono (show Calls Tryz.prog 38 _ _ _ from k) ?_
  rintro e w' ⟨rfl,rfl⟩
  refine ⟨?_,rfl⟩
  unfold slashAt
  rw [List.take_of_length_le (by omega)]
def AtoiR (l:List UInt8) (e:Ending):Prop:=(∃ v,Lib.atoiAll l=.ok v/\e=.returned (.tuple #[.int .i64 v,.nilIface]))\/((∀ v,Lib.atoiAll l ≠ .ok v)/\∃ v t p,e=.returned (.tuple #[.int .i64 v,.iface t p]))
theorem atoi_calls (l:List UInt8) (hl:l.length<=281474976710656) (w:World) (hL:LD w) :
  Calls Tryz.prog 87 #[.string ⟨l.toArray⟩] w fun e w'=>AtoiR l e/\Below w.heap.size w w':=by
 have hsz:(⟨l.toArray⟩:ByteArray).size<=281474976710656:=hl
 cases h:Lib.atoiAll l with
 | ok u =>
   refine Calls.mono (show Calls Tryz.prog 87 _ _ _ from Any.strconv_Atoi_ok laysAtoi ⟨l.toArray⟩ (by omega) u h w) ?_
   rintro e w' ⟨rfl,hw⟩
   refine ⟨.inl ⟨u,h,rfl⟩,?_⟩
   rcases hw with rfl | ⟨t,rfl⟩
   ·exact br
   ·exact Lib.bytesWorld_below _ _ _
 | «syntax» =>
   obtain ⟨tp,p,hv⟩:=hL.syn
   refine Calls.mono (show Calls Tryz.prog 87 _ _ _ from Any.strconv_Atoi_syntax_var laysAtoi ⟨l.toArray⟩ hsz h tp p w hv) ?_
   rintro e w' ⟨N,rfl,_,_,hb⟩
   exact ⟨.inr ⟨fun u e=>(by rw [h] at e; cases e),_,_,_,rfl⟩,hb⟩
 | range =>
   obtain ⟨tp,p,hv⟩:=hL.rng
   refine Calls.mono (show Calls Tryz.prog 87 _ _ _ from Any.strconv_Atoi_range_var laysAtoi ⟨l.toArray⟩ hsz h tp p w hv) ?_
   rintro e w' ⟨N,rfl,_,_,hb⟩
   exact ⟨.inr ⟨fun u e=>(by rw [h] at e; cases e),_,_,_,rfl⟩,hb⟩
end
theorem strEq (x y:List UInt8):((⟨x.toArray⟩:ByteArray).toList == (⟨y.toArray⟩:ByteArray).toList)=decide (x=y):=by
 by_cases h:x=y
 ·subst h; simp
 ·rw [str_ne (fun e=>h (by have:=congrArg (fun b=>b.data.toList) e; simpa using this))]
  simp [h]
theorem wordsOf_ne (b:UInt8) (l:List UInt8):wordsOf b l ≠ []:=by unfold wordsOf; simp
theorem ZaL:∀ {ws:List (List UInt8)} {z:List Int},numsO ws=some z->z.length=ws.length
 | [],z,h=>by simp [numsO] at h; subst h; rfl
 | x :: xs, z, h => by
   unfold numsO at h
   cases hx:numO x with
   | none=>rw [hx] at h; cases h
   | some v =>
     rw [hx] at h
     cases hs:numsO xs with
     | none=>rw [hs] at h; cases h
     | some zs =>
       rw [hs] at h
       simp at h
       subst h
       simp [ZaL hs]
def NumR (x:List UInt8) (e:Ending):Prop:=(∃ v,numO x=some v/\e=.returned (.tuple #[.int .i64 v,.bool true]))\/(numO x=none/\e=.returned (.tuple #[.int .i64 0,.bool false]))
theorem atoi_bd {l:List UInt8} {v:Int} (h:Lib.atoiAll l=.ok v):-9223372036854775808<=v/\v<=9223372036854775807:=by
 cases l with
 | nil=>cases h
 | cons c r =>
   simp only [Lib.atoiAll] at h
   split at h
   ·cases h
   ·cases h
   ·split at h
    ·cases h
    ·split at h
     ·cases h
     ·injection h with h
      subst h
      split <;> omega
theorem numberOf_calls (x:List UInt8) (hx:x.length<=281474976710656) (w:World) (hL:LD w) :
  Calls Tryz.prog 54 #[.string ⟨x.toArray⟩] w fun e w'=>NumR x e/\Below w.heap.size w w':=by
 have TP:=trimP_calls ⟨x.toArray⟩ ⟨#[45]⟩ w
 have HA:=Lib.hid (atoi_calls x hx w hL)
 obtain ⟨tl,HTL⟩:=nm (α:=List UInt8) (Lib.trimPrefix x [45])
 have e1:Lib.trimPrefix (⟨x.toArray⟩:ByteArray).data.toList (⟨#[45]⟩:ByteArray).data.toList=tl:=HTL.out
 rw [e1] at TP
 clear e1
 obtain ⟨Y,HY⟩:=nm ((⟨tl.toArray⟩:ByteArray))
 have hy:Y.size=tl.length:=by rw [← HY.out]; rfl
 rw [HY.out] at TP
 obtain ⟨X,HX⟩:=nm ((⟨x.toArray⟩:ByteArray))
 rw [HX.out] at TP HA
 rw [HX.out]
 by_cases h10:tl.length<=10
 ·have k1:¬ (10:Int) < (Y.size:Int):=by omega
  go_enter Tryz.func54,Tryz.ntmps54
  go_wp2_with (go_at_call 86; refine TP.mono ?_; rintro e w' ⟨rfl,rfl⟩)
  refine HA.out.mono ?_
  rintro e w1 ⟨hr,hw1⟩
  rcases hr with ⟨v,hv,rfl⟩ | ⟨hv,v,t,p,rfl⟩
  ·have hb:=atoi_bd hv
   have HV:Hid (Lib.atoiAll x=.ok v):=hv
   have HI:=ZaC v hb.1 hb.2 w1 (hL.below hw1 nr)
   clear hv hb
   by_cases hc:Lib.itoa v=x
   ·have hcm:((⟨(Lib.itoa v).toArray⟩:ByteArray).toList == X.toList)=true:=by rw [← HX.out,strEq]; simp [hc]
    obtain ⟨Z,HZ⟩:=nm ((⟨(Lib.itoa v).toArray⟩:ByteArray))
    rw [HZ.out] at HI hcm
    go_wp2_with fail
    refine HI.mono ?_
    rintro e w2 ⟨rfl,hw2⟩
    go_wp2_with fail
    go_ret2
    exact ⟨.inl ⟨v,by unfold numO; rw [HTL.out,if_pos h10,HV.out]; simp [hc],rfl⟩,hw1.trans (hw2.mono hw1.size)⟩
   ·have hcm:((⟨(Lib.itoa v).toArray⟩:ByteArray).toList == X.toList)=false:=by rw [← HX.out,strEq]; simp [hc]
    obtain ⟨Z,HZ⟩:=nm ((⟨(Lib.itoa v).toArray⟩:ByteArray))
    rw [HZ.out] at HI hcm
    go_wp2_with fail
    refine HI.mono ?_
    rintro e w2 ⟨rfl,hw2⟩
    go_wp2_with fail
    go_ret2
    exact ⟨.inr ⟨by unfold numO; rw [HTL.out,if_pos h10,HV.out]; simp [hc],rfl⟩,hw1.trans (hw2.mono hw1.size)⟩
  ·have HV:Hid (∀ v,Lib.atoiAll x ≠ .ok v):=hv
   clear hv
   go_wp2_with fail
   go_ret2
   refine ⟨.inr ⟨?_,rfl⟩,hw1⟩
   unfold numO
   rw [HTL.out,if_pos h10]
   cases h:Lib.atoiAll x with
   | ok u=>exact absurd h (HV.out u)
   | «syntax» => rfl
   | range=>rfl
 ·have k1:(10:Int) < (Y.size:Int):=by omega
  go_enter Tryz.func54,Tryz.ntmps54
  go_wp2_with (go_at_call 86; refine TP.mono ?_; rintro e w' ⟨rfl,rfl⟩)
  go_ret2
  exact ⟨.inr ⟨by unfold numO; rw [HTL.out,if_neg h10],rfl⟩,br⟩
theorem itoa_short {z:Int} (h0:0<=z) {k:Nat} (hk:1<=k) (h:z < (10 ^ k:Nat)):(Lib.itoa z).length<=k:=by
 rw [itoa_dg h0]
 exact Zbf hk h0 h
theorem answer_calls (t:List UInt8) (ht:t.length<=1000000) (e0:Int) (h0:0<=e0) (h1:e0<=99) (w:World) (hL:LD w) :
  Calls Tryz.prog 14 #[.string ⟨t.toArray⟩,.int .i64 e0] w fun e w'=>e=.returned (.string ⟨((if e0=0 then t else errA e0) ++ [10]).toArray⟩)/\Below w.heap.size w w':=by
 have HI:=ZaC e0 (by omega) (by omega) w hL
 by_cases hz:e0=0
 ·subst hz
  have HC:Hid ((⟨t.toArray⟩:ByteArray) ++ ⟨#[10]⟩=⟨(t ++ [10]).toArray⟩):=Zcc t 10
  obtain ⟨X,HX⟩:=nm ((⟨t.toArray⟩:ByteArray))
  have hx:X.size<=1000000:=by rw [← HX.out]; exact ht
  have hx2:X.size+1<=9223372036854775807:=by omega
  rw [HX.out] at HC
  rw [HX.out]
  clear HI
  go_enter Tryz.func14,Tryz.ntmps14
  go_wp2_with fail
  go_ret
  exact ⟨congrArg Ending.returned (congrArg Value.string HC.out),br⟩
 ·have HC:Hid ((⟨([101,114,114,111,114,32]:List UInt8).toArray⟩:ByteArray) ++ ⟨(Lib.itoa e0).toArray⟩ ++ ⟨#[10]⟩=⟨(errA e0 ++ [10]).toArray⟩):=by
   show _=_
   rw [arr_cat2]
   exact (Zcc _ 10).trans rfl
  have k1:(e0 == 0)=false:=by rw [beq_eq_false_iff_ne]; exact hz
  rw [if_neg hz]
  obtain ⟨Z,HZ⟩:=nm ((⟨(Lib.itoa e0).toArray⟩:ByteArray))
  have hzs:Z.size<=2:=by rw [← HZ.out]; exact itoa_short h0 (by omega) (by omega)
  have hz2:6+Z.size<=9223372036854775807:=by omega
  have hz3:6+Z.size+1<=9223372036854775807:=by omega
  rw [HZ.out] at HI HC
  obtain ⟨X,HX⟩:=nm ((⟨t.toArray⟩:ByteArray))
  rw [HX.out]
  go_enter Tryz.func14,Tryz.ntmps14
  go_wp2_with fail
  refine HI.mono ?_
  rintro e w1 ⟨rfl,hw1⟩
  go_wp2_with fail
  go_ret
  exact ⟨congrArg Ending.returned (congrArg Value.string HC.out),hw1⟩
theorem getLastD_at (ws:List (List UInt8)):ws.getLastD []=ws.getD (ws.length - 1) []:=by
 rw [List.getLastD_eq_getLast?,List.getLast?_eq_getElem?,List.getD_eq_getElem?_getD]
theorem LstS.pre {w:World} {a:Option Addr} {n c:Nat} {ws:List (List UInt8)} (h:LstS w a n c ws) {m:Nat} (hm:m<=n):LstS w a m c (ws.take m):=by
 have hl:=h.len
 refine ⟨by rw [List.length_take]; omega,Nat.le_trans hm h.cap,?_⟩
 rcases h.2.2 with h0 | ⟨b,off,e,hs,hc⟩
 ·exact .inl (by omega)
 ·refine .inr ⟨b,off,e,hs,fun i hi=>?_⟩
  rw [hc i (by omega),List.getD_eq_getElem?_getD,List.getD_eq_getElem?_getD,List.getElem?_take_of_lt hi]
theorem LstS.post {w:World} {b off n c:Nat} {ws:List (List UInt8)} (h:LstS w (some ⟨b,off,none⟩) n c ws) {k:Nat} (hk:k < n):LstS w (some ⟨b,off+k,none⟩) (n - k) (c - k) (ws.drop k):=by
 have hl:=h.len
 have hc:=h.cap
 obtain ⟨b',off',e,hs,hcl⟩:=h.at (by omega)
 simp only [Option.some.injEq,Addr.mk.injEq,and_true] at e
 obtain ⟨rfl,rfl⟩:=e
 refine ⟨by rw [List.length_drop]; omega,by omega,.inr ⟨b,off+k,rfl,hs,fun i hi=>?_⟩⟩
 rw [Nat.add_assoc,hcl (k+i) (by omega),List.getD_eq_getElem?_getD,List.getD_eq_getElem?_getD,List.getElem?_drop]
def LinesR (s:List UInt8) (e:Ending) (w':World):Prop :=
 ((65536 < s.length\/200 < (tlines s).length)/\e=.returned (.tuple #[.slice none 0 0,.int .i64 2])) ∨
 (¬ (65536 < s.length\/200 < (tlines s).length)/\∃ a n c,e=.returned (.tuple #[.slice a n c,.int .i64 0])/\LstS w' a n c (tlines s))
theorem OwnX.lstS {base:Nat} {w:World} {v:Value} {ws:List (List UInt8)} (h:OwnX 9 base w v (ws.map sv)):∃ a c,v=.slice a ws.length c/\LstS w a ws.length c ws:=by
 by_cases h0:ws.length=0
 ·rw [List.length_eq_zero_iff] at h0
  subst h0
  rcases h.2 with ⟨rfl,_⟩ | ⟨g,cap,cur,rfl,_⟩
  ·exact ⟨none,0,rfl,rfl,nr,.inl rfl⟩
  ·exact ⟨_,cap,rfl,rfl,Nat.zero_le _,.inl rfl⟩
 ·obtain ⟨g,c,rfl,_,hl⟩:=h.strs (by omega)
  exact ⟨_,c,rfl,hl⟩
theorem strEmpty (y:List UInt8):(⟨y.toArray⟩:ByteArray).toList.isEmpty=decide (y=[]):=by
 have h:=strEq y []
 have e:(⟨([]:List UInt8).toArray⟩:ByteArray).toList=[]:=by simp
 rw [e] at h
 rw [← h]
 cases (⟨y.toArray⟩:ByteArray).toList <;> rfl
theorem linesOf_calls (s:List UInt8) (hs:s.length<=9223372036854775807) (w:World) (hL:LD w) :
  Calls Tryz.prog 13 #[.string ⟨s.toArray⟩] w fun e w'=>LinesR s e w'/\Below w.heap.size w w':=by
 by_cases hbig:65536 < s.length
 ·obtain ⟨X,HX⟩:=nm ((⟨s.toArray⟩:ByteArray))
  have hx:X.size=s.length:=by rw [← HX.out]; rfl
  have k1:(65536:Int) < (X.size:Int):=by omega
  rw [HX.out]
  go_enter Tryz.func13,Tryz.ntmps13
  go_wp2_with fail
  go_ret2
  exact ⟨.inl ⟨.inl hbig,rfl⟩,br⟩
 ·have SP:=Lib.hid (Zcw s 10 (by omega) w hL)
  obtain ⟨X,HX⟩:=nm ((⟨s.toArray⟩:ByteArray))
  have hx:X.size=s.length:=by rw [← HX.out]; rfl
  have k1:¬ (65536:Int) < (X.size:Int):=by omega
  have HB:Hid (¬ 65536 < s.length):=hbig
  have HW:=ZaH 10 s
  have hne:=wordsOf_ne 10 s
  have HTL:Hid (tlines s=if (wordsOf 10 s).getLastD []=[] then (wordsOf 10 s).dropLast else wordsOf 10 s):=rfl
  rw [HX.out] at SP
  rw [HX.out]
  go_enter Tryz.func13,Tryz.ntmps13
  go_wp2_with fail
  refine SP.out.mono ?_
  rintro e w1 ⟨n,a,rfl,ls,hw1⟩
  have hln:=ls.len
  generalize wordsOf 10 s=W at *
  have hn1:1<=n:=by
   cases W with
   | nil=>exact absurd rfl hne
   | cons x y=>simp at hln; omega
  have hn2:n<=70000:=by omega
  obtain ⟨m,rfl⟩:∃ m,n=m+1:=⟨n - 1,by omega⟩
  obtain ⟨b,off,rfl,hb,hc⟩:=ls.at (by omega)
  have c1:=hc m (by omega)
  clear hc
  have elast:W.getLastD []=W.getD m []:=by rw [getLastD_at,hln]; rfl
  have edrop:W.dropLast=W.take m:=by rw [List.dropLast_eq_take,hln]; rfl
  rw [elast,edrop] at HTL
  obtain ⟨Y,HY⟩:=nm ((⟨(W.getD m []).toArray⟩:ByteArray))
  have lp:=ls.pre (m:=m) (by omega)
  have q1:(m:Int) < (m:Int)+1:=by omega
  have q2:(m:Int)<=(m:Int)+1:=by omega
  have q3:(0:Int)<=(m:Int):=by omega
  by_cases hl:W.getD m []=[]
  ·have hcm:Y.toList.isEmpty=true:=by rw [← HY.out,strEmpty]; exact decide_eq_true hl
   rw [if_pos hl] at HTL
   rw [HY.out] at c1
   have HTN:Hid ((tlines s).length=m):=by show _=_; rw [HTL.out]; exact lp.len
   by_cases h200:200 < m
   ·have k2:(200:Int) < (m:Int):=by omega
    go_wp2_with fail
    go_ret2
    exact ⟨.inl ⟨.inr (by rw [HTN.out]; exact h200),rfl⟩,hw1⟩
   ·have k2:¬ (200:Int) < (m:Int):=by omega
    go_wp2_with fail
    go_ret2
    exact ⟨.inr ⟨fun h=>h.elim HB.out (fun h=>h200 (by rw [HTN.out] at h; exact h)),_,_,_,rfl,by rw [HTL.out]; exact lp⟩,hw1⟩
  ·have hcm:Y.toList.isEmpty=false:=by rw [← HY.out,strEmpty]; exact decide_eq_false hl
   rw [if_neg hl] at HTL
   rw [HY.out] at c1
   have HTN:Hid ((tlines s).length=m+1):=by show _=_; rw [HTL.out]; exact ls.len
   by_cases h200:200 < m+1
   ·have k2:(200:Int) < (m:Int)+1:=by omega
    go_wp2_with fail
    go_ret2
    exact ⟨.inl ⟨.inr (by rw [HTN.out]; exact h200),rfl⟩,hw1⟩
   ·have k2:¬ (200:Int) < (m:Int)+1:=by omega
    go_wp2_with fail
    go_ret2
    exact ⟨.inr ⟨fun h=>h.elim HB.out (fun h=>h200 (by rw [HTN.out] at h; exact h)),_,_,_,rfl,by rw [HTL.out]; exact ls⟩,hw1⟩
theorem filter_snoc {W:List (List UInt8)} {k:Nat} (h:k < W.length):(W.take (k+1)).filter (fun p => !p.isEmpty)=(W.take k).filter (fun p => !p.isEmpty) ++ (if W.getD k []=[] then [] else [W.getD k []]):=by
 rw [List.take_add_one,List.filter_append,List.getD_eq_getElem?_getD,List.getElem?_eq_getElem h]
 by_cases e:W[k]=[]
 ·simp [e]
 ·simp [e]
theorem dwordsOf_calls (l:List UInt8) (hl:l.length<=65536) (w:World) (hL:LD w) :
  Calls Tryz.prog 16 #[.string ⟨l.toArray⟩] w fun e w'=>∃ a n c,e=.returned (.slice a n c)/\LstS w' a n c (lwords l)/\Below w.heap.size w w':=by
 have SP:=Lib.hid (Zcw l 32 (by omega) w hL)
 obtain ⟨X,HX⟩:=nm ((⟨l.toArray⟩:ByteArray))
 have HW:=ZaH 32 l
 have HLW:Hid (lwords l=(wordsOf 32 l).filter (fun p => !p.isEmpty)):=rfl
 rw [HX.out] at SP
 rw [HX.out]
 go_enter Tryz.func16,Tryz.ntmps16
 go_wp2_with fail
 refine SP.out.mono ?_
 rintro e w1 ⟨n,a,rfl,ls,hw1⟩
 have hln:=ls.len
 generalize wordsOf 32 l=W at *
 have hn2:n<=65537:=by omega
 clear HW SP
 go_wp2_with fail
 go_loopw [3,9] (fun v i wr=>∃ k:Nat,k<=n/\i=.int .i64 k/\OwnX 9 w1.heap.size wr v (((W.take k).filter (fun p => !p.isEmpty)).map sv)/\Below w1.heap.size w1 wr) (fun _ i _=>n - (intOf i).toNat)
 case atStart=>exact ⟨0,Nat.zero_le _,rfl,OwnX.nil _ _ _,br⟩
 case round =>
  obtain ⟨k,hk,rfl,hO,hB⟩:=hrel
  by_cases hlt:k < n
  ·obtain ⟨b1,o1,rfl,g1,c1⟩:=ls.at1b hB nr hlt
   have HF:=Lib.hid (filter_snoc (W:=W) (k:=k) (by omega))
   have hfl:((W.take k).filter (fun p => !p.isEmpty)).length<=65537:=Nat.le_trans (List.length_filter_le _ _) (by rw [List.length_take]; omega)
   obtain ⟨F,HFL⟩:=nm ((W.take k).filter (fun p => !p.isEmpty))
   rw [HFL.out] at hO HF hfl
   by_cases he:W.getD k []=[]
   ·rw [if_pos he,List.append_nil] at HF
    obtain ⟨Y,HY⟩:=nm ((⟨(W.getD k []).toArray⟩:ByteArray))
    have hcm:Y.toList.isEmpty=true:=by rw [← HY.out,strEmpty]; exact decide_eq_true he
    rw [HY.out] at c1
    go_wp2_with fail
    go_roundw
    case rel=>exact ⟨k+1,by omega,by go_num,by rw [HF.out]; exact hO,hB⟩
    case measure=>simp [intOf]; omega
   ·rw [if_neg he] at HF
    obtain ⟨y,HYL⟩:=nm (W.getD k [])
    rw [HYL.out] at HF he c1
    have hcm:(⟨y.toArray⟩:ByteArray).toList.isEmpty=false:=by rw [strEmpty]; exact decide_eq_false he
    obtain ⟨Y,HY⟩:=nm ((⟨y.toArray⟩:ByteArray))
    rw [HY.out] at c1 hcm
    have hle:=hB.size
    go_wp2_with (at_builtin; refine ZaJ (T:=9) Tryz.underlying24 infoStr rfl (by decide) (by rfl) _ _ (by rfl) w1.heap.size _ (F.map sv) (.string Y) wr.heap.size w1 (by rfl) (by rfl) (by exact hO.below (Zac _ _)) (by exact Zaf _ _ _) (by rfl) (by rw [List.length_map]; omega) (by simp; omega) (by exact hB.alloc hle _) ?_; intro v2 w2 hO2 hB2 _ _)
    go_roundw
    case rel=>exact ⟨k+1,by omega,by go_num,by rw [HF.out,List.map_append,List.map_singleton]; unfold sv at hO2 ⊢; rw [HY.out]; exact hO2,hB2⟩
    case measure=>simp [intOf]; omega
  ·obtain rfl:k=n:=by omega
   have HO:=hO
   rw [List.take_of_length_le (by omega)] at HO
   obtain ⟨a2,c2,rfl,hl2⟩:=HO.lstS
   rw [← HLW.out] at hl2
   rw [← HLW.out]
   go_wp2_with fail
   go_ret
   exact ⟨_,_,_,rfl,hl2,hw1.trans (hB.mono hw1.size)⟩
theorem isSilent_calls (a:Option Addr) (n c:Nat) (ws:List (List UInt8)) (w:World) (h:LstS w a n c ws):Calls Tryz.prog 17 #[.slice a n c] w fun e w'=>e=.returned (.bool (silB ws))/\w'=w:=by
 have hln:=h.len
 by_cases h0:n=0
 ·subst h0
  rw [List.length_eq_zero_iff] at hln
  subst hln
  go_enter Tryz.func17,Tryz.ntmps17
  go_wp2_with fail
  go_ret
  exact ⟨rfl,rfl⟩
 ·obtain ⟨b,off,rfl,hb,hc⟩:=h.at (by omega)
  have c0:=hc 0 (by omega)
  clear hc
  obtain ⟨x,HXL⟩:=nm (ws.getD 0 [])
  have HP:=hasP_calls ⟨x.toArray⟩ ⟨#[35]⟩ w
  have HS:Hid (Lib.hasPrefix (⟨x.toArray⟩:ByteArray).data.toList (⟨#[35]⟩:ByteArray).data.toList=silB ws):=by
   show _=_
   have e1:ws.headD []=x:=by rw [← HXL.out]; cases ws <;> rfl
   have e2:decide (ws=[])=false:=by
    cases ws with
    | nil=>simp at hln; omega
    | cons _ _=>rfl
   unfold silB
   rw [e1,e2]
   show List.isPrefixOf [35] x=_
   cases x with
   | nil=>rfl
   | cons y r =>
     show (35 == y && true)=(false || decide (y=35))
     rw [Bool.and_true,Bool.false_or]
     by_cases h:y=35
     ·subst h; rfl
     ·rw [decide_eq_false h]
      exact beq_eq_false_iff_ne.2 (fun e=>h e.symm)
  rw [HS.out] at HP
  rw [HXL.out] at c0
  rw [Nat.add_zero] at c0
  obtain ⟨X,HX⟩:=nm ((⟨x.toArray⟩:ByteArray))
  rw [HX.out] at c0 HP
  have k1:((n:Int) == 0)=false:=by rw [beq_eq_false_iff_ne]; omega
  have k2:(0:Int) < (n:Int):=by omega
  have k3:0 < n:=by omega
  obtain ⟨B,HBB⟩:=nm (silB ws)
  rw [HBB.out] at HP
  rw [HBB.out]
  go_enter Tryz.func17,Tryz.ntmps17
  go_wp2_with (go_at_call 9; refine HP.mono ?_; rintro e w' ⟨rfl,rfl⟩)
  go_ret
  exact ⟨rfl,rfl⟩
def zv (ws:List (List UInt8)) (i:Nat):Int:=(numO (ws.getD i [])).getD 0
theorem numsO_all:∀ (ws:List (List UInt8)),(∀ i,i < ws.length->(numO (ws.getD i [])).isSome=true)->numsO ws=some ((List.range ws.length).map (zv ws))
 | [],_=>rfl
 | x :: xs, h => by
   have h0:=h 0 (by simp)
   have ih:=numsO_all xs (fun i hi=>h (i+1) (by simp; omega))
   obtain ⟨v,hv⟩:=Option.isSome_iff_exists.1 h0
   have hv':numO x=some v:=hv
   unfold numsO
   rw [hv',ih]
   simp only [Option.map_some,List.length_cons,List.range_succ_eq_map,List.map_cons,List.map_map]
   have e0:zv (x :: xs) 0=v:=by unfold zv; show (numO x).getD 0=v; rw [hv']; rfl
   rw [e0]
   rfl
theorem numsO_none:∀ (ws:List (List UInt8)) (i:Nat),i < ws.length->numO (ws.getD i [])=none->numsO ws=none
 | [],i,h,_=>by simp at h
 | x :: xs, 0, _, h => by
   have h':numO x=none:=h
   unfold numsO
   rw [h']
 | x :: xs, i + 1, hi, h => by
   have ih:=numsO_none xs i (by simp at hi; omega) h
   unfold numsO
   rw [ih]
   cases numO x <;> rfl
def TyI (w:World) (g:Nat):Prop:=∃ cs fz,w.heap[g]?=some (.cells cs 3 fz)
theorem TyI.lt {w:World} {g:Nat} (h:TyI w g):g < w.heap.size:=by
 obtain ⟨_,_,e⟩:=h
 exact (Array.getElem?_eq_some_iff.1 e).1
theorem TyI.of {w w':World} {g:Nat} (h:TyI w g) (e:w'.heap[g]?=w.heap[g]?):TyI w' g:=by
 obtain ⟨cs,fz,h⟩:=h
 exact ⟨cs,fz,e.trans h⟩
theorem TyI.far {w:World} {g b i:Nat} {v:Value} (h:TyI w g) (hb:g ≠ b):TyI (w.setCell ⟨b,i,none⟩ v) g:=h.of (Below.heap_setCell w ⟨b,i,none⟩ v g hb)
theorem TyI.row {w:World} {g n:Nat} {f:Nat->Value} (h:w.rowIs g 3 n f):TyI w g:=by
 obtain ⟨c,e,_⟩:=h
 exact ⟨_,_,e⟩
def NumsR (ws:List (List UInt8)) (n:Nat) (w:World) (e:Ending) (w':World):Prop :=
 (∃ z,numsO ws=some z/\e=.returned (.tuple #[.slice (some ⟨w.heap.size,0,none⟩) n n,.bool true])/\Lst w' (some ⟨w.heap.size,0,none⟩) n n z/\w.heap.size < w'.heap.size/\TyI w' w.heap.size)\/(numsO ws=none/\e=.returned (.tuple #[.slice none 0 0,.bool false]))
theorem Zat (a:Option Addr) (n c:Nat) (ws:List (List UInt8)) (w:World) (hl:LstS w a n c ws) (hn:n<=70000) (hw:∀ i,(ws.getD i []).length<=70000) (hL:LD w) :
  Calls Tryz.prog 32 #[.slice a n c] w fun e w'=>NumsR ws n w e w'/\Below w.heap.size w w':=by
 have HN:Hid (ws.length=n):=hl.len
 have HW:Hid (∀ i,(ws.getD i []).length<=70000):=hw
 have hmk:=run_make_row' (P:=Tryz.prog) 66 3 (.int .i64 0) 8 Tryz.underlying66 infoIntX rfl .i64 .i64 n (by omega) (by omega)
 clear hw
 go_enter Tryz.func32,Tryz.ntmps32
 go_wp2
 go_loopw [14] (fun i wr=>∃ k:Nat,k<=n/\i=.int .i64 k/\Hid (∀ j,j < k->(numO (ws.getD j [])).isSome=true)/\wr.rowIs w.heap.size 3 n (rowTo (zv ws) k)/\Below w.heap.size w wr) (fun i _=>n - (intOf i).toNat)
 case atStart=>exact ⟨0,Nat.zero_le _,rfl,fun j hj=>by omega,ZaG (World.rowIs_made _ _ _ _),br.alloc nr _⟩
 case round =>
  obtain ⟨k,hk,rfl,HG,R,hB⟩:=hrel
  by_cases hlt:k < n
  ·obtain ⟨b1,o1,rfl,g1,c1⟩:=hl.at1b hB nr hlt
   have hx:=HW.out k
   have LR:=hL.below hB nr
   have HU:=Lib.hid (numberOf_calls (ws.getD k []) (by omega) wr LR)
   obtain ⟨X,HX⟩:=nm ((⟨(ws.getD k []).toArray⟩:ByteArray))
   rw [HX.out] at c1 HU
   clear hx
   go_wp2_with fail
   refine HU.out.mono ?_
   rintro e w2 ⟨hu,hw2⟩
   have R2:=R.of_block (hw2.block _ R.lt)
   have hB2:=hB.trans (hw2.mono hB.size)
   rcases hu with ⟨v,hv,rfl⟩ | ⟨hv,rfl⟩
   ·have d3:=Zax R2 hlt
    have z3:=R2.frozen k
    have HZ:Hid (zv ws k=v):=by show _=_; unfold zv; rw [hv]; rfl
    have HG2:Hid (∀ j,j < k+1->(numO (ws.getD j [])).isSome=true):=fun j hj=>by
     by_cases e:j=k
     ·subst e; rw [hv]; rfl
     ·exact HG.out j (by omega)
    have HR3:Hid ((w2.setCell ⟨w.heap.size,k,none⟩ (.int .i64 v)).rowIs w.heap.size 3 n (rowTo (zv ws) (k+1))):=by
     have:=Zaw R2
     rw [HZ.out] at this
     exact this
    clear hv
    go_wp2_with fail
    go_roundw
    case rel=>exact ⟨k+1,by omega,by go_num,HG2,HR3.out,hB2.setCell (p:=⟨w.heap.size,k,none⟩) nr _⟩
    case measure=>simp [intOf]; omega
   ·have HE:Hid (numsO ws=none):=numsO_none ws k (by rw [HN.out]; exact hlt) hv
    clear hv
    go_wp2_with fail
    go_ret2
    exact ⟨.inr ⟨HE.out,rfl⟩,hB2⟩
  ·obtain rfl:k=n:=by omega
   have LW:=Zbe R
   have HE:Hid (numsO ws=some ((List.range k).map (zv ws))):=by
    have:=numsO_all ws (fun i hi=>HG.out i (by rw [HN.out] at hi; exact hi))
    rw [HN.out] at this
    exact this
   go_wp2_with fail
   go_ret2
   exact ⟨.inl ⟨_,HE.out,rfl,LW,R.lt,TyI.row R⟩,hB⟩
def ExR (ws:List (List UInt8)) (w:World) (e:Ending) (w':World):Prop :=
 (∃ x I O,exO ws=some (I,O)/\e=.returned (.tuple #[Exm.val x,.bool true])/\InEx w' x I O/\(∀ g o,x.a=some ⟨g,o,none⟩->w.heap.size<=g/\TyI w' g)/\(∀ g o,x.b=some ⟨g,o,none⟩->w.heap.size<=g/\TyI w' g))\/(exO ws=none/\e=.returned (.tuple #[.agg #[.slice none 0 0,.slice none 0 0],.bool false]))
theorem ZbN {ws:List (List UInt8)} {k:Nat} (hk:slashAt ws=(k:Int)) (h:numsO (ws.take k)=none\/numsO (ws.drop (k+1))=none):exO ws=none:=by
 unfold exO
 rw [if_neg (by omega),hk]
 rw [Int.toNat_natCast]
 rcases h with h | h
 ·rw [h]
 ·rw [h]
  cases numsO (ws.take k) <;> rfl
theorem exO_good {ws:List (List UInt8)} {k:Nat} (hk:slashAt ws=(k:Int)) {I O:List Int} (h1:numsO (ws.take k)=some I) (h2:numsO (ws.drop (k+1))=some O):exO ws=some (I,O):=by
 unfold exO
 rw [if_neg (by omega),hk]
 rw [Int.toNat_natCast,h1,h2]
theorem idxFrom_le (x:ByteArray):∀ (zs:List ByteArray) (i:Nat),Lib.idxFromS zs x i=-1\/∃ k:Nat,Lib.idxFromS zs x i=((i+k:Nat):Int)/\k < zs.length
 | [],i=>.inl rfl
 | z :: zs, i => by
   unfold Lib.idxFromS
   split
   ·exact .inr ⟨0,rfl,by simp⟩
   ·rcases idxFrom_le x zs (i+1) with h | ⟨k,h,hk⟩
    ·exact .inl h
    ·exact .inr ⟨k+1,by rw [h]; congr 1; omega,by simp; omega⟩
theorem slash_ways (ws:List (List UInt8)):slashAt ws=-1\/∃ k:Nat,slashAt ws=(k:Int)/\k < ws.length:=by
 unfold slashAt Lib.idxOfS
 rcases idxFrom_le ⟨#[47]⟩ (bas ws) 0 with h | ⟨k,h,hk⟩
 ·exact .inl h
 ·exact .inr ⟨k,by rw [h]; simp,by unfold bas at hk; simpa using hk⟩
theorem dec_lt (k u:Nat) (h:(Lib.decDigits u).length<=k):u < 10 ^ k:=by
 rw [Lib.decDigits_length] at h
 exact Nat.lt_of_lt_of_le (Lib.lt_pow_nDigits u) (Nat.pow_le_pow_right (by omega) h)
theorem numO_bd {x:List UInt8} {v:Int} (h:numO x=some v):-10000000000 < v/\v < 10000000000:=by
 unfold numO at h
 split at h
 ·rename_i h10
  split at h
  ·rename_i u _
   split at h
   ·rename_i e
    simp only [Option.some.injEq] at h
    subst h
    unfold Lib.itoa at e
    split at e
    ·have e2:Lib.trimPrefix x [45]=Lib.decDigits u.natAbs:=by rw [← e]; rfl
     rw [e2] at h10
     have:=dec_lt 10 u.natAbs h10
     omega
    ·have e2:Lib.trimPrefix x [45]=x:=by
      unfold Lib.trimPrefix
      rw [if_neg]
      rw [← e]
      intro hp
      have hd:=Zcu u.toNat
      have hne:=dec_ne u.toNat
      cases hh:Lib.decDigits u.toNat with
      | nil=>exact hne hh
      | cons y r =>
        rw [hh] at hp hd
        have h1:=(hd y (by simp)).1
        have h2:(45:UInt8)=y:=by
         unfold Lib.hasPrefix at hp
         simp [List.isPrefixOf] at hp
         exact hp
        subst h2
        simp at h1
     rw [e2,← e] at h10
     have:=dec_lt 10 u.toNat h10
     omega
   ·cases h
  ·cases h
 ·cases h
theorem numsO_bd:∀ {ws:List (List UInt8)} {z:List Int},numsO ws=some z->∀ i,-10000000000 < z.getD i 0/\z.getD i 0 < 10000000000
 | [],z,h,i=>by simp [numsO] at h; subst h; simp
 | x :: xs, z, h, i => by
   unfold numsO at h
   cases hx:numO x with
   | none=>rw [hx] at h; cases h
   | some v =>
     rw [hx] at h
     cases hs:numsO xs with
     | none=>rw [hs] at h; cases h
     | some zs =>
       rw [hs] at h
       simp at h
       subst h
       cases i with
       | zero=>exact numO_bd hx
       | succ i=>exact numsO_bd hs i
end Go.Proofs.YthmiojmlaclgaaaGreatDoor.Fx
