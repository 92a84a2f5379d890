/- What the law stands on: DkR DkS DkT DkU DkV DeskCountsWalk. -/
import Derived.Test.YthmiojmlaclgaaaGreatDoorJ00
import Derived.Test.YthmiojmlaclgaaaGreatDoorJ39
import Derived.Test.YthmiojmlaclgaaaGreatDoorJ34
import Derived.Test.YthmiojmlaclgaaaGreatDoorJ28
import Derived.Test.YthmiojmlaclgaaaGreatDoorJ21
import Derived.Test.YthmiojmlaclgaaaGreatDoorJ29
import Derived.Test.YthmiojmlaclgaaaGreatDoorJ22
import Derived.Test.YthmiojmlaclgaaaGreatDoorJ30
set_option maxRecDepth 100000
set_option maxHeartbeats 12800000
namespace Go.Proofs.YthmiojmlaclgaaaGreatDoor.Fx
open Go.RowKit
theorem run_large (s:List UInt8) (hs:s.length<=9223372036854775807) (w:World) (hL:LD w) (hb:65536 < s.length\/200 < (tlines s).length) :
  Calls Tryz.prog 6 #[.string ⟨s.toArray⟩] w fun e w'=>e=.returned (.string ⟨(runP s).toArray⟩)/\Below w.heap.size w w':=by
 have LN:=Lib.hid (linesOf_calls s hs w hL)
 have HR:Hid (runP s=errA 2 ++ [10]):=by show _=_; unfold runP; rw [if_pos hb]
 obtain ⟨Z,HZ⟩:=nm ((⟨s.toArray⟩:ByteArray))
 obtain ⟨V,HV⟩:=nm ((⟨(runP s).toArray⟩:ByteArray))
 rw [HZ.out] at LN ⊢
 rw [HV.out]
 go_enter Tryz.func6,Tryz.ntmps6
 go_wp2_with fail
 refine LN.out.mono ?_
 rintro e w1 ⟨hr,hw1⟩
 rcases hr with ⟨_,rfl⟩ | ⟨hn,_⟩
 ·have AN:Calls Tryz.prog 14 #[.string ⟨#[]⟩,.int .i64 2] w1 fun e w'=>e=.returned (.string ⟨(errA 2 ++ [10]).toArray⟩)/\Below w1.heap.size w1 w':=answer_calls [] (by decide) 2 (by decide) (by decide) w1 (hL.below hw1 nr)
  rw [← HR.out,HV.out] at AN
  go_wp2_with fail
  refine AN.mono ?_
  rintro e w2 ⟨rfl,hw2⟩
  go_wp2_with fail
  go_ret
  exact ⟨rfl,hw1.trans (hw2.mono hw1.size)⟩
 ·exact absurd hb hn
theorem mem_short {b:UInt8} {l x:List UInt8} (h:x ∈ wordsOf b l):x.length<=l.length:=by
 obtain ⟨i,hi,rfl⟩:=List.getElem_of_mem h
 have:=(ZaH b l).2 i
 rw [List.getD_eq_getElem?_getD,List.getElem?_eq_getElem hi] at this
 exact this
theorem lwords_short (l:List UInt8):(lwords l).length<=l.length+1/\∀ i,((lwords l).getD i []).length<=l.length:=by
 refine ⟨Nat.le_trans (List.length_filter_le _ _) (ZaH 32 l).1,fun i=>?_⟩
 by_cases hi:i < (lwords l).length
 ·rw [List.getD_eq_getElem?_getD,List.getElem?_eq_getElem hi]
  exact mem_short (List.mem_filter.1 (show (lwords l)[i] ∈ (wordsOf 32 l).filter (fun p => !p.isEmpty) from List.getElem_mem hi)).1
 ·rw [List.getD_eq_getElem?_getD,List.getElem?_eq_none (by omega)]
  exact Nat.zero_le _
theorem tline_short (s:List UInt8) (i:Nat):((tlines s).getD i []).length<=s.length:=by
 by_cases hi:i < (tlines s).length
 ·rw [List.getD_eq_getElem?_getD,List.getElem?_eq_getElem hi]
  have hm:(tlines s)[i] ∈ tlines s:=List.getElem_mem hi
  generalize (tlines s)[i]=x at hm
  show x.length<=_
  unfold tlines at hm
  split at hm
  ·exact mem_short (List.dropLast_subset _ hm)
  ·exact mem_short hm
 ·rw [List.getD_eq_getElem?_getD,List.getElem?_eq_none (by omega)]
  exact Nat.zero_le _
theorem sil_ne {ws:List (List UInt8)} (h:silB ws=false):1<=ws.length:=by
 cases ws with
 | nil=>simp [silB] at h
 | cons x r=>simp
theorem dLine_len {d:Dsk} (h:d.ok) (o l:List UInt8):(dLine (d,o) l).2.length<=o.length+5001:=by
 unfold dLine
 split
 ·show o.length<=_
  omega
 ·have:=Out.line_short (outB_step h (lwords l))
  show (o ++ ((dStep d (lwords l)).line ++ [10])).length<=_
  rw [List.length_append,List.length_append]
  show _+(_+1)<=_
  omega
theorem dLine_sil {p:Dsk × List UInt8} {l:List UInt8} (h:silB (lwords l)=true):dLine p l=p:=by unfold dLine; rw [if_pos h]
theorem dLine_not {p:Dsk × List UInt8} {l:List UInt8} (h:silB (lwords l)=false):dLine p l=((dStep p.1 (lwords l)).d,p.2 ++ ((dStep p.1 (lwords l)).line ++ [10])):=by unfold dLine; rw [if_neg (by rw [h]; decide)]
def RunI (base b sb bB:Nat) (ls:List (List UInt8)) (w1:World) (k:Nat) (wr:World):Prop:=(∃ a cap X,DkIn base wr b sb (dTo ls k).1 a cap X)/\Lib.IsBuilderF 38 5 base bB (Lib.byteCells (dTo ls k).2) wr/\(dTo ls k).2.length<=k * 5001/\Below base w1 wr
theorem run_wstr {B b sb bB:Nat} {ls:List (List UInt8)} {w1 w5:World} {k:Nat} {OD:Out} {a4:Option Addr} {cap4:Nat} {X4:Nat->Exm} (d5:DkIn B w5 b sb OD.d a4 cap4 X4) (B5:Lib.IsBuilderF 38 5 B bB (Lib.byteCells (dTo ls k).2) w5) (hk3:(dTo ls k).2.length<=k * 5001) (hls:OD.line.length<=5000) (HT:dTo ls (k+1)=(OD.d,(dTo ls k).2 ++ (OD.line ++ [10]))) (hk:k<=200) (hlow:Below B w1 w5) :
  Calls Tryz.prog 19 #[.pointer (some ⟨bB,0,none⟩),.string ⟨(OD.line ++ [10]).toArray⟩] w5 fun e w'=>(∃ v,e=.returned (.tuple #[v,.nilIface]))/\Hid (RunI B b sb bB ls w1 (k+1) w'):=by
 have W0:=wstr_calls _ _ _ ⟨(OD.line ++ [10]).toArray⟩ w5 B5 (by
  have e1:(Lib.byteCells (dTo ls k).2).length=(dTo ls k).2.length:=by unfold Lib.byteCells; rw [List.length_map]
  rw [e1]
  show _+(OD.line ++ [10]).length<=_
  rw [List.length_append]
  show _+(_+1)<=_
  omega) d5.lt
 refine Calls.mono (show Calls Tryz.prog 19 _ _ _ from W0) (fun e w6 h=>⟨⟨_,h.1⟩,?_⟩)
 obtain ⟨_,hB6,hw6,ho6⟩:=h
 show RunI _ _ _ _ _ _ _ _
 unfold RunI
 rw [HT]
 refine ⟨⟨a4,cap4,X4,?_⟩,.inr ?_,?_,hlow.trans hw6⟩
 ·rcases B5 with h | h
  ·obtain ⟨_,v,h5,_⟩:=h
   exact d5.others h5 hw6.size ho6 (d5.ldb.low hw6)
  ·obtain ⟨_,v,h5,_⟩:=h
   exact d5.others h5 hw6.size ho6 (d5.ldb.low hw6)
 ·have e2:Lib.byteCells ((dTo ls k).2 ++ (OD.line ++ [10]))=Lib.byteCells (dTo ls k).2 ++ Lib.strCells ⟨(OD.line ++ [10]).toArray⟩:=by
   unfold Lib.byteCells Lib.strCells
   rw [List.map_append]
  rw [e2]
  exact hB6
 ·show ((dTo ls k).2 ++ (OD.line ++ [10])).length<=_
  rw [List.length_append,List.length_append]
  show _+(_+1)<=_
  omega
theorem run_good (s:List UInt8) (w:World) (hL:LD w) (hb:¬ (65536 < s.length\/200 < (tlines s).length)) :
  Calls Tryz.prog 6 #[.string ⟨s.toArray⟩] w fun e w'=>e=.returned (.string ⟨(runP s).toArray⟩)/\Below w.heap.size w w':=by
 have LN:=Lib.hid (linesOf_calls s (by omega) w hL)
 have HR:Hid (runP s=(dTo (tlines s) (tlines s).length).2):=by show _=_; unfold runP; rw [if_neg hb]
 obtain ⟨Z,HZ⟩:=nm ((⟨s.toArray⟩:ByteArray))
 rw [HZ.out] at LN ⊢
 obtain ⟨V,HV⟩:=nm ((⟨(runP s).toArray⟩:ByteArray))
 rw [HV.out]
 rw [HR.out] at HV
 go_enter Tryz.func6,Tryz.ntmps6
 go_wp2_with fail
 refine LN.out.mono ?_
 rintro e w1 ⟨hr,hw1⟩
 rcases hr with ⟨hn,_⟩ | ⟨_,al,nl,cl,rfl,ll⟩
 ·exact absurd hn hb
 have L1:=hL.below hw1 nr
 have ND:=Lib.hid (newDesk_calls w1 L1)
 have HS:Hid (∀ i,((tlines s).getD i []).length<=65536):=fun i=>Nat.le_trans (tline_short s i) (by omega)
 have HN2:Hid ((tlines s).length<=200):=by show _<=_; omega
 clear hb hL LN
 obtain ⟨ls,HLS⟩:=nm (tlines s)
 rw [HLS.out] at HS HN2 HV ll
 have hll:=ll.len
 have hN2:=HN2.out
 go_wp2_with fail
 refine ND.out.mono ?_
 rintro e w2 ⟨b,sb,X,rfl,hd,hw2⟩
 go_wp2_with fail
 go_loopw [24] (fun i wr=>∃ k:Nat,k<=nl/\i=.int .i64 k/\Hid (RunI w1.heap.size b sb w2.heap.size ls w1 k wr)) (fun i _=>nl - (intOf i).toNat)
 case atStart =>
  refine ⟨0,Nat.zero_le _,rfl,?_⟩
  show RunI _ _ _ _ _ _ _ _
  unfold RunI
  rw [dTo_zero]
  have hal:=Zac w2 (.cells #[.pointer none,.slice none 0 0] 38)
  exact ⟨⟨none,0,X,hd.below hal⟩,.inl ⟨hw2.size,.slice none 0 0,Array.getElem?_push_size,⟨rfl,.inl ⟨rfl,rfl⟩⟩,by simp [Value.ownBlock]⟩,Nat.zero_le _,hw2.trans (hal.mono hw2.size)⟩
 case round =>
  obtain ⟨k,hk,rfl,HI⟩:=hrel
  obtain ⟨⟨a,cap,X',hk1⟩,hk2,hk3,hk4⟩:=HI.out
  by_cases hlt:k < nl
  ·obtain ⟨b1,o1,rfl,g1,c1⟩:=ll.at1b hk4 nr hlt
   have WO:=Lib.hid (dwordsOf_calls (ls.getD k []) (HS.out k) wr hk1.ld)
   obtain ⟨Y,HY⟩:=nm ((⟨(ls.getD k []).toArray⟩:ByteArray))
   rw [HY.out] at c1 WO
   go_wp2_with fail
   refine WO.out.mono ?_
   rintro e w3 ⟨a3,n3,c3,rfl,l3,hw3⟩
   have hkl:k < ls.length:=by omega
   have SI:=Lib.hid (isSilent_calls a3 n3 c3 _ w3 l3)
   have d3:=hk1.below hw3
   have B3:=isBuilder_ch (DkCh.ofBelow hw3 hk1.lt) hk2
   have e3:=hk4.trans (hw3.mono hk1.lt)
   have hw3s:=hw3.size
   by_cases hsl:silB (lwords (ls.getD k []))=true
   ·rw [hsl] at SI
    have HI2:Hid (RunI w1.heap.size b sb w2.heap.size ls w1 (k+1) w3):=by
     show RunI _ _ _ _ _ _ _ _
     unfold RunI
     rw [dTo_succ hkl,dLine_sil hsl]
     exact ⟨⟨a,cap,X',d3⟩,B3,by omega,e3⟩
    clear HI hk1 hk2 hk3 hk4 d3 B3 hsl
    go_wp2_with fail
    refine SI.out.mono ?_
    rintro e w' ⟨rfl,hwE⟩
    have hwF:=hwE.symm
    subst hwF
    go_wp2_with fail
    go_roundw
    case rel=>exact ⟨k+1,by omega,by go_num,HI2⟩
    case measure=>simp [intOf]; omega
   ·have hsl:silB (lwords (ls.getD k []))=false:=by simpa using hsl
    rw [hsl] at SI
    have hws:=lwords_short (ls.getD k [])
    have hlk:=HS.out k
    have hn3:=l3.len
    have hws1:=hws.1
    have h1n:=sil_ne hsl
    have DO:=Lib.hid (do_calls d3 a3 n3 c3 _ l3 (by omega) (by omega) (fun i=>Nat.le_trans (hws.2 i) (by omega)))
    have HOB:=Lib.hid (outB_step hk1.ok (lwords (ls.getD k [])))
    have HT:Hid (dTo ls (k+1)=((dStep (dTo ls k).1 (lwords (ls.getD k []))).d,(dTo ls k).2 ++ ((dStep (dTo ls k).1 (lwords (ls.getD k []))).line ++ [10]))):=by show _=_; rw [dTo_succ hkl,dLine_not hsl]
    obtain ⟨OD,HOD⟩:=nm (dStep (dTo ls k).1 (lwords (ls.getD k [])))
    rw [HOD.out] at DO HOB HT
    clear hws HI
    go_wp2_with fail
    refine SI.out.mono ?_
    rintro e w' ⟨rfl,hwE⟩
    have hwF:=hwE.symm
    subst hwF
    go_wp2_with fail
    refine DO.out.mono ?_
    rintro e w4 ⟨rfl,⟨a4,cap4,X4,d4⟩,ch4⟩
    obtain ⟨LB,HLB0⟩:∃ X:ByteArray,(⟨(OD.line ++ [10]).toArray⟩:ByteArray)=X:=⟨_,rfl⟩
    have HLB:=Lib.hid HLB0
    clear HLB0
    have AN:Hid (Calls Tryz.prog 14 #[.string ⟨OD.told.toArray⟩,.int .i64 OD.e] w4 fun e w'=>e=.returned (.string LB)/\Below w4.heap.size w4 w'):=by
     have h:=answer_calls OD.told (Nat.le_trans HOB.out.1 (by omega)) OD.e HOB.out.2.1 HOB.out.2.2 w4 d4.ld
     rw [Out.line_is,HLB.out] at h
     exact h
    go_wp2_with fail
    refine AN.out.mono ?_
    rintro e w5 ⟨rfl,hw5⟩
    have ch5:=ch4.trans (DkCh.ofBelow hw5 d4.lt)
    have d5:=d4.below hw5
    have B5:=isBuilder_ch ch5 B3
    have hls:=Out.line_short HOB.out
    have WS:=Lib.hid (run_wstr d5 B5 hk3 hls HT.out (by omega) (e3.trans ch5.low))
    rw [HLB.out] at WS
    clear hk3 hls d5 B5 ch5 e3 hk1 hk2 hk4
    go_wp2_with fail
    refine WS.out.mono ?_
    rintro e w6 ⟨⟨v6,rfl⟩,HI6⟩
    go_wp2_with fail
    go_roundw
    case rel=>exact ⟨k+1,by omega,by go_num,HI6⟩
    case measure=>simp [intOf]; omega
  ·obtain rfl:k=nl:=by omega
   have BS:Hid (Calls Tryz.prog 20 #[.pointer (some ⟨w2.heap.size,0,none⟩)] wr fun e w'=>e=.returned (.string V)/\Below w1.heap.size wr w'):=by
    have BS0:=bstr_calls _ _ _ wr hk2 hk1.lt
    rw [hll] at HV
    rw [HV.out] at BS0
    exact BS0.mono (fun e w' h=>⟨h.1,h.2.2⟩)
   go_wp2_with fail
   refine BS.out.mono ?_
   rintro e w6 ⟨rfl,hw6⟩
   go_wp2_with fail
   go_ret
   exact ⟨rfl,hw1.trans ((hk4.trans hw6).mono hw1.size)⟩
theorem run_calls (s:List UInt8) (hs:s.length<=9223372036854775807) (w:World) (hL:LD w) :
  Calls Tryz.prog 6 #[.string ⟨s.toArray⟩] w fun e w'=>e=.returned (.string ⟨(runP s).toArray⟩)/\Below w.heap.size w w':=by
 by_cases hb:65536 < s.length\/200 < (tlines s).length
 ·exact run_large s hs w hL hb
 ·exact run_good s w hL hb
theorem dStep_ok {d:Dsk} (h:d.ok) (ws:List (List UInt8)):(dStep d ws).d.ok:=by
 unfold dStep
 split
 ·unfold dData
  split
  ·exact h
  ·split
   ·exact h
   ·exact ⟨h.c,h.s,by show (d.ex ++ [_]).length<=16; rw [List.length_append]; simp; omega,h.T,h.sy⟩
 split
 ·unfold dAlone
  split
  ·unfold dTake
   split
   ·split
    ·exact h
    ·exact ⟨h.c,h.s,h.n,by show (d.T ++ _).length<=4096; rw [List.length_append]; omega,by show d.sy<=(d.T ++ _).length; rw [List.length_append]; have:=h.sy; omega⟩
   ·exact h
  split
  ·exact ⟨h.c,h.s,h.n,h.T,nr⟩
  split
  ·have hF:=flat_le d.T
   have hT:=h.T
   exact ⟨h.c,h.s,h.n,by show (d.T.take _).length<=4096; rw [List.length_take]; omega,by show (flatLn (begL d.T)).length<=(d.T.take (flatLn (begL d.T)).length).length; rw [List.length_take]; omega⟩
  split
  ·unfold dAudit
   rw [dNum_d]
   exact h
  split
  ·exact h
  ·exact h
 split
 ·exact h
 ·rename_i z hz
  unfold dNums
  split
  ·unfold dConf
   split
   ·rename_i hc
    have hb:=numsO_bd hz 3
    refine ⟨?_,?_,h.n,h.T,h.sy⟩
    ·show cfgB (cfgOf z)=true
     cases e:cfgB (cfgOf z) with
     | true=>rfl
     | false=>rw [cfgI_no e] at hc; cases hc
    ·show 0<=max (z.getD 3 0) 0/\max (z.getD 3 0) 0 < 18446744073709551616
     omega
   ·exact h
  split
  ·unfold dCrash
   have hT:=h.T
   have hcr:=crN_le (z.getD 0 0) h.sy
   exact ⟨h.c,h.s,h.n,by show (d.T.take _).length<=4096; rw [List.length_take]; omega,by show crN d.T.length d.sy (z.getD 0 0)<=(d.T.take (crN d.T.length d.sy (z.getD 0 0))).length; rw [List.length_take]; omega⟩
  split
  ·unfold dLoss
   rw [dNum_d]
   exact h
  ·exact h
theorem dTo_ok (ls:List (List UInt8)):∀ j,j<=ls.length->(dTo ls j).1.ok/\(dTo ls j).2.length<=j * 5001
 | 0,_=>by rw [dTo_zero]; exact ⟨d0_ok,Nat.zero_le _⟩
 | j + 1, h => by
   obtain ⟨h1,h2⟩:=dTo_ok ls j (by omega)
   rw [dTo_succ (by omega)]
   have hl:=dLine_len h1 (dTo ls j).2 (ls.getD j [])
   refine ⟨?_, by have e : (dTo ls j) = ((dTo ls j).1, (dTo ls j).2) := rfl
                  rw [e]; omega⟩
   cases hs:silB (lwords (ls.getD j [])) with
   | true=>rw [dLine_sil hs]; exact h1
   | false=>rw [dLine_not hs]; exact dStep_ok h1 _
def tA:List UInt8:=[35,10,10,115,116,101,112]
def tB:List UInt8:=[100,97,116,97,32,54,53,53,51,54,32,47,32,49,51,49,48,55,50,10,115,116,101,112,10,115,116,101,112,10,97,117,100,105,116,10,99,114,97,115,104,32,48,10,98,121,116,101,115,10,97,117,100,105,116,10]
def d1:Dsk:={ d0 with ex:=[([65536],[131072])] }
theorem itoa_12:Lib.itoa 1=[49]/\Lib.itoa 2=[50]:=by
 refine ⟨?_,?_⟩ <;> simp [Lib.itoa,Lib.decDigits]
theorem errA_2:errA 2 ++ [10]=[101,114,114,111,114,32,50,10]:=by unfold errA; rw [itoa_12.2]; rfl
theorem lwords_full {l x:List UInt8} (h:x ∈ lwords l):x ≠ []:=by
 have:=(List.mem_filter.1 (show x ∈ (wordsOf 32 l).filter (fun p => !p.isEmpty) from h)).2
 intro e
 rw [e] at this
 exact absurd this (by decide)
theorem sil_of {ws:List (List UInt8)} {c:UInt8} {r:List UInt8} (hl:1<=ws.length) (h:ws.getD 0 []=c :: r):silB ws=decide (c=35):=by
 cases ws with
 | nil=>simp at hl
 | cons x xs =>
   have e:x=c :: r:=h
   subst e
   unfold silB
   rw [decide_eq_false (by simp),Bool.false_or]
   rfl
theorem runP_large {s:List UInt8} (h:65536 < s.length\/200 < (tlines s).length):runP s=[101,114,114,111,114,32,50,10]:=by
 unfold runP
 rw [if_pos h,errA_2]
theorem runP_not {s:List UInt8} (h:¬ (65536 < s.length\/200 < (tlines s).length)):runP s=(dTo (tlines s) (tlines s).length).2:=by
 unfold runP
 rw [if_neg h]
end Go.Proofs.YthmiojmlaclgaaaGreatDoor.Fx
