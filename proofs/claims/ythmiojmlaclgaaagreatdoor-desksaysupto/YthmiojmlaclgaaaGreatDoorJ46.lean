/- What the law stands on: RefDkH RefDkJ. -/
import Derived.Test.YthmiojmlaclgaaaGreatDoorJ00
import Derived.Test.YthmiojmlaclgaaaGreatDoorJ42
import Derived.Test.YthmiojmlaclgaaaGreatDoorJ45
import Derived.Test.YthmiojmlaclgaaaGreatDoorJ44
set_option maxRecDepth 100000
set_option maxHeartbeats 12800000
namespace Go.Proofs.YthmiojmlaclgaaaGreatDoor.Fx
open Go.RowKit
section
variable {base:Nat} {w w':World} {b:Nat} {d:Dsk} {a:Option Addr} {cap:Nat} {X:Nat->Exm}
theorem line_crash (h:BnIn base w b d a cap X) (al:Option Addr) (nl cl:Nat) (ws:List (List UInt8)) (hl:LstS w al nl cl ws) (hn:nl<=70000) (hw:∀ i,(ws.getD i []).length<=70000) (z:List Int) (hz:numsO ws=some z) (hzl:z.length=1) :
  Calls Tryz.prog 21 #[.pointer (some ⟨b,0,none⟩),.string ⟨#[99,114,97,115,104]⟩,.slice al nl cl] w fun e w'=>BnR base b w (dStep d ([99,114,97,115,104] :: ws)) e w':=by
 have HN:Hid (ws.length=nl):=hl.len
 have WH:=Lib.hid (ZaD al nl cl ws w hl hn hw h.ld)
 have HH:Hid (∀ q,Below w.heap.size w q->BnIn base q b d a cap X):=fun q hq=>h.below hq
 have hlt0:=h.lt
 have hmm:=@run_makeMap Tryz.prog
 have hT:=h.ok.T
 have hsy:=h.ok.sy
 have HBG:Hid (∀ q,Below w.heap.size w q->Calls Tryz.prog 41 #[.string ⟨d.T.toArray⟩] q fun e w'=>RightR d.T q e w'/\Below q.heap.size q w'):=fun q hq=>Zbt ⟨d.T.toArray⟩ d.T q rfl (by show d.T.length<=_; omega) (h.below hq).ld
 have HWR:Hid (∀ q e0,Below w.heap.size w q->1<=e0->e0<=99->Calls Tryz.prog 39 #[.int .i64 e0] q fun e w'=>e=.returned (.string ⟨(errA e0).toArray⟩)/\Below q.heap.size q w'):=fun q e0 hq h0 h1=>ZaQ e0 h0 h1 q (h.below hq).ld
 have HIT:Hid (∀ q (z:Int),Below w.heap.size w q->-9223372036854775808<=z->z<=9223372036854775807->Calls Tryz.prog 28 #[.int .i64 z] q fun e w'=>e=.returned (.string ⟨(Lib.itoa z).toArray⟩)/\Below q.heap.size q w'):=fun q z hq h0 h1=>ZaC z h0 h1 q (h.below hq).ld
 have HZ:=Lib.hid hz
 have hlz:=ZaL hz
 rw [HN.out] at hlz
 obtain rfl:nl=1:=by omega
 have hws:ws ≠ []:=fun e=>by have:=HN.out; rw [e] at this; simp at this
 have HD:Hid (dStep d ([99,114,97,115,104] :: ws)=dCrash (z.getD 0 0) d):=by
  show _=_
  rw [step_nums (by decide) hws hz]
  unfold dNums
  rw [if_neg (fun e=>by have:=e.1; revert this; decide),if_pos ⟨rfl,hzl⟩]
 obtain ⟨TB,HTB⟩:=nm ((⟨d.T.toArray⟩:ByteArray))
 have hTB:d.T.length=TB.size:=by rw [← HTB.out]; rfl
 rw [HTB.out] at HBG
 have KB:Hid (∀ q,Below w.heap.size w q->q.cell? ⟨b,12,none⟩=some (.string TB)/\q.cell? ⟨b,13,none⟩=some (.int .i64 d.sy)/\q.frozen? ⟨b,12,none⟩=false/\q.frozen? ⟨b,13,none⟩=false):=fun q hq=>⟨by rw [← HTB.out]; exact (h.below hq).cells.2.2.1,(h.below hq).cells.2.2.2,(h.below hq).row.frozen 12,(h.below hq).row.frozen 13⟩
 obtain ⟨V,HV⟩:=nm ((⟨#[99,114,97,115,104]⟩:ByteArray))
 have e0:(V.toList == [100,97,116,97])=false:=by rw [← HV.out]; exact (strEqL [99,114,97,115,104] [100,97,116,97]).trans (by decide)
 have e1:(V.toList == [99,111,110,102,105,103])=false:=by rw [← HV.out]; exact (strEqL [99,114,97,115,104] [99,111,110,102,105,103]).trans (by decide)
 have e2:(V.toList == [115,121,110,99])=false:=by rw [← HV.out]; exact (strEqL [99,114,97,115,104] [115,121,110,99]).trans (by decide)
 have e3:(V.toList == [99,114,97,115,104])=true:=by rw [← HV.out]; exact (strEqL [99,114,97,115,104] [99,114,97,115,104]).trans (by decide)
 have e4:(V.toList == [98,121,116,101,115])=false:=by rw [← HV.out]; exact (strEqL [99,114,97,115,104] [98,121,116,101,115]).trans (by decide)
 have e5:(V.toList == [114,101,112,97,105,114])=false:=by rw [← HV.out]; exact (strEqL [99,114,97,115,104] [114,101,112,97,105,114]).trans (by decide)
 rw [HV.out]
 clear hw hws hz hlz
 go_enter Tryz.func21,Tryz.ntmps21
 go_wp2_with fail
 refine WH.out.mono ?_
 rintro e w1 ⟨hr1,hd1⟩
 rcases hr1 with ⟨z',an,cn,hz',rfl,lz,tz⟩ | ⟨hz',_⟩
 rotate_left
 ·rw [HZ.out] at hz'; cases hz'
 obtain rfl:z=z':=by rw [HZ.out] at hz'; exact Option.some.inj hz'
 clear hz' tz
 obtain ⟨q1,q2,q3,q4,q5,q6,q7,q8,r1,r2,r3,r4,r5,r6,r7,r8,HLK,HBQ⟩:=Zbo w1
 have hd8:Below w.heap.size w q8:=hd1.trans (HBQ.out.mono hd1.size)
 have LK:=HLK.out [99,114,97,115,104] (by decide)
 rw [show manyO [99,114,97,115,104]=some 1 by decide] at LK
 have LK2:(Instr.lookup 79 (.map (some w1.heap.size)) (.string V) true).run Tryz.prog q8=.ok (.tuple #[.int .i64 1,.bool true]) q8:=by rw [← HV.out]; exact LK
 obtain ⟨y12,y13,f12,f13⟩:=KB.out _ hd8
 clear LK HLK
 go_wp2_with fail
 refine (HBG.out _ hd8).mono ?_
 rintro e w2 ⟨⟨ls,la,lc,R,hB,hR,hRec,_,rfl⟩,bel2⟩
 have hd2:=hd8.trans (bel2.mono hd8.size)
 obtain ⟨x12,x13,g12,g13⟩:=KB.out _ hd2
 clear r1 r2 r3 r4 r5 r6 r7 r8 LK2 y12 y13 f12 f13 hmm
 have lz2:=lz.below (HBQ.out.trans (bel2.mono HBQ.out.size)) nr
 obtain ⟨gn,on,rfl,hgn,hcn⟩:=lz2.at (by omega)
 have cn0:=hcn 0 (by omega)
 rw [Nat.add_zero] at cn0
 obtain ⟨zc,HZC⟩:=nm (z.getD 0 0)
 rw [HZC.out] at cn0 HD
 have hcr:=crN_le zc hsy
 have HCR:Hid (crN d.T.length d.sy zc=d.sy+(min (max zc 0) ((d.T.length:Int) - (d.sy:Int))).toNat):=rfl
 obtain ⟨CR,HCRR⟩:=nm (crN d.T.length d.sy zc)
 have HDC:Hid (dCrash zc d=⟨okA,0,{ d with T:=d.T.take CR,sy:=CR }⟩):=by show _=_; unfold dCrash; rw [HCRR.out]
 rw [HCRR.out] at hcr HCR
 rw [hTB] at hcr HCR
 have HB2:Hid (BnIn base ((w2.setCell ⟨b,12,none⟩ (.string ⟨(d.T.take CR).toArray⟩)).setCell ⟨b,13,none⟩ (.int .i64 CR)) b { d with T:=d.T.take CR,sy:=CR } a cap X):=(HH.out _ hd2).setTS (by rw [List.length_take]; omega) (by rw [List.length_take]; omega)
 have hbb:=(HH.out _ hd2).hb
 have HBL:Hid (Below base w ((w2.setCell ⟨b,12,none⟩ (.string ⟨(d.T.take CR).toArray⟩)).setCell ⟨b,13,none⟩ (.int .i64 CR))):=((hd2.mono hlt0).setCell (p:=⟨b,12,none⟩) hbb _).setCell (p:=⟨b,13,none⟩) hbb _
 have HEX:Hid (TB.extract 0 CR=⟨(d.T.take CR).toArray⟩):=by
  show _=_
  rw [← HTB.out]
  apply Go.WideShapes.bytes_inj
  rw [Lib.extract_data]
  simp
 have hex:TB.extract 0 CR=⟨(d.T.take CR).toArray⟩:=HEX.out
 obtain ⟨NT,HNT⟩:=nm ((⟨(d.T.take CR).toArray⟩:ByteArray))
 rw [HNT.out] at hex HB2 HBL
 have g13b:(w2.setCell ⟨b,12,none⟩ (.string NT)).frozen? ⟨b,13,none⟩=false:=((HH.out _ hd2).row.set 12 (.string NT)).frozen 13
 have x13b:∃ u,(w2.setCell ⟨b,12,none⟩ (.string NT)).cell? ⟨b,13,none⟩=some u:=⟨_,((HH.out _ hd2).row.set 12 (.string NT)).cell (i:=13) (by omega)⟩
 have hb4:TB.size<=4096:=by omega
 have hsy2:d.sy<=TB.size:=by omega
 have hC1:(0:Int)<=(CR:Int):=by omega
 have hC2:(CR:Int)<=(TB.size:Int):=by omega
 have j0:(0:Int) < ((1:Nat):Int):=by omega
 clear hB hR hRec hTB HIT hcn lz lz2 h hl
 generalize d.sy=sy at *
 go_wp2_with fail
 go_loopw [22,23] (fun l i wr=>∃ k:Nat,l=.int .i64 ((sy+k:Nat):Int)/\i=.int .i64 k/\sy+k<=TB.size/\((k:Int)<=zc\/k=0)/\wr=w2) (fun l _ _=>TB.size - (intOf l).toNat)
 case atStart=>exact ⟨0,rfl,rfl,by omega,.inr rfl,rfl⟩
 case round =>
  obtain ⟨k,rfl,rfl,hk1,hk2,hwr⟩:=hrel
  replace hwr:=hwr.symm
  subst hwr
  by_cases c1:(k:Int) < zc
  ·by_cases c2:sy+k < TB.size
   ·have c3:((sy+k:Nat):Int) < (TB.size:Int):=by omega
    go_wp2_with fail
    go_roundw
    case rel=>exact ⟨k+1,by go_num,by go_num,by omega,.inl (by omega),by trivial⟩
    case measure=>simp [intOf]; omega
   ·have c3:¬ ((sy+k:Nat):Int) < (TB.size:Int):=by omega
    have HE:Hid (sy+k=CR):=by show _=_; rw [HCR.out]; omega
    obtain ⟨LL,HLL⟩:=nm (α:=Nat) (sy+k)
    rw [HLL.out] at c3 HE
    rw [HLL.out]
    obtain rfl:LL=CR:=HE.out
    clear c2 hk1 hk2 HCR hcr HLL
    go_wp2_with fail
    go_ret
    exact ⟨by rw [HD.out,HDC.out]; rfl,⟨a,cap,X,by rw [HD.out,HDC.out]; exact HB2.out⟩,HBL.out⟩
  ·have HE:Hid (sy+k=CR):=by show _=_; rw [HCR.out]; omega
   obtain ⟨LL,HLL⟩:=nm (α:=Nat) (sy+k)
   rw [HLL.out] at HE
   rw [HLL.out]
   obtain rfl:LL=CR:=HE.out
   clear hk1 hk2 HCR hcr HLL
   go_wp2_with fail
   go_ret
   exact ⟨by rw [HD.out,HDC.out]; rfl,⟨a,cap,X,by rw [HD.out,HDC.out]; exact HB2.out⟩,HBL.out⟩
theorem line_loss (h:BnIn base w b d a cap X) (al:Option Addr) (nl cl:Nat) (ws:List (List UInt8)) (hl:LstS w al nl cl ws) (hn:nl<=70000) (hw:∀ i,(ws.getD i []).length<=70000) (z:List Int) (hz:numsO ws=some z) (hzl:z.length=1) :
  Calls Tryz.prog 21 #[.pointer (some ⟨b,0,none⟩),.string ⟨#[108,111,115,115]⟩,.slice al nl cl] w fun e w'=>BnR base b w (dStep d ([108,111,115,115] :: ws)) e w':=by
 have HN:Hid (ws.length=nl):=hl.len
 have WH:=Lib.hid (ZaD al nl cl ws w hl hn hw h.ld)
 have HH:Hid (∀ q,Below w.heap.size w q->BnIn base q b d a cap X):=fun q hq=>h.below hq
 have hlt0:=h.lt
 have hmm:=@run_makeMap Tryz.prog
 have hT:=h.ok.T
 have hsy:=h.ok.sy
 have HBG:Hid (∀ q,Below w.heap.size w q->Calls Tryz.prog 41 #[.string ⟨d.T.toArray⟩] q fun e w'=>RightR d.T q e w'/\Below q.heap.size q w'):=fun q hq=>Zbt ⟨d.T.toArray⟩ d.T q rfl (by show d.T.length<=_; omega) (h.below hq).ld
 have HWR:Hid (∀ q e0,Below w.heap.size w q->1<=e0->e0<=99->Calls Tryz.prog 39 #[.int .i64 e0] q fun e w'=>e=.returned (.string ⟨(errA e0).toArray⟩)/\Below q.heap.size q w'):=fun q e0 hq h0 h1=>ZaQ e0 h0 h1 q (h.below hq).ld
 have HIT:Hid (∀ q (z:Int),Below w.heap.size w q->-9223372036854775808<=z->z<=9223372036854775807->Calls Tryz.prog 28 #[.int .i64 z] q fun e w'=>e=.returned (.string ⟨(Lib.itoa z).toArray⟩)/\Below q.heap.size q w'):=fun q z hq h0 h1=>ZaC z h0 h1 q (h.below hq).ld
 have HZ:=Lib.hid hz
 have hlz:=ZaL hz
 rw [HN.out] at hlz
 obtain rfl:nl=1:=by omega
 have hws:ws ≠ []:=fun e=>by have:=HN.out; rw [e] at this; simp at this
 have HD:Hid (dStep d ([108,111,115,115] :: ws)=dLoss (z.getD 0 0) d):=by
  show _=_
  rw [step_nums (by decide) hws hz]
  unfold dNums
  rw [if_neg (fun e=>by have:=e.1; revert this; decide),if_neg (fun e=>by have:=e.1; revert this; decide),if_pos ⟨rfl,hzl⟩]
 obtain ⟨TB,HTB⟩:=nm ((⟨d.T.toArray⟩:ByteArray))
 have hTB:d.T.length=TB.size:=by rw [← HTB.out]; rfl
 rw [HTB.out] at HBG
 have KB:Hid (∀ q,Below w.heap.size w q->q.cell? ⟨b,12,none⟩=some (.string TB)/\q.cell? ⟨b,13,none⟩=some (.int .i64 d.sy)/\q.frozen? ⟨b,12,none⟩=false/\q.frozen? ⟨b,13,none⟩=false):=fun q hq=>⟨by rw [← HTB.out]; exact (h.below hq).cells.2.2.1,(h.below hq).cells.2.2.2,(h.below hq).row.frozen 12,(h.below hq).row.frozen 13⟩
 obtain ⟨V,HV⟩:=nm ((⟨#[108,111,115,115]⟩:ByteArray))
 have e0:(V.toList == [100,97,116,97])=false:=by rw [← HV.out]; exact (strEqL [108,111,115,115] [100,97,116,97]).trans (by decide)
 have e1:(V.toList == [99,111,110,102,105,103])=false:=by rw [← HV.out]; exact (strEqL [108,111,115,115] [99,111,110,102,105,103]).trans (by decide)
 have e2:(V.toList == [115,121,110,99])=false:=by rw [← HV.out]; exact (strEqL [108,111,115,115] [115,121,110,99]).trans (by decide)
 have e3:(V.toList == [99,114,97,115,104])=false:=by rw [← HV.out]; exact (strEqL [108,111,115,115] [99,114,97,115,104]).trans (by decide)
 have e4:(V.toList == [98,121,116,101,115])=false:=by rw [← HV.out]; exact (strEqL [108,111,115,115] [98,121,116,101,115]).trans (by decide)
 have e5:(V.toList == [114,101,112,97,105,114])=false:=by rw [← HV.out]; exact (strEqL [108,111,115,115] [114,101,112,97,105,114]).trans (by decide)
 rw [HV.out]
 clear hw hws hz hlz
 go_enter Tryz.func21,Tryz.ntmps21
 go_wp2_with fail
 refine WH.out.mono ?_
 rintro e w1 ⟨hr1,hd1⟩
 rcases hr1 with ⟨z',an,cn,hz',rfl,lz,tz⟩ | ⟨hz',_⟩
 rotate_left
 ·rw [HZ.out] at hz'; cases hz'
 obtain rfl:z=z':=by rw [HZ.out] at hz'; exact Option.some.inj hz'
 clear hz' tz
 obtain ⟨q1,q2,q3,q4,q5,q6,q7,q8,r1,r2,r3,r4,r5,r6,r7,r8,HLK,HBQ⟩:=Zbo w1
 have hd8:Below w.heap.size w q8:=hd1.trans (HBQ.out.mono hd1.size)
 have LK:=HLK.out [108,111,115,115] (by decide)
 rw [show manyO [108,111,115,115]=some 1 by decide] at LK
 have LK2:(Instr.lookup 79 (.map (some w1.heap.size)) (.string V) true).run Tryz.prog q8=.ok (.tuple #[.int .i64 1,.bool true]) q8:=by rw [← HV.out]; exact LK
 obtain ⟨y12,y13,f12,f13⟩:=KB.out _ hd8
 clear LK HLK
 go_wp2_with fail
 refine (HBG.out _ hd8).mono ?_
 rintro e w2 ⟨⟨ls,la,lc,R,hB,hR,hRec,_,rfl⟩,bel2⟩
 have hd2:=hd8.trans (bel2.mono hd8.size)
 obtain ⟨x12,x13,g12,g13⟩:=KB.out _ hd2
 clear r1 r2 r3 r4 r5 r6 r7 r8 LK2 y12 y13 f12 f13 hmm
 have lz2:=lz.below (HBQ.out.trans (bel2.mono HBQ.out.size)) nr
 obtain ⟨zc,rfl⟩:∃ t,z=[t]:=by
  match z,hzl with
  | [t],_=>exact ⟨t,rfl⟩
 have CO:=Lib.hid (course_loss (HH.out _ hd2) an cn zc lz2 la lc ls hB)
 rw [HV.out] at CO
 clear hB hR hRec hTB HIT lz lz2 h hl
 go_wp2_with fail
 refine CO.out.mono ?_
 rintro e w3 ⟨rfl,hk,hc⟩
 go_wp2_with fail
 go_ret
 exact ⟨by rw [HD.out]; rfl,by rw [HD.out]; exact hk,(hd2.mono hlt0).trans hc⟩
end
section
variable {base:Nat} {w w':World} {b:Nat} {d:Dsk} {a:Option Addr} {cap:Nat} {X:Nat->Exm}
theorem Zbl {ws:List (List UInt8)} (h:exO ws=none) (d:Dsk):dData ws d=⟨[],3,d⟩:=by unfold dData; rw [h]
theorem step_data (ws:List (List UInt8)) (d:Dsk):dStep d ([100,97,116,97] :: ws)=dData ws d:=by
 unfold dStep
 show (if ([100,97,116,97]:List UInt8)=[100,97,116,97] then dData ws d else _)=_
 rw [if_pos rfl]
theorem line_data (h:BnIn base w b d a cap X) (al:Option Addr) (nl cl:Nat) (ws:List (List UInt8)) (hl:LstS w al nl cl ws) (hn:nl<=70000) (hw:∀ i,(ws.getD i []).length<=70000) :
  Calls Tryz.prog 21 #[.pointer (some ⟨b,0,none⟩),.string ⟨#[100,97,116,97]⟩,.slice al nl cl] w fun e w'=>BnR base b w (dStep d ([100,97,116,97] :: ws)) e w':=by
 have HN:Hid (ws.length=nl):=hl.len
 have hcap:=hl.cap
 have IX:=idxS_calls al nl cl ws w hl (by omega)
 have HH:Hid (∀ q,Below w.heap.size w q->BnIn base q b d a cap X):=fun q hq=>h.below hq
 have hlt0:=h.lt
 have HSD:=Lib.hid (step_data ws d)
 have HWR:Hid (∀ q e0,Below w.heap.size w q->1<=e0->e0<=99->Calls Tryz.prog 39 #[.int .i64 e0] q fun e w'=>e=.returned (.string ⟨(errA e0).toArray⟩)/\Below q.heap.size q w'):=fun q e0 hq h0 h1=>ZaQ e0 h0 h1 q (h.below hq).ld
 obtain ⟨V,HV⟩:=nm ((⟨#[100,97,116,97]⟩:ByteArray))
 have e0:(V.toList == [100,97,116,97])=true:=by rw [← HV.out]; exact (strEqL [100,97,116,97] [100,97,116,97]).trans (by decide)
 rw [HV.out]
 rcases slash_ways ws with hm | ⟨k,hk,hkn⟩
 ·rw [hm] at IX
  have HD:Hid (dStep d ([100,97,116,97] :: ws)=⟨[],3,d⟩):=HSD.out.trans (Zbl (by unfold exO; rw [if_pos (by omega)]) d)
  have hd0:Below w.heap.size w w:=br
  clear h hl hw
  go_enter Tryz.func21,Tryz.ntmps21
  go_wp2_with (go_at_call 38; refine IX.mono ?_; rintro e w' ⟨rfl,hwE⟩; have hwF:=hwE.symm; subst hwF)
  refine (HWR.out _ 3 hd0 (by omega) (by omega)).mono ?_
  rintro e w3 ⟨rfl,hw3⟩
  have hd3:=hd0.trans (hw3.mono hd0.size)
  go_wp2_with fail
  go_ret
  exact ⟨by rw [HD.out,ZaE (by decide)]; rfl,⟨a,cap,X,by rw [HD.out]; exact HH.out _ hd3⟩,hd3.mono hlt0⟩
 rw [hk] at IX
 have hkn2:k < nl:=by rw [HN.out] at hkn; exact hkn
 obtain ⟨bl,off,rfl,hb,_⟩:=hl.at (by omega)
 have W1:=Lib.hid (ZaD (some ⟨bl,off,none⟩) k cl (ws.take k) w (hl.pre (by omega)) (by omega) (getD_take_len hw k) h.ld)
 have HW2:Hid (∀ q aa,Below w.heap.size w q->(k+1 < nl->aa=some ⟨bl,off+(k+1),none⟩)->Calls Tryz.prog 40 #[.slice aa (nl - (k+1)) (cl - (k+1))] q fun e w'=>WhsR (ws.drop (k+1)) (nl - (k+1)) q e w'/\Below q.heap.size q w'):=fun q aa hq ha=>ZaD aa _ _ _ q ((hl.below hq nr).rest (by omega) aa ha) (by omega) (Zau hw (k+1)) (h.below hq).ld
 have q1:(0:Int)<=(k:Int):=by omega
 have q2:(k:Int)<=(nl:Int):=by omega
 have q3:(nl:Int)<=(cl:Int):=by omega
 have q4:(k:Int)<=(cl:Int):=by omega
 have q5:(k:Int)+1<=(nl:Int):=by omega
 have q6:¬ (k:Int) < 0:=by omega
 have HK:Hid (slashAt ws=(k:Int)):=hk
 have K11:Hid (∀ q,Below w.heap.size w q->q.cell? ⟨b,11,none⟩=some (.slice a d.n cap)/\q.frozen? ⟨b,11,none⟩=false):=fun q hq=>⟨(h.below hq).cells.2.1,(h.below hq).row.frozen 11⟩
 clear hw hkn hk h
 go_enter Tryz.func21,Tryz.ntmps21
 go_wp2_with (go_at_call 38; refine IX.mono ?_; rintro e w' ⟨rfl,hwE⟩; have hwF:=hwE.symm; subst hwF)
 refine W1.out.mono ?_
 rintro e w1 ⟨h1,hd1⟩
 by_cases hck:cl=k+1
 ·obtain rfl:nl=k+1:=by omega
  subst hck
  have M2:=Lib.hid (HW2.out w1 (some ⟨bl,off,none⟩) hd1 (fun h=>by omega))
  rw [Nat.sub_self] at M2
  clear HW2 IX W1 hl
  rcases h1 with ⟨z1,ia,ic,hz1,rfl,l1,u1⟩ | ⟨hz1,rfl⟩
  ·have HZ1:Hid (numsO (ws.take k)=some z1):=hz1
   clear hz1
   go_wp2_with fail
   refine M2.out.mono ?_
   rintro e w2 ⟨h2,hw2⟩
   have hd2:=hd1.trans (hw2.mono hd1.size)
   rcases h2 with ⟨z2,oa,oc,hz2,rfl,l2,u2⟩ | ⟨hz2,rfl⟩
   ·have HX:=Lib.hid (HSD.out.trans (dData_good (d:=d) (exO_good HK.out HZ1.out hz2)))
    obtain ⟨c11,f11⟩:=K11.out _ hd2
    have l1b:=l1.below hw2 nr
    have tx1:∀ g o,ia=some ⟨g,o,none⟩->TyI w2 g:=fun g o e=>(u1 g o e).2.of (hw2.block g (u1 g o e).2.lt)
    have tx2:∀ g o,oa=some ⟨g,o,none⟩->TyI w2 g:=fun g o e=>(u2 g o e).2
    by_cases h16:16<=d.n
    ·have HD:Hid (dStep d ([100,97,116,97] :: ws)=⟨[],2,d⟩):=HX.out.trans (if_pos h16)
     have k1:(16:Int)<=(d.n:Int):=by omega
     clear l1 l2 l1b tx1 tx2 u1 u2 hz2
     go_wp2_with fail
     refine (HWR.out _ 2 hd2 (by omega) (by omega)).mono ?_
     rintro e w3 ⟨rfl,hw3⟩
     have hd3:=hd2.trans (hw3.mono hd2.size)
     go_wp2_with fail
     go_ret
     exact ⟨by rw [HD.out,ZaE (by decide)]; rfl,⟨a,cap,X,by rw [HD.out]; exact HH.out _ hd3⟩,hd3.mono hlt0⟩
    ·have HD:Hid (dStep d ([100,97,116,97] :: ws)=⟨okA,0,{ d with ex:=d.ex ++ [(z1,z2)] }⟩):=HX.out.trans (if_neg h16)
     have k1:¬ (16:Int)<=(d.n:Int):=by omega
     have h16:d.n < 16:=by omega
     have B2:=Zac w2 (.cells #[.slice ia k ic,.slice oa 0 oc] 78)
     have R2:=Zaj w2 (.slice ia k ic) (.slice oa 0 oc) 78
     have hdA:=hd2.trans (B2.mono hd2.size)
     have hA:=HH.out _ hdA
     have HIN:Hid (InEx (w2.alloc (.cells #[.slice ia k ic,.slice oa 0 oc] 78)) ⟨ia,k,ic,oa,0,oc⟩ z1 z2):=⟨l1b.below B2 nr,l2.below B2 nr⟩
     have HT1:Hid (∀ g o,ia=some ⟨g,o,none⟩->TyI (w2.alloc (.cells #[.slice ia k ic,.slice oa 0 oc] 78)) g):=fun g o e=>(tx1 g o e).of (B2.block g (tx1 g o e).lt)
     have HT2:Hid (∀ g o,oa=some ⟨g,o,none⟩->TyI (w2.alloc (.cells #[.slice ia k ic,.slice oa 0 oc] 78)) g):=fun g o e=>(tx2 g o e).of (B2.block g (tx2 g o e).lt)
     have HHA:=Lib.hid hA
     have hXn:addX X d.n ⟨ia,k,ic,oa,0,oc⟩ d.n=⟨ia,k,ic,oa,0,oc⟩:=by unfold addX; rw [if_neg (by omega)]
     have own3:OwnE base (w2.alloc (.cells #[.slice ia k ic,.slice oa 0 oc] 78)) (.slice a d.n cap) d.n (addX X d.n ⟨ia,k,ic,oa,0,oc⟩):=by
      have:=hA.own
      unfold OwnE at this ⊢
      rw [Zbw (Y:=X) (fun i hi=>by unfold addX; rw [if_pos hi])]
      exact this
     obtain ⟨m0,m1⟩:=Zaa R2
     have cn0:(w2.alloc (.cells #[.slice ia k ic,.slice oa 0 oc] 78)).cell? ⟨w2.heap.size,0,none⟩=some (.slice (addX X d.n ⟨ia,k,ic,oa,0,oc⟩ d.n).a (addX X d.n ⟨ia,k,ic,oa,0,oc⟩ d.n).n (addX X d.n ⟨ia,k,ic,oa,0,oc⟩ d.n).k):=by rw [hXn]; exact m0
     have cn1:(w2.alloc (.cells #[.slice ia k ic,.slice oa 0 oc] 78)).cell? ⟨w2.heap.size,1,none⟩=some (.slice (addX X d.n ⟨ia,k,ic,oa,0,oc⟩ d.n).b (addX X d.n ⟨ia,k,ic,oa,0,oc⟩ d.n).m (addX X d.n ⟨ia,k,ic,oa,0,oc⟩ d.n).t):=by rw [hXn]; exact m1
     have HO3:=Lib.hid own3
     have HC0:=Lib.hid cn0
     have HC1:=Lib.hid cn1
     have hltA:=hA.lt
     have hbne:=HHA.out.row
     clear own3 cn0 cn1 m0 m1 hXn hA R2 l1 l2 l1b tx1 tx2 u1 u2 hz2
     have ARM:Hid (∀ (v5:Value) (w5:World),OwnE base w5 v5 (d.n+1) (addX X d.n ⟨ia,k,ic,oa,0,oc⟩)->(w2.alloc (.cells #[.slice ia k ic,.slice oa 0 oc] 78)).grownBy w5 (Value.slice a d.n cap).ownBlock->(v5.ownBlock=(Value.slice a d.n cap).ownBlock\/v5.ownBlock=some (w2.alloc (.cells #[.slice ia k ic,.slice oa 0 oc] 78)).heap.size)->∃ a5 c5,v5=.slice a5 (d.n+1) c5/\w5.frozen? ⟨b,11,none⟩=false/\w5.cell? ⟨b,11,none⟩=some (.slice a d.n cap)/\BnIn base (w5.setCell ⟨b,11,none⟩ v5) b { d with ex:=d.ex ++ [(z1,z2)] } a5 c5 (addX X d.n ⟨ia,k,ic,oa,0,oc⟩)/\Below base w (w5.setCell ⟨b,11,none⟩ v5)):=fun v5 w5 o5 g5 b5=>by
      have r5:=hbne.of_block (g5.block b hbne.lt (fun e=>HHA.out.ownNeB e.symm rfl))
      obtain ⟨a5,c5,e5,hI,hbel⟩:=HHA.out.addE HIN.out HT1.out HT2.out h16 o5 g5 b5
      exact ⟨a5,c5,e5,r5.frozen 11,r5.cell (i:=11) (by omega),hI,(hdA.mono hlt0).trans hbel⟩
     clear hbne
     go_wp2_with (at_builtin; refine Zci (by rfl) _ _ (by rfl) base (.slice a d.n cap) d.n (addX X d.n ⟨ia,k,ic,oa,0,oc⟩) w2.heap.size (by rfl) (by rfl) (by exact HO3.out) (by exact HC0.out) (by exact HC1.out) (by omega) (by exact hltA) ?_; intro v5 w5 o5 g5 b5; obtain ⟨a5,c5,e5,f5,x5,hI5,hL5⟩:=ARM.out v5 w5 o5 g5 b5; have HI5:=Lib.hid hI5; have HL5:=Lib.hid hL5; clear o5 g5 b5 hI5 hL5; subst e5)
     go_ret
     exact ⟨by rw [HD.out]; rfl,by rw [HD.out]; exact ⟨a5,c5,_,HI5.out⟩,HL5.out⟩
   ·have HE:Hid (exO ws=none):=ZbN HK.out (.inr hz2)
    clear hz2 l1 u1
    have HD:Hid (dStep d ([100,97,116,97] :: ws)=⟨[],3,d⟩):=HSD.out.trans (Zbl HE.out d)
    go_wp2_with fail
    refine (HWR.out _ 3 hd2 (by omega) (by omega)).mono ?_
    rintro e w3 ⟨rfl,hw3⟩
    have hd3:=hd2.trans (hw3.mono hd2.size)
    go_wp2_with fail
    go_ret
    exact ⟨by rw [HD.out,ZaE (by decide)]; rfl,⟨a,cap,X,by rw [HD.out]; exact HH.out _ hd3⟩,hd3.mono hlt0⟩
  ·have HE:Hid (exO ws=none):=ZbN HK.out (.inl hz1)
   clear hz1
   go_wp2_with fail
   refine M2.out.mono ?_
   rintro e w2 ⟨h2,hw2⟩
   have hd2:=hd1.trans (hw2.mono hd1.size)
   rcases h2 with ⟨z2,oa,oc,hz2,rfl,l2,u2⟩ | ⟨hz2,rfl⟩
   ·clear hz2 l2 u2
    have HD:Hid (dStep d ([100,97,116,97] :: ws)=⟨[],3,d⟩):=HSD.out.trans (Zbl HE.out d)
    go_wp2_with fail
    refine (HWR.out _ 3 hd2 (by omega) (by omega)).mono ?_
    rintro e w3 ⟨rfl,hw3⟩
    have hd3:=hd2.trans (hw3.mono hd2.size)
    go_wp2_with fail
    go_ret
    exact ⟨by rw [HD.out,ZaE (by decide)]; rfl,⟨a,cap,X,by rw [HD.out]; exact HH.out _ hd3⟩,hd3.mono hlt0⟩
   ·clear hz2
    have HD:Hid (dStep d ([100,97,116,97] :: ws)=⟨[],3,d⟩):=HSD.out.trans (Zbl HE.out d)
    go_wp2_with fail
    refine (HWR.out _ 3 hd2 (by omega) (by omega)).mono ?_
    rintro e w3 ⟨rfl,hw3⟩
    have hd3:=hd2.trans (hw3.mono hd2.size)
    go_wp2_with fail
    go_ret
    exact ⟨by rw [HD.out,ZaE (by decide)]; rfl,⟨a,cap,X,by rw [HD.out]; exact HH.out _ hd3⟩,hd3.mono hlt0⟩
 ·have M2:=Lib.hid (HW2.out w1 (some ⟨bl,off+(k+1),none⟩) hd1 (fun _=>rfl))
  have q7:¬ cl=k+1:=hck
  clear HW2 IX W1 hl
  rcases h1 with ⟨z1,ia,ic,hz1,rfl,l1,u1⟩ | ⟨hz1,rfl⟩
  ·have HZ1:Hid (numsO (ws.take k)=some z1):=hz1
   clear hz1
   go_wp2_with fail
   refine M2.out.mono ?_
   rintro e w2 ⟨h2,hw2⟩
   have hd2:=hd1.trans (hw2.mono hd1.size)
   rcases h2 with ⟨z2,oa,oc,hz2,rfl,l2,u2⟩ | ⟨hz2,rfl⟩
   ·have HX:=Lib.hid (HSD.out.trans (dData_good (d:=d) (exO_good HK.out HZ1.out hz2)))
    obtain ⟨c11,f11⟩:=K11.out _ hd2
    have l1b:=l1.below hw2 nr
    have tx1:∀ g o,ia=some ⟨g,o,none⟩->TyI w2 g:=fun g o e=>(u1 g o e).2.of (hw2.block g (u1 g o e).2.lt)
    have tx2:∀ g o,oa=some ⟨g,o,none⟩->TyI w2 g:=fun g o e=>(u2 g o e).2
    obtain ⟨NO,HNO⟩:=nm (nl - (k+1))
    rw [HNO.out] at l2
    rw [HNO.out]
    by_cases h16:16<=d.n
    ·have HD:Hid (dStep d ([100,97,116,97] :: ws)=⟨[],2,d⟩):=HX.out.trans (if_pos h16)
     have k1:(16:Int)<=(d.n:Int):=by omega
     clear l1 l2 l1b tx1 tx2 u1 u2 hz2
     go_wp2_with fail
     refine (HWR.out _ 2 hd2 (by omega) (by omega)).mono ?_
     rintro e w3 ⟨rfl,hw3⟩
     have hd3:=hd2.trans (hw3.mono hd2.size)
     go_wp2_with fail
     go_ret
     exact ⟨by rw [HD.out,ZaE (by decide)]; rfl,⟨a,cap,X,by rw [HD.out]; exact HH.out _ hd3⟩,hd3.mono hlt0⟩
    ·have HD:Hid (dStep d ([100,97,116,97] :: ws)=⟨okA,0,{ d with ex:=d.ex ++ [(z1,z2)] }⟩):=HX.out.trans (if_neg h16)
     have k1:¬ (16:Int)<=(d.n:Int):=by omega
     have h16:d.n < 16:=by omega
     have B2:=Zac w2 (.cells #[.slice ia k ic,.slice oa NO oc] 78)
     have R2:=Zaj w2 (.slice ia k ic) (.slice oa NO oc) 78
     have hdA:=hd2.trans (B2.mono hd2.size)
     have hA:=HH.out _ hdA
     have HIN:Hid (InEx (w2.alloc (.cells #[.slice ia k ic,.slice oa NO oc] 78)) ⟨ia,k,ic,oa,NO,oc⟩ z1 z2):=⟨l1b.below B2 nr,l2.below B2 nr⟩
     have HT1:Hid (∀ g o,ia=some ⟨g,o,none⟩->TyI (w2.alloc (.cells #[.slice ia k ic,.slice oa NO oc] 78)) g):=fun g o e=>(tx1 g o e).of (B2.block g (tx1 g o e).lt)
     have HT2:Hid (∀ g o,oa=some ⟨g,o,none⟩->TyI (w2.alloc (.cells #[.slice ia k ic,.slice oa NO oc] 78)) g):=fun g o e=>(tx2 g o e).of (B2.block g (tx2 g o e).lt)
     have HHA:=Lib.hid hA
     have hXn:addX X d.n ⟨ia,k,ic,oa,NO,oc⟩ d.n=⟨ia,k,ic,oa,NO,oc⟩:=by unfold addX; rw [if_neg (by omega)]
     have own3:OwnE base (w2.alloc (.cells #[.slice ia k ic,.slice oa NO oc] 78)) (.slice a d.n cap) d.n (addX X d.n ⟨ia,k,ic,oa,NO,oc⟩):=by
      have:=hA.own
      unfold OwnE at this ⊢
      rw [Zbw (Y:=X) (fun i hi=>by unfold addX; rw [if_pos hi])]
      exact this
     obtain ⟨m0,m1⟩:=Zaa R2
     have cn0:(w2.alloc (.cells #[.slice ia k ic,.slice oa NO oc] 78)).cell? ⟨w2.heap.size,0,none⟩=some (.slice (addX X d.n ⟨ia,k,ic,oa,NO,oc⟩ d.n).a (addX X d.n ⟨ia,k,ic,oa,NO,oc⟩ d.n).n (addX X d.n ⟨ia,k,ic,oa,NO,oc⟩ d.n).k):=by rw [hXn]; exact m0
     have cn1:(w2.alloc (.cells #[.slice ia k ic,.slice oa NO oc] 78)).cell? ⟨w2.heap.size,1,none⟩=some (.slice (addX X d.n ⟨ia,k,ic,oa,NO,oc⟩ d.n).b (addX X d.n ⟨ia,k,ic,oa,NO,oc⟩ d.n).m (addX X d.n ⟨ia,k,ic,oa,NO,oc⟩ d.n).t):=by rw [hXn]; exact m1
     have HO3:=Lib.hid own3
     have HC0:=Lib.hid cn0
     have HC1:=Lib.hid cn1
     have hltA:=hA.lt
     have hbne:=HHA.out.row
     clear own3 cn0 cn1 m0 m1 hXn hA R2 l1 l2 l1b tx1 tx2 u1 u2 hz2
     have ARM:Hid (∀ (v5:Value) (w5:World),OwnE base w5 v5 (d.n+1) (addX X d.n ⟨ia,k,ic,oa,NO,oc⟩)->(w2.alloc (.cells #[.slice ia k ic,.slice oa NO oc] 78)).grownBy w5 (Value.slice a d.n cap).ownBlock->(v5.ownBlock=(Value.slice a d.n cap).ownBlock\/v5.ownBlock=some (w2.alloc (.cells #[.slice ia k ic,.slice oa NO oc] 78)).heap.size)->∃ a5 c5,v5=.slice a5 (d.n+1) c5/\w5.frozen? ⟨b,11,none⟩=false/\w5.cell? ⟨b,11,none⟩=some (.slice a d.n cap)/\BnIn base (w5.setCell ⟨b,11,none⟩ v5) b { d with ex:=d.ex ++ [(z1,z2)] } a5 c5 (addX X d.n ⟨ia,k,ic,oa,NO,oc⟩)/\Below base w (w5.setCell ⟨b,11,none⟩ v5)):=fun v5 w5 o5 g5 b5=>by
      have r5:=hbne.of_block (g5.block b hbne.lt (fun e=>HHA.out.ownNeB e.symm rfl))
      obtain ⟨a5,c5,e5,hI,hbel⟩:=HHA.out.addE HIN.out HT1.out HT2.out h16 o5 g5 b5
      exact ⟨a5,c5,e5,r5.frozen 11,r5.cell (i:=11) (by omega),hI,(hdA.mono hlt0).trans hbel⟩
     clear hbne
     go_wp2_with (at_builtin; refine Zci (by rfl) _ _ (by rfl) base (.slice a d.n cap) d.n (addX X d.n ⟨ia,k,ic,oa,NO,oc⟩) w2.heap.size (by rfl) (by rfl) (by exact HO3.out) (by exact HC0.out) (by exact HC1.out) (by omega) (by exact hltA) ?_; intro v5 w5 o5 g5 b5; obtain ⟨a5,c5,e5,f5,x5,hI5,hL5⟩:=ARM.out v5 w5 o5 g5 b5; have HI5:=Lib.hid hI5; have HL5:=Lib.hid hL5; clear o5 g5 b5 hI5 hL5; subst e5)
     go_ret
     exact ⟨by rw [HD.out]; rfl,by rw [HD.out]; exact ⟨a5,c5,_,HI5.out⟩,HL5.out⟩
   ·have HE:Hid (exO ws=none):=ZbN HK.out (.inr hz2)
    clear hz2 l1 u1
    have HD:Hid (dStep d ([100,97,116,97] :: ws)=⟨[],3,d⟩):=HSD.out.trans (Zbl HE.out d)
    go_wp2_with fail
    refine (HWR.out _ 3 hd2 (by omega) (by omega)).mono ?_
    rintro e w3 ⟨rfl,hw3⟩
    have hd3:=hd2.trans (hw3.mono hd2.size)
    go_wp2_with fail
    go_ret
    exact ⟨by rw [HD.out,ZaE (by decide)]; rfl,⟨a,cap,X,by rw [HD.out]; exact HH.out _ hd3⟩,hd3.mono hlt0⟩
  ·have HE:Hid (exO ws=none):=ZbN HK.out (.inl hz1)
   clear hz1
   go_wp2_with fail
   refine M2.out.mono ?_
   rintro e w2 ⟨h2,hw2⟩
   have hd2:=hd1.trans (hw2.mono hd1.size)
   rcases h2 with ⟨z2,oa,oc,hz2,rfl,l2,u2⟩ | ⟨hz2,rfl⟩
   ·clear hz2 l2 u2
    have HD:Hid (dStep d ([100,97,116,97] :: ws)=⟨[],3,d⟩):=HSD.out.trans (Zbl HE.out d)
    go_wp2_with fail
    refine (HWR.out _ 3 hd2 (by omega) (by omega)).mono ?_
    rintro e w3 ⟨rfl,hw3⟩
    have hd3:=hd2.trans (hw3.mono hd2.size)
    go_wp2_with fail
    go_ret
    exact ⟨by rw [HD.out,ZaE (by decide)]; rfl,⟨a,cap,X,by rw [HD.out]; exact HH.out _ hd3⟩,hd3.mono hlt0⟩
   ·clear hz2
    have HD:Hid (dStep d ([100,97,116,97] :: ws)=⟨[],3,d⟩):=HSD.out.trans (Zbl HE.out d)
    go_wp2_with fail
    refine (HWR.out _ 3 hd2 (by omega) (by omega)).mono ?_
    rintro e w3 ⟨rfl,hw3⟩
    have hd3:=hd2.trans (hw3.mono hd2.size)
    go_wp2_with fail
    go_ret
    exact ⟨by rw [HD.out,ZaE (by decide)]; rfl,⟨a,cap,X,by rw [HD.out]; exact HH.out _ hd3⟩,hd3.mono hlt0⟩
end
end Go.Proofs.YthmiojmlaclgaaaGreatDoor.Fx
