/- What the law stands on: RefDkG. -/
import Derived.Test.YthmiojmlaclgaaaGreatDoorJ00
import Derived.Test.YthmiojmlaclgaaaGreatDoorJ40
import Derived.Test.YthmiojmlaclgaaaGreatDoorJ29
import Derived.Test.YthmiojmlaclgaaaGreatDoorJ22
import Derived.Test.YthmiojmlaclgaaaGreatDoorJ39
set_option maxRecDepth 100000
set_option maxHeartbeats 12800000
namespace Go.Proofs.YthmiojmlaclgaaaGreatDoor.Fx
open Go.RowKit
section
variable {base:Nat} {w w':World} {b:Nat} {d:Dsk} {a:Option Addr} {cap:Nat} {X:Nat->Exm}
theorem step_bad {v:List UInt8} {ws:List (List UInt8)} (hv:v ≠ [100,97,116,97]) (h:∀ z,numsO ws=some z->manyO v ≠ some (z.length:Int)) (d:Dsk):dStep d (v :: ws)=⟨[],3,d⟩:=by
 unfold dStep
 show (if v=[100,97,116,97] then _ else if ws=[] then dAlone v d else match numsO ws with | none=>(⟨[],3,d⟩:Out) | some z=>dNums v z d)=_
 rw [if_neg hv]
 by_cases h0:ws=[]
 ·rw [if_pos h0]
  subst h0
  have hm:=h [] rfl
  unfold dAlone
  rw [if_neg (fun e=>hm (by rw [e]; decide))]
  rw [if_neg (fun e=>hm (by rw [e]; decide))]
  rw [if_neg (fun e=>hm (by rw [e]; decide))]
  rw [if_neg (fun e=>hm (by rw [e]; decide))]
  rw [if_neg (fun e=>hm (by rw [e]; decide))]
 ·rw [if_neg h0]
  cases hz:numsO ws with
  | none=>rfl
  | some z =>
    have hm:=h z hz
    show dNums v z d=_
    unfold dNums
    rw [if_neg (fun e=>hm (by rw [e.1,e.2]; decide)),if_neg (fun e=>hm (by rw [e.1,e.2]; decide)),if_neg (fun e=>hm (by rw [e.1,e.2]; decide))]
theorem ZcB {v:List UInt8} (hv:v ≠ [100,97,116,97]) (d:Dsk):dStep d [v]=dAlone v d:=by
 unfold dStep
 show (if v=[100,97,116,97] then _ else if ([]:List (List UInt8))=[] then dAlone v d else _)=_
 rw [if_neg hv,if_pos rfl]
theorem step_nums {v:List UInt8} {ws:List (List UInt8)} {z:List Int} (hv:v ≠ [100,97,116,97]) (h0:ws ≠ []) (hz:numsO ws=some z) (d:Dsk):dStep d (v :: ws)=dNums v z d:=by
 unfold dStep
 show (if v=[100,97,116,97] then _ else if ws=[] then dAlone v d else match numsO ws with | none=>(⟨[],3,d⟩:Out) | some z=>dNums v z d)=_
 rw [if_neg hv,if_neg h0,hz]
theorem lineP (h:BnIn base w b d a cap X):∃ TB:ByteArray,Hid ((⟨d.T.toArray⟩:ByteArray)=TB)/\d.T.length=TB.size/\Hid (∀ q,Below w.heap.size w q->BnIn base q b d a cap X)/\base<=w.heap.size/\d.T.length<=4096/\d.sy<=d.T.length/\Hid (∀ q,Below w.heap.size w q->Calls Tryz.prog 41 #[.string TB] q fun e w'=>RightR d.T q e w'/\Below q.heap.size q w')/\Hid (∀ q e0,Below w.heap.size w q->1<=e0->e0<=99->Calls Tryz.prog 39 #[.int .i64 e0] q fun e w'=>e=.returned (.string ⟨(errA e0).toArray⟩)/\Below q.heap.size q w')/\Hid (∀ q (z:Int),Below w.heap.size w q->-9223372036854775808<=z->z<=9223372036854775807->Calls Tryz.prog 28 #[.int .i64 z] q fun e w'=>e=.returned (.string ⟨(Lib.itoa z).toArray⟩)/\Below q.heap.size q w')/\Hid (∀ q,Below w.heap.size w q->q.cell? ⟨b,12,none⟩=some (.string TB)/\q.cell? ⟨b,13,none⟩=some (.int .i64 d.sy)/\q.frozen? ⟨b,12,none⟩=false/\q.frozen? ⟨b,13,none⟩=false) :=
 ⟨⟨d.T.toArray⟩,rfl,rfl,fun _ hq=>h.below hq,h.lt,h.ok.T,h.ok.sy,fun q hq=>Zbt ⟨d.T.toArray⟩ d.T q rfl (by have:=h.ok.T; show d.T.length<=_; omega) (h.below hq).ld,fun q e0 hq h0 h1=>ZaQ e0 h0 h1 q (h.below hq).ld,fun q z hq h0 h1=>ZaC z h0 h1 q (h.below hq).ld,fun _ hq=>⟨(h.below hq).cells.2.2.1,(h.below hq).cells.2.2.2,(h.below hq).row.frozen 12,(h.below hq).row.frozen 13⟩⟩
theorem verbF (v:List UInt8) (x:Bool × Bool × Bool × Bool × Bool × Bool) (hx:(decide (v=[100,97,116,97]),decide (v=[99,111,110,102,105,103]),decide (v=[115,121,110,99]),decide (v=[99,114,97,115,104]),decide (v=[98,121,116,101,115]),decide (v=[114,101,112,97,105,114]))=x):∃ V:ByteArray,Hid ((⟨v.toArray⟩:ByteArray)=V)/\(V.toList == [100,97,116,97])=x.1/\(V.toList == [99,111,110,102,105,103])=x.2.1/\(V.toList == [115,121,110,99])=x.2.2.1/\(V.toList == [99,114,97,115,104])=x.2.2.2.1/\(V.toList == [98,121,116,101,115])=x.2.2.2.2.1/\(V.toList == [114,101,112,97,105,114])=x.2.2.2.2.2:=by
 subst hx
 exact ⟨_,rfl,strEqL v _,strEqL v _,strEqL v _,strEqL v _,strEqL v _,strEqL v _⟩
theorem line_bad (h:BnIn base w b d a cap X) (v:List UInt8) (hv:v ≠ [100,97,116,97]) (hvl:v.length<=70000) (al:Option Addr) (nl cl:Nat) (ws:List (List UInt8)) (hl:LstS w al nl cl ws) (hn:nl<=70000) (hw:∀ i,(ws.getD i []).length<=70000) (hbad:∀ z,numsO ws=some z->manyO v ≠ some (z.length:Int)) :
  Calls Tryz.prog 21 #[.pointer (some ⟨b,0,none⟩),.string ⟨v.toArray⟩,.slice al nl cl] w fun e w'=>BnR base b w (dStep d (v :: ws)) e w':=by
 have HN:Hid (ws.length=nl):=hl.len
 have WH:=Lib.hid (ZaD al nl cl ws w hl hn hw h.ld)
 have hmm:=@run_makeMap Tryz.prog
 obtain ⟨TB,HTB,hTB,HH,hlt0,hT,hsy,HBG,HWR,HIT,KB⟩:=lineP h
 have HD:=Lib.hid (step_bad hv hbad d)
 have HBAD:=Lib.hid hbad
 obtain ⟨V,HV⟩:=nm ((⟨v.toArray⟩:ByteArray))
 have e0:(V.toList == [100,97,116,97])=false:=by rw [← HV.out]; exact (strEqL v [100,97,116,97]).trans (decide_eq_false hv)
 rw [HV.out]
 clear h hl hw HBG HIT hbad KB hTB HTB hT hsy
 go_enter Tryz.func21,Tryz.ntmps21
 go_wp2_with fail
 refine WH.out.mono ?_
 rintro e w1 ⟨hr1,hd1⟩
 obtain ⟨q1,q2,q3,q4,q5,q6,q7,q8,r1,r2,r3,r4,r5,r6,r7,r8,HLK,HBQ⟩:=Zbo w1
 have hd8:Below w.heap.size w q8:=hd1.trans (HBQ.out.mono hd1.size)
 have LK:=HLK.out v hvl
 rw [HV.out] at LK
 clear HLK
 have fin:∀ q,Below w.heap.size w q->Calls Tryz.prog 39 #[.int .i64 3] q fun e w'=>e=.returned (.string ⟨(errA 3).toArray⟩)/\Below q.heap.size q w':=fun q hq=>HWR.out q 3 hq (by omega) (by omega)
 have FIN:=Lib.hid fin
 clear fin HWR
 rcases hr1 with ⟨z,an,cn,hz,rfl,lz,tz⟩ | ⟨hz,rfl⟩
 ·have hm:=HBAD.out z hz
  have hzl:=ZaL hz
  rw [HN.out] at hzl
  rw [hzl] at hm
  clear lz tz hz HBAD
  cases hmo:manyO v with
  | none =>
    rw [hmo] at LK
    have LK2:(Instr.lookup 79 (.map (some w1.heap.size)) (.string V) true).run Tryz.prog q8=.ok (.tuple #[.int .i64 0,.bool false]) q8:=LK
    clear LK hm hmo
    go_wp2_with fail
    refine (FIN.out _ hd8).mono ?_
    rintro e w3 ⟨rfl,hw3⟩
    have hd3:=hd8.trans (hw3.mono hd8.size)
    go_wp2_with fail
    go_ret
    exact ⟨by rw [HD.out,ZaE (by decide)]; rfl,⟨a,cap,X,by rw [HD.out]; exact HH.out _ hd3⟩,hd3.mono hlt0⟩
  | some m =>
    rw [hmo] at LK hm
    have LK2:(Instr.lookup 79 (.map (some w1.heap.size)) (.string V) true).run Tryz.prog q8=.ok (.tuple #[.int .i64 m,.bool true]) q8:=LK
    have k1:(m != (nl:Int))=true:=by rw [bne_iff_ne]; exact fun e=>hm (by rw [e])
    have k2:(m == (nl:Int))=false:=by rw [beq_eq_false_iff_ne]; exact fun e=>hm (by rw [e])
    clear LK hm hmo
    go_wp2_with fail
    refine (FIN.out _ hd8).mono ?_
    rintro e w3 ⟨rfl,hw3⟩
    have hd3:=hd8.trans (hw3.mono hd8.size)
    go_wp2_with fail
    go_ret
    exact ⟨by rw [HD.out,ZaE (by decide)]; rfl,⟨a,cap,X,by rw [HD.out]; exact HH.out _ hd3⟩,hd3.mono hlt0⟩
 ·obtain ⟨mn,HMN⟩:=nm (α:=Int) ((manyO v).getD 0)
  obtain ⟨mb,HMB⟩:=nm (α:=Bool) ((manyO v).isSome)
  rw [HMN.out,HMB.out] at LK
  clear hz HBAD
  go_wp2_with fail
  refine (FIN.out _ hd8).mono ?_
  rintro e w3 ⟨rfl,hw3⟩
  have hd3:=hd8.trans (hw3.mono hd8.size)
  go_wp2_with fail
  go_ret
  exact ⟨by rw [HD.out,ZaE (by decide)]; rfl,⟨a,cap,X,by rw [HD.out]; exact HH.out _ hd3⟩,hd3.mono hlt0⟩
theorem line_sync (h:BnIn base w b d a cap X) (al:Option Addr) (nl cl:Nat) (ws:List (List UInt8)) (hl:LstS w al nl cl ws) (hn:nl<=70000) (hw:∀ i,(ws.getD i []).length<=70000) (hz0:nl=0) :
  Calls Tryz.prog 21 #[.pointer (some ⟨b,0,none⟩),.string ⟨#[115,121,110,99]⟩,.slice al nl cl] w fun e w'=>BnR base b w (dStep d ([115,121,110,99] :: ws)) e w':=by
 have HN:Hid (ws.length=nl):=hl.len
 have WH:=Lib.hid (ZaD al nl cl ws w hl hn hw h.ld)
 have hmm:=@run_makeMap Tryz.prog
 obtain ⟨TB,HTB,hTB,HH,hlt0,hT,hsy,HBG,HWR,HIT,KB⟩:=lineP h
 obtain rfl:nl=0:=hz0
 have hws:ws=[]:=List.length_eq_zero_iff.1 HN.out
 obtain ⟨z,HZ⟩:∃ z,Hid (numsO ws=some z):=⟨[],by show _=_; rw [hws]; rfl⟩
 have hzl:z=[]:=by have:=HZ.out; rw [hws] at this; exact (Option.some.inj this).symm
 have HD:Hid (dStep d ([115,121,110,99] :: ws)=⟨okA,0,{ d with sy:=d.T.length }⟩):=by
  show _=_
  rw [hws,ZcB (by decide)]
  unfold dAlone
  rw [if_neg (by decide),if_pos rfl]
 obtain ⟨V,HV,e0,e1,e2,e3,e4,e5⟩:=verbF [115,121,110,99] (false,false,true,false,false,false) (by decide)
 replace HV:Hid ((⟨#[115,121,110,99]⟩:ByteArray)=V):=HV
 rw [HV.out]
 clear h hl hw hws hzl
 go_enter Tryz.func21,Tryz.ntmps21
 go_wp2_with fail
 refine WH.out.mono ?_
 rintro e w1 ⟨hr1,hd1⟩
 rcases hr1 with ⟨z',an,cn,hz',rfl,lz,tz⟩ | ⟨hz',_⟩
 rotate_left
 ·rw [HZ.out] at hz'; cases hz'
 obtain rfl:z=z':=by rw [HZ.out] at hz'; exact Option.some.inj hz'
 clear hz' tz
 obtain ⟨q1,q2,q3,q4,q5,q6,q7,q8,r1,r2,r3,r4,r5,r6,r7,r8,HLK,HBQ⟩:=Zbo w1
 have hd8:Below w.heap.size w q8:=hd1.trans (HBQ.out.mono hd1.size)
 have LK:=HLK.out [115,121,110,99] (by decide)
 rw [show manyO [115,121,110,99]=some 0 by decide] at LK
 have LK2:(Instr.lookup 79 (.map (some w1.heap.size)) (.string V) true).run Tryz.prog q8=.ok (.tuple #[.int .i64 0,.bool true]) q8:=by rw [← HV.out]; exact LK
 obtain ⟨y12,y13,f12,f13⟩:=KB.out _ hd8
 clear LK HLK
 go_wp2_with fail
 refine (HBG.out _ hd8).mono ?_
 rintro e w2 ⟨⟨ls,la,lc,R,hB,hR,hRec,_,rfl⟩,bel2⟩
 have hd2:=hd8.trans (bel2.mono hd8.size)
 obtain ⟨x12,x13,g12,g13⟩:=KB.out _ hd2
 clear r1 r2 r3 r4 r5 r6 r7 r8 LK2 y12 y13 f12 f13 hmm
 have HB2:=Lib.hid ((HH.out _ hd2).setS (sy:=d.T.length) nr)
 rw [hTB] at HB2 HD
 have HBL:Hid (Below base w (w2.setCell ⟨b,13,none⟩ (.int .i64 (TB.size:Nat)))):=(hd2.mono hlt0).setCell (p:=⟨b,13,none⟩) (HH.out _ hd2).hb _
 clear hB hR hRec hTB
 go_wp2_with fail
 go_ret
 exact ⟨by rw [HD.out]; rfl,⟨a,cap,X,by rw [HD.out]; exact HB2.out⟩,HBL.out⟩
theorem line_bytes (h:BnIn base w b d a cap X) (al:Option Addr) (nl cl:Nat) (ws:List (List UInt8)) (hl:LstS w al nl cl ws) (hn:nl<=70000) (hw:∀ i,(ws.getD i []).length<=70000) (hz0:nl=0) :
  Calls Tryz.prog 21 #[.pointer (some ⟨b,0,none⟩),.string ⟨#[98,121,116,101,115]⟩,.slice al nl cl] w fun e w'=>BnR base b w (dStep d ([98,121,116,101,115] :: ws)) e w':=by
 have HN:Hid (ws.length=nl):=hl.len
 have WH:=Lib.hid (ZaD al nl cl ws w hl hn hw h.ld)
 have hmm:=@run_makeMap Tryz.prog
 obtain ⟨TB,HTB,hTB,HH,hlt0,hT,hsy,HBG,HWR,HIT,KB⟩:=lineP h
 obtain rfl:nl=0:=hz0
 have hws:ws=[]:=List.length_eq_zero_iff.1 HN.out
 obtain ⟨z,HZ⟩:∃ z,Hid (numsO ws=some z):=⟨[],by show _=_; rw [hws]; rfl⟩
 have hzl:z=[]:=by have:=HZ.out; rw [hws] at this; exact (Option.some.inj this).symm
 have HD:Hid (dStep d ([98,121,116,101,115] :: ws)=⟨Lib.itoa d.T.length,0,d⟩):=by
  show _=_
  rw [hws,ZcB (by decide)]
  unfold dAlone
  rw [if_neg (by decide),if_neg (by decide),if_neg (by decide),if_neg (by decide),if_pos rfl]
 obtain ⟨V,HV,e0,e1,e2,e3,e4,e5⟩:=verbF [98,121,116,101,115] (false,false,false,false,true,false) (by decide)
 replace HV:Hid ((⟨#[98,121,116,101,115]⟩:ByteArray)=V):=HV
 rw [HV.out]
 clear h hl hw hws hzl
 go_enter Tryz.func21,Tryz.ntmps21
 go_wp2_with fail
 refine WH.out.mono ?_
 rintro e w1 ⟨hr1,hd1⟩
 rcases hr1 with ⟨z',an,cn,hz',rfl,lz,tz⟩ | ⟨hz',_⟩
 rotate_left
 ·rw [HZ.out] at hz'; cases hz'
 obtain rfl:z=z':=by rw [HZ.out] at hz'; exact Option.some.inj hz'
 clear hz' tz
 obtain ⟨q1,q2,q3,q4,q5,q6,q7,q8,r1,r2,r3,r4,r5,r6,r7,r8,HLK,HBQ⟩:=Zbo w1
 have hd8:Below w.heap.size w q8:=hd1.trans (HBQ.out.mono hd1.size)
 have LK:=HLK.out [98,121,116,101,115] (by decide)
 rw [show manyO [98,121,116,101,115]=some 0 by decide] at LK
 have LK2:(Instr.lookup 79 (.map (some w1.heap.size)) (.string V) true).run Tryz.prog q8=.ok (.tuple #[.int .i64 0,.bool true]) q8:=by rw [← HV.out]; exact LK
 obtain ⟨y12,y13,f12,f13⟩:=KB.out _ hd8
 clear LK HLK
 go_wp2_with fail
 refine (HBG.out _ hd8).mono ?_
 rintro e w2 ⟨⟨ls,la,lc,R,hB,hR,hRec,_,rfl⟩,bel2⟩
 have hd2:=hd8.trans (bel2.mono hd8.size)
 obtain ⟨x12,x13,g12,g13⟩:=KB.out _ hd2
 clear r1 r2 r3 r4 r5 r6 r7 r8 LK2 y12 y13 f12 f13 hmm
 have hb4:TB.size<=4096:=by omega
 rw [hTB] at HD
 have HI2:=Lib.hid (HIT.out w2 (TB.size:Nat) hd2 (by omega) (by omega))
 obtain ⟨IT,HITB⟩:=nm ((⟨(Lib.itoa (TB.size:Nat)).toArray⟩:ByteArray))
 rw [HITB.out] at HI2
 clear hB hR hRec hTB HIT
 go_wp2_with fail
 refine HI2.out.mono ?_
 rintro e w3 ⟨rfl,hw3⟩
 have hd3:=hd2.trans (hw3.mono hd2.size)
 go_wp2_with fail
 go_ret
 exact ⟨by rw [HD.out,line_ok,HITB.out]; rfl,⟨a,cap,X,by rw [HD.out]; exact HH.out _ hd3⟩,hd3.mono hlt0⟩
theorem line_repair (h:BnIn base w b d a cap X) (al:Option Addr) (nl cl:Nat) (ws:List (List UInt8)) (hl:LstS w al nl cl ws) (hn:nl<=70000) (hw:∀ i,(ws.getD i []).length<=70000) (hz0:nl=0) :
  Calls Tryz.prog 21 #[.pointer (some ⟨b,0,none⟩),.string ⟨#[114,101,112,97,105,114]⟩,.slice al nl cl] w fun e w'=>BnR base b w (dStep d ([114,101,112,97,105,114] :: ws)) e w':=by
 have HN:Hid (ws.length=nl):=hl.len
 have WH:=Lib.hid (ZaD al nl cl ws w hl hn hw h.ld)
 have hmm:=@run_makeMap Tryz.prog
 obtain ⟨TB,HTB,hTB,HH,hlt0,hT,hsy,HBG,HWR,HIT,KB⟩:=lineP h
 obtain rfl:nl=0:=hz0
 have hws:ws=[]:=List.length_eq_zero_iff.1 HN.out
 obtain ⟨z,HZ⟩:∃ z,Hid (numsO ws=some z):=⟨[],by show _=_; rw [hws]; rfl⟩
 have hzl:z=[]:=by have:=HZ.out; rw [hws] at this; exact (Option.some.inj this).symm
 have HD:Hid (dStep d ([114,101,112,97,105,114] :: ws)=dRepair d):=by
  show _=_
  rw [hws,ZcB (by decide)]
  unfold dAlone
  rw [if_neg (by decide),if_neg (by decide),if_pos rfl]
 obtain ⟨V,HV,e0,e1,e2,e3,e4,e5⟩:=verbF [114,101,112,97,105,114] (false,false,false,false,false,true) (by decide)
 replace HV:Hid ((⟨#[114,101,112,97,105,114]⟩:ByteArray)=V):=HV
 rw [HV.out]
 clear h hl hw hws hzl
 go_enter Tryz.func21,Tryz.ntmps21
 go_wp2_with fail
 refine WH.out.mono ?_
 rintro e w1 ⟨hr1,hd1⟩
 rcases hr1 with ⟨z',an,cn,hz',rfl,lz,tz⟩ | ⟨hz',_⟩
 rotate_left
 ·rw [HZ.out] at hz'; cases hz'
 obtain rfl:z=z':=by rw [HZ.out] at hz'; exact Option.some.inj hz'
 clear hz' tz
 obtain ⟨q1,q2,q3,q4,q5,q6,q7,q8,r1,r2,r3,r4,r5,r6,r7,r8,HLK,HBQ⟩:=Zbo w1
 have hd8:Below w.heap.size w q8:=hd1.trans (HBQ.out.mono hd1.size)
 have LK:=HLK.out [114,101,112,97,105,114] (by decide)
 rw [show manyO [114,101,112,97,105,114]=some 0 by decide] at LK
 have LK2:(Instr.lookup 79 (.map (some w1.heap.size)) (.string V) true).run Tryz.prog q8=.ok (.tuple #[.int .i64 0,.bool true]) q8:=by rw [← HV.out]; exact LK
 obtain ⟨y12,y13,f12,f13⟩:=KB.out _ hd8
 clear LK HLK
 go_wp2_with fail
 refine (HBG.out _ hd8).mono ?_
 rintro e w2 ⟨⟨ls,la,lc,R,hB,hR,hRec,_,rfl⟩,bel2⟩
 have hd2:=hd8.trans (bel2.mono hd8.size)
 obtain ⟨x12,x13,g12,g13⟩:=KB.out _ hd2
 clear r1 r2 r3 r4 r5 r6 r7 r8 LK2 y12 y13 f12 f13 hmm
 have eb:=begL_of hB
 have hF:=flat_le d.T
 rw [eb] at hF
 have HDR:Hid (dRepair d=⟨Lib.itoa ((TB.size:Int) - ((flatLn ls).length:Int)),0,{ d with T:=d.T.take (flatLn ls).length,sy:=(flatLn ls).length }⟩):=by show _=_; unfold dRepair; rw [eb,hTB]
 obtain ⟨FL,HFL⟩:=nm ((flatLn ls).length)
 rw [HFL.out] at HDR hF
 rw [HFL.out]
 have HB2:Hid (BnIn base ((w2.setCell ⟨b,12,none⟩ (.string ⟨(d.T.take FL).toArray⟩)).setCell ⟨b,13,none⟩ (.int .i64 FL)) b { d with T:=d.T.take FL,sy:=FL } a cap X):=(HH.out _ hd2).setTS (by rw [List.length_take]; omega) (by rw [List.length_take]; omega)
 have hbb:=(HH.out _ hd2).hb
 have HBL:Hid (Below base w ((w2.setCell ⟨b,12,none⟩ (.string ⟨(d.T.take FL).toArray⟩)).setCell ⟨b,13,none⟩ (.int .i64 FL))):=((hd2.mono hlt0).setCell (p:=⟨b,12,none⟩) hbb _).setCell (p:=⟨b,13,none⟩) hbb _
 have HEX:Hid (TB.extract 0 FL=⟨(d.T.take FL).toArray⟩):=by
  show _=_
  rw [← HTB.out]
  apply Go.WideShapes.bytes_inj
  rw [Lib.extract_data]
  simp
 have hex:TB.extract 0 FL=⟨(d.T.take FL).toArray⟩:=HEX.out
 obtain ⟨NT,HNT⟩:=nm ((⟨(d.T.take FL).toArray⟩:ByteArray))
 rw [HNT.out] at hex HB2 HBL
 have hF2:(FL:Int)<=(TB.size:Int):=by omega
 have hF3:(0:Int)<=(FL:Int):=by omega
 have hb4:TB.size<=4096:=by omega
 have HI2:Hid (∀ q,LD q->Calls Tryz.prog 28 #[.int .i64 ((TB.size:Int) - (FL:Int))] q fun e w'=>e=.returned (.string ⟨(Lib.itoa ((TB.size:Int) - (FL:Int))).toArray⟩)/\Below q.heap.size q w'):=fun q hq=>ZaC _ (by omega) (by omega) q hq
 obtain ⟨IT,HITB⟩:=nm ((⟨(Lib.itoa ((TB.size:Int) - (FL:Int))).toArray⟩:ByteArray))
 rw [HITB.out] at HI2
 have HLDW:=Lib.hid HB2.out.ld
 have g13b:(w2.setCell ⟨b,12,none⟩ (.string NT)).frozen? ⟨b,13,none⟩=false:=by
  have:=((HH.out _ hd2).row.set 12 (.string NT)).frozen 13
  exact this
 have x13b:∃ u,(w2.setCell ⟨b,12,none⟩ (.string NT)).cell? ⟨b,13,none⟩=some u:=⟨_,((HH.out _ hd2).row.set 12 (.string NT)).cell (i:=13) (by omega)⟩
 clear hB hR hRec hTB HIT eb
 go_wp2_with fail
 refine (HI2.out _ HLDW.out).mono ?_
 rintro e w3 ⟨rfl,hw3⟩
 go_wp2_with fail
 go_ret
 have hB3:=HB2.out.below hw3
 exact ⟨by rw [HD.out,HDR.out,line_ok,HITB.out]; rfl,⟨a,cap,X,by rw [HD.out,HDR.out]; exact hB3⟩,HBL.out.trans (hw3.mono (Nat.le_trans hlt0 (Nat.le_trans hd2.size (by simp))))⟩
theorem line_step (h:BnIn base w b d a cap X) (al:Option Addr) (nl cl:Nat) (ws:List (List UInt8)) (hl:LstS w al nl cl ws) (hn:nl<=70000) (hw:∀ i,(ws.getD i []).length<=70000) (hz0:nl=0) :
  Calls Tryz.prog 21 #[.pointer (some ⟨b,0,none⟩),.string ⟨#[115,116,101,112]⟩,.slice al nl cl] w fun e w'=>BnR base b w (dStep d ([115,116,101,112] :: ws)) e w':=by
 have HN:Hid (ws.length=nl):=hl.len
 have WH:=Lib.hid (ZaD al nl cl ws w hl hn hw h.ld)
 have hmm:=@run_makeMap Tryz.prog
 obtain ⟨TB,HTB,hTB,HH,hlt0,hT,hsy,HBG,HWR,HIT,KB⟩:=lineP h
 obtain rfl:nl=0:=hz0
 have hws:ws=[]:=List.length_eq_zero_iff.1 HN.out
 obtain ⟨z,HZ⟩:∃ z,Hid (numsO ws=some z):=⟨[],by show _=_; rw [hws]; rfl⟩
 have hzl:z=[]:=by have:=HZ.out; rw [hws] at this; exact (Option.some.inj this).symm
 have HD:Hid (dStep d ([115,116,101,112] :: ws)=dTake d):=by
  show _=_
  rw [hws,ZcB (by decide)]
  unfold dAlone
  rw [if_pos rfl]
 obtain ⟨V,HV,e0,e1,e2,e3,e4,e5⟩:=verbF [115,116,101,112] (false,false,false,false,false,false) (by decide)
 replace HV:Hid ((⟨#[115,116,101,112]⟩:ByteArray)=V):=HV
 rw [HV.out]
 clear h hl hw hws hzl
 go_enter Tryz.func21,Tryz.ntmps21
 go_wp2_with fail
 refine WH.out.mono ?_
 rintro e w1 ⟨hr1,hd1⟩
 rcases hr1 with ⟨z',an,cn,hz',rfl,lz,tz⟩ | ⟨hz',_⟩
 rotate_left
 ·rw [HZ.out] at hz'; cases hz'
 obtain rfl:z=z':=by rw [HZ.out] at hz'; exact Option.some.inj hz'
 clear hz' tz
 obtain ⟨q1,q2,q3,q4,q5,q6,q7,q8,r1,r2,r3,r4,r5,r6,r7,r8,HLK,HBQ⟩:=Zbo w1
 have hd8:Below w.heap.size w q8:=hd1.trans (HBQ.out.mono hd1.size)
 have LK:=HLK.out [115,116,101,112] (by decide)
 rw [show manyO [115,116,101,112]=some 0 by decide] at LK
 have LK2:(Instr.lookup 79 (.map (some w1.heap.size)) (.string V) true).run Tryz.prog q8=.ok (.tuple #[.int .i64 0,.bool true]) q8:=by rw [← HV.out]; exact LK
 obtain ⟨y12,y13,f12,f13⟩:=KB.out _ hd8
 clear LK HLK
 go_wp2_with fail
 refine (HBG.out _ hd8).mono ?_
 rintro e w2 ⟨⟨ls,la,lc,R,hB,hR,hRec,_,rfl⟩,bel2⟩
 have hd2:=hd8.trans (bel2.mono hd8.size)
 obtain ⟨x12,x13,g12,g13⟩:=KB.out _ hd2
 clear r1 r2 r3 r4 r5 r6 r7 r8 LK2 y12 y13 f12 f13 hmm
 have CO:=Lib.hid (course_step (HH.out _ hd2) an 0 cn la lc R ls hB hR hRec)
 rw [HV.out] at CO
 clear hB hR hRec hTB HIT
 go_wp2_with fail
 refine CO.out.mono ?_
 rintro e w3 ⟨rfl,hk,hc⟩
 go_wp2_with fail
 go_ret
 exact ⟨by rw [HD.out]; rfl,by rw [HD.out]; exact hk,(hd2.mono hlt0).trans hc⟩
theorem line_audit (h:BnIn base w b d a cap X) (al:Option Addr) (nl cl:Nat) (ws:List (List UInt8)) (hl:LstS w al nl cl ws) (hn:nl<=70000) (hw:∀ i,(ws.getD i []).length<=70000) (hz0:nl=0) :
  Calls Tryz.prog 21 #[.pointer (some ⟨b,0,none⟩),.string ⟨#[97,117,100,105,116]⟩,.slice al nl cl] w fun e w'=>BnR base b w (dStep d ([97,117,100,105,116] :: ws)) e w':=by
 have HN:Hid (ws.length=nl):=hl.len
 have WH:=Lib.hid (ZaD al nl cl ws w hl hn hw h.ld)
 have hmm:=@run_makeMap Tryz.prog
 obtain ⟨TB,HTB,hTB,HH,hlt0,hT,hsy,HBG,HWR,HIT,KB⟩:=lineP h
 obtain rfl:nl=0:=hz0
 have hws:ws=[]:=List.length_eq_zero_iff.1 HN.out
 obtain ⟨z,HZ⟩:∃ z,Hid (numsO ws=some z):=⟨[],by show _=_; rw [hws]; rfl⟩
 have hzl:z=[]:=by have:=HZ.out; rw [hws] at this; exact (Option.some.inj this).symm
 have HD:Hid (dStep d ([97,117,100,105,116] :: ws)=dAudit d):=by
  show _=_
  rw [hws,ZcB (by decide)]
  unfold dAlone
  rw [if_neg (by decide),if_neg (by decide),if_neg (by decide),if_pos rfl]
 obtain ⟨V,HV,e0,e1,e2,e3,e4,e5⟩:=verbF [97,117,100,105,116] (false,false,false,false,false,false) (by decide)
 replace HV:Hid ((⟨#[97,117,100,105,116]⟩:ByteArray)=V):=HV
 rw [HV.out]
 clear h hl hw hws hzl
 go_enter Tryz.func21,Tryz.ntmps21
 go_wp2_with fail
 refine WH.out.mono ?_
 rintro e w1 ⟨hr1,hd1⟩
 rcases hr1 with ⟨z',an,cn,hz',rfl,lz,tz⟩ | ⟨hz',_⟩
 rotate_left
 ·rw [HZ.out] at hz'; cases hz'
 obtain rfl:z=z':=by rw [HZ.out] at hz'; exact Option.some.inj hz'
 clear hz' tz
 obtain ⟨q1,q2,q3,q4,q5,q6,q7,q8,r1,r2,r3,r4,r5,r6,r7,r8,HLK,HBQ⟩:=Zbo w1
 have hd8:Below w.heap.size w q8:=hd1.trans (HBQ.out.mono hd1.size)
 have LK:=HLK.out [97,117,100,105,116] (by decide)
 rw [show manyO [97,117,100,105,116]=some 0 by decide] at LK
 have LK2:(Instr.lookup 79 (.map (some w1.heap.size)) (.string V) true).run Tryz.prog q8=.ok (.tuple #[.int .i64 0,.bool true]) q8:=by rw [← HV.out]; exact LK
 obtain ⟨y12,y13,f12,f13⟩:=KB.out _ hd8
 clear LK HLK
 go_wp2_with fail
 refine (HBG.out _ hd8).mono ?_
 rintro e w2 ⟨⟨ls,la,lc,R,hB,hR,hRec,_,rfl⟩,bel2⟩
 have hd2:=hd8.trans (bel2.mono hd8.size)
 obtain ⟨x12,x13,g12,g13⟩:=KB.out _ hd2
 clear r1 r2 r3 r4 r5 r6 r7 r8 LK2 y12 y13 f12 f13 hmm
 have CO:=Lib.hid (course_audit (HH.out _ hd2) an 0 cn la lc R ls hB hR hRec)
 rw [HV.out] at CO
 clear hB hR hRec hTB HIT
 go_wp2_with fail
 refine CO.out.mono ?_
 rintro e w3 ⟨rfl,hk,hc⟩
 go_wp2_with fail
 go_ret
 exact ⟨by rw [HD.out]; rfl,by rw [HD.out]; exact hk,(hd2.mono hlt0).trans hc⟩
end
end Go.Proofs.YthmiojmlaclgaaaGreatDoor.Fx
