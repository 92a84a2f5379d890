/- What the law stands on: DkK. -/
import Derived.Test.YthmiojmlaclgaaaGreatDoorJ00
import Derived.Test.YthmiojmlaclgaaaGreatDoorJ36
import Derived.Test.YthmiojmlaclgaaaGreatDoorJ26
set_option maxRecDepth 100000
set_option maxHeartbeats 12800000
namespace Go.Proofs.YthmiojmlaclgaaaGreatDoor.Fx
open Go.RowKit
section
variable {base:Nat} {w w':World} {b s:Nat} {d:Dsk} {a:Option Addr} {cap:Nat} {X:Nat->Exm}
theorem strEqL (x y:List UInt8):((⟨x.toArray⟩:ByteArray).toList == y)=decide (x=y):=by
 have e:(⟨x.toArray⟩:ByteArray).toList=x:=by rw [ByteArray.toList_eq]
 rw [e]
 by_cases h:x=y
 ·subst h; simp
 ·rw [decide_eq_false h]; exact beq_eq_false_iff_ne.2 h
theorem recsN {w:World} {a:Option Addr} {n c:Nat} {R:Nat->Rcm} {D:Nat->List Int} (h:Recs w a n c R D) {j:Nat} (hj:j < n):(R j).n=(D j).length:=Recs.nS h hj
theorem whE_X {c:Cfg} {n:Nat} {X Y:Nat->Exm} {DI DO:Nat->List Int} {m:Nat} (h:courseI c n X DI DO=courseI c n Y DI DO):whE c n X DI DO m=whE c n Y DI DO m:=by unfold whE; rw [h]
theorem whN_X {c:Cfg} {n:Nat} {X Y:Nat->Exm} {DI DO:Nat->List Int} {m:Nat} {L:Nat->Rcm} {DL:Nat->List Int} {ls:List Ln} (h:courseI c n X DI DO=courseI c n Y DI DO) (hL:∀ j,j < m->(L j).ln (DL j)=lnAt ls j):whN c n X DI DO m L DL=whN c n Y DI DO m (rcL ls) (fun j=>(lnAt ls j).b):=by
 unfold whN
 rw [whE_X h,Zce (fun j hj=>auB_rc (hL j hj))]
theorem alone_step (h:DkIn base w b s d a cap X) (v:List UInt8)  (hv:v=[115,116,101,112]):Calls Tryz.prog 31 #[.pointer (some ⟨b,0,none⟩),.string ⟨v.toArray⟩] w fun e w'=>DoR base b s w (dAlone v d) e w':=by
 have HD:Hid (dAlone v d=dTake d):=by
  show _=_
  unfold dAlone
  rw [if_pos hv]
 obtain ⟨V,HV⟩:=nm ((⟨v.toArray⟩:ByteArray))
 have q0:(V.toList == [115,116,101,112])=true:=by rw [← HV.out]; exact (strEqL v [115,116,101,112]).trans (decide_eq_true hv)
 rw [HV.out]
 have DS:=dstep_calls h
 go_enter Tryz.func31,Tryz.ntmps31
 go_wp2_with (go_at_call 48; refine DS.mono ?_; rintro e w1 ⟨rfl,hk,hc⟩)
 go_ret2
 exact ⟨by rw [HD.out]; rfl,by rw [HD.out]; exact hk,hc⟩
theorem alone_sync (h:DkIn base w b s d a cap X) (v:List UInt8) (h0:v ≠ [115,116,101,112]) (hv:v=[115,121,110,99]):Calls Tryz.prog 31 #[.pointer (some ⟨b,0,none⟩),.string ⟨v.toArray⟩] w fun e w'=>DoR base b s w (dAlone v d) e w':=by
 have HD:Hid (dAlone v d=⟨okA,0,{ d with sy:=d.T.length }⟩):=by
  show _=_
  unfold dAlone
  rw [if_neg h0,if_pos hv]
 obtain ⟨V,HV⟩:=nm ((⟨v.toArray⟩:ByteArray))
 have q0:(V.toList == [115,116,101,112])=false:=by rw [← HV.out]; exact (strEqL v [115,116,101,112]).trans (decide_eq_false h0)
 have q1:(V.toList == [115,121,110,99])=true:=by rw [← HV.out]; exact (strEqL v [115,121,110,99]).trans (decide_eq_true hv)
 rw [HV.out]
 have DS:=sync_calls s d.T 4096 d.sy w h.st
 have c12:=h.cells.2.2
 go_enter Tryz.func31,Tryz.ntmps31
 go_wp2_with (go_at_call 49; refine DS.mono ?_; rintro e w1 ⟨rfl,hS,hK⟩)
 go_ret2
 have hd1:DkIn base w1 b s { d with T:=d.T,sy:=d.T.length } a cap X:=h.keeps hK hS ⟨h.ok.c,h.ok.s,h.ok.n,h.ok.T,nr⟩
 exact ⟨by rw [HD.out]; rfl,⟨a,cap,X,by rw [HD.out]; exact hd1⟩,DkCh.ofKeeps hK h.hs h.lt h.st⟩
theorem alone_repair (h:DkIn base w b s d a cap X) (v:List UInt8) (h0:v ≠ [115,116,101,112]) (h1:v ≠ [115,121,110,99]) (hv:v=[114,101,112,97,105,114]):Calls Tryz.prog 31 #[.pointer (some ⟨b,0,none⟩),.string ⟨v.toArray⟩] w fun e w'=>DoR base b s w (dAlone v d) e w':=by
 have HD:Hid (dAlone v d=dRepair d):=by
  show _=_
  unfold dAlone
  rw [if_neg h0,if_neg h1,if_pos hv]
 obtain ⟨V,HV⟩:=nm ((⟨v.toArray⟩:ByteArray))
 have q0:(V.toList == [115,116,101,112])=false:=by rw [← HV.out]; exact (strEqL v [115,116,101,112]).trans (decide_eq_false h0)
 have q1:(V.toList == [115,121,110,99])=false:=by rw [← HV.out]; exact (strEqL v [115,121,110,99]).trans (decide_eq_false h1)
 have q2:(V.toList == [114,101,112,97,105,114])=true:=by rw [← HV.out]; exact (strEqL v [114,101,112,97,105,114]).trans (decide_eq_true hv)
 rw [HV.out]
 have DS:=Lib.hid (repair_calls s d.T 4096 d.sy (by have:=h.ok.T; omega) w h.st h.ld)
 have c12:=h.cells.2.2
 have HRD:Hid (dRepair d=⟨Lib.itoa ((d.T.length:Int) - ((flatLn (begL d.T)).length:Int)),0,{ d with T:=d.T.take (flatLn (begL d.T)).length,sy:=(flatLn (begL d.T)).length }⟩):=rfl
 have hT:=h.ok.T
 go_enter Tryz.func31,Tryz.ntmps31
 go_wp2_with fail
 refine DS.out.mono ?_
 rintro e w1 ⟨ls,N,hB,HN,hN,rfl,hS,hK⟩
 have eN:(flatLn (begL d.T)).length=N:=by rw [begL_of hB]; exact HN.out
 rw [eN] at HRD
 have hd1:DkIn base w1 b s { d with T:=d.T.take N,sy:=N } a cap X:=h.keeps hK hS ⟨h.ok.c,h.ok.s,h.ok.n,by show (d.T.take N).length<=4096; rw [List.length_take]; omega,by show N<=(d.T.take N).length; rw [List.length_take]; omega⟩
 have NC:=ZbL ((d.T.length:Int) - (N:Int)) 0 (by omega) (by omega) d w1 hd1.ld
 have HND:Hid (dNum ((d.T.length:Int) - (N:Int)) 0 d=⟨Lib.itoa ((d.T.length:Int) - (N:Int)),0,d⟩):=if_pos rfl
 rw [HND.out] at NC
 have hCh:=DkCh.ofKeeps hK h.hs h.lt h.st
 clear hB HN eN DS
 dsimp only at NC
 obtain ⟨Z,HZ⟩:=nm ((⟨(Lib.itoa ((d.T.length:Int) - (N:Int))).toArray⟩:ByteArray))
 rw [HZ.out] at NC
 go_wp2_with (go_at_call 35; refine NC.mono ?_; rintro e w2 ⟨rfl,hw2⟩)
 go_ret2
 exact ⟨by rw [HD.out,HRD.out]; dsimp only; rw [HZ.out]; rfl,⟨a,cap,X,by rw [HD.out,HRD.out]; exact hd1.below hw2⟩,hCh.trans (DkCh.ofBelow hw2 hd1.lt)⟩
theorem alone_bytes (h:DkIn base w b s d a cap X) (v:List UInt8) (h0:v ≠ [115,116,101,112]) (h1:v ≠ [115,121,110,99]) (h2:v ≠ [114,101,112,97,105,114]) (h3:v ≠ [97,117,100,105,116]) (hv:v=[98,121,116,101,115]):Calls Tryz.prog 31 #[.pointer (some ⟨b,0,none⟩),.string ⟨v.toArray⟩] w fun e w'=>DoR base b s w (dAlone v d) e w':=by
 have HD:Hid (dAlone v d=⟨Lib.itoa d.T.length,0,d⟩):=by
  show _=_
  unfold dAlone
  rw [if_neg h0,if_neg h1,if_neg h2,if_neg h3,if_pos hv]
 obtain ⟨V,HV⟩:=nm ((⟨v.toArray⟩:ByteArray))
 have q0:(V.toList == [115,116,101,112])=false:=by rw [← HV.out]; exact (strEqL v [115,116,101,112]).trans (decide_eq_false h0)
 have q1:(V.toList == [115,121,110,99])=false:=by rw [← HV.out]; exact (strEqL v [115,121,110,99]).trans (decide_eq_false h1)
 have q2:(V.toList == [114,101,112,97,105,114])=false:=by rw [← HV.out]; exact (strEqL v [114,101,112,97,105,114]).trans (decide_eq_false h2)
 have q3:(V.toList == [97,117,100,105,116])=false:=by rw [← HV.out]; exact (strEqL v [97,117,100,105,116]).trans (decide_eq_false h3)
 have q4:(V.toList == [98,121,116,101,115])=true:=by rw [← HV.out]; exact (strEqL v [98,121,116,101,115]).trans (decide_eq_true hv)
 rw [HV.out]
 have DS:=bytes_calls s d.T 4096 d.sy (by have:=h.ok.T; omega) w h.st
 have c12:=h.cells.2.2
 have hT:=h.ok.T
 obtain ⟨TB,HTB⟩:=nm ((⟨d.T.toArray⟩:ByteArray))
 have htb:TB.size=d.T.length:=by rw [← HTB.out]; rfl
 rw [HTB.out] at DS
 go_enter Tryz.func31,Tryz.ntmps31
 go_wp2_with fail
 refine DS.mono ?_
 rintro e w1 ⟨rfl,hw1⟩
 have hd1:=h.below hw1
 have NC:=ZbL (d.T.length:Int) 0 (by omega) (by omega) d w1 hd1.ld
 have HND:Hid (dNum (d.T.length:Int) 0 d=⟨Lib.itoa (d.T.length:Int),0,d⟩):=if_pos rfl
 rw [HND.out] at NC
 dsimp only at NC
 obtain ⟨Z,HZ⟩:=nm ((⟨(Lib.itoa (d.T.length:Int)).toArray⟩:ByteArray))
 rw [HZ.out] at NC
 go_wp2_with (go_at_call 35; refine NC.mono ?_; rintro e w2 ⟨rfl,hw2⟩)
 go_ret2
 exact ⟨by rw [HD.out]; dsimp only; rw [HZ.out]; rfl,⟨a,cap,X,by rw [HD.out]; exact hd1.below hw2⟩,(DkCh.ofBelow hw1 h.lt).trans (DkCh.ofBelow hw2 hd1.lt)⟩
theorem alone_none (h:DkIn base w b s d a cap X) (v:List UInt8) (h0:v ≠ [115,116,101,112]) (h1:v ≠ [115,121,110,99]) (h2:v ≠ [114,101,112,97,105,114]) (h3:v ≠ [97,117,100,105,116]) (h4:v ≠ [98,121,116,101,115]):Calls Tryz.prog 31 #[.pointer (some ⟨b,0,none⟩),.string ⟨v.toArray⟩] w fun e w'=>DoR base b s w (dAlone v d) e w':=by
 have HD:Hid (dAlone v d=⟨[],3,d⟩):=by
  show _=_
  unfold dAlone
  rw [if_neg h0,if_neg h1,if_neg h2,if_neg h3,if_neg h4]
 obtain ⟨V,HV⟩:=nm ((⟨v.toArray⟩:ByteArray))
 have q0:(V.toList == [115,116,101,112])=false:=by rw [← HV.out]; exact (strEqL v [115,116,101,112]).trans (decide_eq_false h0)
 have q1:(V.toList == [115,121,110,99])=false:=by rw [← HV.out]; exact (strEqL v [115,121,110,99]).trans (decide_eq_false h1)
 have q2:(V.toList == [114,101,112,97,105,114])=false:=by rw [← HV.out]; exact (strEqL v [114,101,112,97,105,114]).trans (decide_eq_false h2)
 have q3:(V.toList == [97,117,100,105,116])=false:=by rw [← HV.out]; exact (strEqL v [97,117,100,105,116]).trans (decide_eq_false h3)
 have q4:(V.toList == [98,121,116,101,115])=false:=by rw [← HV.out]; exact (strEqL v [98,121,116,101,115]).trans (decide_eq_false h4)
 rw [HV.out]
 go_enter Tryz.func31,Tryz.ntmps31
 go_wp2_with fail
 go_ret2
 exact ⟨by rw [HD.out]; rfl,⟨a,cap,X,by rw [HD.out]; exact h⟩,DkCh.ofBelow br h.lt⟩
theorem alone_audit (h:DkIn base w b s d a cap X) (v:List UInt8) (h0:v ≠ [115,116,101,112]) (h1:v ≠ [115,121,110,99]) (h2:v ≠ [114,101,112,97,105,114]) (hv:v=[97,117,100,105,116]):Calls Tryz.prog 31 #[.pointer (some ⟨b,0,none⟩),.string ⟨v.toArray⟩] w fun e w'=>DoR base b s w (dAlone v d) e w':=by
 have HD:Hid (dAlone v d=dAudit d):=by
  show _=_
  unfold dAlone
  rw [if_neg h0,if_neg h1,if_neg h2,if_pos hv]
 obtain ⟨V,HV⟩:=nm ((⟨v.toArray⟩:ByteArray))
 have q0:(V.toList == [115,116,101,112])=false:=by rw [← HV.out]; exact (strEqL v [115,116,101,112]).trans (decide_eq_false h0)
 have q1:(V.toList == [115,121,110,99])=false:=by rw [← HV.out]; exact (strEqL v [115,121,110,99]).trans (decide_eq_false h1)
 have q2:(V.toList == [114,101,112,97,105,114])=false:=by rw [← HV.out]; exact (strEqL v [114,101,112,97,105,114]).trans (decide_eq_false h2)
 have q3:(V.toList == [97,117,100,105,116])=true:=by rw [← HV.out]; exact (strEqL v [97,117,100,105,116]).trans (decide_eq_true hv)
 rw [HV.out]
 have RC0:=records_calls s d.T 4096 d.sy (by have:=h.ok.T; omega) w.drew (h.st.below br.drew) (h.ld.below br.drew nr)
 have RC:=Lib.hid RC0
 have hdr:Below w.heap.size w w.drew:=br.drew
 have KC:Hid (∀ q,Below w.heap.size w q->q.cell? ⟨b,0,none⟩=some (.int .i64 d.c.i)/\q.cell? ⟨b,1,none⟩=some (.int .i64 d.c.h)/\q.cell? ⟨b,2,none⟩=some (.int .i64 d.c.o)/\q.cell? ⟨b,3,none⟩=some (.int .u64 d.c.seed)/\q.cell? ⟨b,4,none⟩=some (.int .i64 d.c.batch)/\q.cell? ⟨b,5,none⟩=some (.int .i64 d.c.steps)/\q.cell? ⟨b,6,none⟩=some (.int .i64 d.c.rate)/\q.cell? ⟨b,7,none⟩=some (.int .i64 d.c.decay)/\q.cell? ⟨b,8,none⟩=some (.int .i64 d.c.how)/\q.cell? ⟨b,9,none⟩=some (.int .i64 d.c.keep)/\q.cell? ⟨b,10,none⟩=some (.int .i64 d.c.clip)/\q.cell? ⟨b,11,none⟩=some (.slice a d.n cap)/\q.cell? ⟨b,12,none⟩=some (.pointer (some ⟨s,0,none⟩))):=fun q hq=>⟨(h.below hq).cells.1.c0,(h.below hq).cells.1.c1,(h.below hq).cells.1.c2,(h.below hq).cells.1.c3,(h.below hq).cells.1.c4,(h.below hq).cells.1.c5,(h.below hq).cells.1.c6,(h.below hq).cells.1.c7,(h.below hq).cells.1.c8,(h.below hq).cells.1.c9,(h.below hq).cells.1.c10,(h.below hq).cells.2.1,(h.below hq).cells.2.2⟩
 obtain ⟨AE,HAE⟩:=nm (whE d.c d.n d.X d.DI d.DO d.k)
 obtain ⟨AN,HAN⟩:=nm (α:=Nat) (whN d.c d.n d.X d.DI d.DO d.k (rcL (begL d.T)) (fun j=>(lnAt (begL d.T) j).b))
 have HWH:Hid (∀ q,Below w.heap.size w q->∀ (ls:List Ln) (a1:Option Addr) (c1:Nat) (R:Nat->Rcm),Beg d.T ls->(∀ j,j < ls.length->(R j).ln (lnAt ls j).b=lnAt ls j)->Recs q a1 ls.length c1 R (fun j=>(lnAt ls j).b)->Calls Tryz.prog 51 #[d.c.val,.slice a d.n cap,.slice a1 ls.length c1] q fun e w'=>e=.returned (.tuple #[.int .i64 (AN:Nat),.int .i64 AE])/\Below q.heap.size q w'):=fun q hq ls a1 c1 R hB hR hRec=>by
  have e1:begL d.T=ls:=begL_of hB
  have e2:d.k=ls.length:=by unfold Dsk.k; rw [e1]
  have W:=whole_calls d.c h.ok.s a d.n cap X d.DI d.DO a1 ls.length c1 R (fun j=>(lnAt ls j).b) q (h.below hq).exs hRec (fun j hj=>by rw [recsN hRec hj]; have:=(hB.ok j hj).n; omega)
  rw [whN_X h.course hR,whE_X h.course] at W
  rw [e1,e2] at HAN
  rw [e2] at HAE
  rw [HAN.out,HAE.out] at W
  exact W
 have HNB:Hid (AN<=100):=by
  show _<=_
  rw [← HAN.out]
  have hk:d.k<=100:=(begL_is d.T).toBegTo.len
  unfold whN
  split
  ·exact Nat.le_trans (ZcO _ _) hk
  ·omega
 have hnb:=HNB.out
 have HNC:Hid (∀ q,Below w.heap.size w q->Calls Tryz.prog 35 #[.int .i64 (AN:Nat),.int .i64 AE] q fun e w'=>e=.returned (.tuple #[.string ⟨(dNum (AN:Nat) AE d).told.toArray⟩,.int .i64 (dNum (AN:Nat) AE d).e])/\Below q.heap.size q w'):=fun q hq=>ZbL _ _ (by omega) (by omega) d q (h.below hq).ld
 have HDA:Hid (dAudit d=dNum (AN:Nat) AE d):=by show _=_; unfold dAudit; rw [HAN.out,HAE.out]
 have HH:Hid (∀ q,Below w.heap.size w q->DkIn base q b s d a cap X):=fun q hq=>h.below hq
 have hlt0:=h.lt
 have HDD:=Lib.hid (dNum_d (AN:Nat) AE d)
 obtain ⟨ND,HND⟩:=nm (dNum (AN:Nat) AE d)
 rw [HND.out] at HNC HDA HDD
 obtain ⟨told,ne,nd⟩:=ND
 dsimp only at HNC HDD
 obtain rfl:d=nd:=HDD.out.symm
 obtain ⟨Z,HZ⟩:=nm ((⟨told.toArray⟩:ByteArray))
 rw [HZ.out] at HNC
 simp only [Cfg.val,Cfg.cells] at HWH
 clear RC0 HAE HAN HND h
 go_enter Tryz.func31,Tryz.ntmps31
 go_wp2_with fail
 refine wp_region_held_drew (S:=fun q=>q.cell? ⟨b,0,none⟩=some (.int .i64 d.c.i)/\q.cell? ⟨b,1,none⟩=some (.int .i64 d.c.h)/\q.cell? ⟨b,2,none⟩=some (.int .i64 d.c.o)/\q.cell? ⟨b,3,none⟩=some (.int .u64 d.c.seed)/\q.cell? ⟨b,4,none⟩=some (.int .i64 d.c.batch)/\q.cell? ⟨b,5,none⟩=some (.int .i64 d.c.steps)/\q.cell? ⟨b,6,none⟩=some (.int .i64 d.c.rate)/\q.cell? ⟨b,7,none⟩=some (.int .i64 d.c.decay)/\q.cell? ⟨b,8,none⟩=some (.int .i64 d.c.how)/\q.cell? ⟨b,9,none⟩=some (.int .i64 d.c.keep)/\q.cell? ⟨b,10,none⟩=some (.int .i64 d.c.clip)/\q.cell? ⟨b,11,none⟩=some (.slice a d.n cap)/\q.cell? ⟨b,12,none⟩=some (.pointer (some ⟨s,0,none⟩))) (by kernel_rfl) (by with_reducible exact (KC.out _ hdr)) (fun hHeld=>?_)
 refine tk 0 (h:=?_)
 refine tk 1 (h:=?_)
 refine tk 2 (h:=?_)
 refine tk 3 (h:=?_)
 refine tk 4 (h:=?_)
 refine tk 5 (h:=?_)
 refine tk 6 (h:=?_)
 refine tk 7 (h:=?_)
 refine tk 8 (h:=?_)
 refine tk 9 (h:=?_)
 refine tk 10 (h:=?_)
 refine tk 11 (h:=?_)
 refine rd 12 (h:=fun K hK=>?_)
 clear hHeld
 go_simp
 (go_at_call 52; refine RC.out.mono ?_; rintro e w1 ⟨⟨ls,a1,c1,R,hB,hR,hRec,hF,rfl⟩,hw1⟩; have hd1:Below w.heap.size w w1:=hdr.trans hw1; have Z1:=KC.out _ hd1; have WH:=HWH.out w1 hd1 ls a1 c1 R hB hR hRec)
 go_wp2_with fail
 refine hK.out _ _ ?_ (fun hHeld=>?_)
 ·with_reducible exact Z1
 clear hK K
 try simp only [Act.put,List.setIfInBounds_toArray,List.set_cons_zero,List.set_cons_succ]
 refine rd 13 (h:=fun K hK=>?_)
 clear hHeld
 go_simp
 (go_at_call 51; refine WH.mono ?_; rintro e w2 ⟨rfl,hw2⟩; have hd2:=hd1.trans (hw2.mono hd1.size); have Z2:=KC.out _ hd2; have NC:=HNC.out w2 hd2)
 go_wp2_with fail
 refine hK.out _ _ ?_ (fun hHeld=>?_)
 ·with_reducible exact Z2
 clear hK K
 try simp only [Act.put,List.setIfInBounds_toArray,List.set_cons_zero,List.set_cons_succ]
 refine tk 14 (h:=?_)
 refine tk 15 (h:=?_)
 refine rd 16 (h:=fun K hK=>?_)
 clear hHeld
 go_simp
 (go_at_call 35; refine NC.mono ?_; rintro e w3 ⟨rfl,hw3⟩; have hd3:=hd2.trans (hw3.mono hd2.size); have Z3:=KC.out _ hd3)
 go_wp2_with fail
 refine hK.out _ _ ?_ (fun hHeld=>?_)
 ·with_reducible exact Z3
 clear hK K
 try simp only [Act.put,List.setIfInBounds_toArray,List.set_cons_zero,List.set_cons_succ]
 refine tk 17 (h:=?_)
 refine tk 18 (h:=?_)
 refine tk 19 (h:=?_)
 refine tk 20 (h:=?_)
 refine wpAnyH_done (by kernel_rfl) ?_ _
 go_wp2_with fail
 go_ret2
 exact ⟨by rw [HD.out,HDA.out]; dsimp only; rw [HZ.out]; rfl,⟨a,cap,X,by rw [HD.out,HDA.out]; exact HH.out _ hd3⟩,DkCh.ofBelow hd3 hlt0⟩
theorem alone_calls (h:DkIn base w b s d a cap X) (v:List UInt8):Calls Tryz.prog 31 #[.pointer (some ⟨b,0,none⟩),.string ⟨v.toArray⟩] w fun e w'=>DoR base b s w (dAlone v d) e w':=by
 by_cases h0:v=[115,116,101,112]
 ·exact alone_step h v h0
 by_cases h1:v=[115,121,110,99]
 ·exact alone_sync h v h0 h1
 by_cases h2:v=[114,101,112,97,105,114]
 ·exact alone_repair h v h0 h1 h2
 by_cases h3:v=[97,117,100,105,116]
 ·exact alone_audit h v h0 h1 h2 h3
 by_cases h4:v=[98,121,116,101,115]
 ·exact alone_bytes h v h0 h1 h2 h3 h4
 exact alone_none h v h0 h1 h2 h3 h4
end
end Go.Proofs.YthmiojmlaclgaaaGreatDoor.Fx
