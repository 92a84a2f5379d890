/- What the law stands on: RefDkI. -/
import Derived.Test.YthmiojmlaclgaaaGreatDoorJ00
import Derived.Test.YthmiojmlaclgaaaGreatDoorJ42
import Derived.Test.YthmiojmlaclgaaaGreatDoorJ34
import Derived.Test.YthmiojmlaclgaaaGreatDoorJ09
set_option maxRecDepth 100000
set_option maxHeartbeats 12800000
namespace Go.Proofs.YthmiojmlaclgaaaGreatDoor.Fx
open Go.RowKit
section
section
variable {w' W0:World} {ops:Array Oper} {o:Oper} {ac:Act} {Q:Exit->Act->World->Prop}
theorem Zci {rest:List Oper} (hgd:o.guard=none) (s x:Operand) (ho:o.op=.call { callee:=.builtin .append,args:=#[s,x],argTypes:=#[51,51] })
  (base:Nat) (v:Value) (n:Nat) (X:Nat->Exm) (g:Nat) (hs:ac.eval s=v) (hx:ac.eval x=.slice (some ⟨g,0,none⟩) 1 1) (hown:OwnE base w' v n X) (hc0:w'.cell? ⟨g,0,none⟩=some (.slice (X n).a (X n).n (X n).k)) (hc1:w'.cell? ⟨g,1,none⟩=some (.slice (X n).b (X n).m (X n).t)) (hn:(n+1) * 48<=140737488355328) (hbase:base<=w'.heap.size)
  (h:∀ v' w1,OwnE base w1 v' (n+1) X->w'.grownBy w1 v.ownBlock->(v'.ownBlock=v.ownBlock\/v'.ownBlock=some w'.heap.size)->wpList Tryz.prog ops Q rest (ac.put o.dst v') w1):wpList Tryz.prog ops Q (o :: rest) ac w':=by
 obtain ⟨v',w1,hrun,h1,h2,h3⟩:=run_append_ex o.type base v n X g hown hc0 hc1 hn hbase
 refine wpList_plain hgd fun K hK=>?_
 unfold Oper.wp
 simp [execOp,ho,resolve,invoke,builtin,hs,hx,hrun,Result.andThen]
 exact hK _ _ (h v' w1 h1 h2 h3)
end
variable {base:Nat} {w w':World} {b:Nat} {d:Dsk} {a:Option Addr} {cap:Nat} {X:Nat->Exm}
theorem set11_rowB {c c':Cfg} {v:Value} {T:List UInt8} {sy:Nat} {t:TypeId} (h:w.rowIs b t 14 (bnCell c v T sy)):(set11 w b c').rowIs b t 14 (bnCell c' v T sy):=by
 unfold set11
 refine (((((((((((h.set 0 _).set 1 _).set 2 _).set 3 _).set 4 _).set 5 _).set 6 _).set 7 _).set 8 _).set 9 _).set 10 _).congr (fun i hi=>?_)
 rcases lt14 hi with rfl | rfl | rfl | rfl | rfl | rfl | rfl | rfl | rfl | rfl | rfl | rfl | rfl | rfl <;> rfl
theorem alB {B:Nat} {W q:World} (h:Below B W q) (hB:B<=W.heap.size) {o:Obj}:Below B W (q.alloc o):=h.alloc (Nat.le_trans hB h.size) o
theorem line_config1 (h:BnIn base w b d a cap X) (al:Option Addr) (nl cl:Nat) (ws:List (List UInt8)) (hl:LstS w al nl cl ws) (hn:nl<=70000) (hw:∀ i,(ws.getD i []).length<=70000) (z:List Int) (hz:numsO ws=some z) (hzl:z.length=11) (hs3:0 < z.getD 3 0) :
  Calls Tryz.prog 21 #[.pointer (some ⟨b,0,none⟩),.string ⟨#[99,111,110,102,105,103]⟩,.slice al nl cl] w fun e w'=>BnR base b w (dStep d ([99,111,110,102,105,103] :: ws)) e w':=by
 have HN:Hid (ws.length=nl):=hl.len
 have WH:=Lib.hid (ZaD al nl cl ws w hl hn hw h.ld)
 have HH:Hid (∀ q,Below w.heap.size w q->BnIn base q b d a cap X):=fun q hq=>h.below hq
 have hlt0:=h.lt
 have hmm:=@run_makeMap Tryz.prog
 have hT:=h.ok.T
 have hsy:=h.ok.sy
 have HBG:Hid (∀ q,Below w.heap.size w q->Calls Tryz.prog 41 #[.string ⟨d.T.toArray⟩] q fun e w'=>RightR d.T q e w'/\Below q.heap.size q w'):=fun q hq=>Zbt ⟨d.T.toArray⟩ d.T q rfl (by show d.T.length<=_; omega) (h.below hq).ld
 have HWR:Hid (∀ q e0,Below w.heap.size w q->1<=e0->e0<=99->Calls Tryz.prog 39 #[.int .i64 e0] q fun e w'=>e=.returned (.string ⟨(errA e0).toArray⟩)/\Below q.heap.size q w'):=fun q e0 hq h0 h1=>ZaQ e0 h0 h1 q (h.below hq).ld
 have HIT:Hid (∀ q (z:Int),Below w.heap.size w q->-9223372036854775808<=z->z<=9223372036854775807->Calls Tryz.prog 28 #[.int .i64 z] q fun e w'=>e=.returned (.string ⟨(Lib.itoa z).toArray⟩)/\Below q.heap.size q w'):=fun q z hq h0 h1=>ZaC z h0 h1 q (h.below hq).ld
 have HZ:=Lib.hid hz
 have HZB:=Lib.hid (numsO_bd hz)
 have hlz:=ZaL hz
 rw [HN.out] at hlz
 obtain rfl:nl=11:=by omega
 have hws:ws ≠ []:=fun e=>by have:=HN.out; rw [e] at this; simp at this
 have HD:Hid (dStep d ([99,111,110,102,105,103] :: ws)=dConf z d):=by
  show _=_
  rw [step_nums (by decide) hws hz]
  unfold dNums
  rw [if_pos ⟨rfl,hzl⟩]
 obtain ⟨TB,HTB⟩:=nm ((⟨d.T.toArray⟩:ByteArray))
 have hTB:d.T.length=TB.size:=by rw [← HTB.out]; rfl
 rw [HTB.out] at HBG
 have KB:Hid (∀ q,Below w.heap.size w q->q.cell? ⟨b,12,none⟩=some (.string TB)/\q.cell? ⟨b,13,none⟩=some (.int .i64 d.sy)/\q.frozen? ⟨b,12,none⟩=false/\q.frozen? ⟨b,13,none⟩=false):=fun q hq=>⟨by rw [← HTB.out]; exact (h.below hq).cells.2.2.1,(h.below hq).cells.2.2.2,(h.below hq).row.frozen 12,(h.below hq).row.frozen 13⟩
 obtain ⟨V,HV⟩:=nm ((⟨#[99,111,110,102,105,103]⟩:ByteArray))
 have e0:(V.toList == [100,97,116,97])=false:=by rw [← HV.out]; exact (strEqL [99,111,110,102,105,103] [100,97,116,97]).trans (by decide)
 have e1:(V.toList == [99,111,110,102,105,103])=true:=by rw [← HV.out]; exact (strEqL [99,111,110,102,105,103] [99,111,110,102,105,103]).trans (by decide)
 have e2:(V.toList == [115,121,110,99])=false:=by rw [← HV.out]; exact (strEqL [99,111,110,102,105,103] [115,121,110,99]).trans (by decide)
 have e3:(V.toList == [99,114,97,115,104])=false:=by rw [← HV.out]; exact (strEqL [99,111,110,102,105,103] [99,114,97,115,104]).trans (by decide)
 have e4:(V.toList == [98,121,116,101,115])=false:=by rw [← HV.out]; exact (strEqL [99,111,110,102,105,103] [98,121,116,101,115]).trans (by decide)
 have e5:(V.toList == [114,101,112,97,105,114])=false:=by rw [← HV.out]; exact (strEqL [99,111,110,102,105,103] [114,101,112,97,105,114]).trans (by decide)
 rw [HV.out]
 clear hw hws hz hlz
 go_enter Tryz.func21,Tryz.ntmps21
 go_wp2_with fail
 refine WH.out.mono ?_
 rintro e w1 ⟨hr1,hd1⟩
 rcases hr1 with ⟨z',an,cn,hz',rfl,lz,tz⟩ | ⟨hz',_⟩
 rotate_left
 ·rw [HZ.out] at hz'; cases hz'
 obtain rfl:z=z':=by rw [HZ.out] at hz'; exact Option.some.inj hz'
 clear hz' tz
 obtain ⟨q1,q2,q3,q4,q5,q6,q7,q8,r1,r2,r3,r4,r5,r6,r7,r8,HLK,HBQ⟩:=Zbo w1
 have hd8:Below w.heap.size w q8:=hd1.trans (HBQ.out.mono hd1.size)
 have LK:=HLK.out [99,111,110,102,105,103] (by decide)
 rw [show manyO [99,111,110,102,105,103]=some 11 by decide] at LK
 have LK2:(Instr.lookup 79 (.map (some w1.heap.size)) (.string V) true).run Tryz.prog q8=.ok (.tuple #[.int .i64 11,.bool true]) q8:=by rw [← HV.out]; exact LK
 obtain ⟨y12,y13,f12,f13⟩:=KB.out _ hd8
 clear LK HLK
 go_wp2_with fail
 refine (HBG.out _ hd8).mono ?_
 rintro e w2 ⟨⟨ls,la,lc,R,hB,hR,hRec,_,rfl⟩,bel2⟩
 have hd2:=hd8.trans (bel2.mono hd8.size)
 obtain ⟨x12,x13,g12,g13⟩:=KB.out _ hd2
 clear r1 r2 r3 r4 r5 r6 r7 r8 LK2 y12 y13 f12 f13 hmm
 have lz2:=lz.below (HBQ.out.trans (bel2.mono HBQ.out.size)) nr
 obtain ⟨gz,oz,rfl,hgz,hc⟩:=lz2.at (by omega)
 have z0:=hc 0 (by omega)
 have z1:=hc 1 (by omega)
 have z2:=hc 2 (by omega)
 have z3:=hc 3 (by omega)
 have z4:=hc 4 (by omega)
 have z5:=hc 5 (by omega)
 have z6:=hc 6 (by omega)
 have z7:=hc 7 (by omega)
 have z8:=hc 8 (by omega)
 have z9:=hc 9 (by omega)
 have z10:=hc 10 (by omega)
 rw [Nat.add_zero] at z0
 have HCZ:Hid (cfgOf z=⟨z.getD 0 0,z.getD 1 0,z.getD 2 0,max (z.getD 3 0) 0,z.getD 4 0,z.getD 5 0,z.getD 6 0,z.getD 7 0,z.getD 8 0,z.getD 9 0,z.getD 10 0⟩):=rfl
 have HDZ:Hid (dConf z d=if cfgI (cfgOf z)=0 then ⟨okA,0,{ d with c:=cfgOf z }⟩ else ⟨[],cfgI (cfgOf z),d⟩):=rfl
 have hb3:=HZB.out 3
 generalize z.getD 0 0=y0 at *
 generalize z.getD 1 0=y1 at *
 generalize z.getD 2 0=y2 at *
 generalize z.getD 3 0=y3 at *
 generalize z.getD 4 0=y4 at *
 generalize z.getD 5 0=y5 at *
 generalize z.getD 6 0=y6 at *
 generalize z.getD 7 0=y7 at *
 generalize z.getD 8 0=y8 at *
 generalize z.getD 9 0=y9 at *
 generalize z.getD 10 0=y10 at *
 have KS:Hid (∀ q,Below w2.heap.size w2 q->q.cell? ⟨gz,oz,none⟩=some (.int .i64 y0)/\q.cell? ⟨gz,oz+1,none⟩=some (.int .i64 y1)/\q.cell? ⟨gz,oz+2,none⟩=some (.int .i64 y2)/\q.cell? ⟨gz,oz+3,none⟩=some (.int .i64 y3)/\q.cell? ⟨gz,oz+4,none⟩=some (.int .i64 y4)/\q.cell? ⟨gz,oz+5,none⟩=some (.int .i64 y5)/\q.cell? ⟨gz,oz+6,none⟩=some (.int .i64 y6)/\q.cell? ⟨gz,oz+7,none⟩=some (.int .i64 y7)/\q.cell? ⟨gz,oz+8,none⟩=some (.int .i64 y8)/\q.cell? ⟨gz,oz+9,none⟩=some (.int .i64 y9)/\q.cell? ⟨gz,oz+10,none⟩=some (.int .i64 y10)):=fun q hq=>⟨(hq.cell (p:=⟨gz,oz,none⟩) hgz).trans z0,(hq.cell (p:=⟨gz,oz+1,none⟩) hgz).trans z1,(hq.cell (p:=⟨gz,oz+2,none⟩) hgz).trans z2,(hq.cell (p:=⟨gz,oz+3,none⟩) hgz).trans z3,(hq.cell (p:=⟨gz,oz+4,none⟩) hgz).trans z4,(hq.cell (p:=⟨gz,oz+5,none⟩) hgz).trans z5,(hq.cell (p:=⟨gz,oz+6,none⟩) hgz).trans z6,(hq.cell (p:=⟨gz,oz+7,none⟩) hgz).trans z7,(hq.cell (p:=⟨gz,oz+8,none⟩) hgz).trans z8,(hq.cell (p:=⟨gz,oz+9,none⟩) hgz).trans z9,(hq.cell (p:=⟨gz,oz+10,none⟩) hgz).trans z10⟩
 obtain ⟨C,HCC⟩:=nm (cfgOf z)
 have HC2:Hid (C=⟨y0,y1,y2,y3,y4,y5,y6,y7,y8,y9,y10⟩):=by
  show _=_
  rw [← HCC.out,HCZ.out,show max y3 0=y3 by omega]
 rw [HCC.out] at HDZ
 have hcok:cfgI C=0->cfgB C=true:=fun e=>by rw [← HCC.out] at e ⊢; exact cfgOf_ok e
 have T0:Below w2.heap.size w2 w2:=br
 have TA:Below w2.heap.size w2 (w2.alloc (.cells C.cells 50)).drew:=Below.drew (alB T0 nr)
 have OC:=Lib.hid (Zca C (w2.alloc (.cells C.cells 50)).drew)
 have hbx:BoxC (w2.alloc (.cells C.cells 50)).drew w2.heap.size C:=boxC (B:=w2.heap.size+1) (Below.drew br) (Nat.lt_succ_self _)
 have hseed:0<=C.seed/\C.seed < 18446744073709551616:=by rw [HC2.out]; dsimp only; omega
 have hCC:(.cells #[.int .i64 y0,.int .i64 y1,.int .i64 y2,.int .u64 y3,.int .i64 y4,.int .i64 y5,.int .i64 y6,.int .i64 y7,.int .i64 y8,.int .i64 y9,.int .i64 y10] 50:Obj)=.cells C.cells 50:=by rw [HC2.out]; rfl
 have j3:(3:Int) < ((11:Nat):Int):=by omega
 have hw3:IntKind.u64.wrap y3=y3:=by rw [IntKind.wrap_u64]; omega
 have HKB:=Lib.hid hbx
 have hdA:Below w.heap.size w (w2.alloc (.cells C.cells 50)).drew:=hd2.trans (TA.mono hd2.size)
 have hokk:=h.ok
 clear hB hR hRec hTB HIT lz lz2 hc hbx h hl
 clear z0 z1 z2 z4 z5 z6 z7 z8 z9 z10
 go_wp2_with fail
 refine wp_region_held_drew (S:=fun q=>q.cell? ⟨gz,oz,none⟩=some (.int .i64 y0)/\q.cell? ⟨gz,oz+1,none⟩=some (.int .i64 y1)/\q.cell? ⟨gz,oz+2,none⟩=some (.int .i64 y2)/\q.cell? ⟨gz,oz+3,none⟩=some (.int .i64 y3)/\q.cell? ⟨gz,oz+4,none⟩=some (.int .i64 y4)/\q.cell? ⟨gz,oz+5,none⟩=some (.int .i64 y5)/\q.cell? ⟨gz,oz+6,none⟩=some (.int .i64 y6)/\q.cell? ⟨gz,oz+7,none⟩=some (.int .i64 y7)/\q.cell? ⟨gz,oz+8,none⟩=some (.int .i64 y8)/\q.cell? ⟨gz,oz+9,none⟩=some (.int .i64 y9)/\q.cell? ⟨gz,oz+10,none⟩=some (.int .i64 y10)) (by kernel_rfl) (by with_reducible exact (KS.out _ (Below.drew T0))) (fun hHeld=>?_)
 refine tk 0 (h:=?_)
 refine tk 1 (h:=?_)
 refine tk 2 (h:=?_)
 refine tk 3 (h:=?_)
 refine tk 4 (h:=?_)
 refine tk 5 (h:=?_)
 refine tk 6 (h:=?_)
 refine tk 7 (h:=?_)
 refine tk 8 (h:=?_)
 refine tk 9 (h:=?_)
 refine tk 10 (h:=?_)
 refine tk 11 (h:=?_)
 refine tk 12 (h:=?_)
 refine tk 13 (h:=?_)
 refine tk 14 (h:=?_)
 refine tk 15 (h:=?_)
 refine tk 16 (h:=?_)
 refine tk 17 (h:=?_)
 refine tk 18 (h:=?_)
 refine tk 19 (h:=?_)
 refine tk 20 (h:=?_)
 refine tk 21 (h:=?_)
 refine tk 22 (h:=?_)
 refine tk 23 (h:=?_)
 refine tk 24 (h:=?_)
 refine tk 25 (h:=?_)
 refine tk 26 (h:=?_)
 refine tk 27 (h:=?_)
 refine tk 28 (h:=?_)
 refine tk 29 (h:=?_)
 refine tk 30 (h:=?_)
 refine tk 31 (h:=?_)
 refine rd 32 (h:=fun K hK=>?_)
 clear hHeld
 go_simp
 refine hK.out _ _ ?_ (fun hHeld=>?_)
 ·with_reducible exact (KS.out _ (Below.drew (alB T0 nr)))
 clear hK K
 try simp only [Act.put,List.setIfInBounds_toArray,List.set_cons_zero,List.set_cons_succ]
 refine rd 33 (h:=fun K hK=>?_)
 clear hHeld
 go_simp
 refine hK.out _ _ ?_ (fun hHeld=>?_)
 ·with_reducible exact (KS.out _ (Below.drew (alB T0 nr)))
 clear hK K
 try simp only [Act.put,List.setIfInBounds_toArray]
 refine wpAnyH_done (by kernel_rfl) ?_ _
 generalize (w2.alloc (.cells C.cells 50)).drew=W1 at *
 clear KS hCC HCZ HC2 hb3 hgz
 have hW1:w2.heap.size < W1.heap.size:=World.block_lt_of_cell? _ _ HKB.out.c0
 have KB2:Hid (∀ q,Below W1.heap.size W1 q->BoxC q w2.heap.size C):=fun q hq=>⟨(hq.cell (p:=⟨w2.heap.size,0,none⟩) hW1).trans HKB.out.c0,(hq.cell (p:=⟨w2.heap.size,1,none⟩) hW1).trans HKB.out.c1,(hq.cell (p:=⟨w2.heap.size,2,none⟩) hW1).trans HKB.out.c2,(hq.cell (p:=⟨w2.heap.size,3,none⟩) hW1).trans HKB.out.c3,(hq.cell (p:=⟨w2.heap.size,4,none⟩) hW1).trans HKB.out.c4,(hq.cell (p:=⟨w2.heap.size,5,none⟩) hW1).trans HKB.out.c5,(hq.cell (p:=⟨w2.heap.size,6,none⟩) hW1).trans HKB.out.c6,(hq.cell (p:=⟨w2.heap.size,7,none⟩) hW1).trans HKB.out.c7,(hq.cell (p:=⟨w2.heap.size,8,none⟩) hW1).trans HKB.out.c8,(hq.cell (p:=⟨w2.heap.size,9,none⟩) hW1).trans HKB.out.c9,(hq.cell (p:=⟨w2.heap.size,10,none⟩) hW1).trans HKB.out.c10⟩
 obtain ⟨q0,q1,q2,q3,q4,q5,q6,q7,q8',q9,q10⟩:=HKB.out
 by_cases hE:cfgI C=0
 ·rw [if_pos hE] at HDZ
  rw [hE] at OC
  have hok:Dsk.ok { d with c:=C }:=⟨hcok hE,hseed,hokk.n,hokk.T,hokk.sy⟩
  simp only [Cfg.val,Cfg.cells] at OC
  go_wp2_with fail
  refine OC.out.mono ?_
  rintro e w3 ⟨rfl,hw3'⟩
  have hd3:=hdA.trans (hw3'.mono hdA.size)
  have hdk:=HH.out _ hd3
  obtain ⟨m0,m1,m2,m3,m4,m5,m6,m7,m8,m9,m10⟩:=KB2.out _ hw3'
  obtain ⟨⟨n0,n1,n2,n3,n4,n5,n6,n7,n8,n9,n10⟩,_,_⟩:=hdk.cells
  have f0:=hdk.row.frozen 0
  have f1:=hdk.row.frozen 1
  have f2:=hdk.row.frozen 2
  have f3:=hdk.row.frozen 3
  have f4:=hdk.row.frozen 4
  have f5:=hdk.row.frozen 5
  have f6:=hdk.row.frozen 6
  have f7:=hdk.row.frozen 7
  have f8:=hdk.row.frozen 8
  have f9:=hdk.row.frozen 9
  have f10:=hdk.row.frozen 10
  have HSET:Hid (BnIn base (set11 w3 b C) b { d with c:=C } a cap X):=hdk.turn (by rw [set11_size]; exact nr) (fun k _ hk=>Zcg w3 b C k hk) rfl (set11_rowB hdk.row) hok (hdk.ldb.low (Zbk (Below.refl base w3) hdk.hb C))
  have HBL:Hid (Below base w (set11 w3 b C)):=(hd3.mono hlt0).trans (Zbk (Below.refl base w3) hdk.hb C)
  clear hdk
  go_wp2_with fail
  go_ret
  exact ⟨by rw [HD.out,HDZ.out]; rfl,⟨a,cap,X,by rw [HD.out,HDZ.out]; exact HSET.out⟩,HBL.out⟩
 ·rw [if_neg hE] at HDZ
  have hEb:=cfgI_bd C
  obtain ⟨E,HEE⟩:=nm (cfgI C)
  rw [HEE.out] at OC hE HDZ hEb
  have k1:(E == 0)=false:=by rw [beq_eq_false_iff_ne]; exact hE
  have k1':(E != 0)=true:=by unfold bne; rw [k1]; rfl
  simp only [Cfg.val,Cfg.cells] at OC
  go_wp2_with fail
  refine OC.out.mono ?_
  rintro e w3 ⟨rfl,hw3'⟩
  have hd3:=hdA.trans (hw3'.mono hdA.size)
  go_wp2_with fail
  refine (HWR.out _ E hd3 (by omega) (by omega)).mono ?_
  rintro e w4 ⟨rfl,hw4⟩
  have hd4:=hd3.trans (hw4.mono hd3.size)
  go_wp2_with fail
  go_ret
  exact ⟨by rw [HD.out,HDZ.out,ZaE (by omega)]; rfl,⟨a,cap,X,by rw [HD.out,HDZ.out]; exact HH.out _ hd4⟩,hd4.mono hlt0⟩
theorem line_config0 (h:BnIn base w b d a cap X) (al:Option Addr) (nl cl:Nat) (ws:List (List UInt8)) (hl:LstS w al nl cl ws) (hn:nl<=70000) (hw:∀ i,(ws.getD i []).length<=70000) (z:List Int) (hz:numsO ws=some z) (hzl:z.length=11) (hs3:¬ 0 < z.getD 3 0) :
  Calls Tryz.prog 21 #[.pointer (some ⟨b,0,none⟩),.string ⟨#[99,111,110,102,105,103]⟩,.slice al nl cl] w fun e w'=>BnR base b w (dStep d ([99,111,110,102,105,103] :: ws)) e w':=by
 have HN:Hid (ws.length=nl):=hl.len
 have WH:=Lib.hid (ZaD al nl cl ws w hl hn hw h.ld)
 have HH:Hid (∀ q,Below w.heap.size w q->BnIn base q b d a cap X):=fun q hq=>h.below hq
 have hlt0:=h.lt
 have hmm:=@run_makeMap Tryz.prog
 have hT:=h.ok.T
 have hsy:=h.ok.sy
 have HBG:Hid (∀ q,Below w.heap.size w q->Calls Tryz.prog 41 #[.string ⟨d.T.toArray⟩] q fun e w'=>RightR d.T q e w'/\Below q.heap.size q w'):=fun q hq=>Zbt ⟨d.T.toArray⟩ d.T q rfl (by show d.T.length<=_; omega) (h.below hq).ld
 have HWR:Hid (∀ q e0,Below w.heap.size w q->1<=e0->e0<=99->Calls Tryz.prog 39 #[.int .i64 e0] q fun e w'=>e=.returned (.string ⟨(errA e0).toArray⟩)/\Below q.heap.size q w'):=fun q e0 hq h0 h1=>ZaQ e0 h0 h1 q (h.below hq).ld
 have HIT:Hid (∀ q (z:Int),Below w.heap.size w q->-9223372036854775808<=z->z<=9223372036854775807->Calls Tryz.prog 28 #[.int .i64 z] q fun e w'=>e=.returned (.string ⟨(Lib.itoa z).toArray⟩)/\Below q.heap.size q w'):=fun q z hq h0 h1=>ZaC z h0 h1 q (h.below hq).ld
 have HZ:=Lib.hid hz
 have HZB:=Lib.hid (numsO_bd hz)
 have hlz:=ZaL hz
 rw [HN.out] at hlz
 obtain rfl:nl=11:=by omega
 have hws:ws ≠ []:=fun e=>by have:=HN.out; rw [e] at this; simp at this
 have HD:Hid (dStep d ([99,111,110,102,105,103] :: ws)=dConf z d):=by
  show _=_
  rw [step_nums (by decide) hws hz]
  unfold dNums
  rw [if_pos ⟨rfl,hzl⟩]
 obtain ⟨TB,HTB⟩:=nm ((⟨d.T.toArray⟩:ByteArray))
 have hTB:d.T.length=TB.size:=by rw [← HTB.out]; rfl
 rw [HTB.out] at HBG
 have KB:Hid (∀ q,Below w.heap.size w q->q.cell? ⟨b,12,none⟩=some (.string TB)/\q.cell? ⟨b,13,none⟩=some (.int .i64 d.sy)/\q.frozen? ⟨b,12,none⟩=false/\q.frozen? ⟨b,13,none⟩=false):=fun q hq=>⟨by rw [← HTB.out]; exact (h.below hq).cells.2.2.1,(h.below hq).cells.2.2.2,(h.below hq).row.frozen 12,(h.below hq).row.frozen 13⟩
 obtain ⟨V,HV⟩:=nm ((⟨#[99,111,110,102,105,103]⟩:ByteArray))
 have e0:(V.toList == [100,97,116,97])=false:=by rw [← HV.out]; exact (strEqL [99,111,110,102,105,103] [100,97,116,97]).trans (by decide)
 have e1:(V.toList == [99,111,110,102,105,103])=true:=by rw [← HV.out]; exact (strEqL [99,111,110,102,105,103] [99,111,110,102,105,103]).trans (by decide)
 have e2:(V.toList == [115,121,110,99])=false:=by rw [← HV.out]; exact (strEqL [99,111,110,102,105,103] [115,121,110,99]).trans (by decide)
 have e3:(V.toList == [99,114,97,115,104])=false:=by rw [← HV.out]; exact (strEqL [99,111,110,102,105,103] [99,114,97,115,104]).trans (by decide)
 have e4:(V.toList == [98,121,116,101,115])=false:=by rw [← HV.out]; exact (strEqL [99,111,110,102,105,103] [98,121,116,101,115]).trans (by decide)
 have e5:(V.toList == [114,101,112,97,105,114])=false:=by rw [← HV.out]; exact (strEqL [99,111,110,102,105,103] [114,101,112,97,105,114]).trans (by decide)
 rw [HV.out]
 clear hw hws hz hlz
 go_enter Tryz.func21,Tryz.ntmps21
 go_wp2_with fail
 refine WH.out.mono ?_
 rintro e w1 ⟨hr1,hd1⟩
 rcases hr1 with ⟨z',an,cn,hz',rfl,lz,tz⟩ | ⟨hz',_⟩
 rotate_left
 ·rw [HZ.out] at hz'; cases hz'
 obtain rfl:z=z':=by rw [HZ.out] at hz'; exact Option.some.inj hz'
 clear hz' tz
 obtain ⟨q1,q2,q3,q4,q5,q6,q7,q8,r1,r2,r3,r4,r5,r6,r7,r8,HLK,HBQ⟩:=Zbo w1
 have hd8:Below w.heap.size w q8:=hd1.trans (HBQ.out.mono hd1.size)
 have LK:=HLK.out [99,111,110,102,105,103] (by decide)
 rw [show manyO [99,111,110,102,105,103]=some 11 by decide] at LK
 have LK2:(Instr.lookup 79 (.map (some w1.heap.size)) (.string V) true).run Tryz.prog q8=.ok (.tuple #[.int .i64 11,.bool true]) q8:=by rw [← HV.out]; exact LK
 obtain ⟨y12,y13,f12,f13⟩:=KB.out _ hd8
 clear LK HLK
 go_wp2_with fail
 refine (HBG.out _ hd8).mono ?_
 rintro e w2 ⟨⟨ls,la,lc,R,hB,hR,hRec,_,rfl⟩,bel2⟩
 have hd2:=hd8.trans (bel2.mono hd8.size)
 obtain ⟨x12,x13,g12,g13⟩:=KB.out _ hd2
 clear r1 r2 r3 r4 r5 r6 r7 r8 LK2 y12 y13 f12 f13 hmm
 have lz2:=lz.below (HBQ.out.trans (bel2.mono HBQ.out.size)) nr
 obtain ⟨gz,oz,rfl,hgz,hc⟩:=lz2.at (by omega)
 have z0:=hc 0 (by omega)
 have z1:=hc 1 (by omega)
 have z2:=hc 2 (by omega)
 have z3:=hc 3 (by omega)
 have z4:=hc 4 (by omega)
 have z5:=hc 5 (by omega)
 have z6:=hc 6 (by omega)
 have z7:=hc 7 (by omega)
 have z8:=hc 8 (by omega)
 have z9:=hc 9 (by omega)
 have z10:=hc 10 (by omega)
 rw [Nat.add_zero] at z0
 have HCZ:Hid (cfgOf z=⟨z.getD 0 0,z.getD 1 0,z.getD 2 0,max (z.getD 3 0) 0,z.getD 4 0,z.getD 5 0,z.getD 6 0,z.getD 7 0,z.getD 8 0,z.getD 9 0,z.getD 10 0⟩):=rfl
 have HDZ:Hid (dConf z d=if cfgI (cfgOf z)=0 then ⟨okA,0,{ d with c:=cfgOf z }⟩ else ⟨[],cfgI (cfgOf z),d⟩):=rfl
 have hb3:=HZB.out 3
 generalize z.getD 0 0=y0 at *
 generalize z.getD 1 0=y1 at *
 generalize z.getD 2 0=y2 at *
 generalize z.getD 3 0=y3 at *
 generalize z.getD 4 0=y4 at *
 generalize z.getD 5 0=y5 at *
 generalize z.getD 6 0=y6 at *
 generalize z.getD 7 0=y7 at *
 generalize z.getD 8 0=y8 at *
 generalize z.getD 9 0=y9 at *
 generalize z.getD 10 0=y10 at *
 have KS:Hid (∀ q,Below w2.heap.size w2 q->q.cell? ⟨gz,oz,none⟩=some (.int .i64 y0)/\q.cell? ⟨gz,oz+1,none⟩=some (.int .i64 y1)/\q.cell? ⟨gz,oz+2,none⟩=some (.int .i64 y2)/\q.cell? ⟨gz,oz+3,none⟩=some (.int .i64 y3)/\q.cell? ⟨gz,oz+4,none⟩=some (.int .i64 y4)/\q.cell? ⟨gz,oz+5,none⟩=some (.int .i64 y5)/\q.cell? ⟨gz,oz+6,none⟩=some (.int .i64 y6)/\q.cell? ⟨gz,oz+7,none⟩=some (.int .i64 y7)/\q.cell? ⟨gz,oz+8,none⟩=some (.int .i64 y8)/\q.cell? ⟨gz,oz+9,none⟩=some (.int .i64 y9)/\q.cell? ⟨gz,oz+10,none⟩=some (.int .i64 y10)):=fun q hq=>⟨(hq.cell (p:=⟨gz,oz,none⟩) hgz).trans z0,(hq.cell (p:=⟨gz,oz+1,none⟩) hgz).trans z1,(hq.cell (p:=⟨gz,oz+2,none⟩) hgz).trans z2,(hq.cell (p:=⟨gz,oz+3,none⟩) hgz).trans z3,(hq.cell (p:=⟨gz,oz+4,none⟩) hgz).trans z4,(hq.cell (p:=⟨gz,oz+5,none⟩) hgz).trans z5,(hq.cell (p:=⟨gz,oz+6,none⟩) hgz).trans z6,(hq.cell (p:=⟨gz,oz+7,none⟩) hgz).trans z7,(hq.cell (p:=⟨gz,oz+8,none⟩) hgz).trans z8,(hq.cell (p:=⟨gz,oz+9,none⟩) hgz).trans z9,(hq.cell (p:=⟨gz,oz+10,none⟩) hgz).trans z10⟩
 obtain ⟨C,HCC⟩:=nm (cfgOf z)
 have HC2:Hid (C=⟨y0,y1,y2,0,y4,y5,y6,y7,y8,y9,y10⟩):=by
  show _=_
  rw [← HCC.out,HCZ.out,show max y3 0=0 by omega]
 rw [HCC.out] at HDZ
 have hcok:cfgI C=0->cfgB C=true:=fun e=>by rw [← HCC.out] at e ⊢; exact cfgOf_ok e
 have T0:Below w2.heap.size w2 w2:=br
 have TA:Below w2.heap.size w2 (w2.alloc (.cells C.cells 50)).drew:=Below.drew (alB T0 nr)
 have OC:=Lib.hid (Zca C (w2.alloc (.cells C.cells 50)).drew)
 have hbx:BoxC (w2.alloc (.cells C.cells 50)).drew w2.heap.size C:=boxC (B:=w2.heap.size+1) (Below.drew br) (Nat.lt_succ_self _)
 have hseed:0<=C.seed/\C.seed < 18446744073709551616:=by rw [HC2.out]; dsimp only; omega
 have hCC:(.cells #[.int .i64 y0,.int .i64 y1,.int .i64 y2,.int .u64 0,.int .i64 y4,.int .i64 y5,.int .i64 y6,.int .i64 y7,.int .i64 y8,.int .i64 y9,.int .i64 y10] 50:Obj)=.cells C.cells 50:=by rw [HC2.out]; rfl
 have j3:(3:Int) < ((11:Nat):Int):=by omega
 have hw3:¬ (0:Int) < y3:=by omega
 have HKB:=Lib.hid hbx
 have hdA:Below w.heap.size w (w2.alloc (.cells C.cells 50)).drew:=hd2.trans (TA.mono hd2.size)
 have hokk:=h.ok
 clear hB hR hRec hTB HIT lz lz2 hc hbx h hl
 clear z0 z1 z2 z4 z5 z6 z7 z8 z9 z10
 go_wp2_with fail
 refine wp_region_held_drew (S:=fun q=>q.cell? ⟨gz,oz,none⟩=some (.int .i64 y0)/\q.cell? ⟨gz,oz+1,none⟩=some (.int .i64 y1)/\q.cell? ⟨gz,oz+2,none⟩=some (.int .i64 y2)/\q.cell? ⟨gz,oz+3,none⟩=some (.int .i64 y3)/\q.cell? ⟨gz,oz+4,none⟩=some (.int .i64 y4)/\q.cell? ⟨gz,oz+5,none⟩=some (.int .i64 y5)/\q.cell? ⟨gz,oz+6,none⟩=some (.int .i64 y6)/\q.cell? ⟨gz,oz+7,none⟩=some (.int .i64 y7)/\q.cell? ⟨gz,oz+8,none⟩=some (.int .i64 y8)/\q.cell? ⟨gz,oz+9,none⟩=some (.int .i64 y9)/\q.cell? ⟨gz,oz+10,none⟩=some (.int .i64 y10)) (by kernel_rfl) (by with_reducible exact (KS.out _ (Below.drew T0))) (fun hHeld=>?_)
 refine tk 0 (h:=?_)
 refine tk 1 (h:=?_)
 refine tk 2 (h:=?_)
 refine tk 3 (h:=?_)
 refine tk 4 (h:=?_)
 refine tk 5 (h:=?_)
 refine tk 6 (h:=?_)
 refine tk 7 (h:=?_)
 refine tk 8 (h:=?_)
 refine tk 9 (h:=?_)
 refine tk 10 (h:=?_)
 refine tk 11 (h:=?_)
 refine tk 12 (h:=?_)
 refine tk 13 (h:=?_)
 refine tk 14 (h:=?_)
 refine tk 15 (h:=?_)
 refine tk 16 (h:=?_)
 refine tk 17 (h:=?_)
 refine tk 18 (h:=?_)
 refine tk 19 (h:=?_)
 refine tk 20 (h:=?_)
 refine tk 21 (h:=?_)
 refine tk 22 (h:=?_)
 refine tk 23 (h:=?_)
 refine tk 24 (h:=?_)
 refine tk 25 (h:=?_)
 refine tk 26 (h:=?_)
 refine tk 27 (h:=?_)
 refine tk 28 (h:=?_)
 refine tk 29 (h:=?_)
 refine tk 30 (h:=?_)
 refine tk 31 (h:=?_)
 refine rd 32 (h:=fun K hK=>?_)
 clear hHeld
 go_simp
 refine hK.out _ _ ?_ (fun hHeld=>?_)
 ·with_reducible exact (KS.out _ (Below.drew (alB T0 nr)))
 clear hK K
 try simp only [Act.put,List.setIfInBounds_toArray,List.set_cons_zero,List.set_cons_succ]
 refine rd 33 (h:=fun K hK=>?_)
 clear hHeld
 go_simp
 refine hK.out _ _ ?_ (fun hHeld=>?_)
 ·with_reducible exact (KS.out _ (Below.drew (alB T0 nr)))
 clear hK K
 try simp only [Act.put,List.setIfInBounds_toArray]
 refine wpAnyH_done (by kernel_rfl) ?_ _
 generalize (w2.alloc (.cells C.cells 50)).drew=W1 at *
 clear KS hCC HCZ HC2 hb3 hgz
 have hW1:w2.heap.size < W1.heap.size:=World.block_lt_of_cell? _ _ HKB.out.c0
 have KB2:Hid (∀ q,Below W1.heap.size W1 q->BoxC q w2.heap.size C):=fun q hq=>⟨(hq.cell (p:=⟨w2.heap.size,0,none⟩) hW1).trans HKB.out.c0,(hq.cell (p:=⟨w2.heap.size,1,none⟩) hW1).trans HKB.out.c1,(hq.cell (p:=⟨w2.heap.size,2,none⟩) hW1).trans HKB.out.c2,(hq.cell (p:=⟨w2.heap.size,3,none⟩) hW1).trans HKB.out.c3,(hq.cell (p:=⟨w2.heap.size,4,none⟩) hW1).trans HKB.out.c4,(hq.cell (p:=⟨w2.heap.size,5,none⟩) hW1).trans HKB.out.c5,(hq.cell (p:=⟨w2.heap.size,6,none⟩) hW1).trans HKB.out.c6,(hq.cell (p:=⟨w2.heap.size,7,none⟩) hW1).trans HKB.out.c7,(hq.cell (p:=⟨w2.heap.size,8,none⟩) hW1).trans HKB.out.c8,(hq.cell (p:=⟨w2.heap.size,9,none⟩) hW1).trans HKB.out.c9,(hq.cell (p:=⟨w2.heap.size,10,none⟩) hW1).trans HKB.out.c10⟩
 obtain ⟨q0,q1,q2,q3,q4,q5,q6,q7,q8',q9,q10⟩:=HKB.out
 by_cases hE:cfgI C=0
 ·rw [if_pos hE] at HDZ
  rw [hE] at OC
  have hok:Dsk.ok { d with c:=C }:=⟨hcok hE,hseed,hokk.n,hokk.T,hokk.sy⟩
  simp only [Cfg.val,Cfg.cells] at OC
  go_wp2_with fail
  refine OC.out.mono ?_
  rintro e w3 ⟨rfl,hw3'⟩
  have hd3:=hdA.trans (hw3'.mono hdA.size)
  have hdk:=HH.out _ hd3
  obtain ⟨m0,m1,m2,m3,m4,m5,m6,m7,m8,m9,m10⟩:=KB2.out _ hw3'
  obtain ⟨⟨n0,n1,n2,n3,n4,n5,n6,n7,n8,n9,n10⟩,_,_⟩:=hdk.cells
  have f0:=hdk.row.frozen 0
  have f1:=hdk.row.frozen 1
  have f2:=hdk.row.frozen 2
  have f3:=hdk.row.frozen 3
  have f4:=hdk.row.frozen 4
  have f5:=hdk.row.frozen 5
  have f6:=hdk.row.frozen 6
  have f7:=hdk.row.frozen 7
  have f8:=hdk.row.frozen 8
  have f9:=hdk.row.frozen 9
  have f10:=hdk.row.frozen 10
  have HSET:Hid (BnIn base (set11 w3 b C) b { d with c:=C } a cap X):=hdk.turn (by rw [set11_size]; exact nr) (fun k _ hk=>Zcg w3 b C k hk) rfl (set11_rowB hdk.row) hok (hdk.ldb.low (Zbk (Below.refl base w3) hdk.hb C))
  have HBL:Hid (Below base w (set11 w3 b C)):=(hd3.mono hlt0).trans (Zbk (Below.refl base w3) hdk.hb C)
  clear hdk
  go_wp2_with fail
  go_ret
  exact ⟨by rw [HD.out,HDZ.out]; rfl,⟨a,cap,X,by rw [HD.out,HDZ.out]; exact HSET.out⟩,HBL.out⟩
 ·rw [if_neg hE] at HDZ
  have hEb:=cfgI_bd C
  obtain ⟨E,HEE⟩:=nm (cfgI C)
  rw [HEE.out] at OC hE HDZ hEb
  have k1:(E == 0)=false:=by rw [beq_eq_false_iff_ne]; exact hE
  have k1':(E != 0)=true:=by unfold bne; rw [k1]; rfl
  simp only [Cfg.val,Cfg.cells] at OC
  go_wp2_with fail
  refine OC.out.mono ?_
  rintro e w3 ⟨rfl,hw3'⟩
  have hd3:=hdA.trans (hw3'.mono hdA.size)
  go_wp2_with fail
  refine (HWR.out _ E hd3 (by omega) (by omega)).mono ?_
  rintro e w4 ⟨rfl,hw4⟩
  have hd4:=hd3.trans (hw4.mono hd3.size)
  go_wp2_with fail
  go_ret
  exact ⟨by rw [HD.out,HDZ.out,ZaE (by omega)]; rfl,⟨a,cap,X,by rw [HD.out,HDZ.out]; exact HH.out _ hd4⟩,hd4.mono hlt0⟩
theorem line_config (h:BnIn base w b d a cap X) (al:Option Addr) (nl cl:Nat) (ws:List (List UInt8)) (hl:LstS w al nl cl ws) (hn:nl<=70000) (hw:∀ i,(ws.getD i []).length<=70000) (z:List Int) (hz:numsO ws=some z) (hzl:z.length=11) :
  Calls Tryz.prog 21 #[.pointer (some ⟨b,0,none⟩),.string ⟨#[99,111,110,102,105,103]⟩,.slice al nl cl] w fun e w'=>BnR base b w (dStep d ([99,111,110,102,105,103] :: ws)) e w':=by
 by_cases hs:0 < z.getD 3 0
 ·exact line_config1 h al nl cl ws hl hn hw z hz hzl hs
 ·exact line_config0 h al nl cl ws hl hn hw z hz hzl hs
end
end Go.Proofs.YthmiojmlaclgaaaGreatDoor.Fx
