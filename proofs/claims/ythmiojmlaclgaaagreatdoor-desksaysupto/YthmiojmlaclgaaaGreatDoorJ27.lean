/- What the law stands on: RefTrD. -/
import Derived.Test.YthmiojmlaclgaaaGreatDoorJ00
import Derived.Test.YthmiojmlaclgaaaGreatDoorJ10
import Derived.Test.YthmiojmlaclgaaaGreatDoorJ13
import Derived.Test.YthmiojmlaclgaaaGreatDoorJ19
import Derived.Test.YthmiojmlaclgaaaGreatDoorJ20
import Derived.Test.YthmiojmlaclgaaaGreatDoorJ15
import Derived.Test.YthmiojmlaclgaaaGreatDoorJ04
set_option maxRecDepth 100000
set_option maxHeartbeats 12800000
namespace Go.Proofs.YthmiojmlaclgaaaGreatDoor.Fx
open Go.RowKit
theorem via4 {P:Prop} {Q F:Nat->Nat->Nat->World->Prop} (h1:(∀ bg bk RB w3,F bg bk RB w3->Q bg bk RB w3)->P) (h2:∀ bg bk RB w3,F bg bk RB w3->Q bg bk RB w3):P:=h1 h2
structure RecAtT (W:World) (T:Nat) (R:Int) (B:Nat) (BL:List Int) (bg bk RB:Nat) (q:World):Prop where
 row:q.rowIs RB 111 5 (fn5 (.int .i64 T) (.slice (some ⟨bg,0,none⟩) B bk) (.int .i64 R) (.int .u64 0) (.int .u64 0))
 le:W.heap.size<=RB
 lst:Lst q (some ⟨bg,0,none⟩) B bk BL
 bel:Below W.heap.size W q
 ne:bg ≠ RB
 leg:W.heap.size<=bg
theorem via8 {P:Prop} {F:Nat->Nat->Nat->Nat->Nat->World->Prop} {Q:Option Addr->Nat->Nat->Nat->Nat->Nat->Nat->World->Prop} (h1:(∀ pa pk ga d1 gb d2 OB q,F ga d1 gb d2 OB q->Q pa pk ga d1 gb d2 OB q)->P) (h2:∀ pa pk ga d1 gb d2 OB q,F ga d1 gb d2 OB q->Q pa pk ga d1 gb d2 OB q):P:=h1 h2
structure OutAt (W:World) (N:Nat) (NW NM:List Int) (ga d1 gb d2 OB:Nat) (q:World):Prop where
 row:q.rowIs OB 106 2 (fn2 (.slice (some ⟨ga,0,none⟩) N d1) (.slice (some ⟨gb,0,none⟩) N d2))
 le:W.heap.size<=OB
 lea:W.heap.size<=ga
 leb:W.heap.size<=gb
 la:Lst q (some ⟨ga,0,none⟩) N d1 NW
 lb:Lst q (some ⟨gb,0,none⟩) N d2 NM
 bel:Below W.heap.size W q
structure NxBox (w:World) (c:Cfg) (v0 v1:Value) (q:World):Prop where
 cfg:BoxC q w.heap.size c
 st:q.rowIs (w.heap.size+1) 106 2 (fn2 v0 v1)
 rs:q.rowIs (w.heap.size+1+1) 106 2 (fn2 (.slice none 0 0) (.slice none 0 0))
 rr:q.rowIs (w.heap.size+1+1+1) 111 5 (fn5 (.int .i64 0) (.slice none 0 0) (.int .i64 0) (.int .u64 0) (.int .u64 0))
 bel:Below w.heap.size w q
theorem NxBox.start (w:World) (c:Cfg) (v0 v1:Value):NxBox w c v0 v1 ((((w.alloc (.cells c.cells 50)).alloc (.cells #[v0,v1] 106)).alloc (.cells #[.slice none 0 0,.slice none 0 0] 106)).alloc (.cells #[.int .i64 0,.slice none 0 0,.int .i64 0,.int .u64 0,.int .u64 0] 111)):=by
 have sb:=StBox.start w c v0 v1
 have hb:=Zac (((w.alloc (.cells c.cells 50)).alloc (.cells #[v0,v1] 106)).alloc (.cells #[.slice none 0 0,.slice none 0 0] 106)) (.cells #[.int .i64 0,.slice none 0 0,.int .i64 0,.int .u64 0,.int .u64 0] 111)
 have sb2:=sb.below hb
 refine ⟨sb2.cfg,sb2.st,sb2.res,?_,sb2.bel⟩
 have h:=Zao (((w.alloc (.cells c.cells 50)).alloc (.cells #[v0,v1] 106)).alloc (.cells #[.slice none 0 0,.slice none 0 0] 106)) (.int .i64 0) (.slice none 0 0) (.int .i64 0) (.int .u64 0) (.int .u64 0) 111
 simpa using h
theorem NxBox.below {w:World} {c:Cfg} {v0 v1:Value} {q q2:World} (h:NxBox w c v0 v1 q) (hb:Below q.heap.size q q2):NxBox w c v0 v1 q2:=by
 have sb2:=(⟨h.cfg,h.st,h.rs,h.bel⟩:StBox w c v0 v1 q).below hb
 exact ⟨sb2.cfg,sb2.st,sb2.res,h.rr.of_block (hb.block _ h.rr.lt),sb2.bel⟩
theorem rnext_calls (I H O B T:Nat) (seed crate decay how keep clip:Int) (hs:okW seed) (steps:Int) (hc:cfgB ⟨I,H,O,seed,B,steps,crate,decay,how,keep,clip⟩=true) (N:Nat) (hN:N=H * I+H+O * H+O) (a:Option Addr) (n cap:Nat) (X:Nat->Exm) (DI DO:Nat->List Int) (b1 o1 k1:Nat) (ws:List Int) (b2 o2 k2:Nat) (ms:List Int) (w:World)
  (hx:Exs w a n cap X DI DO) (hn1:1<=n) (hn2:n<=16) (hex:allEx ⟨I,H,O,seed,B,steps,crate,decay,how,keep,clip⟩ n X DI DO=true) (l1:Lst w (some ⟨b1,o1,none⟩) N k1 ws) (l2:Lst w (some ⟨b2,o2,none⟩) N k2 ms) (hst:(T:Int)<=steps - 1) (BL PL:List Int) (R:Int)
  (hBL:batchP seed B n (T * B)=BL) (hR:rateV ⟨I,H,O,seed,B,steps,crate,decay,how,keep,clip⟩ T=R) (hPL:pushL ⟨I,H,O,seed,B,steps,crate,decay,how,keep,clip⟩ n ws DI DO T N=PL) :
  Calls Tryz.prog 105 #[Cfg.val ⟨I,H,O,seed,B,steps,crate,decay,how,keep,clip⟩,.slice a n cap,.agg #[.slice (some ⟨b1,o1,none⟩) N k1,.slice (some ⟨b2,o2,none⟩) N k2],.int .i64 T] w fun e w' =>
   ∃ ga d1 gb d2 a3 k3,e=.returned (.tuple #[.agg #[.slice (some ⟨ga,0,none⟩) N d1,.slice (some ⟨gb,0,none⟩) N d2],.agg #[.int .i64 T,.slice a3 B k3,.int .i64 R,.int .u64 (rootP ((List.range N).map (goneG ⟨I,H,O,seed,B,steps,crate,decay,how,keep,clip⟩ ws ms PL R)) ((List.range N).map (keptG ⟨I,H,O,seed,B,steps,crate,decay,how,keep,clip⟩ ms PL)) (N+N)),.int .u64 0]]) ∧
    w.heap.size<=ga/\w.heap.size<=gb/\Lst w' (some ⟨ga,0,none⟩) N d1 ((List.range N).map (goneG ⟨I,H,O,seed,B,steps,crate,decay,how,keep,clip⟩ ws ms PL R))/\Lst w' (some ⟨gb,0,none⟩) N d2 ((List.range N).map (keptG ⟨I,H,O,seed,B,steps,crate,decay,how,keep,clip⟩ ms PL))/\Lst w' a3 B k3 BL/\(∀ bg o,a3=some ⟨bg,o,none⟩->w.heap.size<=bg)/\Below w.heap.size w w':=by
 obtain ⟨⟨i1,i2⟩,⟨h1,h2⟩,⟨p1,p2⟩,⟨g1,g2⟩,⟨s1,s2⟩,⟨r1,r2⟩,_,_,_,⟨q1,q2⟩⟩:=Zal hc
 dsimp only at i1 i2 h1 h2 p1 p2 g1 g2 s1 s2 r1 r2 q1 q2
 have nb0:=NxBox.start w ⟨I,H,O,seed,B,steps,crate,decay,how,keep,clip⟩ (.slice (some ⟨b1,o1,none⟩) N k1) (.slice (some ⟨b2,o2,none⟩) N k2)
 have HBt:Hid (∀ q,Calls Tryz.prog 150 #[.int .u64 seed,.int .i64 B,.int .i64 n,.int .i64 T] q fun e w'=>∃ g c,e=.returned (.slice (some ⟨g,0,none⟩) B c)/\q.heap.size<=g/\Lst w' (some ⟨g,0,none⟩) B c BL/\Below q.heap.size q w'):=fun q=>by
  have:=rBatch_calls seed hs B n T (by omega) (by omega) hn1 hn2 (by omega) q
  rw [hBL] at this
  exact this
 have HRt:Hid (∀ q,Calls Tryz.prog 151 #[Cfg.val ⟨I,H,O,seed,B,steps,crate,decay,how,keep,clip⟩,.int .i64 T] q fun e w'=>e=.returned (.int .i64 R)/\Below q.heap.size q w'):=fun q=>by
  have:=rrate_calls ⟨I,H,O,seed,B,steps,crate,decay,how,keep,clip⟩ T q s1 s2 (by omega) (by show (T:Int)<=40; omega)
  rw [hR] at this
  exact this
 obtain ⟨W,HW⟩:∃ q,Hid (q=((((w.alloc (.cells (Cfg.cells ⟨I,H,O,seed,B,steps,crate,decay,how,keep,clip⟩) 50)).alloc (.cells #[.slice (some ⟨b1,o1,none⟩) N k1,.slice (some ⟨b2,o2,none⟩) N k2] 106)).alloc (.cells #[.slice none 0 0,.slice none 0 0] 106)).alloc (.cells #[.int .i64 0,.slice none 0 0,.int .i64 0,.int .u64 0,.int .u64 0] 111))):=⟨_,rfl⟩
 have nbW:NxBox w ⟨I,H,O,seed,B,steps,crate,decay,how,keep,clip⟩ (.slice (some ⟨b1,o1,none⟩) N k1) (.slice (some ⟨b2,o2,none⟩) N k2) W:=by rw [HW.out]; exact nb0
 have KQ:Hid (∀ q,Below W.heap.size W q->NxBox w ⟨I,H,O,seed,B,steps,crate,decay,how,keep,clip⟩ (.slice (some ⟨b1,o1,none⟩) N k1) (.slice (some ⟨b2,o2,none⟩) N k2) q):=fun q hq=>nbW.below hq
 have KS:Hid (∀ q,Below W.heap.size W q->q.cell? ⟨w.heap.size,0,none⟩=some (.int .i64 I)/\q.cell? ⟨w.heap.size,1,none⟩=some (.int .i64 H)/\q.cell? ⟨w.heap.size,2,none⟩=some (.int .i64 O)/\q.cell? ⟨w.heap.size,3,none⟩=some (.int .u64 seed)/\q.cell? ⟨w.heap.size,4,none⟩=some (.int .i64 B)/\q.cell? ⟨w.heap.size,5,none⟩=some (.int .i64 steps)/\q.cell? ⟨w.heap.size,6,none⟩=some (.int .i64 crate)/\q.cell? ⟨w.heap.size,7,none⟩=some (.int .i64 decay)/\q.cell? ⟨w.heap.size,8,none⟩=some (.int .i64 how)/\q.cell? ⟨w.heap.size,9,none⟩=some (.int .i64 keep)/\q.cell? ⟨w.heap.size,10,none⟩=some (.int .i64 clip)):=fun q hq=>by
  obtain ⟨x0,x1,x2,x3,x4,x5,x6,x7,x8,x9,x10⟩:=(KQ.out q hq).cfg
  exact ⟨x0,x1,x2,x3,x4,x5,x6,x7,x8,x9,x10⟩
 have HN:Hid (N=H * I+H+O * H+O):=hN
 have HPL:Hid (pushL ⟨I,H,O,seed,B,steps,crate,decay,how,keep,clip⟩ n ws DI DO T N=PL):=hPL
 have HEX:Hid (allEx ⟨I,H,O,seed,B,steps,crate,decay,how,keep,clip⟩ n X DI DO=true):=hex
 have HBL:Hid (batchP seed B n (T * B)=BL):=hBL
 have hN4:4<=N/\N<=40:=by
  have:=Zae (show H<=4 by omega) (show I<=4 by omega)
  have:=Zae (show O<=4 by omega) (show H<=4 by omega)
  have:1<=H * I:=Nat.mul_pos (by omega) (by omega)
  have:1<=O * H:=Nat.mul_pos (by omega) (by omega)
  omega
 clear hN hPL hex hBL hR
 have T0:Below W.heap.size W W:=br
 have Td:Below W.heap.size W W.drew:=Zab br 1
 have S0:=KS.out _ Td
 simp only [Cfg.val,Cfg.cells] at *
 clear nb0 nbW
 go_enter Tryz.func105,Tryz.ntmps105
 go_wp2_with fail
 rw [← HW.out]
 clear HW
 obtain ⟨c0,c1,c2,c3,c4,c5,c6,c7,c8,c9,c10⟩:=KS.out _ T0
 have Ta:Below W.heap.size W (W.alloc (.cells #[.int .i64 0,.slice none 0 0,.int .i64 0,.int .u64 0,.int .u64 0] 111)).drew:=Zab (T0.alloc T0.size _) 1
 have Sa:=KS.out _ Ta
 have rowa:(W.alloc (.cells #[.int .i64 0,.slice none 0 0,.int .i64 0,.int .u64 0,.int .u64 0] 111)).drew.rowIs W.heap.size 111 5 (fn5 (.int .i64 0) (.slice none 0 0) (.int .i64 0) (.int .u64 0) (.int .u64 0)):=Zao W (.int .i64 0) (.slice none 0 0) (.int .i64 0) (.int .u64 0) (.int .u64 0) 111
 apply via4 (F:=RecAtT W T R B BL)
 ·intro key
  go_region_held3 (fun q=>q.cell? ⟨w.heap.size,0,none⟩=some (.int .i64 I)/\q.cell? ⟨w.heap.size,1,none⟩=some (.int .i64 H)/\q.cell? ⟨w.heap.size,2,none⟩=some (.int .i64 O)/\q.cell? ⟨w.heap.size,3,none⟩=some (.int .u64 seed)/\q.cell? ⟨w.heap.size,4,none⟩=some (.int .i64 B)/\q.cell? ⟨w.heap.size,5,none⟩=some (.int .i64 steps)/\q.cell? ⟨w.heap.size,6,none⟩=some (.int .i64 crate)/\q.cell? ⟨w.heap.size,7,none⟩=some (.int .i64 decay)/\q.cell? ⟨w.heap.size,8,none⟩=some (.int .i64 how)/\q.cell? ⟨w.heap.size,9,none⟩=some (.int .i64 keep)/\q.cell? ⟨w.heap.size,10,none⟩=some (.int .i64 clip)) (first | with_reducible exact S3a | with_reducible exact S3b | with_reducible exact S2f | with_reducible exact S2a | with_reducible exact S2 | with_reducible exact S1a | with_reducible exact S1 | with_reducible exact Sa | with_reducible exact S0)
   (first | (go_at_call 150; refine (HBt.out _).mono ?_; rintro e w1 ⟨bg,bk,rfl,hbg,lb1,hw1⟩; have T1:Below W.heap.size W w1:=(by first | exact Td.trans (hw1.mono Td.size) | exact Ta.trans (hw1.mono Ta.size)); have S1:=KS.out _ T1; (try (have rowa1:=rowa.of_block (hw1.block _ rowa.lt))); have T1a:=T1.alloc T1.size (.cells #[.int .i64 0,.slice none 0 0,.int .i64 0,.int .u64 0,.int .u64 0] 111); have S1a:=KS.out _ T1a; have rowb:=Zao w1 (.int .i64 0) (.slice none 0 0) (.int .i64 0) (.int .u64 0) (.int .u64 0) 111) | (go_at_call 151; refine (HRt.out _).mono ?_; rintro e w2 ⟨rfl,hw2⟩; have T2:Below W.heap.size W w2:=(by first | exact T1.trans (hw2.mono T1.size) | exact T1a.trans (hw2.mono T1a.size)); have S2:=KS.out _ T2; have lb2:Lst w2 (some ⟨bg,0,none⟩) B bk BL:=(by first | exact lb1.below hw2 nr | exact (lb1.below (Zac w1 (.cells #[.int .i64 0,.slice none 0 0,.int .i64 0,.int .u64 0,.int .u64 0] 111)) nr).below hw2 nr); have T2a:=T2.alloc T2.size (.cells #[.int .i64 0,.slice none 0 0,.int .i64 0,.int .u64 0,.int .u64 0] 111); have S2a:=KS.out _ T2a; have T2f:=T2.alloc T2.size (.cells #[.int .i64 T,.slice (some ⟨bg,0,none⟩) B bk,.int .i64 R,.int .u64 0,.int .u64 0] 111); have S2f:=KS.out _ T2f; have T3a:=Zan (b:=W.heap.size) T2 nr (.int .i64 T) (.slice (some ⟨bg,0,none⟩) B bk) (.int .i64 R) (.int .u64 0) (.int .u64 0); have S3a:=KS.out _ T3a; have T3b:=Zan (b:=w1.heap.size) T2 T1.size (.int .i64 T) (.slice (some ⟨bg,0,none⟩) B bk) (.int .i64 R) (.int .u64 0) (.int .u64 0); have S3b:=KS.out _ T3b; first | (have zr:=rowa1.of_block (hw2.block _ rowa1.lt); obtain ⟨z0,z1,z2,z3,z4⟩:=Zam zr; have y0:=zr.frozen 0; have y1:=zr.frozen 1; have y2:=zr.frozen 2; have y3:=zr.frozen 3; have y4:=zr.frozen 4) | (have zr:=rowb.of_block (hw2.block _ rowb.lt); obtain ⟨z0,z1,z2,z3,z4⟩:=Zam zr; have y0:=zr.frozen 0; have y1:=zr.frozen 1; have y2:=zr.frozen 2; have y3:=zr.frozen 3; have y4:=zr.frozen 4) | skip))
  ·have hrow:=Zao w2 (.int .i64 T) (.slice (some ⟨bg,0,none⟩) B bk) (.int .i64 R) (.int .u64 0) (.int .u64 0) 111
   have lz:=lb2.below (Zac w2 (.cells #[.int .i64 T,.slice (some ⟨bg,0,none⟩) B bk,.int .i64 R,.int .u64 0,.int .u64 0] 111)) nr
   have hRB:=T2.size
   have Tz:=T2f
   have hleg:W.heap.size<=bg:=by first | exact Nat.le_trans Td.size hbg | exact Nat.le_trans Ta.size hbg
   have hne:bg ≠ w2.heap.size:=by
    obtain ⟨_,_,eb,hlt,_⟩:=lb2.at (by omega)
    simp only [Option.some.injEq,Addr.mk.injEq,and_true] at eb
    obtain ⟨rfl,_⟩:=eb
    omega
   generalize w2.alloc (.cells #[.int .i64 T,.slice (some ⟨bg,0,none⟩) B bk,.int .i64 R,.int .u64 0,.int .u64 0] 111)=w3 at hrow lz Tz ⊢
   generalize w2.heap.size=RB at hrow hRB hne ⊢
   exact key bg bk RB w3 ⟨hrow,hRB,lz,Tz,hne,hleg⟩
  ·obtain ⟨_,_,eb,hlt,_⟩:=lb1.at (by omega)
   simp only [Option.some.injEq,Addr.mk.injEq,and_true] at eb
   obtain ⟨rfl,_⟩:=eb
   have hne:bg ≠ w1.heap.size:=by omega
   exact key bg bk _ _ ⟨ZaN zr (.int .i64 T) (.slice (some ⟨bg,0,none⟩) B bk) (.int .i64 R) (.int .u64 0) (.int .u64 0),T1.size,((((lb2.setFar (a:=⟨w1.heap.size,0,none⟩) hne _).setFar (a:=⟨w1.heap.size,1,none⟩) hne _).setFar (a:=⟨w1.heap.size,2,none⟩) hne _).setFar (a:=⟨w1.heap.size,3,none⟩) hne _).setFar (a:=⟨w1.heap.size,4,none⟩) hne _,T3b,hne,by first | exact Nat.le_trans Td.size hbg | exact Nat.le_trans Ta.size hbg⟩
  ·have hne:bg ≠ W.heap.size:=by simp at hbg; omega
   exact key bg bk _ _ ⟨ZaN zr (.int .i64 T) (.slice (some ⟨bg,0,none⟩) B bk) (.int .i64 R) (.int .u64 0) (.int .u64 0),nr,((((lb2.setFar (a:=⟨W.heap.size,0,none⟩) hne _).setFar (a:=⟨W.heap.size,1,none⟩) hne _).setFar (a:=⟨W.heap.size,2,none⟩) hne _).setFar (a:=⟨W.heap.size,3,none⟩) hne _).setFar (a:=⟨W.heap.size,4,none⟩) hne _,T3a,hne,by first | exact Nat.le_trans Td.size hbg | exact Nat.le_trans Ta.size hbg⟩
 ·rintro bg bk RB w3 ⟨rrow,hRB,lb3,T3,hbne,hbge⟩
  have hWl:w.heap.size+1+1+1 < W.heap.size:=(KQ.out _ br).rr.lt
  clear S0 Sa Ta rowa Td T0 c0 c1 c2 c3 c4 c5 c6 c7 c8 c9 c10 HBt HRt
  have nb3:=KQ.out _ T3
  obtain ⟨c0,c1,c2,c3,c4,c5,c6,c7,c8,c9,c10⟩:=KS.out _ T3
  obtain ⟨s0,s1⟩:=Zaa nb3.st
  have l13:=l1.below nb3.bel nr
  go_wp2_with fail
  refine (rshape_good I H O _ N k1 ws _ w l13 l1 (by omega) (by omega) (by omega) (by omega) (by omega) (by omega) HN.out).mono ?_
  rintro e w4 ⟨pa1,pk1,pa2,pk2,pb1,pt1,pb2,pt2,rfl,hpup,hw4⟩
  have T4:=T3.trans (hw4.mono T3.size)
  have rrow4:=rrow.of_block (hw4.block _ rrow.lt)
  have lb4:=lb3.below hw4 nr
  obtain ⟨s0',s1'⟩:=Zaa (KQ.out _ T4).st
  have hmk:=run_make_row' (P:=Tryz.prog) 66 3 (.int .i64 0) 8 Tryz.underlying66 info3 rfl .i64 .i64 N (by omega) (by omega)
  have hal5:=Zac w4 (.cells #[.int .i64 H,.int .i64 I,.slice pa1 (H * I) pk1,.int .i64 O,.int .i64 H,.slice pa2 (O * H) pk2,.slice pb1 H pt1,.slice pb2 O pt2] 102)
  have mrow:=ZaF w4 (.int .i64 H) (.int .i64 I) (.slice pa1 (H * I) pk1) (.int .i64 O) (.int .i64 H) (.slice pa2 (O * H) pk2) (.slice pb1 H pt1) (.slice pb2 O pt2) 102
  have T5:=T4.trans (hal5.mono T4.size)
  have rrow5:=rrow4.of_block (hal5.block _ rrow4.lt)
  have lb5:=lb4.below hal5 nr
  have hs4:=rrow4.lt
  obtain ⟨t0,t1⟩:=Zaa (KQ.out _ T5).st
  clear rrow rrow4 lb3 lb4 l13 nb3 hw4 T3 c0 c1 c2 c3 c4 c5 c6 c7 c8 c9 c10 s0 s1
  simp only [rpup,Pup.val,Pup.cells] at *
  go_wp2_with fail
  generalize hw5:w4.alloc (.cells #[.int .i64 H,.int .i64 I,.slice pa1 (H * I) pk1,.int .i64 O,.int .i64 H,.slice pa2 (O * H) pk2,.slice pb1 H pt1,.slice pb2 O pt2] 102)=w5 at *
  have hs5:w5.heap.size=w4.heap.size+1:=by rw [← hw5]; simp
  clear hw5
  obtain ⟨f,Hf⟩:∃ f:Nat->Nat->Int,Hid (∀ k i,f k i=(gradOf I H O ws DI DO (BL.getD k 0).toNat).getD i 0):=⟨_,fun _ _=>rfl⟩
  have hx5:Exs w5 a n cap X DI DO:=hx.below (KQ.out _ T5).bel nr
  have hp5:=hpup.below (KQ.out _ T5).bel nr
  go_loopw [13] (fun v wr=>∃ k:Nat,k<=B/\v=.int .i64 k/\wr.rowIs (w4.heap.size+1) 3 N (fun i=>.int .i64 (accTo f k i))/\Below w5.heap.size w5 wr) (fun v _=>B - (intOf v).toNat)
  case atStart=>exact ⟨0,Nat.zero_le _,rfl,by have h:=World.rowIs_made w5 (.int .i64 0) N 3; rw [hs5] at h; exact h.congr (fun i _=>rfl),Zac _ _⟩
  case round =>
   obtain ⟨k,hk,rfl,grow,hbel⟩:=hrel
   have rrow6:=rrow5.of_block (hbel.block _ rrow5.lt)
   have z5:=Zam rrow6
   obtain ⟨z0,z1,z2,z3,z4⟩:=z5
   clear hmk
   by_cases hlt:k < B
   ·obtain ⟨j,hj,hBj⟩:=batch_in seed B n (T * B) hn1 hlt
    rw [HBL.out] at hBj
    obtain ⟨bx,ox,ebx,hbx,hcx⟩:=lb5.at (by omega)
    simp only [Option.some.injEq,Addr.mk.injEq,and_true] at ebx
    obtain ⟨rfl,rfl⟩:=ebx
    have e7:w5.cell? ⟨bg,k,none⟩=some (.int .i64 j):=by have:=hcx k hlt; rw [hBj,Nat.zero_add] at this; exact this
    obtain ⟨xb,xo,rfl,e8,e9,hin⟩:=hx5.at hj
    have hexj:=exB_is (ZcG HEX.out hj)
    have hfk:∀ i,f k i=(gradOf I H O ws DI DO j).getD i 0:=fun i=>by rw [Hf.out,hBj]; rfl
    obtain ⟨xx,hxx⟩:∃ x,X j=x:=⟨_,rfl⟩
    rw [hxx] at e8 e9 hin hexj
    obtain ⟨xa,xn,xk,ya,yn,yk⟩:=xx
    dsimp only at e8 e9 hin hexj
    obtain rfl:I=xn:=by have:=hexj.1; omega
    obtain rfl:O=yn:=by have:=hexj.2.1; omega
    have KT:Hid (∀ q,Below w5.heap.size w5 q->q.cell? ⟨w4.heap.size,0,none⟩=some (.int .i64 H)/\q.cell? ⟨w4.heap.size,1,none⟩=some (.int .i64 I)/\q.cell? ⟨w4.heap.size,2,none⟩=some (.slice pa1 (H * I) pk1)/\q.cell? ⟨w4.heap.size,3,none⟩=some (.int .i64 O)/\q.cell? ⟨w4.heap.size,4,none⟩=some (.int .i64 H)/\q.cell? ⟨w4.heap.size,5,none⟩=some (.slice pa2 (O * H) pk2)/\q.cell? ⟨w4.heap.size,6,none⟩=some (.slice pb1 H pt1)/\q.cell? ⟨w4.heap.size,7,none⟩=some (.slice pb2 O pt2)/\q.cell? ⟨RB,1,none⟩=some (.slice (some ⟨bg,0,none⟩) B bk)/\q.cell? ⟨bg,k,none⟩=some (.int .i64 j)/\q.cell? ⟨xb,xo+j * 2,none⟩=some (.slice xa I xk)/\q.cell? ⟨xb,xo+j * 2+1,none⟩=some (.slice ya O yk)):=fun q hq=>by
     obtain ⟨m0,m1,m2,m3,m4,m5,m6,m7⟩:=Zag (mrow.of_block (hq.block _ mrow.lt))
     have r1':=(Zam (rrow5.of_block (hq.block _ rrow5.lt))).c1
     exact ⟨m0,m1,m2,m3,m4,m5,m6,m7,r1',(hq.cell (p:=⟨bg,k,none⟩) hbx).trans e7,(hq.cell (p:=⟨xb,xo+j * 2,none⟩) (Zas e8)).trans e8,(hq.cell (p:=⟨xb,xo+j * 2+1,none⟩) (Zas e9)).trans e9⟩
    have HIN:Hid (∀ q,Below w5.heap.size w5 q->InPup q (rpup I H O pa1 pk1 pa2 pk2 pb1 pt1 pb2 pt2) (cutD I H O ws)/\Lst q xa I xk (DI j)/\Lst q ya O yk (DO j)):=fun q hq=>⟨hp5.below hq nr,hin.i.below hq nr,hin.o.below hq nr⟩
    have HG:Hid (∀ q,Below w5.heap.size w5 q->Calls Tryz.prog 153 #[.agg #[.int .i64 H,.int .i64 I,.slice pa1 (H * I) pk1,.int .i64 O,.int .i64 H,.slice pa2 (O * H) pk2,.slice pb1 H pt1,.slice pb2 O pt2],.agg #[.slice xa I xk,.slice ya O yk]] q fun e w'=>∃ x1 t1 x2 t2 y1 s1 y2 s2,e=.returned (.agg #[.int .i64 H,.int .i64 I,.slice x1 (H * I) t1,.int .i64 O,.int .i64 H,.slice x2 (O * H) t2,.slice y1 H s1,.slice y2 O s2])/\InPup w' (rpup I H O x1 t1 x2 t2 y1 s1 y2 s2) (graD (cutD I H O ws) (DI j) (DO j) I H O)/\Below q.heap.size q w'):=fun q hq=>by
     have hin:=HIN.out q hq
     refine (rgrad_calls I H O pa1 pk1 pa2 pk2 pb1 pt1 pb2 pt2 (cutD I H O ws) xa xk (DI j) ya yk (DO j) q hin.1 hin.2.1 hin.2.2 (by omega) (by omega) (by omega) (by omega) (by omega) (by omega)).mono ?_
     rintro e w' ⟨x1,t1,x2,t2,y1,s1,y2,s2,_,he,hi,hb⟩
     exact ⟨x1,t1,x2,t2,y1,s1,y2,s2,he,hi,hb⟩
    have HFl:Hid (∀ q x1 t1 x2 t2 y1 s1 y2 s2,InPup q (rpup I H O x1 t1 x2 t2 y1 s1 y2 s2) (graD (cutD I H O ws) (DI j) (DO j) I H O)->Calls Tryz.prog 152 #[.agg #[.int .i64 H,.int .i64 I,.slice x1 (H * I) t1,.int .i64 O,.int .i64 H,.slice x2 (O * H) t2,.slice y1 H s1,.slice y2 O s2]] q fun e w'=>∃ g o c,e=.returned (.slice (some ⟨g,o,none⟩) N c)/\q.heap.size<=g/\Lst w' (some ⟨g,o,none⟩) N c (gradOf I H O ws DI DO j)/\Below q.heap.size q w'):=fun q x1 t1 x2 t2 y1 s1 y2 s2 hq=>by
     refine (rflat_calls I H O x1 t1 x2 t2 y1 s1 y2 s2 (graD (cutD I H O ws) (DI j) (DO j) I H O) q hq (by omega) (by omega) (by omega)).mono ?_
     rintro e w' ⟨a,n',c,he,_,hl,hb,hnew⟩
     have hn':N=n':=by
      have:=hl.len
      rw [← this,HN.out]
      simp [flatD,graD,graL,difL,hidL,Nat.add_assoc]
     subst hn'
     obtain ⟨g,o,rfl,_,_⟩:=hl.at (by omega)
     exact ⟨g,o,c,he,hnew g o rfl,hl,hb⟩
    clear hexj hxx hcx e7 e8 e9 hin
    have Td:Below w5.heap.size w5 wr.drew:=Zab hbel 1
    have S0:=KT.out _ Td
    obtain ⟨m0,m1,m2,m3,m4,m5,m6,m7,n0,n1',n2',n3'⟩:=KT.out _ hbel
    have jn:(j:Int) < (n:Int):=by omega
    go_wp2_with fail
    go_region_held3 (fun q=>q.cell? ⟨w4.heap.size,0,none⟩=some (.int .i64 H)/\q.cell? ⟨w4.heap.size,1,none⟩=some (.int .i64 I)/\q.cell? ⟨w4.heap.size,2,none⟩=some (.slice pa1 (H * I) pk1)/\q.cell? ⟨w4.heap.size,3,none⟩=some (.int .i64 O)/\q.cell? ⟨w4.heap.size,4,none⟩=some (.int .i64 H)/\q.cell? ⟨w4.heap.size,5,none⟩=some (.slice pa2 (O * H) pk2)/\q.cell? ⟨w4.heap.size,6,none⟩=some (.slice pb1 H pt1)/\q.cell? ⟨w4.heap.size,7,none⟩=some (.slice pb2 O pt2)/\q.cell? ⟨RB,1,none⟩=some (.slice (some ⟨bg,0,none⟩) B bk)/\q.cell? ⟨bg,k,none⟩=some (.int .i64 j)/\q.cell? ⟨xb,xo+j * 2,none⟩=some (.slice xa I xk)/\q.cell? ⟨xb,xo+j * 2+1,none⟩=some (.slice ya O yk)) (first | with_reducible exact S2 | with_reducible exact S1 | with_reducible exact S0)
     (first | (go_at_call 153; refine (HG.out _ Td).mono ?_; rintro e u1 ⟨x1,t1,x2,t2,y1,s1,y2,s2,rfl,hgi,hu1⟩; have V1:=Td.trans (hu1.mono Td.size); have S1:=KT.out _ V1) | (go_at_call 152; refine (HFl.out _ _ _ _ _ _ _ _ _ hgi).mono ?_; rintro e u2 ⟨lg,lo,lc,rfl,hlg,ll,hu2⟩; have V2:=V1.trans (hu2.mono V1.size); have S2:=KT.out _ V2))
    have hbu:Below wr.heap.size wr u2:=((Zab br 1).trans hu1).trans (hu2.mono hu1.size)
    have grow2:=grow.of_block (hbu.block _ grow.lt)
    have hGl:=grow.lt
    have hlne:lg ≠ w4.heap.size+1:=by have:=hu1.size; simp at this; omega
    have HFK:Hid (∀ i,f k i=(gradOf I H O ws DI DO j).getD i 0):=hfk
    clear S0 S1 S2 KT HIN HG HFl Td V1 hu1 hu2 hbu grow hbel hgi hfk m0 m1 m2 m3 m4 m5 m6 m7 n0 n1' n2' n3' z0 z1 z2 z3 z4 rrow6 hlg
    generalize hwr:wr=wo at *
    clear hwr
    go_wp2_with fail
    go_loopw [15] (fun v wr=>∃ i:Nat,i<=N/\v=.int .i64 i/\wr.rowIs (w4.heap.size+1) 3 N (fun t=>.int .i64 (if t < i then accTo f (k+1) t else accTo f k t))/\Lst wr (some ⟨lg,lo,none⟩) N lc (gradOf I H O ws DI DO j)/\Below w5.heap.size w5 wr) (fun v _=>N - (intOf v).toNat)
    case atStart=>exact ⟨0,Nat.zero_le _,rfl,grow2.congr (fun t _=>by simp),ll,V2⟩
    case round =>
     clear grow2 ll V2
     obtain ⟨i,hi,rfl,grow,ll,hbel⟩:=hrel
     by_cases hil:i < N
     ·obtain ⟨b5,o5,y,ey,_,d5,HY⟩:=ll.at1 hil
      simp only [Option.some.injEq,Addr.mk.injEq,and_true] at ey
      obtain ⟨rfl,rfl⟩:=ey
      obtain ⟨x,hx0⟩:∃ x,accTo f k i=x:=⟨_,rfl⟩
      have d6:wr.cell? ⟨w4.heap.size+1,i,none⟩=some (.int .i64 x):=by rw [grow.cell hil,if_neg (by omega),hx0]
      have f6:=grow.frozen i
      have HZ:Hid (accTo f (k+1) i=addI x y):=by show addI (accTo f k i) (f k i)=_; rw [hx0,HFK.out,HY.out]
      have HX0:Hid (accTo f k i=x):=hx0
      clear hx0
      go_wp2_with fail
      go_region_with ((go_at_call 110; refine (Zbi _ _ _).mono ?_; rintro e w' ⟨rfl,rfl⟩))
      all_goals go_wp2_with fail
      all_goals
       go_roundw
       case rel =>
        exact ⟨i+1,by omega,by go_num,(grow.set i (.int .i64 (addI x y))).drew.congr (fun t ht=>by
         by_cases e:t=i
         ·subst e; rw [if_pos rfl,if_pos (by omega),HZ.out]
         ·rw [if_neg e]
          by_cases e2:t < i
          ·rw [if_pos e2,if_pos (by omega)]
          ·rw [if_neg e2,if_neg (by omega)]),(ll.setFar (show lg ≠ w4.heap.size+1 from hlne) _).drew,(hbel.setCell (show w5.heap.size<=w4.heap.size+1 by omega) _).drew⟩
       case measure=>simp [intOf]; omega
     ·obtain rfl:i=N:=by omega
      go_wp2_with fail
      go_roundw
      case rel=>exact ⟨k+1,by omega,by go_num,grow.congr (fun t ht=>by rw [if_pos ht]),hbel⟩
      case measure=>simp [intOf]; omega
   ·obtain rfl:B=k:=by omega
    have T6:=T5.trans (hbel.mono T5.size)
    clear hx5 hp5 hpup mrow t0 t1
    have HMG:Hid (∀ i,meanG f B i=divI (accTo f B i) ((B:Int) * 65536)):=fun i=>rfl
    generalize hwr:wr=w6 at *
    clear hwr
    go_wp2_with fail
    go_loopw [16] (fun v wr=>∃ i:Nat,i<=N/\v=.int .i64 i/\wr.rowIs (w4.heap.size+1) 3 N (fun t=>.int .i64 (if t < i then meanG f B t else accTo f B t))/\Below w5.heap.size w5 wr) (fun v _=>N - (intOf v).toNat)
    case atStart=>exact ⟨0,Nat.zero_le _,rfl,grow.congr (fun t _=>by simp),hbel⟩
    case round =>
     clear grow hbel T6 rrow6 z0 z1 z2 z3 z4
     obtain ⟨i,hi,rfl,grow,hbel⟩:=hrel
     have T6:=T5.trans (hbel.mono T5.size)
     by_cases hil:i < N
     ·obtain ⟨c0,c1,c2,c3,c4,c5,c6,c7,c8,c9,c10⟩:=KS.out _ T6
      obtain ⟨x,hx0⟩:∃ x,accTo f B i=x:=⟨_,rfl⟩
      have d6:wr.cell? ⟨w4.heap.size+1,i,none⟩=some (.int .i64 x):=by rw [grow.cell hil,if_neg (by omega),hx0]
      have f6:=grow.frozen i
      have HZ:Hid (meanG f B i=divI x ((B:Int) * 65536)):=by show meanG f B i=_; rw [HMG.out,hx0]
      have v1:IntKind.i64.wrap ((B:Int) * 65536)=(B:Int) * 65536:=ZaK _ (by omega) (by omega)
      clear hx0
      go_wp2_with fail
      go_region_with ((go_at_call 154; refine (rdiv_calls _ _ _ (by omega)).mono ?_; rintro e w' ⟨rfl,rfl⟩))
      all_goals go_wp2_with fail
      all_goals
       go_roundw
       case rel =>
        exact ⟨i+1,by omega,by go_num,(grow.set i (.int .i64 (divI x ((B:Int) * 65536)))).drew.congr (fun t ht=>by
         by_cases e:t=i
         ·subst e; rw [if_pos rfl,if_pos (by omega),HZ.out]
         ·rw [if_neg e]
          by_cases e2:t < i
          ·rw [if_pos e2,if_pos (by omega)]
          ·rw [if_neg e2,if_neg (by omega)]),(hbel.setCell (show w5.heap.size<=w4.heap.size+1 by omega) _).drew⟩
       case measure=>simp [intOf]; omega
     ·obtain rfl:N=i:=by omega
      have gl:Lst wr (some ⟨w4.heap.size+1,0,none⟩) N N ((List.range N).map (meanG f B)):=Lst.row grow (by simp) (fun t ht=>by rw [if_pos ht,getD_rng _ ht])
      have HC0:clipE N clip=0:=by unfold clipE; rw [if_neg (by omega),in_yes ⟨q1,q2⟩]; rfl
      have hPLf:(List.range N).map (clipG ((List.range N).map (meanG f B)) clip N)=PL:=by
       rw [← HPL.out]
       unfold pushL clipL
       dsimp only
       rw [if_pos HC0]
       have ef:gradG ⟨I,H,O,seed,B,steps,crate,decay,how,keep,clip⟩ n ws DI DO T=f:=by
        funext k' i'
        rw [Hf.out]
        unfold gradG batchL
        dsimp only
        rw [if_pos ⟨⟨g1,g2⟩,⟨by omega,by omega⟩,by omega,by omega⟩]
        rw [← HBL.out]
        rfl
       rw [ef]
      have HCl:Hid (∀ q,Below wr.heap.size wr q->Calls Tryz.prog 156 #[.slice (some ⟨w4.heap.size+1,0,none⟩) N N,.int .i64 clip] q fun e w'=>∃ a' c',e=.returned (.slice a' N c')/\Lst w' a' N c' PL/\Below q.heap.size q w'):=fun q hq=>by
       have:=rclip_calls (some ⟨w4.heap.size+1,0,none⟩) N N _ clip q (gl.below hq nr) (by omega) q1 q2
       rw [hPLf] at this
       exact this
      have HSt:Hid (∀ q a3 k3,Below wr.heap.size wr q->Lst q a3 N k3 PL->Calls Tryz.prog 155 #[.agg #[.int .i64 I,.int .i64 H,.int .i64 O,.int .u64 seed,.int .i64 B,.int .i64 steps,.int .i64 crate,.int .i64 decay,.int .i64 how,.int .i64 keep,.int .i64 clip],.agg #[.slice (some ⟨b1,o1,none⟩) N k1,.slice (some ⟨b2,o2,none⟩) N k2],.slice a3 N k3,.int .i64 R] q fun e w'=>∃ ga d1 gb d2,e=.returned (.agg #[.slice (some ⟨ga,0,none⟩) N d1,.slice (some ⟨gb,0,none⟩) N d2])/\q.heap.size<=ga/\q.heap.size<=gb/\Lst w' (some ⟨ga,0,none⟩) N d1 ((List.range N).map (goneG ⟨I,H,O,seed,B,steps,crate,decay,how,keep,clip⟩ ws ms PL R))/\Lst w' (some ⟨gb,0,none⟩) N d2 ((List.range N).map (keptG ⟨I,H,O,seed,B,steps,crate,decay,how,keep,clip⟩ ms PL))/\Below q.heap.size q w'):=fun q a3 k3 hq hl=>by
       have hb:=(KQ.out _ (T6.trans (hq.mono T6.size))).bel
       exact rstepped_calls ⟨I,H,O,seed,B,steps,crate,decay,how,keep,clip⟩ (some ⟨b1,o1,none⟩) k1 (some ⟨b2,o2,none⟩) k2 a3 k3 N ws ms PL R q (l1.below hb nr) (l2.below hb nr) hl (by omega) (by omega)
      have rrow6:=rrow5.of_block (hbel.block _ rrow5.lt)
      have hRl:=rrow6.lt
      have KS2:Hid (∀ q,Below wr.heap.size wr q->q.cell? ⟨w.heap.size,0,none⟩=some (.int .i64 I)/\q.cell? ⟨w.heap.size,1,none⟩=some (.int .i64 H)/\q.cell? ⟨w.heap.size,2,none⟩=some (.int .i64 O)/\q.cell? ⟨w.heap.size,3,none⟩=some (.int .u64 seed)/\q.cell? ⟨w.heap.size,4,none⟩=some (.int .i64 B)/\q.cell? ⟨w.heap.size,5,none⟩=some (.int .i64 steps)/\q.cell? ⟨w.heap.size,6,none⟩=some (.int .i64 crate)/\q.cell? ⟨w.heap.size,7,none⟩=some (.int .i64 decay)/\q.cell? ⟨w.heap.size,8,none⟩=some (.int .i64 how)/\q.cell? ⟨w.heap.size,9,none⟩=some (.int .i64 keep)/\q.cell? ⟨w.heap.size,10,none⟩=some (.int .i64 clip)/\q.cell? ⟨w.heap.size+1,0,none⟩=some (.slice (some ⟨b1,o1,none⟩) N k1)/\q.cell? ⟨w.heap.size+1,1,none⟩=some (.slice (some ⟨b2,o2,none⟩) N k2)/\q.cell? ⟨RB,2,none⟩=some (.int .i64 R)):=fun q hq=>by
       have Tq:=T6.trans (hq.mono T6.size)
       obtain ⟨x0,x1,x2,x3,x4,x5,x6,x7,x8,x9,x10⟩:=KS.out _ Tq
       obtain ⟨y0,y1⟩:=Zaa (KQ.out _ Tq).st
       exact ⟨x0,x1,x2,x3,x4,x5,x6,x7,x8,x9,x10,y0,y1,(Zam (rrow6.of_block (hq.block _ hRl))).c2⟩
      generalize hNW:(List.range N).map (goneG ⟨I,H,O,seed,B,steps,crate,decay,how,keep,clip⟩ ws ms PL R)=NW at *
      generalize hNM:(List.range N).map (keptG ⟨I,H,O,seed,B,steps,crate,decay,how,keep,clip⟩ ms PL)=NM at *
      have HNW:Hid ((List.range N).map (goneG ⟨I,H,O,seed,B,steps,crate,decay,how,keep,clip⟩ ws ms PL R)=NW):=hNW
      have HNM:Hid ((List.range N).map (keptG ⟨I,H,O,seed,B,steps,crate,decay,how,keep,clip⟩ ms PL)=NM):=hNM
      clear hNW hNM
      clear hPLf gl grow HC0 hs5
      obtain ⟨c0,c1,c2,c3,c4,c5,c6,c7,c8,c9,c10,s0,s1,rr2⟩:=KS2.out _ br
      have Td:Below wr.heap.size wr wr.drew:=Zab br 1
      have S0:=KS2.out _ Td
      have Ta:Below wr.heap.size wr (wr.alloc (.cells #[.slice none 0 0,.slice none 0 0] 106)).drew:=Zab (br.alloc nr _) 1
      have Sa:=KS2.out _ Ta
      have rowa:(wr.alloc (.cells #[.slice none 0 0,.slice none 0 0] 106)).drew.rowIs wr.heap.size 106 2 (fn2 (.slice none 0 0) (.slice none 0 0)):=Zaj wr (.slice none 0 0) (.slice none 0 0) 106
      go_wp2_with fail
      apply via8 (F:=OutAt wr N NW NM)
      ·intro key
       go_region_held3 (fun q=>q.cell? ⟨w.heap.size,0,none⟩=some (.int .i64 I)/\q.cell? ⟨w.heap.size,1,none⟩=some (.int .i64 H)/\q.cell? ⟨w.heap.size,2,none⟩=some (.int .i64 O)/\q.cell? ⟨w.heap.size,3,none⟩=some (.int .u64 seed)/\q.cell? ⟨w.heap.size,4,none⟩=some (.int .i64 B)/\q.cell? ⟨w.heap.size,5,none⟩=some (.int .i64 steps)/\q.cell? ⟨w.heap.size,6,none⟩=some (.int .i64 crate)/\q.cell? ⟨w.heap.size,7,none⟩=some (.int .i64 decay)/\q.cell? ⟨w.heap.size,8,none⟩=some (.int .i64 how)/\q.cell? ⟨w.heap.size,9,none⟩=some (.int .i64 keep)/\q.cell? ⟨w.heap.size,10,none⟩=some (.int .i64 clip)/\q.cell? ⟨w.heap.size+1,0,none⟩=some (.slice (some ⟨b1,o1,none⟩) N k1)/\q.cell? ⟨w.heap.size+1,1,none⟩=some (.slice (some ⟨b2,o2,none⟩) N k2)/\q.cell? ⟨RB,2,none⟩=some (.int .i64 R)) (first | with_reducible exact S3a | with_reducible exact S3b | with_reducible exact S2f | with_reducible exact S2a | with_reducible exact S2 | with_reducible exact S1a | with_reducible exact S1 | with_reducible exact Sa | with_reducible exact S0)
        (first | (go_at_call 156; (first | refine (HCl.out _ Td).mono ?_ | refine (HCl.out _ Ta).mono ?_); rintro e v1 ⟨pa,pk,rfl,lp1,hv1⟩; have V1:Below wr.heap.size wr v1:=(by first | exact Td.trans (hv1.mono Td.size) | exact Ta.trans (hv1.mono Ta.size)); have S1:=KS2.out _ V1; (try (have rowa1:=rowa.of_block (hv1.block _ rowa.lt))); have V1a:=V1.alloc V1.size (.cells #[.slice none 0 0,.slice none 0 0] 106); have S1a:=KS2.out _ V1a; have rowb:=Zaj v1 (.slice none 0 0) (.slice none 0 0) 106; have lp1a:=lp1.below (Zac v1 (.cells #[.slice none 0 0,.slice none 0 0] 106)) nr) | (go_at_call 155; (first | refine (HSt.out _ pa pk V1 lp1).mono ?_ | refine (HSt.out _ pa pk V1a lp1a).mono ?_); rintro e v2 ⟨ga,d1,gb,d2,rfl,hga,hgb,g1,g2,hv2⟩; have V2:Below wr.heap.size wr v2:=(by first | exact V1.trans (hv2.mono V1.size) | exact V1a.trans (hv2.mono V1a.size)); have S2:=KS2.out _ V2; have G1:wr.heap.size<=ga:=(by first | exact Nat.le_trans V1.size hga | exact Nat.le_trans V1a.size hga); have G2:wr.heap.size<=gb:=(by first | exact Nat.le_trans V1.size hgb | exact Nat.le_trans V1a.size hgb); have V2a:=V2.alloc V2.size (.cells #[.slice none 0 0,.slice none 0 0] 106); have S2a:=KS2.out _ V2a; have V2f:=V2.alloc V2.size (.cells #[.slice (some ⟨ga,0,none⟩) N d1,.slice (some ⟨gb,0,none⟩) N d2] 106); have S2f:=KS2.out _ V2f; have V3a:=below_set2 (b:=wr.heap.size) V2 nr (.slice (some ⟨ga,0,none⟩) N d1) (.slice (some ⟨gb,0,none⟩) N d2); have S3a:=KS2.out _ V3a; have V3b:=below_set2 (b:=v1.heap.size) V2 V1.size (.slice (some ⟨ga,0,none⟩) N d1) (.slice (some ⟨gb,0,none⟩) N d2); have S3b:=KS2.out _ V3b; first | (have zr:=rowa1.of_block (hv2.block _ rowa1.lt); obtain ⟨q0,q1⟩:=Zaa zr; have y0:=zr.frozen 0; have y1:=zr.frozen 1) | (have zr:=rowb.of_block (hv2.block _ rowb.lt); obtain ⟨q0,q1⟩:=Zaa zr; have y0:=zr.frozen 0; have y1:=zr.frozen 1) | skip))
       ·have hrow:=Zaj v2 (.slice (some ⟨ga,0,none⟩) N d1) (.slice (some ⟨gb,0,none⟩) N d2) 106
        have lz1:=g1.below (Zac v2 (.cells #[.slice (some ⟨ga,0,none⟩) N d1,.slice (some ⟨gb,0,none⟩) N d2] 106)) nr
        have lz2:=g2.below (Zac v2 (.cells #[.slice (some ⟨ga,0,none⟩) N d1,.slice (some ⟨gb,0,none⟩) N d2] 106)) nr
        have hOB:=V2.size
        have Tz:=V2f
        generalize v2.alloc (.cells #[.slice (some ⟨ga,0,none⟩) N d1,.slice (some ⟨gb,0,none⟩) N d2] 106)=w8 at hrow lz1 lz2 Tz ⊢
        generalize v2.heap.size=OB at hrow hOB ⊢
        exact key pa pk ga d1 gb d2 OB w8 ⟨hrow,hOB,G1,G2,lz1,lz2,Tz⟩
       ·have na:ga ≠ v1.heap.size:=by simp at hga; omega
        have nb:gb ≠ v1.heap.size:=by simp at hgb; omega
        exact key pa pk ga d1 gb d2 _ _ ⟨ZaB zr (.slice (some ⟨ga,0,none⟩) N d1) (.slice (some ⟨gb,0,none⟩) N d2),V1.size,G1,G2,((g1.setFar (a:=⟨v1.heap.size,0,none⟩) na _).setFar (a:=⟨v1.heap.size,1,none⟩) na _),((g2.setFar (a:=⟨v1.heap.size,0,none⟩) nb _).setFar (a:=⟨v1.heap.size,1,none⟩) nb _),V3b⟩
       ·have hz:=hv1.size
        simp at hz
        have na:ga ≠ wr.heap.size:=by omega
        have nb:gb ≠ wr.heap.size:=by omega
        exact key pa pk ga d1 gb d2 _ _ ⟨ZaB zr (.slice (some ⟨ga,0,none⟩) N d1) (.slice (some ⟨gb,0,none⟩) N d2),nr,G1,G2,((g1.setFar (a:=⟨wr.heap.size,0,none⟩) na _).setFar (a:=⟨wr.heap.size,1,none⟩) na _),((g2.setFar (a:=⟨wr.heap.size,0,none⟩) nb _).setFar (a:=⟨wr.heap.size,1,none⟩) nb _),V3a⟩
      ·rintro pa pk ga d1 gb d2 OB w8 ⟨orow,hOB,G1,G2,la8,lb8,T8⟩
       have rrow8:=rrow6.of_block (T8.block _ hRl)
       have T9:=T6.trans (T8.mono T6.size)
       have nb8:=KQ.out _ T9
       have lbt:=lb5.below (hbel.trans (T8.mono hbel.size)) nr
       have hRw:RB < wr.heap.size:=hRl
       clear rrow5 rrow6 lb5 hbel S0 Sa Td Ta rowa KS2 HCl HSt c0 c1 c2 c3 c4 c5 c6 c7 c8 c9 c10 s0 s1 rr2
       obtain ⟨q0,q1'⟩:=Zaa orow
       go_wp2_with fail
       refine (Zch ga 0 N d1 NW gb 0 N d2 NM _ la8 lb8 (by omega) (by omega) (by omega)).mono ?_
       rintro e w9 ⟨rfl,hw9⟩
       have rrow9:=rrow8.of_block (hw9.block _ rrow8.lt)
       have orow9:=orow.of_block (hw9.block _ orow.lt)
       have nb9:=nb8.below hw9
       have la9:=la8.below hw9 nr
       have lb9:=lb8.below hw9 nr
       have lt9:=lbt.below hw9 nr
       obtain ⟨z0,z1,z2,z3,z4⟩:=Zam rrow9
       have z3f:=rrow9.frozen 3
       clear rrow8 orow nb8 la8 lb8 lbt hw9 q0 q1'
       go_wp2_with fail
       have w10r:(w9.setCell ⟨RB,3,none⟩ (.int .u64 (rootP NW NM (N+N)))).rowIs RB 111 5 (fn5 (.int .i64 T) (.slice (some ⟨bg,0,none⟩) B bk) (.int .i64 R) (.int .u64 (rootP NW NM (N+N))) (.int .u64 0)):=(rrow9.set 3 _).congr (fun t ht=>by rcases lt5 ht with rfl | rfl | rfl | rfl | rfl <;> rfl)
       have w10o:=orow9.setOther (a:=⟨RB,3,none⟩) (show OB ≠ RB by omega) (.int .u64 (rootP NW NM (N+N)))
       have w10s:=nb9.rs.setOther (a:=⟨RB,3,none⟩) (show w.heap.size+1+1 ≠ RB by omega) (.int .u64 (rootP NW NM (N+N)))
       have w10q:=nb9.rr.setOther (a:=⟨RB,3,none⟩) (show w.heap.size+1+1+1 ≠ RB by omega) (.int .u64 (rootP NW NM (N+N)))
       have w10a:=la9.setFar (a:=⟨RB,3,none⟩) (show ga ≠ RB by omega) (.int .u64 (rootP NW NM (N+N)))
       have w10b:=lb9.setFar (a:=⟨RB,3,none⟩) (show gb ≠ RB by omega) (.int .u64 (rootP NW NM (N+N)))
       have w10t:=lt9.setFar (a:=⟨RB,3,none⟩) (show bg ≠ RB from hbne) (.int .u64 (rootP NW NM (N+N)))
       have w10w:Below w.heap.size w (w9.setCell ⟨RB,3,none⟩ (.int .u64 (rootP NW NM (N+N)))):=nb9.bel.setCell (show w.heap.size<=RB by omega) _
       clear rrow9 orow9 nb9 la9 lb9 lt9 z0 z1 z2 z3 z4 z3f
       generalize w9.setCell ⟨RB,3,none⟩ (.int .u64 (rootP NW NM (N+N)))=wv at w10r w10o w10s w10q w10a w10b w10t w10w ⊢
       have n1:∀ k,RB ≠ (⟨w.heap.size+1+1,k,none⟩:Addr).block:=fun k=>by show RB ≠ w.heap.size+1+1; omega
       have n2:∀ k,RB ≠ (⟨w.heap.size+1+1+1,k,none⟩:Addr).block:=fun k=>by show RB ≠ w.heap.size+1+1+1; omega
       have n3:∀ k,w.heap.size+1+1+1 ≠ (⟨w.heap.size+1+1,k,none⟩:Addr).block:=fun k=>by show w.heap.size+1+1+1 ≠ w.heap.size+1+1; omega
       have n4:∀ k,w.heap.size+1+1 ≠ (⟨w.heap.size+1+1+1,k,none⟩:Addr).block:=fun k=>by show w.heap.size+1+1 ≠ w.heap.size+1+1+1; omega
       have n5:∀ k,OB ≠ (⟨w.heap.size+1+1+1,k,none⟩:Addr).block:=fun k=>by show OB ≠ w.heap.size+1+1+1; omega
       have n6:∀ k,OB ≠ (⟨w.heap.size+1+1,k,none⟩:Addr).block:=fun k=>by show OB ≠ w.heap.size+1+1; omega
       have a2r:=((w10r.setOther (n1 0) (.slice (some ⟨ga,0,none⟩) N d1)).setOther (n1 1) (.slice (some ⟨gb,0,none⟩) N d2))
       have a2q:=((w10q.setOther (n3 0) (.slice (some ⟨ga,0,none⟩) N d1)).setOther (n3 1) (.slice (some ⟨gb,0,none⟩) N d2))
       have a5o:=(((((w10o.setOther (n5 0) (.int .i64 T)).setOther (n5 1) (.slice (some ⟨bg,0,none⟩) B bk)).setOther (n5 2) (.int .i64 R)).setOther (n5 3) (.int .u64 (rootP NW NM (N+N)))).setOther (n5 4) (.int .u64 0))
       have a5s:=(((((w10s.setOther (n4 0) (.int .i64 T)).setOther (n4 1) (.slice (some ⟨bg,0,none⟩) B bk)).setOther (n4 2) (.int .i64 R)).setOther (n4 3) (.int .u64 (rootP NW NM (N+N)))).setOther (n4 4) (.int .u64 0))
       obtain ⟨o0,o1⟩:=Zaa w10o
       obtain ⟨r0,r1,r2,r3,r4⟩:=Zam w10r
       obtain ⟨s0,s1⟩:=Zaa w10s
       have sf0:=w10s.frozen 0
       have sf1:=w10s.frozen 1
       obtain ⟨q0,q1,q2,q3,q4⟩:=Zam w10q
       have qf0:=w10q.frozen 0
       have qf1:=w10q.frozen 1
       have qf2:=w10q.frozen 2
       have qf3:=w10q.frozen 3
       have qf4:=w10q.frozen 4
       obtain ⟨ar0,ar1,ar2,ar3,ar4⟩:=Zam a2r
       obtain ⟨aq0,aq1,aq2,aq3,aq4⟩:=Zam a2q
       have aqf0:=a2q.frozen 0
       have aqf1:=a2q.frozen 1
       have aqf2:=a2q.frozen 2
       have aqf3:=a2q.frozen 3
       have aqf4:=a2q.frozen 4
       obtain ⟨ao0,ao1⟩:=Zaa a5o
       obtain ⟨as0,as1⟩:=Zaa a5s
       have asf0:=a5s.frozen 0
       have asf1:=a5s.frozen 1
       go_wp2_with fail
       go_region
       all_goals go_wp2_with fail
       have fq:=ZaN a2q (.int .i64 T) (.slice (some ⟨bg,0,none⟩) B bk) (.int .i64 R) (.int .u64 (rootP NW NM (N+N))) (.int .u64 0)
       have fs:=((((((ZaB w10s (.slice (some ⟨ga,0,none⟩) N d1) (.slice (some ⟨gb,0,none⟩) N d2)).setOther (a:=⟨w.heap.size+1+1+1,0,none⟩) (show w.heap.size+1+1 ≠ w.heap.size+1+1+1 by omega) (.int .i64 T)).setOther (a:=⟨w.heap.size+1+1+1,1,none⟩) (show w.heap.size+1+1 ≠ w.heap.size+1+1+1 by omega) (.slice (some ⟨bg,0,none⟩) B bk)).setOther (a:=⟨w.heap.size+1+1+1,2,none⟩) (show w.heap.size+1+1 ≠ w.heap.size+1+1+1 by omega) (.int .i64 R)).setOther (a:=⟨w.heap.size+1+1+1,3,none⟩) (show w.heap.size+1+1 ≠ w.heap.size+1+1+1 by omega) (.int .u64 (rootP NW NM (N+N)))).setOther (a:=⟨w.heap.size+1+1+1,4,none⟩) (show w.heap.size+1+1 ≠ w.heap.size+1+1+1 by omega) (.int .u64 0))
       obtain ⟨u0,u1,u2,u3,u4⟩:=Zam fq
       obtain ⟨x0,x1⟩:=Zaa fs
       have hNW:=HNW.out
       have hNM:=HNM.out
       subst hNW hNM
       refine bodyPost_ret (v:=.tuple #[.agg #[(.slice (some ⟨ga,0,none⟩) N d1),(.slice (some ⟨gb,0,none⟩) N d2)],.agg #[(.int .i64 T),(.slice (some ⟨bg,0,none⟩) B bk),(.int .i64 R),(.int .u64 (rootP ((List.range N).map (goneG ⟨I,H,O,seed,B,steps,crate,decay,how,keep,clip⟩ ws ms PL R)) ((List.range N).map (keptG ⟨I,H,O,seed,B,steps,crate,decay,how,keep,clip⟩ ms PL)) (N+N))),(.int .u64 0)]]) (by simp [results,Tryz.results105,go_sem,u0,u1,u2,u3,u4,x0,x1]) rfl ⟨ga,d1,gb,d2,some ⟨bg,0,none⟩,bk,rfl,by omega,by omega,?_,?_,?_,fun b' o' he=>by simp only [Option.some.injEq,Addr.mk.injEq,and_true] at he; omega,?_⟩
       ·exact (((((((w10a.setFar (a:=⟨w.heap.size+1+1,0,none⟩) (show ga ≠ w.heap.size+1+1 by omega) (.slice (some ⟨ga,0,none⟩) N d1)).setFar (a:=⟨w.heap.size+1+1,1,none⟩) (show ga ≠ w.heap.size+1+1 by omega) (.slice (some ⟨gb,0,none⟩) N d2)).setFar (a:=⟨w.heap.size+1+1+1,0,none⟩) (show ga ≠ w.heap.size+1+1+1 by omega) (.int .i64 T)).setFar (a:=⟨w.heap.size+1+1+1,1,none⟩) (show ga ≠ w.heap.size+1+1+1 by omega) (.slice (some ⟨bg,0,none⟩) B bk)).setFar (a:=⟨w.heap.size+1+1+1,2,none⟩) (show ga ≠ w.heap.size+1+1+1 by omega) (.int .i64 R)).setFar (a:=⟨w.heap.size+1+1+1,3,none⟩) (show ga ≠ w.heap.size+1+1+1 by omega) (.int .u64 (rootP ((List.range N).map (goneG ⟨I,H,O,seed,B,steps,crate,decay,how,keep,clip⟩ ws ms PL R)) ((List.range N).map (keptG ⟨I,H,O,seed,B,steps,crate,decay,how,keep,clip⟩ ms PL)) (N+N)))).setFar (a:=⟨w.heap.size+1+1+1,4,none⟩) (show ga ≠ w.heap.size+1+1+1 by omega) (.int .u64 0)).drew
       ·exact (((((((w10b.setFar (a:=⟨w.heap.size+1+1,0,none⟩) (show gb ≠ w.heap.size+1+1 by omega) (.slice (some ⟨ga,0,none⟩) N d1)).setFar (a:=⟨w.heap.size+1+1,1,none⟩) (show gb ≠ w.heap.size+1+1 by omega) (.slice (some ⟨gb,0,none⟩) N d2)).setFar (a:=⟨w.heap.size+1+1+1,0,none⟩) (show gb ≠ w.heap.size+1+1+1 by omega) (.int .i64 T)).setFar (a:=⟨w.heap.size+1+1+1,1,none⟩) (show gb ≠ w.heap.size+1+1+1 by omega) (.slice (some ⟨bg,0,none⟩) B bk)).setFar (a:=⟨w.heap.size+1+1+1,2,none⟩) (show gb ≠ w.heap.size+1+1+1 by omega) (.int .i64 R)).setFar (a:=⟨w.heap.size+1+1+1,3,none⟩) (show gb ≠ w.heap.size+1+1+1 by omega) (.int .u64 (rootP ((List.range N).map (goneG ⟨I,H,O,seed,B,steps,crate,decay,how,keep,clip⟩ ws ms PL R)) ((List.range N).map (keptG ⟨I,H,O,seed,B,steps,crate,decay,how,keep,clip⟩ ms PL)) (N+N)))).setFar (a:=⟨w.heap.size+1+1+1,4,none⟩) (show gb ≠ w.heap.size+1+1+1 by omega) (.int .u64 0)).drew
       ·exact (((((((w10t.setFar (a:=⟨w.heap.size+1+1,0,none⟩) (show bg ≠ w.heap.size+1+1 by omega) (.slice (some ⟨ga,0,none⟩) N d1)).setFar (a:=⟨w.heap.size+1+1,1,none⟩) (show bg ≠ w.heap.size+1+1 by omega) (.slice (some ⟨gb,0,none⟩) N d2)).setFar (a:=⟨w.heap.size+1+1+1,0,none⟩) (show bg ≠ w.heap.size+1+1+1 by omega) (.int .i64 T)).setFar (a:=⟨w.heap.size+1+1+1,1,none⟩) (show bg ≠ w.heap.size+1+1+1 by omega) (.slice (some ⟨bg,0,none⟩) B bk)).setFar (a:=⟨w.heap.size+1+1+1,2,none⟩) (show bg ≠ w.heap.size+1+1+1 by omega) (.int .i64 R)).setFar (a:=⟨w.heap.size+1+1+1,3,none⟩) (show bg ≠ w.heap.size+1+1+1 by omega) (.int .u64 (rootP ((List.range N).map (goneG ⟨I,H,O,seed,B,steps,crate,decay,how,keep,clip⟩ ws ms PL R)) ((List.range N).map (keptG ⟨I,H,O,seed,B,steps,crate,decay,how,keep,clip⟩ ms PL)) (N+N)))).setFar (a:=⟨w.heap.size+1+1+1,4,none⟩) (show bg ≠ w.heap.size+1+1+1 by omega) (.int .u64 0)).drew
       ·exact (Zan (below_set2 w10w (show w.heap.size<=w.heap.size+1+1 by omega) (.slice (some ⟨ga,0,none⟩) N d1) (.slice (some ⟨gb,0,none⟩) N d2)) (show w.heap.size<=w.heap.size+1+1+1 by omega) (.int .i64 T) (.slice (some ⟨bg,0,none⟩) B bk) (.int .i64 R) (.int .u64 (rootP ((List.range N).map (goneG ⟨I,H,O,seed,B,steps,crate,decay,how,keep,clip⟩ ws ms PL R)) ((List.range N).map (keptG ⟨I,H,O,seed,B,steps,crate,decay,how,keep,clip⟩ ms PL)) (N+N))) (.int .u64 0)).drew
end Go.Proofs.YthmiojmlaclgaaaGreatDoor.Fx
