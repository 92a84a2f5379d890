/- What the law stands on: TrnE. -/
import Derived.Test.YthmiojmlaclgaaaGreatDoorJ00
import Derived.Test.YthmiojmlaclgaaaGreatDoorJ10
import Derived.Test.YthmiojmlaclgaaaGreatDoorJ04
set_option maxRecDepth 100000
set_option maxHeartbeats 12800000
namespace Go.Proofs.YthmiojmlaclgaaaGreatDoor.Fx
open Go.RowKit
structure NextO (w w':World) (N B:Nat) (F M G:Nat->Int) (g1 d1 g2 d2 bg:Nat):Prop where
 a1:Arr w' g1 d1 N F
 a2:Arr w' g2 d2 N M
 a3:Arr w' bg B B G
 f1:w.heap.size<=g1
 f2:w.heap.size<=g2
 f3:w.heap.size<=bg
 n12:g1 ≠ g2
 n13:g1 ≠ bg
 n23:g2 ≠ bg
 cap:d1<=maxLen/\d2<=maxLen
 bel:Below w.heap.size w w'
theorem tnext_own (I H O B T:Nat) (seed crate decay how keep clip:Int) (hs:okW seed) (steps:Int) (hc:cfgB ⟨I,H,O,seed,B,steps,crate,decay,how,keep,clip⟩=true) (N:Nat) (hN:N=H * I+H+O * H+O) (a:Option Addr) (n cap:Nat) (X:Nat->Exm) (DI DO:Nat->List Int) (a1:Option Addr) (k1:Nat) (ws:List Int) (a2:Option Addr) (k2:Nat) (ms:List Int) (w:World)
  (hx:Exs w a n cap X DI DO) (hn1:1<=n) (hn2:n<=16) (hex:allEx ⟨I,H,O,seed,B,steps,crate,decay,how,keep,clip⟩ n X DI DO=true) (l1:Lst w a1 N k1 ws) (l2:Lst w a2 N k2 ms) (r1:rightB ws=true) (r2:rightB ms=true) (hst:(T:Int)<=steps - 1) :
  Calls Tryz.prog 91 #[Cfg.val ⟨I,H,O,seed,B,steps,crate,decay,how,keep,clip⟩,.slice a n cap,.agg #[.slice a1 N k1,.slice a2 N k2],.int .i64 T] w fun e w' =>
   ∃ g1 d1 g2 d2 bg,e=.returned (.tuple #[.agg #[.slice (some ⟨g1,0,none⟩) N d1,.slice (some ⟨g2,0,none⟩) N d2],.slice (some ⟨bg,0,none⟩) B B,.int .i64 (rateV ⟨I,H,O,seed,B,steps,crate,decay,how,keep,clip⟩ T)])/\NextO w w' N B (goneG ⟨I,H,O,seed,B,steps,crate,decay,how,keep,clip⟩ ws ms (pushL ⟨I,H,O,seed,B,steps,crate,decay,how,keep,clip⟩ n ws DI DO T N) (rateV ⟨I,H,O,seed,B,steps,crate,decay,how,keep,clip⟩ T)) (keptG ⟨I,H,O,seed,B,steps,crate,decay,how,keep,clip⟩ ms (pushL ⟨I,H,O,seed,B,steps,crate,decay,how,keep,clip⟩ n ws DI DO T N)) (batchG seed n (T * B)) g1 d1 g2 d2 bg:=by
 obtain ⟨⟨i1,i2⟩,⟨h1,h2⟩,⟨p1,p2⟩,⟨b1,b2⟩,⟨s1,s2⟩,_,_,_,_,⟨q1,q2⟩⟩:=Zal hc
 dsimp only at i1 i2 h1 h2 p1 p2 b1 b2 s1 s2 q1 q2
 have hN4:4<=N/\N<=40:=by
  have:=Zae (show H<=4 by omega) (show I<=4 by omega)
  have:=Zae (show O<=4 by omega) (show H<=4 by omega)
  have:1<=H * I:=Nat.mul_pos (by omega) (by omega)
  have:1<=O * H:=Nat.mul_pos (by omega) (by omega)
  omega
 obtain ⟨BG,HBG0⟩:=nm (batchG seed n (T * B))
 obtain ⟨BL,HBL⟩:=nm (batchP seed B n (T * B))
 have HBB:Hid ((List.range B).map BG=BL):=by show (List.range B).map BG=BL; rw [← HBL.out,← HBG0.out]; rfl
 obtain ⟨R,HR⟩:=nm (rateV ⟨I,H,O,seed,B,steps,crate,decay,how,keep,clip⟩ T)
 have hBLl:BL.length=B:=by rw [← HBL.out]; simp [batchP]
 -- the calls
 have HBt:Hid (∀ q,Calls Tryz.prog 132 #[.int .u64 seed,.int .i64 B,.int .i64 n,.int .i64 T] q fun e w'=>∃ bg,e=.returned (.tuple #[.slice (some ⟨bg,0,none⟩) B B,.int .i64 0])/\q.heap.size<=bg/\Arr w' bg B B BG/\Below q.heap.size q w'):=fun q=>by
  refine (batch_good seed hs B n T (by omega) (by omega) hn1 hn2 (by omega) q).mono ?_
  rintro e w' ⟨bg,he,hf,ha,hb⟩
  exact ⟨bg,he,hf,HBG0.out ▸ ha,hb⟩
 obtain ⟨f,Hf⟩:∃ f:Nat->Nat->Int,Hid (∀ k i,f k i=(gradOf I H O ws DI DO (BL.getD k 0).toNat).getD i 0):=⟨_,fun _ _=>rfl⟩
 have HME:Hid (∀ q bg,Below w.heap.size w q->Lst q (some ⟨bg,0,none⟩) B B BL->Calls Tryz.prog 134 #[Cfg.val ⟨I,H,O,seed,B,steps,crate,decay,how,keep,clip⟩,.slice a n cap,.slice a1 N k1,.slice (some ⟨bg,0,none⟩) B B] q fun e w'=>∃ g,e=.returned (.slice (some ⟨g,0,none⟩) N N)/\q.heap.size<=g/\Lst w' (some ⟨g,0,none⟩) N N ((List.range N).map (meanG f B))/\Below q.heap.size q w'):=fun q bg hq hl =>
  tmean_calls I H O B seed steps crate decay how keep clip hc N hN a n cap X DI DO a1 k1 ws (some ⟨bg,0,none⟩) B BL f q (hx.below hq nr) hn2 hex (l1.below hq nr) r1 hl (fun k hk=>by rw [← HBL.out]; exact batch_in seed B n (T * B) hn1 hk) Hf.out
 obtain ⟨ML,HML⟩:=nm ((List.range N).map (meanG f B))
 rw [HML.out] at HME
 obtain ⟨PL,HPL⟩:=nm (pushL ⟨I,H,O,seed,B,steps,crate,decay,how,keep,clip⟩ n ws DI DO T N)
 have hPc:clipL ML clip N=PL:=by
  rw [← HPL.out,← HML.out]
  unfold pushL
  dsimp only
  have ef:gradG ⟨I,H,O,seed,B,steps,crate,decay,how,keep,clip⟩ n ws DI DO T=f:=by
   funext k' i'
   rw [Hf.out]
   unfold gradG batchL
   dsimp only
   rw [if_pos ⟨⟨b1,b2⟩,⟨by omega,by omega⟩,by omega,by omega⟩]
   rw [← HBL.out]
   rfl
  rw [ef]
 have hPn:PL.length=N:=by rw [← HPL.out]; exact (push_len ⟨I,H,O,seed,B,steps,crate,decay,how,keep,clip⟩ hc n ws DI DO T N (by omega)).2
 have hCE:clipE N clip=0:=by unfold clipE; rw [if_neg (by omega),in_yes ⟨q1,q2⟩]; rfl
 have HCl:Hid (∀ q g,Lst q (some ⟨g,0,none⟩) N N ML->Calls Tryz.prog 133 #[.slice (some ⟨g,0,none⟩) N N,.int .i64 clip] q fun e w'=>∃ a',e=.returned (.tuple #[.slice a' N N,.int .i64 0])/\Lst w' a' N N PL/\Below q.heap.size q w'):=fun q g hl=>by
  refine (clip_calls (some ⟨g,0,none⟩) N N ML clip q hl).mono ?_
  rintro e w' ⟨a',m,he,_,hl',hb⟩
  rw [hPc] at hl'
  rw [hCE] at he
  have hm:N=m:=by rw [← hPn]; exact hl'.len
  subst hm
  exact ⟨a',he,hl',hb⟩
 have hst2:inB (T:Int) 0 (steps - 1)=true:=in_yes ⟨by omega,hst⟩
 have hRin:inB R 0 2147483647=true:=by rw [← HR.out]; exact rateV_in hc T (by omega) hst
 have HRt:Hid (∀ q,Calls Tryz.prog 135 #[Cfg.val ⟨I,H,O,seed,B,steps,crate,decay,how,keep,clip⟩,.int .i64 T] q fun e w'=>e=.returned (.tuple #[.int .i64 R,.int .i64 0])/\Below q.heap.size q w'):=fun q=>by
  have:=rate_calls ⟨I,H,O,seed,B,steps,crate,decay,how,keep,clip⟩ T q
  have e1:rateI ⟨I,H,O,seed,B,steps,crate,decay,how,keep,clip⟩ T=R:=by rw [← HR.out]; exact if_pos ⟨hc,hst2⟩
  have e2:rateE ⟨I,H,O,seed,B,steps,crate,decay,how,keep,clip⟩ T=0:=if_pos ⟨hc,hst2⟩
  rw [e1,e2] at this
  exact this
 have hNI:(N:Int)=sizeN ⟨I,H,O,seed,B,steps,crate,decay,how,keep,clip⟩:=by unfold sizeN; dsimp only; rw [hN]; push_cast; rfl
 have f1:fitB ⟨I,H,O,seed,B,steps,crate,decay,how,keep,clip⟩ N ws=true:=by unfold fitB; rw [decide_eq_true hNI,r1]; rfl
 have f2:fitB ⟨I,H,O,seed,B,steps,crate,decay,how,keep,clip⟩ N ms=true:=by unfold fitB; rw [decide_eq_true hNI,r2]; rfl
 obtain ⟨FW,HFW⟩:=nm (goneG ⟨I,H,O,seed,B,steps,crate,decay,how,keep,clip⟩ ws ms PL R)
 obtain ⟨FM,HFM⟩:=nm (keptG ⟨I,H,O,seed,B,steps,crate,decay,how,keep,clip⟩ ms PL)
 have HSt:Hid (∀ q a3,Below w.heap.size w q->Lst q a3 N N PL->Calls Tryz.prog 136 #[Cfg.val ⟨I,H,O,seed,B,steps,crate,decay,how,keep,clip⟩,.agg #[.slice a1 N k1,.slice a2 N k2],.slice a3 N N,.int .i64 R] q fun e w'=>∃ g1 d1 g2 d2,e=.returned (.tuple #[.agg #[.slice (some ⟨g1,0,none⟩) N d1,.slice (some ⟨g2,0,none⟩) N d2],.int .i64 0])/\q.heap.size<=g1/\q.heap.size<=g2/\g1 ≠ g2/\(d1<=maxLen/\d2<=maxLen)/\Arr w' g1 d1 N FW/\Arr w' g2 d2 N FM/\Below q.heap.size q w'):=fun q a3 hq hl=>by
  have h:=step_own ⟨I,H,O,seed,B,steps,crate,decay,how,keep,clip⟩ hc a1 N k1 a2 k2 a3 N ws ms PL R q (l1.below hq nr) (l2.below hq nr) hl f1 f2 hRin
  rw [HFW.out,HFM.out] at h
  exact h
 -- the walk
 rw [HPL.out,HR.out,HBG0.out,HFW.out,HFM.out]
 have sb0:=StBox.start w ⟨I,H,O,seed,B,steps,crate,decay,how,keep,clip⟩ (.slice a1 N k1) (.slice a2 N k2)
 obtain ⟨W,HW⟩:∃ q,Hid (q=(((w.alloc (.cells (Cfg.cells ⟨I,H,O,seed,B,steps,crate,decay,how,keep,clip⟩) 50)).alloc (.cells #[.slice a1 N k1,.slice a2 N k2] 106)).alloc (.cells #[.slice none 0 0,.slice none 0 0] 106))):=⟨_,rfl⟩
 have sbW:StBox w ⟨I,H,O,seed,B,steps,crate,decay,how,keep,clip⟩ (.slice a1 N k1) (.slice a2 N k2) W:=by rw [HW.out]; exact sb0
 have KQ:Hid (∀ q,Below W.heap.size W q->StBox w ⟨I,H,O,seed,B,steps,crate,decay,how,keep,clip⟩ (.slice a1 N k1) (.slice a2 N k2) q):=fun q hq=>sbW.below hq
 clear sb0 hx l1 l2 hc hex hPc hNI hRin hst2 hCE r1 r2 hN hs HPL Hf HML f1 f2 HFW HFM HBG0 HBL
 have HWL:Hid (w.heap.size<=W.heap.size/\w.heap.size+1+1 < W.heap.size):=⟨sbW.bel.size,sbW.res.lt⟩
 have c0W:=sbW.cfg
 clear sbW
 simp only [Cfg.val,Cfg.cells] at *
 obtain ⟨c0,c1,c2,c3,c4,c5,c6,c7,c8,c9,c10⟩:=c0W
 go_enter Tryz.func91,Tryz.ntmps91
 go_wp2_with fail
 rw [← HW.out]
 clear HW
 refine (HBt.out _).mono ?_
 rintro e w1 ⟨bg,rfl,hbg,ab1,hw1⟩
 have lb1:=ab1.lst
 rw [HBB.out] at lb1
 have HBG:Hid (w.heap.size<=bg):=Nat.le_trans HWL.out.1 hbg
 have HBN:Hid (bg ≠ w.heap.size+1+1):=by show bg ≠ w.heap.size+1+1; have:=HWL.out.2; omega
 clear hbg
 have sb1:=KQ.out _ hw1
 clear c0 c1 c2 c3 c4 c5 c6 c7 c8 c9 c10 HBt
 have KS:Hid (∀ q,Below w1.heap.size w1 q->q.cell? ⟨w.heap.size,0,none⟩=some (.int .i64 I)/\q.cell? ⟨w.heap.size,1,none⟩=some (.int .i64 H)/\q.cell? ⟨w.heap.size,2,none⟩=some (.int .i64 O)/\q.cell? ⟨w.heap.size,3,none⟩=some (.int .u64 seed)/\q.cell? ⟨w.heap.size,4,none⟩=some (.int .i64 B)/\q.cell? ⟨w.heap.size,5,none⟩=some (.int .i64 steps)/\q.cell? ⟨w.heap.size,6,none⟩=some (.int .i64 crate)/\q.cell? ⟨w.heap.size,7,none⟩=some (.int .i64 decay)/\q.cell? ⟨w.heap.size,8,none⟩=some (.int .i64 how)/\q.cell? ⟨w.heap.size,9,none⟩=some (.int .i64 keep)/\q.cell? ⟨w.heap.size,10,none⟩=some (.int .i64 clip)/\q.cell? ⟨w.heap.size+1,0,none⟩=some (.slice a1 N k1)):=fun q hq=>by
  have sq:=sb1.below hq
  obtain ⟨x0,x1,x2,x3,x4,x5,x6,x7,x8,x9,x10⟩:=sq.cfg
  exact ⟨x0,x1,x2,x3,x4,x5,x6,x7,x8,x9,x10,(Zaa sq.st).1⟩
 have Td:Below w1.heap.size w1 w1.drew:=Zab br 1
 have S0:=KS.out _ Td
 have HM2:Hid (∀ q,Below w1.heap.size w1 q->Calls Tryz.prog 134 #[.agg #[.int .i64 I,.int .i64 H,.int .i64 O,.int .u64 seed,.int .i64 B,.int .i64 steps,.int .i64 crate,.int .i64 decay,.int .i64 how,.int .i64 keep,.int .i64 clip],.slice a n cap,.slice a1 N k1,.slice (some ⟨bg,0,none⟩) B B] q fun e w'=>∃ g,e=.returned (.slice (some ⟨g,0,none⟩) N N)/\q.heap.size<=g/\Lst w' (some ⟨g,0,none⟩) N N ML/\Below q.heap.size q w'):=fun q hq=>HME.out q bg ((sb1.below hq).bel) (lb1.below hq nr)
 go_wp2_with fail
 go_region_held3 (fun q=>q.cell? ⟨w.heap.size,0,none⟩=some (.int .i64 I)/\q.cell? ⟨w.heap.size,1,none⟩=some (.int .i64 H)/\q.cell? ⟨w.heap.size,2,none⟩=some (.int .i64 O)/\q.cell? ⟨w.heap.size,3,none⟩=some (.int .u64 seed)/\q.cell? ⟨w.heap.size,4,none⟩=some (.int .i64 B)/\q.cell? ⟨w.heap.size,5,none⟩=some (.int .i64 steps)/\q.cell? ⟨w.heap.size,6,none⟩=some (.int .i64 crate)/\q.cell? ⟨w.heap.size,7,none⟩=some (.int .i64 decay)/\q.cell? ⟨w.heap.size,8,none⟩=some (.int .i64 how)/\q.cell? ⟨w.heap.size,9,none⟩=some (.int .i64 keep)/\q.cell? ⟨w.heap.size,10,none⟩=some (.int .i64 clip)/\q.cell? ⟨w.heap.size+1,0,none⟩=some (.slice a1 N k1)) (first | with_reducible exact S0 | with_reducible exact S2 | with_reducible exact S1)
  (first | (go_at_call 134; refine (HM2.out _ Td).mono ?_; rintro e u1 ⟨g,rfl,hg,lm,hu1⟩; have V1:=Td.trans (hu1.mono Td.size); have S1:=KS.out _ V1) | (go_at_call 133; refine (HCl.out _ _ lm).mono ?_; rintro e u2 ⟨ca,rfl,lc,hu2⟩; have V2:=V1.trans (hu2.mono V1.size); have S2:=KS.out _ V2))
 have sb2:=sb1.below V2
 have lb2:=ab1.below V2
 clear S0 S1 S2 KS Td V1 hu1 hu2 lm hg HM2 HME HCl lb1 ab1 V2 sb1
 obtain ⟨c0,c1,c2,c3,c4,c5,c6,c7,c8,c9,c10⟩:=sb2.cfg
 go_wp2_with fail
 refine (HRt.out _).mono ?_
 rintro e u3 ⟨rfl,hu3⟩
 have sb3:=sb2.below hu3
 have lb3:=lb2.below hu3
 have z3:=sb3.res.lt
 have z4:=lb3.lt
 have lc3:=lc.below hu3 nr
 clear c0 c1 c2 c3 c4 c5 c6 c7 c8 c9 c10 hu3 lb2 lc sb2 HRt
 obtain ⟨c0,c1,c2,c3,c4,c5,c6,c7,c8,c9,c10⟩:=sb3.cfg
 obtain ⟨t0,t1⟩:=Zaa sb3.st
 have ST:=HSt.out _ _ sb3.bel lc3
 go_wp2_with fail
 refine ST.mono ?_
 rintro e u4 ⟨xa,d1,xb,d2,rfl,x1,x2,x3,hcp,lw,lm,hu4⟩
 clear c0 c1 c2 c3 c4 c5 c6 c7 c8 c9 c10 t0 t1 ST HSt
 have sb4:=sb3.below hu4
 have lb4:=lb3.below hu4
 have hal:=Zac u4 (.cells #[.slice (some ⟨xa,0,none⟩) N d1,.slice (some ⟨xb,0,none⟩) N d2] 106)
 have orow:=Zaj u4 (.slice (some ⟨xa,0,none⟩) N d1) (.slice (some ⟨xb,0,none⟩) N d2) 106
 have sb5:=sb4.below hal
 have lw5:=lw.below hal
 have lm5:=lm.below hal
 have lb5:=lb4.below hal
 clear sb3 sb4 hu4 lb3 lb4 lc3 lw lm
 obtain ⟨o0,o1⟩:=Zaa orow
 obtain ⟨r0,r1⟩:=Zaa sb5.res
 have f0:=sb5.res.frozen 0
 have f1:=sb5.res.frozen 1
 have hrs:=sb5.res
 have hbb:=sb5.bel
 go_wp2_with fail
 obtain ⟨y0,y1⟩:=Zaa (ZaB hrs (.slice (some ⟨xa,0,none⟩) N d1) (.slice (some ⟨xb,0,none⟩) N d2))
 have st1:=hrs.set 0 (.slice (some ⟨xa,0,none⟩) N d1)
 have z1:((u4.alloc (.cells #[.slice (some ⟨xa,0,none⟩) N d1,.slice (some ⟨xb,0,none⟩) N d2] 106)).setCell ⟨w.heap.size+1+1,0,none⟩ (.slice (some ⟨xa,0,none⟩) N d1)).cell? ⟨w.heap.size+1+1,1,none⟩=some (.slice none 0 0):=st1.cell (i:=1) (by omega)
 exact bodyPost_ret (v:=.tuple #[.agg #[.slice (some ⟨xa,0,none⟩) N d1,.slice (some ⟨xb,0,none⟩) N d2],.slice (some ⟨bg,0,none⟩) B B,.int .i64 R]) (by simp [results,Tryz.results91,go_sem,y0,y1]) rfl ⟨xa,d1,xb,d2,bg,rfl,(lw5.setOther (show xa ≠ w.heap.size+1+1 by omega) _).setOther (show xa ≠ w.heap.size+1+1 by omega) _,(lm5.setOther (show xb ≠ w.heap.size+1+1 by omega) _).setOther (show xb ≠ w.heap.size+1+1 by omega) _,(lb5.setOther (show bg ≠ w.heap.size+1+1 from HBN.out) _).setOther (show bg ≠ w.heap.size+1+1 from HBN.out) _,by omega,by omega,HBG.out,x3,by omega,by omega,hcp,(hbb.setCell (show w.heap.size<=w.heap.size+1+1 by omega) _).setCell (show w.heap.size<=w.heap.size+1+1 by omega) _⟩
end Go.Proofs.YthmiojmlaclgaaaGreatDoor.Fx
