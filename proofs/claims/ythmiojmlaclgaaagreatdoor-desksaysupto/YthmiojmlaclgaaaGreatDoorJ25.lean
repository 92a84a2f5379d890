/- What the law stands on: JrnE TrnH TrnI. -/
import Derived.Test.YthmiojmlaclgaaaGreatDoorJ00
import Derived.Test.YthmiojmlaclgaaaGreatDoorJ23
set_option maxRecDepth 100000
set_option maxHeartbeats 12800000
namespace Go.Proofs.YthmiojmlaclgaaaGreatDoor.Fx
open Go.RowKit
structure MadeR (w w':World) (c:Cfg) (n:Nat) (DI DO:Nat->List Int) (b:Option Addr) (m k:Nat) (R:Nat->Rcm):Prop where
 recs:Recs w' b m k R (jrBatch c n)
 says:JrN m R (mkRV c) (mkRO c n DI DO) (mkCH c n DI DO)
 len8:∀ j,j < m->(R j).n<=8
 own:0 < m->∃ g,b=some ⟨g,0,none⟩/\k=m/\w.heap.size<=g/\w'.rowIs g 111 (m * 5) (rcsR R m)/\JrIn w' g w.heap.size c.batch.toNat m R (jrG c n)
 bel:Below w.heap.size w w'
theorem recs_of {w:World} {g base B m:Nat} {R:Nat->Rcm} {DG:Nat->Nat->Int} (h:w.rowIs g 111 (m * 5) (rcsR R m)) (hj:JrIn w g base B m R DG):Recs w (some ⟨g,0,none⟩) m m R (fun k=>(List.range B).map (DG k)):=by
 refine ⟨nr,.inr ⟨g,0,rfl,h.lt,fun i hi=>?_⟩⟩
 obtain ⟨h1,h2,bg,h3,_,_,hl⟩:=hj i hi
 rw [Nat.zero_add]
 refine ⟨ZaT h hi nr (i:=0) (by omega),ZaT h hi nr (i:=1) (by omega),ZaT h hi nr (i:=2) (by omega),ZaT h hi nr (i:=3) (by omega),ZaT h hi nr (i:=4) (by omega),?_⟩
 rw [h1,h2,h3]
 exact hl.lst
theorem jMake_good (c:Cfg) (a:Option Addr) (n cap:Nat) (X:Nat->Exm) (DI DO:Nat->List Int) (M:Nat) (w:World) (hs:okW c.seed) (hx:Exs w a n cap X DI DO) (h0:courseI c n X DI DO=0) (hm:(M:Int)<=c.steps) :
  Calls Tryz.prog 78 #[c.val,.slice a n cap,.int .i64 M] w fun e w'=>∃ g R,e=.returned (.tuple #[.slice (some ⟨g,0,none⟩) M M,.int .i64 0])/\w.heap.size<=g/\w'.rowIs g 111 (M * 5) (rcsR R M)/\JrIn w' g w.heap.size c.batch.toNat M R (jrG c n)/\JrN M R (mkRV c) (mkRO c n DI DO) (mkCH c n DI DO)/\Below w.heap.size w w':=by
 have hal:=Zac w (.cells c.cells 50)
 have CK:=Zbd c a n cap X DI DO _ (hx.below hal nr)
 have KB:Hid (∀ q,Below (w.alloc (.cells c.cells 50)).heap.size (w.alloc (.cells c.cells 50)) q->BoxC q w.heap.size c):=fun q hq=>boxC hq (by simp)
 rw [h0] at CK
 obtain ⟨hc,hn1,hn2,hex⟩:=course_ok h0
 have HRC:Hid (∀ q,Below w.heap.size w q->Calls Tryz.prog 119 #[c.val,.slice a n cap,.int .i64 M] q fun e w'=>∃ g R,e=.returned (.slice (some ⟨g,0,none⟩) M M)/\w.heap.size<=g/\w'.rowIs g 111 (M * 5) (rcsR R M)/\JrIn w' g w.heap.size c.batch.toNat M R (jrG c n)/\JrN M R (mkRV c) (mkRO c n DI DO) (mkCH c n DI DO)/\Below q.heap.size q w'):=fun q hq=>by
  obtain ⟨⟨i1,i2⟩,⟨h1,h2⟩,⟨o1,o2⟩,⟨b1,b2⟩,_⟩:=Zal hc
  have hzn:=ZaU hc
  obtain ⟨N,hNz⟩:=Int.eq_ofNat_of_zero_le (show 0<=sizeN c by omega)
  have hNt:(sizeN c).toNat=N:=by rw [hNz]; rfl
  have HX:=hx.below hq nr
  have hle:=hq.size
  clear CK KB hal h0 hx
  have e1:mkRO c n DI DO=jrRoot c n DI DO N:=by unfold mkRO; rw [hNt]
  have e2:mkCH c n DI DO=jrChain c n DI DO N:=by unfold mkCH; rw [hNt]
  have e3:mkRV c=fun j:Nat=>rateV c j:=rfl
  rw [e1,e2,e3]
  clear e1 e2 e3 hNt
  obtain ⟨i,h,o,seed,batch,steps,crate,decay,how,keep,clip⟩:=c
  dsimp only at i1 i2 h1 h2 o1 o2 b1 b2 hs hm
  obtain ⟨I,rfl⟩:=Int.eq_ofNat_of_zero_le (show 0<=i by omega)
  obtain ⟨H,rfl⟩:=Int.eq_ofNat_of_zero_le (show 0<=h by omega)
  obtain ⟨O,rfl⟩:=Int.eq_ofNat_of_zero_le (show 0<=o by omega)
  obtain ⟨B,rfl⟩:=Int.eq_ofNat_of_zero_le (show 0<=batch by omega)
  have hN:N=H * I+H+O * H+O:=by have:=hNz.symm; unfold sizeN at this; dsimp only at this; exact_mod_cast this
  refine (jrecords_calls I H O B seed crate decay how keep clip hs steps hc N hN a n cap X DI DO M q HX hn1 hn2 hex hm).mono ?_
  rintro e w' ⟨g,R,he,g1,g2,g3,g4,g5⟩
  exact ⟨g,R,he,by omega,g2,(fun j hj=>by
   obtain ⟨x1,x2,bg,x3,x4,x5,x6⟩:=g3 j hj
   exact ⟨x1,x2,bg,x3,by omega,x5,x6⟩),g4,g5⟩
 generalize jrG c n=DG at *
 generalize mkRV c=RV at *
 generalize mkRO c n DI DO=RO at *
 generalize mkCH c n DI DO=CH at *
 have z0:¬ (M:Int) < 0:=by omega
 have z1:¬ c.steps < (M:Int):=by omega
 clear hx hex hc hs h0
 generalize hBB:c.batch.toNat=BB at *
 clear hBB
 obtain ⟨i,h,o,seed,batch,steps,crate,decay,how,keep,clip⟩:=c
 simp only [Cfg.val,Cfg.cells] at *
 obtain ⟨c0,c1,c2,c3,c4,c5,c6,c7,c8,c9,c10⟩:=KB.out _ br
 dsimp only at c0 c1 c2 c3 c4 c5 c6 c7 c8 c9 c10
 go_enter Tryz.func78,Tryz.ntmps78
 go_wp2_with fail
 refine CK.mono ?_
 rintro e w1 ⟨rfl,hw1⟩
 clear c0 c1 c2 c3 c4 c5 c6 c7 c8 c9 c10
 obtain ⟨c0,c1,c2,c3,c4,c5,c6,c7,c8,c9,c10⟩:=KB.out _ hw1
 dsimp only at c0 c1 c2 c3 c4 c5 c6 c7 c8 c9 c10
 have T1:=hal.trans (hw1.mono hal.size)
 go_wp2_with fail
 refine (HRC.out _ T1).mono ?_
 rintro e w2 ⟨g,R,rfl,g1,g2,g3,g4,g5⟩
 have G4:Hid (JrN M R RV RO CH):=g4
 have G3:Hid (JrIn w2 g w.heap.size BB M R DG):=g3
 clear g4 g3
 go_wp2_with fail
 go_ret2
 exact ⟨g,R,rfl,g1,g2,G3.out,G4.out,T1.trans (g5.mono T1.size)⟩
theorem jMake_calls (c:Cfg) (a:Option Addr) (n cap:Nat) (X:Nat->Exm) (DI DO:Nat->List Int) (m:Int) (w:World) (hs:okW c.seed) (hx:Exs w a n cap X DI DO) :
  Calls Tryz.prog 78 #[c.val,.slice a n cap,.int .i64 m] w fun e w'=>∃ b k R,e=.returned (.tuple #[.slice b (mkN c n X DI DO m) k,.int .i64 (mkE c n X DI DO m)])/\MadeR w w' c n DI DO b (mkN c n X DI DO m) k R:=by
 have hal:=Zac w (.cells c.cells 50)
 have CK:=Zbd c a n cap X DI DO _ (hx.below hal nr)
 have KB:Hid (∀ q,Below (w.alloc (.cells c.cells 50)).heap.size (w.alloc (.cells c.cells 50)) q->BoxC q w.heap.size c):=fun q hq=>boxC hq (by simp)
 have none_:∀ w',Below w.heap.size w w'->MadeR w w' c n DI DO none 0 0 noRec:=fun w' hb=>⟨Recs.nil _ _ _ _ _,(fun j hj=>by omega),(fun j hj=>by omega),(fun h=>by omega),hb⟩
 by_cases h0:courseI c n X DI DO=0
 ·obtain ⟨hc,hn1,hn2,hex⟩:=course_ok h0
  by_cases hm:0<=m/\m<=c.steps
  ·have hE:mkE c n X DI DO m=0:=by unfold mkE; rw [if_pos h0,if_pos (in_yes hm)]
   obtain ⟨M,rfl⟩:=Int.eq_ofNat_of_zero_le hm.1
   have hMN:mkN c n X DI DO (M:Int)=M:=by unfold mkN; rw [if_pos hE]; rfl
   rw [hE,hMN]
   refine (jMake_good c a n cap X DI DO M w hs hx h0 hm.2).mono ?_
   rintro e w' ⟨g,R,he,g1,g2,g3,g4,g5⟩
   obtain ⟨_,_,_,⟨b1,b2⟩,_⟩:=Zal hc
   refine ⟨some ⟨g,0,none⟩,M,R,he,recs_of g2 g3,g4,fun j hj=>?_,fun _=>⟨g,rfl,rfl,g1,g2,g3⟩,g5⟩
   have:=(g3 j hj).1
   omega
  ·have hE:mkE c n X DI DO m=1:=by
    unfold mkE
    rw [if_pos h0,if_neg (fun h=>hm (in_is h))]
   have hMN:mkN c n X DI DO m=0:=by unfold mkN; rw [hE,if_neg (by decide)]
   rw [hE,hMN]
   rw [h0] at CK
   have HNO:Hid (∀ w',Below w.heap.size w w'->MadeR w w' c n DI DO none 0 0 noRec):=none_
   obtain ⟨MR,HMR⟩:∃ P:World->Option Addr->Nat->(Nat->Rcm)->Prop,Hid (P=fun w' b k R=>MadeR w w' c n DI DO b 0 k R):=⟨_,rfl⟩
   have hPQ:∀ w' b k R,MadeR w w' c n DI DO b 0 k R=MR w' b k R:=fun w' b k R=>by rw [HMR.out]
   simp only [hPQ] at HNO ⊢
   clear hPQ HMR none_ hE hMN hx hex hc hs h0
   obtain ⟨i,h,o,seed,batch,steps,crate,decay,how,keep,clip⟩:=c
   simp only [Cfg.val,Cfg.cells] at *
   obtain ⟨c0,c1,c2,c3,c4,c5,c6,c7,c8,c9,c10⟩:=KB.out _ br
   dsimp only at c0 c1 c2 c3 c4 c5 c6 c7 c8 c9 c10
   by_cases hm0:m < 0
   ·go_enter Tryz.func78,Tryz.ntmps78
    go_wp2_with fail
    refine CK.mono ?_
    rintro e w1 ⟨rfl,hw1⟩
    have T1:=hal.trans (hw1.mono hal.size)
    go_wp2_with fail
    go_ret2
    exact ⟨none,0,noRec,rfl,HNO.out _ T1⟩
   ·have hm1:steps < m:=by omega
    go_enter Tryz.func78,Tryz.ntmps78
    go_wp2_with fail
    refine CK.mono ?_
    rintro e w1 ⟨rfl,hw1⟩
    clear c0 c1 c2 c3 c4 c5 c6 c7 c8 c9 c10
    obtain ⟨c0,c1,c2,c3,c4,c5,c6,c7,c8,c9,c10⟩:=KB.out _ hw1
    dsimp only at c0 c1 c2 c3 c4 c5 c6 c7 c8 c9 c10
    have T1:=hal.trans (hw1.mono hal.size)
    go_wp2_with fail
    go_ret2
    exact ⟨none,0,noRec,rfl,HNO.out _ T1⟩
 ·have hE:mkE c n X DI DO m=courseI c n X DI DO:=if_neg h0
  have hMN:mkN c n X DI DO m=0:=by unfold mkN; rw [hE,if_neg h0]
  have hb:(courseI c n X DI DO != 0)=true:=by rw [bne_iff_ne]; exact h0
  rw [hE,hMN]
  have HNO:Hid (∀ w',Below w.heap.size w w'->MadeR w w' c n DI DO none 0 0 noRec):=none_
  obtain ⟨MR,HMR⟩:∃ P:World->Option Addr->Nat->(Nat->Rcm)->Prop,Hid (P=fun w' b k R=>MadeR w w' c n DI DO b 0 k R):=⟨_,rfl⟩
  have hPQ:∀ w' b k R,MadeR w w' c n DI DO b 0 k R=MR w' b k R:=fun w' b k R=>by rw [HMR.out]
  simp only [hPQ] at HNO ⊢
  generalize courseI c n X DI DO=E at *
  clear hPQ HMR none_ hE hMN hx hs
  obtain ⟨i,h,o,seed,batch,steps,crate,decay,how,keep,clip⟩:=c
  simp only [Cfg.val,Cfg.cells] at *
  obtain ⟨c0,c1,c2,c3,c4,c5,c6,c7,c8,c9,c10⟩:=KB.out _ br
  dsimp only at c0 c1 c2 c3 c4 c5 c6 c7 c8 c9 c10
  go_enter Tryz.func78,Tryz.ntmps78
  go_wp2_with fail
  refine CK.mono ?_
  rintro e w1 ⟨rfl,hw1⟩
  go_wp2_with fail
  go_ret2
  exact ⟨none,0,noRec,rfl,HNO.out _ (hal.trans (hw1.mono hal.size))⟩
theorem made2 (w:World) (z:Value) (m:Nat) (t:TypeId):(w.alloc (.cells (madeCells #[z,z] m) t)).rowIs w.heap.size t m (fun _=>z):=by
 refine ⟨_,Go.Deep.blk_alloc_new _ _,size_madeCells _ _,fun i hi=>?_⟩
 have h2:i % 2=0\/i % 2=1:=by omega
 rcases h2 with h2 | h2 <;> simp [madeCells,hi,h2]
def outF (X:Nat->Exm) (K i:Nat):Value:=if i < K * 2 then (if i % 2=0 then .slice (X (i / 2)).a (X (i / 2)).n (X (i / 2)).k else .slice (X (i / 2)).b (X (i / 2)).m (X (i / 2)).t) else .slice none 0 0
theorem outF_zero {w:World} {b t n:Nat} {X:Nat->Exm} (h:w.rowIs b t n (fun _=>.slice none 0 0)):w.rowIs b t n (outF X 0):=h.congr (fun i _=>by unfold outF; rw [if_neg (by omega)])
theorem outF_at {w:World} {b t n K j:Nat} {X:Nat->Exm} (h:w.rowIs b t n (outF X K)) (hj:j < K) (hn:K * 2<=n):w.cell? ⟨b,j * 2,none⟩=some (.slice (X j).a (X j).n (X j).k)/\w.cell? ⟨b,j * 2+1,none⟩=some (.slice (X j).b (X j).m (X j).t):=by
 refine ⟨?_,?_⟩
 ·rw [h.cell (by omega)]
  unfold outF
  rw [if_pos (by omega),if_pos (by omega),show j * 2 / 2=j by omega]
 ·rw [h.cell (by omega)]
  unfold outF
  rw [if_pos (by omega),if_neg (by omega),show (j * 2+1) / 2=j by omega]
theorem outF_new {w:World} {b t n K j:Nat} {X:Nat->Exm} (h:w.rowIs b t n (outF X K)) (hj:K * 2<=j) (hn:j < n):w.cell? ⟨b,j,none⟩=some (.slice none 0 0):=by
 rw [h.cell hn]
 unfold outF
 rw [if_neg (by omega)]
theorem outF_push {w:World} {b t n K:Nat} {X:Nat->Exm} (h:w.rowIs b t n (outF X K)) (x:Exm):((w.setCell ⟨b,K * 2,none⟩ (.slice x.a x.n x.k)).setCell ⟨b,K * 2+1,none⟩ (.slice x.b x.m x.t)).rowIs b t n (outF (fun j=>if j=K then x else X j) (K+1)):=by
 refine ((h.set _ _).set _ _).congr (fun i hi=>?_)
 by_cases e1:i=K * 2+1
 ·rw [if_pos e1]
  unfold outF
  rw [if_pos (by omega),if_neg (by omega),show i / 2=K by omega]
  simp
 ·rw [if_neg e1]
  by_cases e2:i=K * 2
  ·rw [if_pos e2]
   unfold outF
   rw [if_pos (by omega),if_pos (by omega),show i / 2=K by omega]
   simp
  ·rw [if_neg e2]
   unfold outF
   by_cases e3:i < K * 2
   ·have e4:i / 2 ≠ K:=by omega
    have e5:i < (K+1) * 2:=by omega
    rw [if_pos e3,if_pos e5]
    simp [e4]
   ·rw [if_neg e3,if_neg (by omega)]
theorem makeS (k:Nat) (hk:k<=1000) (w:World):(Instr.makeSlice 96 (.int .i64 ((k:Int)+1)) (.int .i64 ((k:Int)+1))).run Tryz.prog w=.ok (.slice (some ⟨w.heap.size,0,none⟩) (k+1) (k+1)) (w.alloc (.cells (madeCells #[.slice none 0 0,.slice none 0 0] ((k+1) * 2)) 106)):=by
 obtain ⟨i0,hi,hz0,hz1,hz2⟩:=info_parts infoS
 have h:=run_make (P:=Tryz.prog) w 96 106 i0 _ Tryz.underlying96 hi hz0 .i64 .i64 ((k:Int)+1) ((k:Int)+1) (by omega) (Int.le_refl _) (by rw [hz2]; omega) (by omega)
 rw [hz1,show ((k:Int)+1).toNat=k+1 by omega] at h
 exact h
def St1 (w:World) (base OB N:Nat) (x:Exm) (WL ML:List Int):Prop:=∃ g1 d1 g2 d2,x=⟨some ⟨g1,0,none⟩,N,d1,some ⟨g2,0,none⟩,N,d2⟩/\base<=g1/\base<=g2/\g1 ≠ OB/\g2 ≠ OB/\g1 ≠ g2/\(d1<=maxLen/\d2<=maxLen)/\Arr w g1 d1 N (fun i=>WL.getD i 0)/\Arr w g2 d2 N (fun i=>ML.getD i 0)
theorem St1.below {w w':World} {base OB N:Nat} {x:Exm} {WL ML:List Int} (h:St1 w base OB N x WL ML) (hb:Below w.heap.size w w'):St1 w' base OB N x WL ML:=by
 obtain ⟨g1,d1,g2,d2,e,b1,b2,b3,b4,b5,b6,a1,a2⟩:=h
 exact ⟨g1,d1,g2,d2,e,b1,b2,b3,b4,b5,b6,a1.below hb,a2.below hb⟩
theorem St1.setO {w:World} {base OB N:Nat} {x:Exm} {WL ML:List Int} (h:St1 w base OB N x WL ML) (i:Nat) (u:Value):St1 (w.setCell ⟨OB,i,none⟩ u) base OB N x WL ML:=by
 obtain ⟨g1,d1,g2,d2,e,b1,b2,b3,b4,b5,b6,a1,a2⟩:=h
 exact ⟨g1,d1,g2,d2,e,b1,b2,b3,b4,b5,b6,a1.setOther (a:=⟨OB,i,none⟩) b3 u,a2.setOther (a:=⟨OB,i,none⟩) b4 u⟩
theorem St1.inEx {w:World} {base OB N:Nat} {x:Exm} {WL ML:List Int} (h:St1 w base OB N x WL ML) (h1:WL.length=N) (h2:ML.length=N):InEx w x WL ML:=by
 obtain ⟨g1,d1,g2,d2,rfl,b1,b2,b3,b4,b5,b6,a1,a2⟩:=h
 have l1:=a1.lst
 have l2:=a2.lst
 rw [Zcr h1] at l1
 rw [Zcr h2] at l2
 exact ⟨l1,l2⟩
def StApart (x y:Exm):Prop:=∀ g,(x.a=some ⟨g,0,none⟩\/x.b=some ⟨g,0,none⟩)->y.a ≠ some ⟨g,0,none⟩/\y.b ≠ some ⟨g,0,none⟩
theorem St1.apart {w:World} {base OB N:Nat} {x:Exm} {WL ML:List Int} (h:St1 w base OB N x WL ML) {a b d1 d2 M1 M2:Nat} (ha:w.heap.size<=a) (hb:w.heap.size<=b):StApart x ⟨some ⟨a,0,none⟩,M1,d1,some ⟨b,0,none⟩,M2,d2⟩:=fun g hg=>by
 obtain ⟨g1,e1,g2,e2,rfl,b1,b2,b3,b4,b5,b6,a1,a2⟩:=h
 have k1:=a1.lt
 have k2:=a2.lt
 simp only [Option.some.injEq,Addr.mk.injEq,and_true] at hg
 refine ⟨fun e=>?_,fun e=>?_⟩
 ·simp only [Option.some.injEq,Addr.mk.injEq,and_true] at e
  omega
 ·simp only [Option.some.injEq,Addr.mk.injEq,and_true] at e
  omega
def StIn (w:World) (base OB N k:Nat) (X:Nat->Exm) (DW DM:Nat->List Int):Prop:=(∀ j,j<=k->St1 w base OB N (X j) (DW j) (DM j))/\∀ i j,i < j->j<=k->StApart (X i) (X j)
theorem StIn.below {w w':World} {base OB N k:Nat} {X:Nat->Exm} {DW DM:Nat->List Int} (h:StIn w base OB N k X DW DM) (hb:Below w.heap.size w w'):StIn w' base OB N k X DW DM:=⟨fun j hj=>(h.1 j hj).below hb,h.2⟩
theorem StIn.setO {w:World} {base OB N k:Nat} {X:Nat->Exm} {DW DM:Nat->List Int} (h:StIn w base OB N k X DW DM) (i:Nat) (u:Value):StIn (w.setCell ⟨OB,i,none⟩ u) base OB N k X DW DM:=⟨fun j hj=>(h.1 j hj).setO i u,h.2⟩
theorem StIn.push {w:World} {base OB N k:Nat} {X:Nat->Exm} {DW DM:Nat->List Int} (h:StIn w base OB N k X DW DM) {x:Exm} (hx:St1 w base OB N x (DW (k+1)) (DM (k+1))) (hap:∀ i,i<=k->StApart (X i) x):StIn w base OB N (k+1) (fun j=>if j=k+1 then x else X j) DW DM:=by
 refine ⟨fun j hj=>?_,fun i j h1 h2=>?_⟩
 ·by_cases e:j=k+1
  ·subst e; simp only [if_pos]; exact hx
  ·simp only [if_neg e]; exact h.1 j (by omega)
 ·have e1:i ≠ k+1:=by omega
  by_cases e:j=k+1
  ·subst e; simp only [if_neg e1,if_pos]; exact hap i (by omega)
  ·simp only [if_neg e1,if_neg e]; exact h.2 i j h1 (by omega)
theorem tRun_own (I H O B:Nat) (seed crate decay how keep clip:Int) (hs:okW seed) (steps:Int) (hc:cfgB ⟨I,H,O,seed,B,steps,crate,decay,how,keep,clip⟩=true) (N:Nat) (hN:N=H * I+H+O * H+O) (a:Option Addr) (n cap:Nat) (X:Nat->Exm) (DI DO:Nat->List Int) (nn:Nat) (w:World)
  (hx:Exs w a n cap X DI DO) (hn1:1<=n) (hn2:n<=16) (hex:allEx ⟨I,H,O,seed,B,steps,crate,decay,how,keep,clip⟩ n X DI DO=true) (hnn:(nn:Int)<=steps) (HC:Hid (∀ q,Below w.heap.size w q->Calls Tryz.prog 83 #[Cfg.val ⟨I,H,O,seed,B,steps,crate,decay,how,keep,clip⟩,.slice a n cap] q fun e w'=>e=.returned (.int .i64 0)/\Below q.heap.size q w')) :
  Calls Tryz.prog 58 #[Cfg.val ⟨I,H,O,seed,B,steps,crate,decay,how,keep,clip⟩,.slice a n cap,.int .i64 nn] w fun e w'=>∃ g Y,e=.returned (.tuple #[.slice (some ⟨g,0,none⟩) (nn+1) (nn+1),.int .i64 0])/\w.heap.size<=g/\w'.rowIs g 106 ((nn+1) * 2) (outF Y (nn+1))/\StIn w' w.heap.size g N nn Y (fun j=>(stateP ⟨I,H,O,seed,B,steps,crate,decay,how,keep,clip⟩ n DI DO N j).1) (fun j=>(stateP ⟨I,H,O,seed,B,steps,crate,decay,how,keep,clip⟩ n DI DO N j).2)/\Below w.heap.size w w':=by
 obtain ⟨_,_,_,_,⟨s1,s2⟩,_⟩:=Zal hc
 dsimp only at s1 s2
 obtain ⟨DW,HDW⟩:∃ f:Nat->List Int,Hid (∀ j,f j=(stateP ⟨I,H,O,seed,B,steps,crate,decay,how,keep,clip⟩ n DI DO N j).1):=⟨_,fun _=>rfl⟩
 obtain ⟨DM,HDM⟩:∃ f:Nat->List Int,Hid (∀ j,f j=(stateP ⟨I,H,O,seed,B,steps,crate,decay,how,keep,clip⟩ n DI DO N j).2):=⟨_,fun _=>rfl⟩
 have hEW:(fun j=>(stateP ⟨I,H,O,seed,B,steps,crate,decay,how,keep,clip⟩ n DI DO N j).1)=DW:=funext fun j=>(HDW.out j).symm
 have hEM:(fun j=>(stateP ⟨I,H,O,seed,B,steps,crate,decay,how,keep,clip⟩ n DI DO N j).2)=DM:=funext fun j=>(HDM.out j).symm
 rw [hEW,hEM]
 clear hEW hEM
 have hNI:(N:Int)=sizeN ⟨I,H,O,seed,B,steps,crate,decay,how,keep,clip⟩:=by unfold sizeN; dsimp only; rw [hN]; push_cast; rfl
 have HNM:Hid (N<=maxLen):=by show N<=maxLen; have:=ZaU hc; unfold maxLen; omega
 have HLN:Hid (∀ j,(DW j).length=N/\(DM j).length=N):=fun j=>by rw [HDW.out,HDM.out]; exact ZcH ⟨I,H,O,seed,B,steps,crate,decay,how,keep,clip⟩ n DI DO N j
 have HS:Hid (∀ q,Calls Tryz.prog 90 #[Cfg.val ⟨I,H,O,seed,B,steps,crate,decay,how,keep,clip⟩] q fun e w'=>∃ ga gb,e=.returned (.agg #[.slice (some ⟨ga,0,none⟩) N N,.slice (some ⟨gb,0,none⟩) N N])/\q.heap.size<=ga/\q.heap.size<=gb/\ga ≠ gb/\Arr w' ga N N (fun i=>(DW 0).getD i 0)/\Arr w' gb N N (fun i=>(DM 0).getD i 0)/\Below q.heap.size q w'):=fun q=>by
  refine (tstart_own ⟨I,H,O,seed,B,steps,crate,decay,how,keep,clip⟩ hc hs N hNI q).mono ?_
  rintro e w' ⟨ga,gb,he,h1,h2,h3,h4,h5,h6⟩
  refine ⟨ga,gb,he,h1,h2,h3,h4.congr (fun i hi=>?_),h5.congr (fun i hi=>?_),h6⟩
  ·rw [HDW.out]; exact (ZaS _ hi).symm
  ·rw [HDM.out]; exact (ZaS _ hi).symm
 have HNX:Hid (∀ (q:World) (k:Nat) (a1:Option Addr) (k1:Nat) (a2:Option Addr) (k2:Nat),Below w.heap.size w q->(k:Int)<=steps - 1->Lst q a1 N k1 (DW k)->Lst q a2 N k2 (DM k)->Calls Tryz.prog 91 #[Cfg.val ⟨I,H,O,seed,B,steps,crate,decay,how,keep,clip⟩,.slice a n cap,.agg #[.slice a1 N k1,.slice a2 N k2],.int .i64 k] q fun e w'=>∃ na d1 nb d2 bg R,e=.returned (.tuple #[.agg #[.slice (some ⟨na,0,none⟩) N d1,.slice (some ⟨nb,0,none⟩) N d2],.slice (some ⟨bg,0,none⟩) B B,.int .i64 R])/\q.heap.size<=na/\q.heap.size<=nb/\na ≠ nb/\(d1<=maxLen/\d2<=maxLen)/\Arr w' na d1 N (fun i=>(DW (k+1)).getD i 0)/\Arr w' nb d2 N (fun i=>(DM (k+1)).getD i 0)/\Below q.heap.size q w'):=fun q k a1 k1 a2 k2 hq hk l1 l2=>by
  have hr:=Zco ⟨I,H,O,seed,B,steps,crate,decay,how,keep,clip⟩ n DI DO N k
  rw [← HDW.out,← HDM.out] at hr
  refine (tnext_own I H O B k seed crate decay how keep clip hs steps hc N hN a n cap X DI DO a1 k1 (DW k) a2 k2 (DM k) q (hx.below hq nr) hn1 hn2 hex l1 l2 hr.1 hr.2 hk).mono ?_
  rintro e w' ⟨x1,e1,x2,e2,bg,he,g⟩
  refine ⟨x1,e1,x2,e2,bg,_,he,g.f1,g.f2,g.n12,g.cap,g.a1.congr (fun i hi=>?_),g.a2.congr (fun i hi=>?_),g.bel⟩
  ·rw [HDW.out (k+1),HDW.out k,HDM.out k]; exact (ZaS _ hi).symm
  ·rw [HDM.out (k+1),HDW.out k,HDM.out k]; exact (ZaS _ hi).symm
 have hal:=Zac w (.cells (Cfg.cells ⟨I,H,O,seed,B,steps,crate,decay,how,keep,clip⟩) 50)
 have CK:=HC.out _ hal
 have KB:Hid (∀ q,Below (w.alloc (.cells (Cfg.cells ⟨I,H,O,seed,B,steps,crate,decay,how,keep,clip⟩) 50)).heap.size (w.alloc (.cells (Cfg.cells ⟨I,H,O,seed,B,steps,crate,decay,how,keep,clip⟩) 50)) q->BoxC q w.heap.size ⟨I,H,O,seed,B,steps,crate,decay,how,keep,clip⟩):=fun q hq=>boxC hq (by simp)
 have hmk:=makeS nn (by omega)
 clear HC hx hex hc hN hNI hs HDW HDM
 simp only [Cfg.val,Cfg.cells] at *
 go_enter Tryz.func58,Tryz.ntmps58
 go_wp2_with fail
 refine CK.mono ?_
 rintro e w1 ⟨rfl,hw1⟩
 have KB1:Hid (∀ q,Below w1.heap.size w1 q->BoxC q w.heap.size ⟨I,H,O,seed,B,steps,crate,decay,how,keep,clip⟩):=fun q hq=>KB.out q (hw1.trans (hq.mono hw1.size))
 have hb1:=hal.trans (hw1.mono hal.size)
 have hlt1:w.heap.size < w1.heap.size:=by have:=hw1.size; simp at this; omega
 clear CK KB hw1 hal
 have T0:Below w1.heap.size w1 w1:=br
 have Ta:Below w1.heap.size w1 (w1.alloc (.cells (madeCells #[.slice none 0 0,.slice none 0 0] ((nn+1) * 2)) 106)):=T0.alloc T0.size _
 obtain ⟨c0,c1,c2,c3,c4,c5,c6,c7,c8,c9,c10⟩:=KB1.out _ T0
 obtain ⟨e0,e1,e2,e3,e4,e5,e6,e7,e8,e9,e10⟩:=KB1.out _ Ta
 dsimp only at c0 c1 c2 c3 c4 c5 c6 c7 c8 c9 c10 e0 e1 e2 e3 e4 e5 e6 e7 e8 e9 e10
 have rowz:=made2 w1 (.slice none 0 0) ((nn+1) * 2) 106
 have z0:¬ (nn:Int) < 0:=by omega
 have z1:¬ steps < (nn:Int):=by omega
 go_wp2_with fail
 refine (HS.out _).mono ?_
 rintro e w2 ⟨ga,gb,rfl,hga,hgb,hgn,l1,l2,hw2⟩
 have hgs:(w1.alloc (.cells (madeCells #[.slice none 0 0,.slice none 0 0] ((nn+1) * 2)) 106)).heap.size=w1.heap.size+1:=by simp
 rw [hgs] at hga hgb
 have T2:=Ta.trans (hw2.mono Ta.size)
 have row2:=rowz.of_block (hw2.block _ rowz.lt)
 have y0:w2.cell? ⟨w1.heap.size,0,none⟩=some (.slice none 0 0):=row2.cell (by omega)
 have y1:w2.cell? ⟨w1.heap.size,1,none⟩=some (.slice none 0 0):=row2.cell (by omega)
 have x0:=row2.frozen 0
 have x1:=row2.frozen 1
 have i0:(0:Int) < (nn:Int)+1:=by omega
 clear c0 c1 c2 c3 c4 c5 c6 c7 c8 c9 c10 e0 e1 e2 e3 e4 e5 e6 e7 e8 e9 e10 hw2 rowz HS hmk
 go_wp2_with fail
 have y1':(w2.setCell ⟨w1.heap.size,0,none⟩ (.slice (some ⟨ga,0,none⟩) N N)).cell? ⟨w1.heap.size,1,none⟩=some (.slice none 0 0):=(row2.set 0 _).cell (i:=1) (by omega)
 have row3:=outF_push (X:=fun _=>⟨some ⟨ga,0,none⟩,N,N,some ⟨gb,0,none⟩,N,N⟩) (outF_zero row2) ⟨some ⟨ga,0,none⟩,N,N,some ⟨gb,0,none⟩,N,N⟩
 have st3:StIn ((w2.setCell ⟨w1.heap.size,0,none⟩ (.slice (some ⟨ga,0,none⟩) N N)).setCell ⟨w1.heap.size,1,none⟩ (.slice (some ⟨gb,0,none⟩) N N)) w.heap.size w1.heap.size N 0 (fun j=>if j=0 then ⟨some ⟨ga,0,none⟩,N,N,some ⟨gb,0,none⟩,N,N⟩ else ⟨some ⟨ga,0,none⟩,N,N,some ⟨gb,0,none⟩,N,N⟩) DW DM:=⟨fun j hj=>by
  obtain rfl:j=0:=by omega
  exact ⟨ga,N,gb,N,rfl,by omega,by omega,by omega,by omega,hgn,⟨HNM.out,HNM.out⟩,(l1.setOther (a:=⟨w1.heap.size,0,none⟩) (show ga ≠ w1.heap.size by omega) _).setOther (a:=⟨w1.heap.size,1,none⟩) (show ga ≠ w1.heap.size by omega) _,(l2.setOther (a:=⟨w1.heap.size,0,none⟩) (show gb ≠ w1.heap.size by omega) _).setOther (a:=⟨w1.heap.size,1,none⟩) (show gb ≠ w1.heap.size by omega) _⟩,fun i j h1 h2=>by omega⟩
 have T3:Below w1.heap.size w1 ((w2.setCell ⟨w1.heap.size,0,none⟩ (.slice (some ⟨ga,0,none⟩) N N)).setCell ⟨w1.heap.size,1,none⟩ (.slice (some ⟨gb,0,none⟩) N N)):=(T2.setCell nr _).setCell nr _
 go_loopw [33] (fun v wr=>∃ (k:Nat) (Y:Nat->Exm),k<=nn/\v=.int .i64 k/\wr.rowIs w1.heap.size 106 ((nn+1) * 2) (outF Y (k+1))/\StIn wr w.heap.size w1.heap.size N k Y DW DM/\Below w1.heap.size w1 wr) (fun v _=>nn - (intOf v).toNat)
 case atStart=>exact ⟨0,_,Nat.zero_le _,rfl,row3,st3,T3⟩
 case round =>
  clear row3 st3 T3 y0 y1 y1' x0 x1 l1 l2 row2 T2 hga hgb hgs hgn
  obtain ⟨k,Y,hk,rfl,row,hst,hbel⟩:=hrel
  by_cases hlt:k < nn
  ·have cells:=outF_at row (show k < k+1 by omega) (by omega)
   obtain ⟨g1,xk,g2,xt,hxk,_,_,_,_,_,_,ar1,ar2⟩:=hst.1 k nr
   rw [hxk] at cells
   dsimp only at cells
   have lI:=ar1.lst
   have lO:=ar2.lst
   rw [Zcr (HLN.out k).1] at lI
   rw [Zcr (HLN.out k).2] at lO
   clear ar1 ar2
   obtain ⟨u0,u1⟩:=cells
   obtain ⟨m,HM⟩:∃ m:Nat,Hid (m=k+1):=⟨_,rfl⟩
   have em:(k:Int)+1=(m:Int):=by rw [HM.out]; omega
   have ew:IntKind.i64.wrap (m:Int)=(m:Int):=ZaK _ (by have:=HM.out; omega) (by have:=HM.out; omega)
   have m0:(0:Int)<=(m:Int):=by omega
   have m1:(m:Int) < (nn:Int)+1:=by have:=HM.out; omega
   have k0:(0:Int)<=(k:Int):=by omega
   have k2:(k:Int) < (nn:Int)+1:=by omega
   have mk:m < nn+1:=by have:=HM.out; omega
   have KS:Hid (∀ q,Below wr.heap.size wr q->q.cell? ⟨w.heap.size,0,none⟩=some (.int .i64 I)/\q.cell? ⟨w.heap.size,1,none⟩=some (.int .i64 H)/\q.cell? ⟨w.heap.size,2,none⟩=some (.int .i64 O)/\q.cell? ⟨w.heap.size,3,none⟩=some (.int .u64 seed)/\q.cell? ⟨w.heap.size,4,none⟩=some (.int .i64 B)/\q.cell? ⟨w.heap.size,5,none⟩=some (.int .i64 steps)/\q.cell? ⟨w.heap.size,6,none⟩=some (.int .i64 crate)/\q.cell? ⟨w.heap.size,7,none⟩=some (.int .i64 decay)/\q.cell? ⟨w.heap.size,8,none⟩=some (.int .i64 how)/\q.cell? ⟨w.heap.size,9,none⟩=some (.int .i64 keep)/\q.cell? ⟨w.heap.size,10,none⟩=some (.int .i64 clip)/\q.cell? ⟨w1.heap.size,k * 2,none⟩=some (.slice (some ⟨g1,0,none⟩) N xk)/\q.cell? ⟨w1.heap.size,k * 2+1,none⟩=some (.slice (some ⟨g2,0,none⟩) N xt)):=fun q hq=>by
    obtain ⟨x0,x1,x2,x3,x4,x5,x6,x7,x8,x9,x10⟩:=KB1.out q (hbel.trans (hq.mono hbel.size))
    exact ⟨x0,x1,x2,x3,x4,x5,x6,x7,x8,x9,x10,(hq.cell (p:=⟨w1.heap.size,k * 2,none⟩) row.lt).trans u0,(hq.cell (p:=⟨w1.heap.size,k * 2+1,none⟩) row.lt).trans u1⟩
   have bd:Below wr.heap.size wr wr.drew:=Zab br 1
   have S0:=KS.out _ bd
   have NX:=HNX.out wr.drew k (some ⟨g1,0,none⟩) xk (some ⟨g2,0,none⟩) xt (hb1.trans ((hbel.trans (bd.mono hbel.size)).mono hb1.size)) (by omega) (lI.below bd nr) (lO.below bd nr)
   have HNX2:Hid (Calls Tryz.prog 91 #[.agg #[.int .i64 I,.int .i64 H,.int .i64 O,.int .u64 seed,.int .i64 B,.int .i64 steps,.int .i64 crate,.int .i64 decay,.int .i64 how,.int .i64 keep,.int .i64 clip],.slice a n cap,.agg #[.slice (some ⟨g1,0,none⟩) N xk,.slice (some ⟨g2,0,none⟩) N xt],.int .i64 k] wr.drew fun e w'=>∃ na d1 nb d2 bg R,e=.returned (.tuple #[.agg #[.slice (some ⟨na,0,none⟩) N d1,.slice (some ⟨nb,0,none⟩) N d2],.slice (some ⟨bg,0,none⟩) B B,.int .i64 R])/\wr.drew.heap.size<=na/\wr.drew.heap.size<=nb/\na ≠ nb/\(d1<=maxLen/\d2<=maxLen)/\Arr w' na d1 N (fun i=>(DW (k+1)).getD i 0)/\Arr w' nb d2 N (fun i=>(DM (k+1)).getD i 0)/\Below wr.drew.heap.size wr.drew w'):=NX
   clear NX lI lO hxk
   go_wp2_with fail
   go_region_held3 (fun q=>q.cell? ⟨w.heap.size,0,none⟩=some (.int .i64 I)/\q.cell? ⟨w.heap.size,1,none⟩=some (.int .i64 H)/\q.cell? ⟨w.heap.size,2,none⟩=some (.int .i64 O)/\q.cell? ⟨w.heap.size,3,none⟩=some (.int .u64 seed)/\q.cell? ⟨w.heap.size,4,none⟩=some (.int .i64 B)/\q.cell? ⟨w.heap.size,5,none⟩=some (.int .i64 steps)/\q.cell? ⟨w.heap.size,6,none⟩=some (.int .i64 crate)/\q.cell? ⟨w.heap.size,7,none⟩=some (.int .i64 decay)/\q.cell? ⟨w.heap.size,8,none⟩=some (.int .i64 how)/\q.cell? ⟨w.heap.size,9,none⟩=some (.int .i64 keep)/\q.cell? ⟨w.heap.size,10,none⟩=some (.int .i64 clip)/\q.cell? ⟨w1.heap.size,k * 2,none⟩=some (.slice (some ⟨g1,0,none⟩) N xk)/\q.cell? ⟨w1.heap.size,k * 2+1,none⟩=some (.slice (some ⟨g2,0,none⟩) N xt)) (first | with_reducible exact S0 | with_reducible exact S2 | with_reducible exact S1)
    (first | (go_at_call 91; refine HNX2.out.mono ?_; rintro e v1 ⟨na,d1,nb,d2,bg,R,rfl,q1d,q2d,q3,q4,lw,lm,hv1d⟩; have q1:wr.heap.size<=na:=q1d; have q2:wr.heap.size<=nb:=q2d; have hv1:=undrew hv1d; have S1:=KS.out _ hv1; have row1:=row.of_block (hv1.block _ row.lt); have o0:v1.cell? ⟨w1.heap.size,m * 2,none⟩=some (.slice none 0 0):=outF_new row1 (by have:=HM.out; omega) (by omega); have o1:v1.cell? ⟨w1.heap.size,m * 2+1,none⟩=some (.slice none 0 0):=outF_new row1 (by have:=HM.out; omega) (by omega); have p0:=row1.frozen (m * 2); have p1:=row1.frozen (m * 2+1); have rowm:v1.rowIs w1.heap.size 106 ((nn+1) * 2) (outF Y m):=(by rw [HM.out]; exact row1); have row2:=outF_push rowm ⟨some ⟨na,0,none⟩,N,d1,some ⟨nb,0,none⟩,N,d2⟩; have o1':(v1.setCell ⟨w1.heap.size,m * 2,none⟩ (.slice (some ⟨na,0,none⟩) N d1)).cell? ⟨w1.heap.size,m * 2+1,none⟩=some (.slice none 0 0):=(by have h:=(rowm.set (m * 2) (.slice (some ⟨na,0,none⟩) N d1)).cell (i:=m * 2+1) (by omega); rw [if_neg (by omega)] at h; have h2:=o1; rw [rowm.cell (by omega)] at h2; exact h.trans h2); have p1':=(rowm.set (m * 2) (.slice (some ⟨na,0,none⟩) N d1)).frozen (m * 2+1); have bel2:Below w1.heap.size w1 ((v1.setCell ⟨w1.heap.size,m * 2,none⟩ (.slice (some ⟨na,0,none⟩) N d1)).setCell ⟨w1.heap.size,m * 2+1,none⟩ (.slice (some ⟨nb,0,none⟩) N d2)):=((hbel.trans (hv1.mono hbel.size)).setCell nr _).setCell nr _; have S2:(fun q:World=>q.cell? ⟨w.heap.size,0,none⟩=some (.int .i64 I)/\q.cell? ⟨w.heap.size,1,none⟩=some (.int .i64 H)/\q.cell? ⟨w.heap.size,2,none⟩=some (.int .i64 O)/\q.cell? ⟨w.heap.size,3,none⟩=some (.int .u64 seed)/\q.cell? ⟨w.heap.size,4,none⟩=some (.int .i64 B)/\q.cell? ⟨w.heap.size,5,none⟩=some (.int .i64 steps)/\q.cell? ⟨w.heap.size,6,none⟩=some (.int .i64 crate)/\q.cell? ⟨w.heap.size,7,none⟩=some (.int .i64 decay)/\q.cell? ⟨w.heap.size,8,none⟩=some (.int .i64 how)/\q.cell? ⟨w.heap.size,9,none⟩=some (.int .i64 keep)/\q.cell? ⟨w.heap.size,10,none⟩=some (.int .i64 clip)/\q.cell? ⟨w1.heap.size,k * 2,none⟩=some (.slice (some ⟨g1,0,none⟩) N xk)/\q.cell? ⟨w1.heap.size,k * 2+1,none⟩=some (.slice (some ⟨g2,0,none⟩) N xt)) ((v1.setCell ⟨w1.heap.size,m * 2,none⟩ (.slice (some ⟨na,0,none⟩) N d1)).setCell ⟨w1.heap.size,m * 2+1,none⟩ (.slice (some ⟨nb,0,none⟩) N d2)):=(by obtain ⟨x0,x1,x2,x3,x4,x5,x6,x7,x8,x9,x10⟩:=KB1.out _ bel2; have hc:=outF_at row2 (show k < m+1 by have:=HM.out; omega) (by omega); have hne:k ≠ m:=(by have:=HM.out; omega); have hk0:w1.heap.size=w1.heap.size:=rfl; exact ⟨x0,x1,x2,x3,x4,x5,x6,x7,x8,x9,x10,(World.cell?_setCell_other _ _ _ _ (by simp <;> omega)).trans ((World.cell?_setCell_other _ _ _ _ (by simp <;> omega)).trans S1.2.2.2.2.2.2.2.2.2.2.2.1),(World.cell?_setCell_other _ _ _ _ (by simp <;> omega)).trans ((World.cell?_setCell_other _ _ _ _ (by simp <;> omega)).trans S1.2.2.2.2.2.2.2.2.2.2.2.2)⟩); dsimp only at S2))
   have st2:=hst.below hv1
   have st4:=(st2.setO (m * 2) (.slice (some ⟨na,0,none⟩) N d1)).setO (m * 2+1) (.slice (some ⟨nb,0,none⟩) N d2)
   have hrl:=row.lt
   have hble:=hb1.size
   have lw4:=(lw.setOther (a:=⟨w1.heap.size,m * 2,none⟩) (show na ≠ w1.heap.size by omega) (.slice (some ⟨na,0,none⟩) N d1)).setOther (a:=⟨w1.heap.size,m * 2+1,none⟩) (show na ≠ w1.heap.size by omega) (.slice (some ⟨nb,0,none⟩) N d2)
   have lm4:=(lm.setOther (a:=⟨w1.heap.size,m * 2,none⟩) (show nb ≠ w1.heap.size by omega) (.slice (some ⟨na,0,none⟩) N d1)).setOther (a:=⟨w1.heap.size,m * 2+1,none⟩) (show nb ≠ w1.heap.size by omega) (.slice (some ⟨nb,0,none⟩) N d2)
   have st5:=st4.push (x:=⟨some ⟨na,0,none⟩,N,d1,some ⟨nb,0,none⟩,N,d2⟩) ⟨na,d1,nb,d2,rfl,by omega,by omega,by omega,by omega,q3,q4,lw4,lm4⟩ (fun t ht=>(hst.1 t ht).apart q1 q2)
   rw [← HM.out] at st5
   clear S0 S1 S2 KS bd HNX2 o0 o1 o1' p0 p1 p1' u0 u1 st2 st4 lw lm lw4 lm4 hv1 hv1d row1 rowm hst hbel row
   go_wp2_with fail
   go_roundw
   case rel=>exact ⟨m,_,by omega,by first | rfl | go_num,row2,st5,bel2⟩
   case measure=>simp [intOf]; have:=HM.out; omega
  ·obtain rfl:k=nn:=by omega
   go_wp2_with fail
   go_ret2
   exact ⟨w1.heap.size,Y,rfl,hb1.size,row,hst,hb1.trans (hbel.mono hb1.size)⟩
theorem tRun_good (I H O B:Nat) (seed crate decay how keep clip:Int) (hs:okW seed) (steps:Int) (hc:cfgB ⟨I,H,O,seed,B,steps,crate,decay,how,keep,clip⟩=true) (N:Nat) (hN:N=H * I+H+O * H+O) (a:Option Addr) (n cap:Nat) (X:Nat->Exm) (DI DO:Nat->List Int) (nn:Nat) (w:World)
  (hx:Exs w a n cap X DI DO) (hn1:1<=n) (hn2:n<=16) (hex:allEx ⟨I,H,O,seed,B,steps,crate,decay,how,keep,clip⟩ n X DI DO=true) (hnn:(nn:Int)<=steps) (HC:Hid (∀ q,Below w.heap.size w q->Calls Tryz.prog 83 #[Cfg.val ⟨I,H,O,seed,B,steps,crate,decay,how,keep,clip⟩,.slice a n cap] q fun e w'=>e=.returned (.int .i64 0)/\Below q.heap.size q w')) :
  Calls Tryz.prog 58 #[Cfg.val ⟨I,H,O,seed,B,steps,crate,decay,how,keep,clip⟩,.slice a n cap,.int .i64 nn] w fun e w'=>∃ g Y,e=.returned (.tuple #[.slice (some ⟨g,0,none⟩) (nn+1) (nn+1),.int .i64 0])/\Exs w' (some ⟨g,0,none⟩) (nn+1) (nn+1) Y (fun j=>(stateP ⟨I,H,O,seed,B,steps,crate,decay,how,keep,clip⟩ n DI DO N j).1) (fun j=>(stateP ⟨I,H,O,seed,B,steps,crate,decay,how,keep,clip⟩ n DI DO N j).2)/\Below w.heap.size w w':=by
 refine (tRun_own I H O B seed crate decay how keep clip hs steps hc N hN a n cap X DI DO nn w hx hn1 hn2 hex hnn HC).mono ?_
 rintro e w' ⟨g,Y,he,_,row,hst,hb⟩
 refine ⟨g,Y,he,⟨nr,.inr ⟨g,0,rfl,row.lt,fun j hj=>?_⟩⟩,hb⟩
 have hcl:=outF_at row hj nr
 rw [Nat.zero_add]
 have hl:=ZcH ⟨I,H,O,seed,B,steps,crate,decay,how,keep,clip⟩ n DI DO N j
 exact ⟨hcl.1,hcl.2,(hst.1 j (by omega)).inEx hl.1 hl.2⟩
def runE (c:Cfg) (n:Nat) (X:Nat->Exm) (DI DO:Nat->List Int) (m:Int):Int:=if courseI c n X DI DO=0 then (if inB m 0 c.steps=true then 0 else 1) else courseI c n X DI DO
def runN (c:Cfg) (n:Nat) (X:Nat->Exm) (DI DO:Nat->List Int) (m:Int):Nat:=if runE c n X DI DO m=0 then m.toNat+1 else 0
def stW (c:Cfg) (n:Nat) (DI DO:Nat->List Int) (j:Nat):List Int:=(stateP c n DI DO (sizeN c).toNat j).1
def stM (c:Cfg) (n:Nat) (DI DO:Nat->List Int) (j:Nat):List Int:=(stateP c n DI DO (sizeN c).toNat j).2
theorem Exs.nil (w:World) (a:Option Addr) (cap:Nat) (X:Nat->Exm) (DI DO:Nat->List Int):Exs w a 0 cap X DI DO:=⟨Nat.zero_le _,.inl rfl⟩
def noEx (_:Nat):Exm:=⟨none,0,0,none,0,0⟩
theorem tRun_c (c:Cfg) (a:Option Addr) (n cap:Nat) (m E:Int) (w:World) (hE:E ≠ 0) (HC:Hid (∀ q,Below w.heap.size w q->Calls Tryz.prog 83 #[c.val,.slice a n cap] q fun e w'=>e=.returned (.int .i64 E)/\Below q.heap.size q w')) :
  Calls Tryz.prog 58 #[c.val,.slice a n cap,.int .i64 m] w fun e w'=>e=.returned (.tuple #[.slice none 0 0,.int .i64 E])/\Below w.heap.size w w':=by
 have hal:=Zac w (.cells c.cells 50)
 have hne:(E != 0)=true:=by rw [bne_iff_ne]; exact hE
 have CK:=HC.out _ hal
 clear hE HC
 obtain ⟨i,h,o,seed,batch,steps,crate,decay,how,keep,clip⟩:=c
 simp only [Cfg.val,Cfg.cells] at *
 go_enter Tryz.func58,Tryz.ntmps58
 go_wp2_with fail
 refine CK.mono ?_
 rintro e w1 ⟨rfl,hw1⟩
 go_wp2_with fail
 go_ret2
 exact ⟨rfl,hal.trans (hw1.mono hal.size)⟩
theorem tRun_r (c:Cfg) (a:Option Addr) (n cap:Nat) (m:Int) (w:World) (hm:inB m 0 c.steps=false) (HC:Hid (∀ q,Below w.heap.size w q->Calls Tryz.prog 83 #[c.val,.slice a n cap] q fun e w'=>e=.returned (.int .i64 0)/\Below q.heap.size q w')) :
  Calls Tryz.prog 58 #[c.val,.slice a n cap,.int .i64 m] w fun e w'=>e=.returned (.tuple #[.slice none 0 0,.int .i64 1])/\Below w.heap.size w w':=by
 have hlow:¬ (0<=m/\m<=c.steps):=fun g=>by rw [in_yes g] at hm; cases hm
 have hal:=Zac w (.cells c.cells 50)
 have CK:=HC.out _ hal
 have KB:Hid (∀ q,Below (w.alloc (.cells c.cells 50)).heap.size (w.alloc (.cells c.cells 50)) q->BoxC q w.heap.size c):=fun q hq=>boxC hq (by simp)
 clear hm HC
 obtain ⟨i,h,o,seed,batch,steps,crate,decay,how,keep,clip⟩:=c
 simp only [Cfg.val,Cfg.cells] at *
 by_cases hn:m < 0
 ·go_enter Tryz.func58,Tryz.ntmps58
  go_wp2_with fail
  refine CK.mono ?_
  rintro e w1 ⟨rfl,hw1⟩
  go_wp2_with fail
  go_ret2
  exact ⟨rfl,hal.trans (hw1.mono hal.size)⟩
 ·have hge:steps < m:=by omega
  go_enter Tryz.func58,Tryz.ntmps58
  go_wp2_with fail
  refine CK.mono ?_
  rintro e w1 ⟨rfl,hw1⟩
  have c5:=(KB.out _ hw1).c5
  dsimp only at c5
  go_wp2_with fail
  go_ret2
  exact ⟨rfl,hal.trans (hw1.mono hal.size)⟩
theorem tRun_calls (c:Cfg) (hs:okW c.seed) (a:Option Addr) (n cap:Nat) (X:Nat->Exm) (DI DO:Nat->List Int) (m:Int) (w:World) (hx:Exs w a n cap X DI DO) :
  Calls Tryz.prog 58 #[c.val,.slice a n cap,.int .i64 m] w fun e w'=>∃ b k Y,e=.returned (.tuple #[.slice b (runN c n X DI DO m) k,.int .i64 (runE c n X DI DO m)])/\Exs w' b (runN c n X DI DO m) k Y (stW c n DI DO) (stM c n DI DO)/\Below w.heap.size w w':=by
 have HC:∀ q,Below w.heap.size w q->Calls Tryz.prog 83 #[c.val,.slice a n cap] q fun e w'=>e=.returned (.int .i64 (courseI c n X DI DO))/\Below q.heap.size q w':=fun q hq=>Zbd c a n cap X DI DO q (hx.below hq nr)
 have bad:∀ E:Int,E ≠ 0->runE c n X DI DO m=E->Calls Tryz.prog 58 #[c.val,.slice a n cap,.int .i64 m] w (fun e w'=>e=.returned (.tuple #[.slice none 0 0,.int .i64 E])/\Below w.heap.size w w') ->
   Calls Tryz.prog 58 #[c.val,.slice a n cap,.int .i64 m] w fun e w'=>∃ b k Y,e=.returned (.tuple #[.slice b (runN c n X DI DO m) k,.int .i64 (runE c n X DI DO m)])/\Exs w' b (runN c n X DI DO m) k Y (stW c n DI DO) (stM c n DI DO)/\Below w.heap.size w w':=by
  intro E hE he hcall
  refine hcall.mono ?_
  rintro e w' ⟨rfl,hb⟩
  unfold runN
  rw [he,if_neg hE]
  exact ⟨none,0,noEx,rfl,Exs.nil _ _ _ _ _ _,hb⟩
 by_cases hE:courseI c n X DI DO=0
 ·rw [hE] at HC
  obtain ⟨hc,hn1,hn2,hex⟩:=course_ok hE
  cases hm:inB m 0 c.steps with
  | false=>exact bad 1 (by decide) (by unfold runE; rw [if_pos hE,hm]; rfl) (tRun_r c a n cap m w hm HC)
  | true =>
    have hz:runE c n X DI DO m=0:=by unfold runE; rw [if_pos hE,hm]; rfl
    have hlow:=in_is hm
    obtain ⟨M,hM⟩:=Int.eq_ofNat_of_zero_le hlow.1
    have hRN:runN c n X DI DO m=M+1:=by unfold runN; rw [if_pos hz,hM]; rfl
    rw [hRN,hz]
    obtain ⟨⟨i1,i2⟩,⟨h1,h2⟩,⟨o1,o2⟩,⟨b1,b2⟩,_⟩:=Zal hc
    have hzn:=ZaU hc
    obtain ⟨N,hNz⟩:=Int.eq_ofNat_of_zero_le (show 0<=sizeN c by omega)
    have hNt:(sizeN c).toNat=N:=by rw [hNz]; rfl
    unfold stW stM
    rw [hNt]
    clear bad hRN hz hm
    subst hM
    obtain ⟨i,h,o,seed,batch,steps,crate,decay,how,keep,clip⟩:=c
    dsimp only at i1 i2 h1 h2 o1 o2 b1 b2 hs hlow
    obtain ⟨I,rfl⟩:=Int.eq_ofNat_of_zero_le (show 0<=i by omega)
    obtain ⟨H,rfl⟩:=Int.eq_ofNat_of_zero_le (show 0<=h by omega)
    obtain ⟨O,rfl⟩:=Int.eq_ofNat_of_zero_le (show 0<=o by omega)
    obtain ⟨B,rfl⟩:=Int.eq_ofNat_of_zero_le (show 0<=batch by omega)
    have hN:N=H * I+H+O * H+O:=by have:=hNz.symm; unfold sizeN at this; dsimp only at this; exact_mod_cast this
    refine (tRun_good I H O B seed crate decay how keep clip hs steps hc N hN a n cap X DI DO M w hx hn1 hn2 hex (by omega) HC).mono ?_
    rintro e w' ⟨g,Y,he,hY,hb⟩
    exact ⟨some ⟨g,0,none⟩,M+1,Y,he,hY,hb⟩
 ·exact bad _ hE (by unfold runE; rw [if_neg hE]) (tRun_c c a n cap m _ w hE HC)
end Go.Proofs.YthmiojmlaclgaaaGreatDoor.Fx
