/- What the law stands on: RefJrA AppsAny RefJrC AppsR RefJrD RefAudA. -/
import Derived.Test.YthmiojmlaclgaaaGreatDoorJ00
import Derived.Test.YthmiojmlaclgaaaGreatDoorJ05
import Derived.Test.YthmiojmlaclgaaaGreatDoorJ13
import Derived.Test.YthmiojmlaclgaaaGreatDoorJ27
import Derived.Test.YthmiojmlaclgaaaGreatDoorJ04
import Derived.Test.YthmiojmlaclgaaaGreatDoorJ23
import Derived.Test.YthmiojmlaclgaaaGreatDoorJ24
import Derived.Test.YthmiojmlaclgaaaGreatDoorJ09
import Derived.Deep.QuietTactic
import Derived.BigQuiet
import Derived.Deep.RegionHeld3
set_option maxRecDepth 100000
set_option maxHeartbeats 12800000
namespace Go.Proofs.YthmiojmlaclgaaaGreatDoor.Fx
open Go.RowKit
theorem rchain_calls (before:Int) (hbf:okW before) (x:Rcm) (bs:List Int) (w:World) (l:Lst w x.a x.n x.k bs) (hs:0<=x.s/\x.s<=9223372036854775807) (hr:0<=x.r/\x.r<=9223372036854775807) (hroot:okW x.root) (h8:x.n<=8) (hbs:∀ j,j < x.n->0<=bs.getD j 0/\bs.getD j 0<=9223372036854775807) :
  Calls Tryz.prog 106 #[.int .u64 before,x.val] w fun e w'=>e=.returned (.int .u64 (chainP before x.s x.r x.root bs))/\Below w.heap.size w w':=by
 have hal:=Zac w (.cells x.cells 111)
 have l':=l.below hal nr
 have hlen:=l.len
 have row:=Zao w (.int .i64 x.s) (.slice x.a x.n x.k) (.int .i64 x.r) (.int .u64 x.root) (.int .u64 x.chain) 111
 obtain ⟨s,a,n,k,r,root,chain⟩:=x
 simp only [Rcm.val,Rcm.cells] at *
 obtain ⟨s0,s1⟩:=hs
 obtain ⟨r0,r1⟩:=hr
 have HBS:Hid (∀ j,j < n->0<=bs.getD j 0/\bs.getD j 0<=9223372036854775807):=hbs
 have HOK:Hid (okL (chainL before s r root bs)):=by
  show okL _
  unfold chainL
  refine okL_app ?_ (fun i hi=>⟨(hbs i (by omega)).1,by have:=(hbs i (by omega)).2; omega⟩)
  intro i hi
  have h5:i < 5:=by simpa using hi
  rcases lt5 h5 with rfl | rfl | rfl | rfl | rfl
  ·exact hbf
  ·exact ⟨s0,by simp; omega⟩
  ·exact ⟨r0,by simp; omega⟩
  ·exact hroot
  ·exact ⟨by simp,by simp; omega⟩
 obtain ⟨W,HW⟩:∃ q,Hid (q=w.alloc (.cells #[.int .i64 s,.slice a n k,.int .i64 r,.int .u64 root,.int .u64 chain] 111)):=⟨_,rfl⟩
 have HWS:Hid (w.heap.size+1=W.heap.size):=by show _=_; rw [HW.out]; simp
 rw [← HW.out] at hal l' row
 obtain ⟨c0,c1,c2,c3,c4⟩:=Zam row
 have own0:=OwnW.lit W [before,s,r,root,(n:Int)] (by simp)
 have hl0:=Zac W (.cells #[.int .u64 before,.int .u64 s,.int .u64 r,.int .u64 root,.int .u64 (n:Int)] 48)
 have KC:Hid (∀ q,Below W.heap.size W q->q.cell? ⟨w.heap.size,1,none⟩=some (.slice a n k)):=fun q hq=>(Zam (row.of_block (hq.block _ row.lt))).c1
 have hlt0:=row.lt
 clear hbs l hbf hroot
 go_enter Tryz.func106,Tryz.ntmps106
 go_wp2_with fail
 rw [← HW.out]
 clear HW
 go_loopw [5,6] (fun v i wr=>∃ j:Nat,j<=n/\i=.int .i64 j/\OwnW W.heap.size wr v ([before,s,r,root,(n:Int)] ++ bs.take j)/\Below W.heap.size W wr) (fun _ i _=>n - (intOf i).toNat)
 case atStart=>exact ⟨0,Nat.zero_le _,rfl,by rw [HWS.out]; simpa using own0,hl0⟩
 case round =>
  clear own0 hl0 c0 c1 c2 c3 c4
  obtain ⟨j,hj,rfl,hown,hbel⟩:=hrel
  have hsz:=hbel.size
  have c1:=KC.out _ hbel
  by_cases hlt:j < n
  ·obtain ⟨b1,o1,y,rfl,_,c5,HX⟩:=l'.at1b hbel nr hlt
   have hy:=HBS.out j hlt
   rw [HX.out] at hy
   obtain ⟨y0,y1⟩:=hy
   have hl2:([before,s,r,root,(n:Int)] ++ bs.take j).length=5+j:=by simp; omega
   have al1:=hown.below (Zac wr (.cells #[.int .u64 y] 48))
   have bl1:=hbel.alloc hbel.size (.cells #[.int .u64 y] 48)
   have cn:=Zaf wr (.int .u64 y) 48
   have HH:Hid (wr.heap.size+1=(wr.alloc (.cells #[.int .u64 y] 48)).heap.size):=by show _=_; simp
   go_wp2_with (at_builtin; refine Zak (by rfl) _ _ (by rfl) W.heap.size _ ([before,s,r,root,(n:Int)] ++ bs.take j) y wr.heap.size W (by rfl) (by rfl) (by exact al1) (by exact cn) (by rw [hl2]; omega) (by exact bl1.size) (by exact bl1) ?_; intro v1 w2 hown1 hbel1)
   go_roundw
   case rel=>exact ⟨j+1,by omega,by go_num,hown1.congr (by rw [List.append_assoc,take_snocI (by omega) HX.out]),hbel1⟩
   case measure=>simp [intOf]; omega
  ·obtain rfl:j=n:=by omega
   obtain ⟨av,cv,rfl,lw⟩:=hown.lst' (n:=5+j) (by simp; omega)
   have hl3:[before,s,r,root,(j:Int)] ++ bs.take j=chainL before s r root bs:=by unfold chainL; rw [List.take_of_length_le (by omega),hlen]
   rw [hl3] at lw
   go_wp2_with fail
   refine (Zcx 6 ⟨by omega,by omega⟩ _ _ _ _ _ lw HOK.out (by omega)).mono ?_
   rintro e w3 ⟨rfl,hw3⟩
   go_wp2_with fail
   go_ret
   exact ⟨rfl,hal.trans ((hbel.trans (hw3.mono hbel.size)).mono hal.size)⟩

theorem rhead_calls (c:Cfg) (hc:cfgB c=true) (hs:okW c.seed) (N:Nat) (hN:(N:Int)=sizeN c) (a:Option Addr) (n cap:Nat) (X:Nat->Exm) (DI DO:Nat->List Int) (w:World) (hx:Exs w a n cap X DI DO) (hn2:n<=16) (hex:allEx c n X DI DO=true) :
  Calls Tryz.prog 104 #[c.val,.slice a n cap] w fun e w'=>e=.returned (.int .u64 (headP c n DI DO N))/\Below w.heap.size w w':=by
 have HOK:Hid (okL (headL c n DI DO N)):=headL_ok hc hs n DI DO N
 have HRS:Hid (∀ q,Calls Tryz.prog 103 #[c.val] q fun e w'=>∃ ga d1 gb d2,e=.returned (.agg #[.slice (some ⟨ga,0,none⟩) N d1,.slice (some ⟨gb,0,none⟩) N d2])/\q.heap.size<=ga/\q.heap.size<=gb/\Lst w' (some ⟨ga,0,none⟩) N d1 ((List.range N).map (startG c.seed))/\Lst w' (some ⟨gb,0,none⟩) N d2 ((List.range N).map zeroG)/\Below q.heap.size q w'):=fun q=>Zcz c hc hs N hN q
 have hNb:=ZaU hc
 have N4:4<=N:=by omega
 have N40:N<=40:=by omega
 have HEX:Hid (∀ j,j < n->(X j).n=(DI j).length/\(X j).m=(DO j).length/\1<=(X j).n/\(X j).n<=4/\(X j).m<=4):=fun j hj=>by
  have he:=exB_is (ZcG hex hj)
  obtain ⟨⟨i1,i2⟩,_,⟨o1,o2⟩,_⟩:=Zal hc
  obtain ⟨b,off,_,_,_,hin⟩:=hx.at hj
  exact ⟨hin.i.len.symm,hin.o.len.symm,by omega,by omega,by omega⟩
 obtain ⟨⟨i1,i2⟩,⟨h1,h2⟩,⟨o1,o2⟩,⟨b1,b2⟩,⟨s1,s2⟩,⟨r1,r2⟩,⟨d1,d2⟩,⟨w1,w2⟩,⟨k1,k2⟩,⟨q1,q2⟩⟩:=Zal hc
 have hal:=Zac w (.cells c.cells 50)
 have hx0:=hx.below hal nr
 obtain ⟨W,HW⟩:∃ q,Hid (q=w.alloc (.cells c.cells 50)):=⟨_,rfl⟩
 have KB:Hid (∀ q,Below W.heap.size W q->BoxC q w.heap.size c):=fun q hq=>by rw [HW.out] at hq; exact boxC hq (by simp)
 have HWS:Hid (w.heap.size+1=W.heap.size):=by show _=_; rw [HW.out]; simp
 rw [← HW.out] at hal hx0
 have hHP:headP c n DI DO N=ofP 5 (headL c n DI DO N):=rfl
 rw [hHP]
 have own0:=OwnW.lit W [c.i,c.h,c.o,c.seed,c.batch,c.steps,c.rate,c.decay,c.how,c.keep,c.clip] (by simp)
 have hl0:=Zac W (.cells #[.int .u64 c.i,.int .u64 c.h,.int .u64 c.o,.int .u64 c.seed,.int .u64 c.batch,.int .u64 c.steps,.int .u64 c.rate,.int .u64 c.decay,.int .u64 c.how,.int .u64 c.keep,.int .u64 c.clip] 48)
 have HHL:Hid (headL c n DI DO N=([c.i,c.h,c.o,c.seed,c.batch,c.steps,c.rate,c.decay,c.how,c.keep,c.clip] ++ (List.range n).map (exRoot DI DO)) ++ [rootP ((List.range N).map (startG c.seed)) ((List.range N).map zeroG) (N+N)]):=rfl
 obtain ⟨HL,hHLe⟩:∃ l,headL c n DI DO N=l:=⟨_,rfl⟩
 rw [hHLe] at HOK HHL ⊢
 clear hHLe hHP hx hex hc hNb hN
 obtain ⟨i,h,o,seed,batch,steps,crate,decay,how,keep,clip⟩:=c
 simp only [Cfg.val,Cfg.cells] at *
 obtain ⟨c0,c1,c2,c3,c4,c5,c6,c7,c8,c9,c10⟩:=KB.out _ br
 dsimp only at c0 c1 c2 c3 c4 c5 c6 c7 c8 c9 c10
 go_enter Tryz.func104,Tryz.ntmps104
 go_wp2_with fail
 rw [← HW.out]
 clear HW
 go_loopw [5,6] (fun v t wr=>∃ k:Nat,k<=n/\t=.int .i64 k/\OwnW W.heap.size wr v ([i,h,o,seed,batch,steps,crate,decay,how,keep,clip] ++ (List.range k).map (exRoot DI DO))/\Below W.heap.size W wr) (fun _ t _=>n - (intOf t).toNat)
 case atStart=>exact ⟨0,Nat.zero_le _,rfl,by rw [HWS.out]; simpa using own0,hl0⟩
 case round =>
  clear own0 hl0 c0 c1 c2 c3 c4 c5 c6 c7 c8 c9 c10
  obtain ⟨k,hk,rfl,hown,hbel⟩:=hrel
  have hsz:=hbel.size
  have hll:([i,h,o,seed,batch,steps,crate,decay,how,keep,clip] ++ (List.range k).map (exRoot DI DO)).length=11+k:=by simp; omega
  by_cases hlt:k < n
  ·obtain ⟨g1,g2,g3,g4,g5⟩:=HEX.out k hlt
   obtain ⟨xb,xo,rfl,e1,e2,hin⟩:=hx0.at hlt
   obtain ⟨x,hxk⟩:∃ x,X k=x:=⟨_,rfl⟩
   rw [hxk] at e1 e2 hin g1 g2 g3 g4 g5
   obtain ⟨xa,xn,xk,ya,yn,yk⟩:=x
   dsimp only at e1 e2 g1 g2 g3 g4 g5
   obtain ⟨lI,lO⟩:=hin
   dsimp only at lI lO
   obtain ⟨RT,HRT⟩:=nm (exRoot DI DO k)
   have HRE:Hid (rootP (DI k) (DO k) (xn+yn)=RT):=by show rootP (DI k) (DO k) (xn+yn)=RT; rw [← HRT.out,g1,g2]; rfl
   have HRo:Hid (∀ q va vc,Lst q va (xn+yn) vc (DI k ++ DO k)->Calls Tryz.prog 147 #[.slice va (xn+yn) vc] q fun e w'=>e=.returned (.int .u64 RT)/\Below q.heap.size q w'):=fun q va vc hq=>by
    have h:=rRoot_calls va (xn+yn) vc (DI k ++ DO k) q hq (by omega) (by omega)
    rw [show ofP 3 [((xn+yn:Nat):Int),treeP (leavesP (DI k ++ DO k) (xn+yn))]=RT from HRE.out] at h
    exact h
   have KS:Hid (∀ q,Below W.heap.size W q->q.cell? ⟨xb,xo+k * 2,none⟩=some (.slice xa xn xk)/\q.cell? ⟨xb,xo+k * 2+1,none⟩=some (.slice ya yn yk)):=fun q hq=>⟨(hq.cell (p:=⟨xb,xo+k * 2,none⟩) (Zas e1)).trans e1,(hq.cell (p:=⟨xb,xo+k * 2+1,none⟩) (Zas e2)).trans e2⟩
   have hBd:Below wr.heap.size wr wr.drew:=Below.drew br
   have hBW:Below W.heap.size W wr.drew:=Below.drew hbel
   have S0:=KS.out _ hBW
   have mI:=(lI.below hbel nr).drew
   have KO:Hid (∀ q,Below W.heap.size W q->Lst q ya yn yk (DO k)):=fun q hq=>lO.below hq nr
   have UP:Hid (∀ q,Below wr.heap.size wr q->Below W.heap.size W q):=fun q hq=>hbel.trans (hq.mono hbel.size)
   have HOW:Hid (∀ q,Below wr.heap.size wr q->OwnW W.heap.size q _ ([i,h,o,seed,batch,steps,crate,decay,how,keep,clip] ++ (List.range k).map (exRoot DI DO))):=fun q hq=>hown.below hq
   have k0:(0:Int)<=(k:Int):=by omega
   have kn:(k:Int) < (n:Int):=by omega
   have hl1:=lI.len
   have hl2:=lO.len
   clear lI lO e1 e2 hxk g1 g2
   go_wp2_with fail
   go_region_held3 (fun q=>q.cell? ⟨xb,xo+k * 2,none⟩=some (.slice xa xn xk)/\q.cell? ⟨xb,xo+k * 2+1,none⟩=some (.slice ya yn yk)) (first | with_reducible exact S7 | with_reducible exact S6 | with_reducible exact S5 | with_reducible exact S4 | with_reducible exact S3 | with_reducible exact S0)
    (first | (refine Zcq (by rfl) _ _ (by rfl) wr.heap.size _ [] (DI k) xa xn xk wr (by rfl) (by rfl) (by exact OwnI.nil _ _) (by exact mI) (by simp; omega) (by simp) (by exact hBd) ?_; intro v3 w3 hown3 hbel3; have S3:=KS.out _ (UP.out _ hbel3)) | (refine Zcq (by rfl) _ _ (by rfl) wr.heap.size _ ([] ++ DI k) (DO k) ya yn yk wr (by rfl) (by rfl) (by exact hown3) (by exact KO.out _ (UP.out _ hbel3)) (by simp; omega) (by exact hbel3.size) (by exact hbel3) ?_; intro v4 w4 hown4 hbel4; have S4:=KS.out _ (UP.out _ hbel4); obtain ⟨va,vc,hv4,l4⟩:=hown4.lst' (n:=xn+yn) (by simp; omega); subst hv4) | (go_at_call 147; refine (HRo.out _ va vc (by simpa using l4)).mono ?_; rintro e u5 ⟨rfl,hw5⟩; have T5:=hbel4.trans (hw5.mono hbel4.size); have S5:=KS.out _ (UP.out _ T5); have T6:=T5.alloc T5.size (.cells #[.int .u64 RT] 48); have S6:=KS.out _ (UP.out _ T6); have O6:=HOW.out _ T6; have B6:=UP.out _ T6) | (refine step_append_word (by rfl) _ _ (by rfl) W.heap.size _ ([i,h,o,seed,batch,steps,crate,decay,how,keep,clip] ++ (List.range k).map (exRoot DI DO)) RT u5.heap.size W (by rfl) (by rfl) (by exact O6) (by exact Zaf _ _ _) (by rw [hll]; omega) (by exact B6.size) (by exact B6) ?_; intro v7 w7 hown7 hbel7; have S7:=KS.out _ hbel7))
   all_goals
    go_wp2_with fail
    go_roundw
    case rel=>exact ⟨k+1,by omega,by go_num,hown7.congr (by rw [List.append_assoc,Zbh (exRoot DI DO) k RT HRT.out]),hbel7⟩
    case measure=>simp [intOf]; omega
  ·obtain rfl:k=n:=by omega
   obtain ⟨c0,c1,c2,c3,c4,c5,c6,c7,c8,c9,c10⟩:=KB.out _ hbel
   dsimp only at c0 c1 c2 c3 c4 c5 c6 c7 c8 c9 c10
   go_wp2_with fail
   refine (HRS.out _).mono ?_
   rintro e u1 ⟨ga,e1,gb,e2,rfl,hga,hgb,l1,l2,hu1⟩
   clear c0 c1 c2 c3 c4 c5 c6 c7 c8 c9 c10
   go_wp2_with fail
   refine (Zch ga 0 N e1 _ gb 0 N e2 _ _ l1 l2 (by omega) (by omega) (by omega)).mono ?_
   rintro e u2 ⟨rfl,hu2⟩
   have T2:=hu1.trans (hu2.mono hu1.size)
   have T3:=T2.alloc T2.size (.cells #[.int .u64 (rootP ((List.range N).map (startG seed)) ((List.range N).map zeroG) (N+N))] 48)
   have O3:=hown.below T3
   have B3:=hbel.trans (T3.mono hbel.size)
   go_wp2_with (at_builtin; refine Zak (by rfl) _ _ (by rfl) W.heap.size _ ([i,h,o,seed,batch,steps,crate,decay,how,keep,clip] ++ (List.range k).map (exRoot DI DO)) (rootP ((List.range N).map (startG seed)) ((List.range N).map zeroG) (N+N)) u2.heap.size W (by rfl) (by rfl) (by exact O3) (by exact Zaf _ _ _) (by rw [hll]; omega) (by exact B3.size) (by exact B3) ?_; intro v7 w7 hown7 hbel7; obtain ⟨va,vc,hv7,l7⟩:=hown7.lst' (n:=12+k) (by simp; omega); subst hv7; rw [← HHL.out] at l7)
   refine (Zcx 5 ⟨by omega,by omega⟩ _ _ _ _ _ l7 HOK.out (by omega)).mono ?_
   rintro e w8 ⟨rfl,hw8⟩
   go_wp2_with fail
   go_ret
   exact ⟨rfl,hal.trans ((hbel7.trans (hw8.mono hbel7.size)).mono hal.size)⟩
section
def rcCells (R:Nat->Rcm):Nat->List Value
 | 0=>[]
 | n+1=>rcCells R n ++ [.int .i64 (R n).s,.slice (R n).a (R n).n (R n).k,.int .i64 (R n).r,.int .u64 (R n).root,.int .u64 (R n).chain]
theorem rcCells_len (R:Nat->Rcm) (n:Nat):(rcCells R n).length=n * 5:=by
 induction n with
 | zero=>rfl
 | succ k ih=>simp [rcCells,ih]; omega
theorem rcCells_congr {X Y:Nat->Rcm} {n:Nat} (h:∀ i,i < n->X i=Y i):rcCells X n=rcCells Y n:=by
 induction n with
 | zero=>rfl
 | succ k ih=>simp only [rcCells]; rw [ih (fun i hi=>h i (by omega)),h k (by omega)]
theorem rcCells_at (R:Nat->Rcm) {n i:Nat} (h:i < n):(rcCells R n)[i * 5]?=some (.int .i64 (R i).s)/\(rcCells R n)[i * 5+1]?=some (.slice (R i).a (R i).n (R i).k)/\(rcCells R n)[i * 5+2]?=some (.int .i64 (R i).r)/\(rcCells R n)[i * 5+3]?=some (.int .u64 (R i).root)/\(rcCells R n)[i * 5+4]?=some (.int .u64 (R i).chain):=by
 induction n with
 | zero=>omega
 | succ k ih =>
   have hl:=rcCells_len R k
   simp only [rcCells]
   by_cases e:i=k
   ·subst e
    rw [List.getElem?_append_right (by omega),List.getElem?_append_right (by omega),List.getElem?_append_right (by omega),List.getElem?_append_right (by omega),List.getElem?_append_right (by omega),hl]
    simp
   ·have g:=ih (by omega)
    rw [List.getElem?_append_left (by omega),List.getElem?_append_left (by omega),List.getElem?_append_left (by omega),List.getElem?_append_left (by omega),List.getElem?_append_left (by omega)]
    exact g
def OwnR (base:Nat) (w:World) (v:Value) (n:Nat) (R:Nat->Rcm):Prop:=w.ownsRow base 111 5 v n (rcCells R n)
theorem OwnR.nil (base:Nat) (w:World) (R:Nat->Rcm):OwnR base w (.slice none 0 0) 0 R:=World.ownsRow_nil _ _ _ _
theorem OwnR.below {base:Nat} {w w':World} {v:Value} {n:Nat} {R:Nat->Rcm} (h:OwnR base w v n R) (hb:Below w.heap.size w w'):OwnR base w' v n R:=by
 refine ⟨h.1,?_⟩
 rcases h.2 with h0 | ⟨g,cap,cur,hv,hg,hh,r⟩
 ·exact .inl h0
 ·exact .inr ⟨g,cap,cur,hv,hg,by rw [hb.block g (Array.getElem?_eq_some_iff.1 hh).1]; exact hh,r⟩
theorem OwnR.congr {base:Nat} {w:World} {v:Value} {n:Nat} {X Y:Nat->Rcm} (h:OwnR base w v n X) (e:∀ i,i < n->X i=Y i):OwnR base w v n Y:=by
 unfold OwnR at *
 rw [← rcCells_congr e]
 exact h
theorem OwnR.blk {base:Nat} {w:World} {v:Value} {n:Nat} {R:Nat->Rcm} (h:OwnR base w v n R):v.ownBlock=none\/∃ g,v.ownBlock=some g/\base<=g/\g < w.heap.size:=by
 rcases h.2 with ⟨rfl,_⟩ | ⟨g,cap,cur,rfl,hg,hh,_⟩
 ·exact .inl rfl
 ·exact .inr ⟨g,rfl,hg,(Array.getElem?_eq_some_iff.1 hh).1⟩
theorem OwnR.recs {base:Nat} {w:World} {v:Value} {n:Nat} {R:Nat->Rcm} {D:Nat->List Int} (h:OwnR base w v n R) (hin:∀ i,i < n->Lst w (R i).a (R i).n (R i).k (D i)):∃ a c,v=.slice a n c/\Recs w a n c R D:=by
 obtain ⟨hl,h2⟩:=h
 rcases h2 with ⟨rfl,rfl⟩ | ⟨g,cap,cur,rfl,_,hh,hle,_,hsz,hcur⟩
 ·exact ⟨none,0,rfl,Recs.nil _ _ _ _ _⟩
 ·refine ⟨_,cap,rfl,hle,.inr ⟨g,0,rfl,(Array.getElem?_eq_some_iff.1 hh).1,fun i hi=>?_⟩⟩
  have hc:∀ j,j < n * 5->w.cell? ⟨g,j,none⟩=(rcCells R n)[j]?:=fun j hj=>by
   rw [← hcur,List.getElem?_take_of_lt hj]
   simp [World.cell?,hh]
  have g2:=rcCells_at R hi
  simp only [Nat.zero_add]
  exact ⟨(hc _ (by omega)).trans g2.1,(hc _ (by omega)).trans g2.2.1,(hc _ (by omega)).trans g2.2.2.1,(hc _ (by omega)).trans g2.2.2.2.1,(hc _ (by omega)).trans g2.2.2.2.2,hin i hi⟩
section
variable {w' W0:World} {ops:Array Oper} {o:Oper} {a:Act} {Q:Exit->Act->World->Prop}
theorem run_append_rc (ty:TypeId) (base:Nat) (v:Value) (n:Nat) (R:Nat->Rcm) (g:Nat) (hown:OwnR base w' v n R) (hrow:w'.rowIs g 111 5 (fn5 (.int .i64 (R n).s) (.slice (R n).a (R n).n (R n).k) (.int .i64 (R n).r) (.int .u64 (R n).root) (.int .u64 (R n).chain))) (hn:(n+1) * 56<=140737488355328) (hbase:base<=w'.heap.size) :
  ∃ v' w1,(Builtin.append_ #[81,81] ty #[v,.slice (some ⟨g,0,none⟩) 1 1]).run Tryz.prog w'=.ok v' w1/\OwnR base w1 v' (n+1) R/\w'.grownBy w1 v.ownBlock/\(v'.ownBlock=v.ownBlock\/v'.ownBlock=some w'.heap.size):=by
 obtain ⟨i0,hi,hz0,hz1,hz2⟩:=info_parts infoR
 obtain ⟨b0,b1,b2,b3,b4⟩:=Zam hrow
 obtain ⟨v',w1,hrun,h1,h2,_,h3⟩:=run_append_own_at (P:=Tryz.prog) w' base 81 ty 111 i0 (.agg #[.int .i64 0,.slice none 0 0,.int .i64 0,.int .u64 0,.int .u64 0]) 5 56 Tryz.underlying81 hi hz0 hz1 hz2 rfl (by decide) v n _ hown ⟨g,0,none⟩ 1 1 [.int .i64 (R n).s,.slice (R n).a (R n).n (R n).k,.int .i64 (R n).r,.int .u64 (R n).root,.int .u64 (R n).chain] rfl
  (by intro j u hj
      match j,hj with
      | 0,hj=>simp at hj; subst hj; simpa [Addr.add] using b0
      | 1,hj=>simp at hj; subst hj; simpa [Addr.add] using b1
      | 2,hj=>simp at hj; subst hj; simpa [Addr.add] using b2
      | 3,hj=>simp at hj; subst hj; simpa [Addr.add] using b3
      | 4,hj=>simp at hj; subst hj; simpa [Addr.add] using b4)
  (by intro u hu
      simp at hu
      rcases hu with rfl | rfl | rfl | rfl | rfl <;> rfl) (by unfold maxLen; omega) hn hbase
 exact ⟨v',w1,hrun,h1,h2,h3⟩
theorem wpList_append_rc {rest:List Oper} (hgd:o.guard=none) (s x:Operand) (ho:o.op=.call { callee:=.builtin .append,args:=#[s,x],argTypes:=#[81,81] })
  (base:Nat) (v:Value) (n:Nat) (R:Nat->Rcm) (g:Nat) (hs:a.eval s=v) (hx:a.eval x=.slice (some ⟨g,0,none⟩) 1 1) (hown:OwnR base w' v n R) (hrow:w'.rowIs g 111 5 (fn5 (.int .i64 (R n).s) (.slice (R n).a (R n).n (R n).k) (.int .i64 (R n).r) (.int .u64 (R n).root) (.int .u64 (R n).chain))) (hn:(n+1) * 56<=140737488355328) (hbase:base<=w'.heap.size)
  (h:∀ v' w1,OwnR base w1 v' (n+1) R->w'.grownBy w1 v.ownBlock->(v'.ownBlock=v.ownBlock\/v'.ownBlock=some w'.heap.size)->wpList Tryz.prog ops Q rest (a.put o.dst v') w1):wpList Tryz.prog ops Q (o :: rest) a w':=by
 obtain ⟨v',w1,hrun,h1,h2,h3⟩:=run_append_rc o.type base v n R g hown hrow hn hbase
 refine wpList_plain hgd fun K hK=>?_
 unfold Oper.wp
 simp [execOp,ho,resolve,invoke,builtin,hs,hx,hrun,Result.andThen]
 exact hK _ _ (h v' w1 h1 h2 h3)
end
end
theorem via7n {P:Prop} {F Q:Nat->Nat->Nat->Nat->Nat->World->Prop} (h1:(∀ g1 g2 g3 g4 GB q,F g1 g2 g3 g4 GB q->Q g1 g2 g3 g4 GB q)->P) (h2:∀ g1 g2 g3 g4 GB q,F g1 g2 g3 g4 GB q->Q g1 g2 g3 g4 GB q):P:=h1 h2
theorem alj {B:Nat} {W q:World} (h:Below B W q) (hB:B<=W.heap.size) {o:Obj}:Below B W (q.alloc o):=h.alloc (Nat.le_trans hB h.size) o
theorem setj {Bd:Nat} {W q:World} (h:Below Bd W q) {b i:Nat} (hb:Bd<=b) {v:Value}:Below Bd W (q.setCell ⟨b,i,none⟩ v):=h.setCell hb v
theorem Lst.blkJ {w:World} {g o n c:Nat} {xs:List Int} (h:Lst w (some ⟨g,o,none⟩) n c xs) (hn:0 < n):g < w.heap.size:=by
 obtain ⟨_,_,e,hs,_⟩:=h.at hn
 simp only [Option.some.injEq,Addr.mk.injEq,and_true] at e
 omega
def JrB (w:World) (B k:Nat) (v:Value) (R:Nat->Rcm) (DB:Nat->List Int):Prop:=∀ j,j < k->(R j).n=B/\Lst w (R j).a (R j).n (R j).k (DB j)/\∀ bg o,(R j).a=some ⟨bg,o,none⟩->v.ownBlock ≠ some bg
theorem JrB.below {w w':World} {B k:Nat} {v:Value} {R:Nat->Rcm} {DB:Nat->List Int} (h:JrB w B k v R DB) (hb:Below w.heap.size w w'):JrB w' B k v R DB:=fun j hj=>⟨(h j hj).1,(h j hj).2.1.below hb nr,(h j hj).2.2⟩
theorem JrB.offS {w:World} {B k:Nat} {v:Value} {R:Nat->Rcm} {DB:Nat->List Int} (h:JrB w B k v R DB) {p:Addr} {x:Option Addr} {y z:Nat} (hp:w.cell? p=some (.slice x y z)) (u:Value):JrB (w.setCell p u) B k v R DB:=fun j hj=>⟨(h j hj).1,(h j hj).2.1.setOff hp u,(h j hj).2.2⟩
theorem JrB.offB {w:World} {B k:Nat} {v:Value} {R:Nat->Rcm} {DB:Nat->List Int} (h:JrB w B k v R DB) (b:Nat) (hb:∀ j,j < k->FarB (R j).a b) (i:Nat) (u:Value):JrB (w.setCell ⟨b,i,none⟩ u) B k v R DB:=fun j hj=>⟨(h j hj).1,(h j hj).2.1.offB (hb j hj) i u,(h j hj).2.2⟩
theorem JrB.far {w:World} {B k:Nat} {v:Value} {R:Nat->Rcm} {DB:Nat->List Int} (h:JrB w B k v R DB) (hB:1<=B) {b:Nat} (hb:w.heap.size<=b):∀ j,j < k->FarB (R j).a b:=fun j hj bg o e=>by
 have hl:=(h j hj).2.1
 rw [e,(h j hj).1] at hl
 have:=hl.blkJ (by omega)
 omega
theorem JrB.grown {w w':World} {B k:Nat} {v v':Value} {R:Nat->Rcm} {DB:Nat->List Int} (h:JrB w B k v R DB) (hB:1<=B) (hg:w.grownBy w' v.ownBlock) (he:v'.ownBlock=v.ownBlock\/v'.ownBlock=some w.heap.size):JrB w' B k v' R DB:=fun j hj=>by
 obtain ⟨h1,hl,h3⟩:=h j hj
 have hl2:=hl
 obtain ⟨bg,o,e,hlt,hc⟩:=hl.at (by omega)
 have hne:=h3 bg o e
 refine ⟨h1,?_,fun bg' o' e'=>?_⟩
 ·refine ⟨hl2.1,hl2.2.1,.inr ⟨bg,o,e,Nat.lt_of_lt_of_le hlt hg.size,fun i hi=>hg.cell (hc i hi) (fun g=>hne g.symm)⟩⟩
 ·rw [e] at e'
  simp only [Option.some.injEq,Addr.mk.injEq,and_true] at e'
  rcases he with h | h
  ·rw [h,← e'.1]; exact hne
  ·rw [h,← e'.1]; intro g; simp at g; omega
theorem JrB.push {w:World} {B k:Nat} {v:Value} {R R2:Nat->Rcm} {DB:Nat->List Int} (h:JrB w B k v R DB) (hR:∀ j,j < k->R2 j=R j) (hn:(R2 k).n=B) (hl:Lst w (R2 k).a (R2 k).n (R2 k).k (DB k)) (hf:∀ bg o,(R2 k).a=some ⟨bg,o,none⟩->v.ownBlock ≠ some bg):JrB w B (k+1) v R2 DB:=fun j hj=>by
 by_cases e:j=k
 ·subst e; exact ⟨hn,hl,hf⟩
 ·rw [hR j (by omega)]; exact h j (by omega)
theorem OwnR.form {base:Nat} {w:World} {v:Value} {n:Nat} {R:Nat->Rcm} (h:OwnR base w v n R):∃ a c,v=.slice a n c:=by
 rcases h.2 with ⟨rfl,rfl⟩ | ⟨g,cap,cur,rfl,_⟩
 ·exact ⟨none,0,rfl⟩
 ·exact ⟨_,cap,rfl⟩
theorem OwnR.setOther {base:Nat} {w:World} {v:Value} {n:Nat} {R:Nat->Rcm} (h:OwnR base w v n R) {b:Nat} (hb:v.ownBlock ≠ some b) (i:Nat) (u:Value):OwnR base (w.setCell ⟨b,i,none⟩ u) v n R:=by
 refine ⟨h.1,?_⟩
 rcases h.2 with h0 | ⟨g,cap,cur,hv,hg,hh,r⟩
 ·exact .inl h0
 ·have hne:g ≠ (⟨b,i,none⟩:Addr).block:=fun e=>hb (by rw [hv]; simp [Value.ownBlock,e])
  exact .inr ⟨g,cap,cur,hv,hg,by rw [Go.Deep.blk_setCell_other _ _ _ _ hne]; exact hh,r⟩
theorem Lst.grownO {w w':World} {g o n c:Nat} {xs:List Int} {row:Option Nat} (h:Lst w (some ⟨g,o,none⟩) n c xs) (hg:w.grownBy w' row) (hne:row ≠ some g):Lst w' (some ⟨g,o,none⟩) n c xs:=by
 refine ⟨h.1,h.2.1,?_⟩
 rcases h.2.2 with h0 | ⟨b,off,e,hs,hc⟩
 ·exact .inl h0
 ·simp only [Option.some.injEq,Addr.mk.injEq,and_true] at e
  obtain ⟨rfl,rfl⟩:=e
  exact .inr ⟨g,o,rfl,Nat.lt_of_lt_of_le hs hg.size,fun i hi=>hg.cell (hc i hi) (fun e=>hne e.symm)⟩
theorem ne_new {x y:Option Nat} {t M:Nat} (hat:x=y\/x=some M) (h1:y ≠ some t) (h2:t < M):x ≠ some t:=by
 rcases hat with h | h
 ·rw [h]; exact h1
 ·rw [h]; intro e; simp at e; omega
theorem rjournal_calls (I H O B:Nat) (seed crate decay how keep clip:Int) (hs:okW seed) (steps:Int) (hc:cfgB ⟨I,H,O,seed,B,steps,crate,decay,how,keep,clip⟩=true) (N:Nat) (hN:N=H * I+H+O * H+O) (a:Option Addr) (n cap:Nat) (X:Nat->Exm) (DI DO:Nat->List Int) (nn:Nat) (w:World)
  (hx:Exs w a n cap X DI DO) (hn1:1<=n) (hn2:n<=16) (hex:allEx ⟨I,H,O,seed,B,steps,crate,decay,how,keep,clip⟩ n X DI DO=true) (hnn:(nn:Int)<=steps) :
  Calls Tryz.prog 67 #[Cfg.val ⟨I,H,O,seed,B,steps,crate,decay,how,keep,clip⟩,.slice a n cap,.int .i64 nn] w fun e w'=>∃ b k R,e=.returned (.slice b nn k)/\Recs w' b nn k R (jrBatch ⟨I,H,O,seed,B,steps,crate,decay,how,keep,clip⟩ n)/\JrN nn R (fun j=>rateV ⟨I,H,O,seed,B,steps,crate,decay,how,keep,clip⟩ j) (jrRoot ⟨I,H,O,seed,B,steps,crate,decay,how,keep,clip⟩ n DI DO N) (jrChain ⟨I,H,O,seed,B,steps,crate,decay,how,keep,clip⟩ n DI DO N)/\(∀ j,j < nn->(R j).n=B)/\Below w.heap.size w w':=by
 obtain ⟨⟨i1,i2⟩,⟨h1,h2⟩,⟨p1,p2⟩,⟨b1,b2⟩,⟨s1,s2⟩,_⟩:=Zal hc
 dsimp only at i1 i2 h1 h2 p1 p2 b1 b2 s1 s2
 have hN4:4<=N/\N<=40:=by
  have:=Zae (show H<=4 by omega) (show I<=4 by omega)
  have:=Zae (show O<=4 by omega) (show H<=4 by omega)
  have:1<=H * I:=Nat.mul_pos (by omega) (by omega)
  have:1<=O * H:=Nat.mul_pos (by omega) (by omega)
  omega
 obtain ⟨DW,HDW⟩:∃ f:Nat->List Int,Hid (∀ j,f j=(stateP ⟨I,H,O,seed,B,steps,crate,decay,how,keep,clip⟩ n DI DO N j).1):=⟨_,fun _=>rfl⟩
 obtain ⟨DM,HDM⟩:∃ f:Nat->List Int,Hid (∀ j,f j=(stateP ⟨I,H,O,seed,B,steps,crate,decay,how,keep,clip⟩ n DI DO N j).2):=⟨_,fun _=>rfl⟩
 obtain ⟨DB,HDB⟩:=nm (α:=Nat->List Int) (jrBatch ⟨I,H,O,seed,B,steps,crate,decay,how,keep,clip⟩ n)
 obtain ⟨RV,HRV⟩:=nm (α:=Nat->Int) ((fun j:Nat=>rateV ⟨I,H,O,seed,B,steps,crate,decay,how,keep,clip⟩ j))
 obtain ⟨RO,HRO⟩:=nm (α:=Nat->Int) (jrRoot ⟨I,H,O,seed,B,steps,crate,decay,how,keep,clip⟩ n DI DO N)
 obtain ⟨CH,HCH⟩:=nm (α:=Nat->Int) (jrChain ⟨I,H,O,seed,B,steps,crate,decay,how,keep,clip⟩ n DI DO N)
 have HCS:Hid (∀ k:Nat,CH (k+1)=chainP (CH k) (k:Int) (RV k) (RO k) (DB k)):=fun k=>by rw [← HCH.out,← HRV.out,← HRO.out,← HDB.out]; rfl
 have HC0:Hid (headP ⟨I,H,O,seed,B,steps,crate,decay,how,keep,clip⟩ n DI DO N=CH 0):=by show headP ⟨I,H,O,seed,B,steps,crate,decay,how,keep,clip⟩ n DI DO N=CH 0; rw [← HCH.out]; rfl
 have HCW:Hid (∀ k,okW (CH k)):=fun k=>by
  rw [← HCH.out]
  cases k with
  | zero=>exact okP_W (ZbO _ _)
  | succ k=>exact okP_W (ZbO _ _)
 have HRB:Hid (∀ k:Nat,(k:Int)<=steps - 1->0<=RV k/\RV k<=9223372036854775807):=fun k hk=>by
  rw [← HRV.out]
  have:=in_is (rateV_in hc k (by omega) hk)
  dsimp only
  exact ⟨this.1,by omega⟩
 have HDN:Hid (∀ k j,j < B->0<=(DB k).getD j 0/\(DB k).getD j 0<=9223372036854775807):=fun k j hj=>by
  rw [← HDB.out]
  obtain ⟨t,ht,e⟩:=batch_in seed B n (k * B) hn1 hj
  unfold jrBatch
  dsimp only
  rw [show ((B:Int).toNat)=B from rfl,e]
  omega
 rw [HDB.out,HRV.out,HRO.out,HCH.out]
 have hNI:(N:Int)=sizeN ⟨I,H,O,seed,B,steps,crate,decay,how,keep,clip⟩:=by unfold sizeN; dsimp only; rw [hN]; push_cast; rfl
 have HS:Hid (∀ q,Calls Tryz.prog 103 #[Cfg.val ⟨I,H,O,seed,B,steps,crate,decay,how,keep,clip⟩] q fun e w'=>∃ ga d1 gb d2,e=.returned (.agg #[.slice (some ⟨ga,0,none⟩) N d1,.slice (some ⟨gb,0,none⟩) N d2])/\q.heap.size<=ga/\q.heap.size<=gb/\Lst w' (some ⟨ga,0,none⟩) N d1 (DW 0)/\Lst w' (some ⟨gb,0,none⟩) N d2 (DM 0)/\Below q.heap.size q w'):=fun q=>by
  rw [HDW.out,HDM.out]
  exact Zcz ⟨I,H,O,seed,B,steps,crate,decay,how,keep,clip⟩ hc hs N hNI q
 have HHD:Hid (∀ q,Below w.heap.size w q->Calls Tryz.prog 104 #[Cfg.val ⟨I,H,O,seed,B,steps,crate,decay,how,keep,clip⟩,.slice a n cap] q fun e w'=>e=.returned (.int .u64 (CH 0))/\Below q.heap.size q w'):=fun q hq=>by
  have:=rhead_calls ⟨I,H,O,seed,B,steps,crate,decay,how,keep,clip⟩ hc hs N hNI a n cap X DI DO q (hx.below hq nr) hn2 hex
  rw [HC0.out] at this
  exact this
 have HNX:Hid (∀ k:Nat,(k:Int)<=steps - 1->∀ q x1 k1 x2 k2,Below w.heap.size w q->Lst q (some ⟨x1,0,none⟩) N k1 (DW k)->Lst q (some ⟨x2,0,none⟩) N k2 (DM k)->Calls Tryz.prog 105 #[Cfg.val ⟨I,H,O,seed,B,steps,crate,decay,how,keep,clip⟩,.slice a n cap,.agg #[.slice (some ⟨x1,0,none⟩) N k1,.slice (some ⟨x2,0,none⟩) N k2],.int .i64 k] q fun e w'=>∃ ga d1 gb d2 a3 k3,e=.returned (.tuple #[.agg #[.slice (some ⟨ga,0,none⟩) N d1,.slice (some ⟨gb,0,none⟩) N d2],.agg #[.int .i64 k,.slice a3 B k3,.int .i64 (RV k),.int .u64 (RO k),.int .u64 0]])/\q.heap.size<=ga/\q.heap.size<=gb/\Lst w' (some ⟨ga,0,none⟩) N d1 (DW (k+1))/\Lst w' (some ⟨gb,0,none⟩) N d2 (DM (k+1))/\Lst w' a3 B k3 (DB k)/\(∀ bg o,a3=some ⟨bg,o,none⟩->q.heap.size<=bg)/\Below q.heap.size q w'):=fun k hk q x1 k1 x2 k2 hq l1 l2=>by
  refine (rnext_calls I H O B k seed crate decay how keep clip hs steps hc N hN a n cap X DI DO x1 0 k1 (DW k) x2 0 k2 (DM k) q (hx.below hq nr) hn1 hn2 hex l1 l2 hk _ _ _ rfl rfl rfl).mono ?_
  rintro e w' ⟨ga,e1,gb,e2,a3,k3,he,hga,hgb,lw,lm,lb,hnew,hb⟩
  refine ⟨ga,e1,gb,e2,a3,k3,?_,hga,hgb,?_,?_,?_,hnew,hb⟩
  ·rw [he,← HRV.out,← HRO.out,HDW.out,HDM.out]; rfl
  ·rw [HDW.out (k+1)]; rw [HDW.out,HDM.out] at lw; exact lw
  ·rw [HDM.out (k+1)]; rw [HDW.out,HDM.out] at lm; exact lm
  ·rw [← HDB.out]; exact lb
 have HCN:Hid (∀ (k:Nat) (a3:Option Addr) (k3:Nat) (q:World),(k:Int)<=steps - 1->Lst q a3 B k3 (DB k)->Calls Tryz.prog 106 #[.int .u64 (CH k),.agg #[.int .i64 k,.slice a3 B k3,.int .i64 (RV k),.int .u64 (RO k),.int .u64 0]] q fun e w'=>e=.returned (.int .u64 (CH (k+1)))/\Below q.heap.size q w'):=fun k a3 k3 q hk hl=>by
  have hRO:okW (RO k):=by rw [← HRO.out]; exact rootP_W _ _ _
  have:=rchain_calls (CH k) (HCW.out k) ⟨(k:Int),a3,B,k3,RV k,RO k,0⟩ (DB k) q hl ⟨by show (0:Int)<=(k:Int); omega,by show (k:Int)<=_; omega⟩ (HRB.out k hk) hRO (by show B<=8; omega) (fun j hj=>HDN.out k j hj)
  rw [HCS.out k]
  exact this
 have hal:=Zac w (.cells (Cfg.cells ⟨I,H,O,seed,B,steps,crate,decay,how,keep,clip⟩) 50)
 obtain ⟨W,HW⟩:∃ q,Hid (q=w.alloc (.cells (Cfg.cells ⟨I,H,O,seed,B,steps,crate,decay,how,keep,clip⟩) 50)):=⟨_,rfl⟩
 have KB:Hid (∀ q,Below W.heap.size W q->BoxC q w.heap.size ⟨I,H,O,seed,B,steps,crate,decay,how,keep,clip⟩):=fun q hq=>by rw [HW.out] at hq; exact boxC hq (by simp)
 have hbW:Below w.heap.size w W:=by rw [HW.out]; exact hal
 have hltW:w.heap.size < W.heap.size:=by rw [HW.out]; simp
 clear hx hex hc hN hNI hs HDW HDM HDB HRV HRO HCH HCS HC0 HCW HRB HDN hal
 simp only [Cfg.val,Cfg.cells] at *
 have KS:Hid (∀ q,Below W.heap.size W q->q.cell? ⟨w.heap.size,0,none⟩=some (.int .i64 I)/\q.cell? ⟨w.heap.size,1,none⟩=some (.int .i64 H)/\q.cell? ⟨w.heap.size,2,none⟩=some (.int .i64 O)/\q.cell? ⟨w.heap.size,3,none⟩=some (.int .u64 seed)/\q.cell? ⟨w.heap.size,4,none⟩=some (.int .i64 B)/\q.cell? ⟨w.heap.size,5,none⟩=some (.int .i64 steps)/\q.cell? ⟨w.heap.size,6,none⟩=some (.int .i64 crate)/\q.cell? ⟨w.heap.size,7,none⟩=some (.int .i64 decay)/\q.cell? ⟨w.heap.size,8,none⟩=some (.int .i64 how)/\q.cell? ⟨w.heap.size,9,none⟩=some (.int .i64 keep)/\q.cell? ⟨w.heap.size,10,none⟩=some (.int .i64 clip)):=fun q hq=>by
  obtain ⟨x0,x1,x2,x3,x4,x5,x6,x7,x8,x9,x10⟩:=KB.out q hq
  exact ⟨x0,x1,x2,x3,x4,x5,x6,x7,x8,x9,x10⟩
 have T0:Below W.heap.size W W:=br
 have hle:W.heap.size<=W.heap.size:=nr
 have Ba:Below W.heap.size W W.drew:=Below.drew T0
 have Bb:Below W.heap.size W (W.alloc (.cells #[.slice none 0 0,.slice none 0 0] 106)).drew:=Below.drew (alj T0 hle)
 have sbS:(W.alloc (.cells #[.slice none 0 0,.slice none 0 0] 106)).drew.rowIs W.heap.size 106 2 (fn2 (.slice none 0 0) (.slice none 0 0)):=Zaj W (.slice none 0 0) (.slice none 0 0) 106
 have HHD2:Hid (∀ q,Below W.heap.size W q->Calls Tryz.prog 104 #[.agg #[.int .i64 I,.int .i64 H,.int .i64 O,.int .u64 seed,.int .i64 B,.int .i64 steps,.int .i64 crate,.int .i64 decay,.int .i64 how,.int .i64 keep,.int .i64 clip],.slice a n cap] q fun e w'=>e=.returned (.int .u64 (CH 0))/\Below q.heap.size q w'):=fun q hq=>HHD.out q (hbW.trans (hq.mono hbW.size))
 go_enter Tryz.func67,Tryz.ntmps67
 go_wp2_with fail
 rw [← HW.out]
 clear HW
 apply via7n (F:=OutAt W N (DW 0) (DM 0))
 ·intro key
  go_region_held3 (fun q=>q.cell? ⟨w.heap.size,0,none⟩=some (.int .i64 I)/\q.cell? ⟨w.heap.size,1,none⟩=some (.int .i64 H)/\q.cell? ⟨w.heap.size,2,none⟩=some (.int .i64 O)/\q.cell? ⟨w.heap.size,3,none⟩=some (.int .u64 seed)/\q.cell? ⟨w.heap.size,4,none⟩=some (.int .i64 B)/\q.cell? ⟨w.heap.size,5,none⟩=some (.int .i64 steps)/\q.cell? ⟨w.heap.size,6,none⟩=some (.int .i64 crate)/\q.cell? ⟨w.heap.size,7,none⟩=some (.int .i64 decay)/\q.cell? ⟨w.heap.size,8,none⟩=some (.int .i64 how)/\q.cell? ⟨w.heap.size,9,none⟩=some (.int .i64 keep)/\q.cell? ⟨w.heap.size,10,none⟩=some (.int .i64 clip)) ((with_reducible refine KS.out _ ?_; iterate 12 (first | done | with_reducible exact V2 | with_reducible exact V1 | with_reducible exact T0 | with_reducible refine Below.drew ?_ | with_reducible refine alj ?_ hle | (with_reducible refine setj ?_ ?_; rotate_left; omega))))
   (first | (go_at_call 103; refine (HS.out _).mono ?_; rintro e v1 ⟨ga,d1,gb,d2,rfl,hga,hgb,l1,l2,hv1⟩; have V1:Below W.heap.size W v1:=(by first | exact Ba.trans (hv1.mono Ba.size) | exact Bb.trans (hv1.mono Bb.size)); have hV1:=V1.size; (try (have zs1:=sbS.of_block (hv1.block _ sbS.lt))); have zs1b:=Zaj v1 (.slice none 0 0) (.slice none 0 0) 106; have V1a:=alj V1 hle (o:=(.cells #[.slice none 0 0,.slice none 0 0] 106))) | (go_at_call 104; (first | refine (HHD2.out _ V1).mono ?_ | refine (HHD2.out _ V1a).mono ?_); rintro e v2 ⟨rfl,hv2⟩; have V2:Below W.heap.size W v2:=(by first | exact V1.trans (hv2.mono V1.size) | exact V1a.trans (hv2.mono V1a.size)); have hV2:=V2.size; have m1:Lst v2 (some ⟨ga,0,none⟩) N d1 (DW 0):=(by first | exact l1.below hv2 nr | exact (l1.below (Zac v1 (.cells #[.slice none 0 0,.slice none 0 0] 106)) nr).below hv2 nr); have m2:Lst v2 (some ⟨gb,0,none⟩) N d2 (DM 0):=(by first | exact l2.below hv2 nr | exact (l2.below (Zac v1 (.cells #[.slice none 0 0,.slice none 0 0] 106)) nr).below hv2 nr); first | (have zs:=zs1.of_block (hv2.block _ zs1.lt); obtain ⟨y0,y1⟩:=Zaa zs; have f0:=zs.frozen 0; have f1:=zs.frozen 1) | (have zs:=zs1b.of_block (hv2.block _ zs1b.lt); obtain ⟨y0,y1⟩:=Zaa zs; have f0:=zs.frozen 0; have f1:=zs.frozen 1) | skip))
  all_goals
   have ba:=l1.blkJ (by omega)
   have bb:=l2.blkJ (by omega)
   simp at hga hgb
   have ba2:=m1.blkJ (by omega)
   have bb2:=m2.blkJ (by omega)
  ·have f:OutAt W N (DW 0) (DM 0) ga d1 gb d2 v2.heap.size (v2.alloc (.cells #[.slice (some ⟨ga,0,none⟩) N d1,.slice (some ⟨gb,0,none⟩) N d2] 106)):=⟨Zaj _ _ _ _,hV2,by omega,by omega,m1.below (Zac _ _) nr,m2.below (Zac _ _) nr,alj V2 hle⟩
   generalize v2.alloc (.cells #[.slice (some ⟨ga,0,none⟩) N d1,.slice (some ⟨gb,0,none⟩) N d2] 106)=q at f ⊢
   generalize v2.heap.size=SB at f ⊢
   exact key ga d1 gb d2 SB q f
  ·exact key ga d1 gb d2 _ _ ⟨ZaB zs _ _,hV1,by omega,by omega,(m1.setFar (a:=⟨v1.heap.size,0,none⟩) (show ga ≠ v1.heap.size by omega) _).setFar (a:=⟨v1.heap.size,1,none⟩) (show ga ≠ v1.heap.size by omega) _,(m2.setFar (a:=⟨v1.heap.size,0,none⟩) (show gb ≠ v1.heap.size by omega) _).setFar (a:=⟨v1.heap.size,1,none⟩) (show gb ≠ v1.heap.size by omega) _,setj (setj V2 hV1) hV1⟩
  ·exact key ga d1 gb d2 _ _ ⟨ZaB zs _ _,nr,by omega,by omega,(m1.setFar (a:=⟨W.heap.size,0,none⟩) (show ga ≠ W.heap.size by omega) _).setFar (a:=⟨W.heap.size,1,none⟩) (show ga ≠ W.heap.size by omega) _,(m2.setFar (a:=⟨W.heap.size,0,none⟩) (show gb ≠ W.heap.size by omega) _).setFar (a:=⟨W.heap.size,1,none⟩) (show gb ≠ W.heap.size by omega) _,setj (setj V2 nr) nr⟩
 ·rintro ga d1 gb d2 SB q ⟨srow,hSB,hga,hgb,la,lb,bel⟩
  clear Ba Bb sbS HHD2 HHD HS T0
  go_wp2_with fail
  go_loopw [8,9,10] (fun cw v t wr=>∃ (k ga d1 gb d2:Nat) (sa:Option Addr) (sc:Nat) (R:Nat->Rcm),k<=nn/\t=.int .i64 k/\cw=.int .u64 (CH k)/\v=.slice sa k sc/\OwnR W.heap.size wr (.slice sa k sc) k R/\JrB wr B k (.slice sa k sc) R DB/\Hid (JrN k R RV RO CH)/\wr.rowIs SB 106 2 (fn2 (.slice (some ⟨ga,0,none⟩) N d1) (.slice (some ⟨gb,0,none⟩) N d2))/\Lst wr (some ⟨ga,0,none⟩) N d1 (DW k)/\Lst wr (some ⟨gb,0,none⟩) N d2 (DM k)/\Hid ((Value.slice sa k sc).ownBlock ≠ some ga/\(Value.slice sa k sc).ownBlock ≠ some gb/\(Value.slice sa k sc).ownBlock ≠ some SB)/\Below W.heap.size W wr) (fun _ _ t _=>nn - (intOf t).toNat)
  case atStart=>exact ⟨0,ga,d1,gb,d2,none,0,fun _=>⟨0,none,0,0,0,0,0⟩,Nat.zero_le _,rfl,rfl,rfl,OwnR.nil _ _ _,(fun j hj=>by omega),(fun j hj=>by omega),srow,la,lb,⟨by simp [Value.ownBlock],by simp [Value.ownBlock],by simp [Value.ownBlock]⟩,bel⟩
  case round =>
   clear srow la lb bel hga hgb
   obtain ⟨k,xa,e1,xb,e2,sa,sc,R,hk,rfl,rfl,rfl,hown,hjb,hjn,srow,la,lb,hob,hbel⟩:=hrel
   have hSBl:=srow.lt
   have hzW:=hbel.size
   by_cases hlt:k < nn
   ·have hst:(k:Int)<=steps - 1:=by omega
    have hw0:=Zac wr (.cells #[.int .i64 0,.slice none 0 0,.int .i64 0,.int .u64 0,.int .u64 0] 111)
    have bwa:=hbel.trans (hw0.mono hbel.size)
    have NX:=HNX.out k hst (wr.alloc (.cells #[.int .i64 0,.slice none 0 0,.int .i64 0,.int .u64 0,.int .u64 0] 111)) xa e1 xb e2 (hbW.trans (bwa.mono hbW.size)) (la.below hw0 nr) (lb.below hw0 nr)
    have HNX2:Hid (Calls Tryz.prog 105 #[.agg #[.int .i64 I,.int .i64 H,.int .i64 O,.int .u64 seed,.int .i64 B,.int .i64 steps,.int .i64 crate,.int .i64 decay,.int .i64 how,.int .i64 keep,.int .i64 clip],.slice a n cap,.agg #[.slice (some ⟨xa,0,none⟩) N e1,.slice (some ⟨xb,0,none⟩) N e2],.int .i64 k] (wr.alloc (.cells #[.int .i64 0,.slice none 0 0,.int .i64 0,.int .u64 0,.int .u64 0] 111)) fun e w'=>∃ ga d1 gb d2 a3 k3,e=.returned (.tuple #[.agg #[.slice (some ⟨ga,0,none⟩) N d1,.slice (some ⟨gb,0,none⟩) N d2],.agg #[.int .i64 k,.slice a3 B k3,.int .i64 (RV k),.int .u64 (RO k),.int .u64 0]])/\(wr.alloc (.cells #[.int .i64 0,.slice none 0 0,.int .i64 0,.int .u64 0,.int .u64 0] 111)).heap.size<=ga/\(wr.alloc (.cells #[.int .i64 0,.slice none 0 0,.int .i64 0,.int .u64 0,.int .u64 0] 111)).heap.size<=gb/\Lst w' (some ⟨ga,0,none⟩) N d1 (DW (k+1))/\Lst w' (some ⟨gb,0,none⟩) N d2 (DM (k+1))/\Lst w' a3 B k3 (DB k)/\(∀ bg o,a3=some ⟨bg,o,none⟩->(wr.alloc (.cells #[.int .i64 0,.slice none 0 0,.int .i64 0,.int .u64 0,.int .u64 0] 111)).heap.size<=bg)/\Below (wr.alloc (.cells #[.int .i64 0,.slice none 0 0,.int .i64 0,.int .u64 0,.int .u64 0] 111)).heap.size (wr.alloc (.cells #[.int .i64 0,.slice none 0 0,.int .i64 0,.int .u64 0,.int .u64 0] 111)) w'):=NX
    have rr0:=Zao wr (.int .i64 0) (.slice none 0 0) (.int .i64 0) (.int .u64 0) (.int .u64 0) 111
    obtain ⟨c0,c1,c2,c3,c4,c5,c6,c7,c8,c9,c10⟩:=KS.out _ bwa
    obtain ⟨s0,s1⟩:=Zaa (srow.alloc (.cells #[.int .i64 0,.slice none 0 0,.int .i64 0,.int .u64 0,.int .u64 0] 111))
    clear NX
    go_wp2_with fail
    refine HNX2.out.mono ?_
    rintro e u1 ⟨ga,d1,gb,d2,a3,k3,rfl,hga,hgb,g1,g2,g3,hnew,hu1⟩
    have bu1:Below wr.heap.size wr u1:=hw0.trans (hu1.mono hw0.size)
    simp at hga hgb
    have hnew2:∀ bg o,a3=some ⟨bg,o,none⟩->wr.heap.size+1<=bg:=fun bg o e=>by have h:=hnew bg o e; simpa using h
    clear c0 c1 c2 c3 c4 c5 c6 c7 c8 c9 c10 s0 s1 HNX2 hnew
    have srow1:=srow.of_block (bu1.block _ srow.lt)
    have rr1:=rr0.of_block (hu1.block _ rr0.lt)
    obtain ⟨y0,y1⟩:=Zaa srow1
    have f0:=srow1.frozen 0
    have f1:=srow1.frozen 1
    have rr2:=(rr1.setOther (a:=⟨SB,0,none⟩) (show wr.heap.size ≠ SB by omega) (.slice (some ⟨ga,0,none⟩) N d1)).setOther (a:=⟨SB,1,none⟩) (show wr.heap.size ≠ SB by omega) (.slice (some ⟨gb,0,none⟩) N d2)
    obtain ⟨t0,t1,t2,t3,t4⟩:=Zam rr2
    have h0:=rr2.frozen 0
    have h1':=rr2.frozen 1
    have h2':=rr2.frozen 2
    have h3:=rr2.frozen 3
    have h4:=rr2.frozen 4
    have rr3:=ZaN rr2 (.int .i64 k) (.slice a3 B k3) (.int .i64 (RV k)) (.int .u64 (RO k)) (.int .u64 0)
    obtain ⟨q0,q1,q2,q3,q4⟩:=Zam rr3
    have hbS:W.heap.size<=SB:=hSB
    -- what stands behind the stores
    have y1':(u1.setCell ⟨SB,0,none⟩ (.slice (some ⟨ga,0,none⟩) N d1)).cell? ⟨SB,1,none⟩=some (.slice (some ⟨xb,0,none⟩) N e2):=(srow1.set 0 _).cell (i:=1) (by omega)
    have n2:∀ i,SB ≠ (⟨wr.heap.size,i,none⟩:Addr).block:=fun i=>by show SB ≠ wr.heap.size; omega
    have srow3:=(((((ZaB srow1 (.slice (some ⟨ga,0,none⟩) N d1) (.slice (some ⟨gb,0,none⟩) N d2)).setOther (n2 0) (.int .i64 k)).setOther (n2 1) (.slice a3 B k3)).setOther (n2 2) (.int .i64 (RV k))).setOther (n2 3) (.int .u64 (RO k))).setOther (n2 4) (.int .u64 0)
    have fga:FarB (some ⟨ga,0,none⟩) wr.heap.size:=FarB.some (by omega)
    have fgb:FarB (some ⟨gb,0,none⟩) wr.heap.size:=FarB.some (by omega)
    have fa3:FarB a3 wr.heap.size:=fun bg o e=>by have:=hnew2 bg o e; omega
    have la3:=((((((g1.setOff y0 (.slice (some ⟨ga,0,none⟩) N d1)).setOff y1' (.slice (some ⟨gb,0,none⟩) N d2)).offB fga 0 (.int .i64 k)).offB fga 1 (.slice a3 B k3)).offB fga 2 (.int .i64 (RV k))).offB fga 3 (.int .u64 (RO k))).offB fga 4 (.int .u64 0)
    have lb3:=((((((g2.setOff y0 (.slice (some ⟨ga,0,none⟩) N d1)).setOff y1' (.slice (some ⟨gb,0,none⟩) N d2)).offB fgb 0 (.int .i64 k)).offB fgb 1 (.slice a3 B k3)).offB fgb 2 (.int .i64 (RV k))).offB fgb 3 (.int .u64 (RO k))).offB fgb 4 (.int .u64 0)
    have lt3:=((((((g3.setOff y0 (.slice (some ⟨ga,0,none⟩) N d1)).setOff y1' (.slice (some ⟨gb,0,none⟩) N d2)).offB fa3 0 (.int .i64 k)).offB fa3 1 (.slice a3 B k3)).offB fa3 2 (.int .i64 (RV k))).offB fa3 3 (.int .u64 (RO k))).offB fa3 4 (.int .u64 0)
    have fjb:=hjb.far (by omega) (Nat.le_refl wr.heap.size)
    have jb3:=(((((((hjb.below bu1).offS y0 (.slice (some ⟨ga,0,none⟩) N d1)).offS y1' (.slice (some ⟨gb,0,none⟩) N d2)).offB _ fjb 0 (.int .i64 k)).offB _ fjb 1 (.slice a3 B k3)).offB _ fjb 2 (.int .i64 (RV k))).offB _ fjb 3 (.int .u64 (RO k))).offB _ fjb 4 (.int .u64 0)
    have nob:(Value.slice sa k sc).ownBlock ≠ some wr.heap.size:=fun e=>by
     rcases hown.blk with h | ⟨g,hg,_,hl⟩
     ·rw [h] at e; cases e
     ·rw [hg] at e; simp at e; omega
    have ow3:=((((((((hown.below bu1).setOther hob.out.2.2 0 (.slice (some ⟨ga,0,none⟩) N d1)).setOther hob.out.2.2 1 (.slice (some ⟨gb,0,none⟩) N d2)).setOther nob 0 (.int .i64 k)).setOther nob 1 (.slice a3 B k3)).setOther nob 2 (.int .i64 (RV k))).setOther nob 3 (.int .u64 (RO k))).setOther nob 4 (.int .u64 0))
    have bW3:Below W.heap.size W (((((((u1.setCell ⟨SB,0,none⟩ (.slice (some ⟨ga,0,none⟩) N d1)).setCell ⟨SB,1,none⟩ (.slice (some ⟨gb,0,none⟩) N d2)).setCell ⟨wr.heap.size,0,none⟩ (.int .i64 k)).setCell ⟨wr.heap.size,1,none⟩ (.slice a3 B k3)).setCell ⟨wr.heap.size,2,none⟩ (.int .i64 (RV k))).setCell ⟨wr.heap.size,3,none⟩ (.int .u64 (RO k))).setCell ⟨wr.heap.size,4,none⟩ (.int .u64 0)):=setj (setj (setj (setj (setj (setj (setj (hbel.trans (bu1.mono hbel.size)) hbS) hbS) hzW) hzW) hzW) hzW) hzW
    have HGO:Hid ((Value.slice sa k sc).ownBlock ≠ some ga/\(Value.slice sa k sc).ownBlock ≠ some gb/\∀ bg o,a3=some ⟨bg,o,none⟩->(Value.slice sa k sc).ownBlock ≠ some bg):=by
     have nn2:∀ t,wr.heap.size<=t->(Value.slice sa k sc).ownBlock ≠ some t:=fun t ht e=>by
      rcases hown.blk with h | ⟨g,hg,_,hl⟩
      ·rw [h] at e; cases e
      ·rw [hg] at e; simp at e; omega
     exact ⟨nn2 _ (by omega),nn2 _ (by omega),fun bg o e=>nn2 _ (by have:=hnew2 bg o e; omega)⟩
    clear hown hjb srow la lb g1 g2 g3 bu1 hu1 hw0 bwa rr0 rr1 srow1 y1' n2 hnew2
    go_wp2_with fail
    generalize (((((((u1.setCell ⟨SB,0,none⟩ (.slice (some ⟨ga,0,none⟩) N d1)).setCell ⟨SB,1,none⟩ (.slice (some ⟨gb,0,none⟩) N d2)).setCell ⟨wr.heap.size,0,none⟩ (.int .i64 k)).setCell ⟨wr.heap.size,1,none⟩ (.slice a3 B k3)).setCell ⟨wr.heap.size,2,none⟩ (.int .i64 (RV k))).setCell ⟨wr.heap.size,3,none⟩ (.int .u64 (RO k))).setCell ⟨wr.heap.size,4,none⟩ (.int .u64 0))=u2 at srow3 rr3 la3 lb3 lt3 jb3 ow3 bW3 ⊢
    clear rr2 t0 t1 t2 t3 t4 h0 h1' h2' h3 h4 q0 q1 q2 q3 q4 y0 y1 f0 f1
    refine (HCN.out k a3 k3 u2 hst lt3).mono ?_
    rintro e u3 ⟨rfl,hu3⟩
    generalize hRB:wr.heap.size=RB at *
    have rr4:=rr3.of_block (hu3.block _ rr3.lt)
    have srow4:=srow3.of_block (hu3.block _ srow3.lt)
    have la4:=la3.below hu3 nr
    have lb4:=lb3.below hu3 nr
    have lt4:=lt3.below hu3 nr
    have jb4:=jb3.below hu3
    have ow4:=ow3.below hu3
    have bW4:=bW3.trans (hu3.mono bW3.size)
    obtain ⟨q0,q1,q2,q3,q4⟩:=Zam rr4
    have z4:=rr4.frozen 4
    have rr5:(u3.setCell ⟨RB,4,none⟩ (.int .u64 (CH (k+1)))).rowIs RB 111 5 (fn5 (.int .i64 k) (.slice a3 B k3) (.int .i64 (RV k)) (.int .u64 (RO k)) (.int .u64 (CH (k+1)))):=(rr4.set 4 _).congr (fun t ht=>by rcases lt5 ht with rfl | rfl | rfl | rfl | rfl <;> rfl)
    obtain ⟨p0,p1',p2',p3,p4⟩:=Zam rr5
    have srow5:=srow4.setOther (a:=⟨RB,4,none⟩) (show SB ≠ RB by omega) (.int .u64 (CH (k+1)))
    have la5:=la4.offB fga 4 (.int .u64 (CH (k+1)))
    have lb5:=lb4.offB fgb 4 (.int .u64 (CH (k+1)))
    have lt5':=lt4.offB fa3 4 (.int .u64 (CH (k+1)))
    have jb5:=jb4.offB _ fjb 4 (.int .u64 (CH (k+1)))
    have ow5:=ow4.setOther nob 4 (.int .u64 (CH (k+1)))
    have bW5:Below W.heap.size W (u3.setCell ⟨RB,4,none⟩ (.int .u64 (CH (k+1)))):=setj bW4 (by omega)
    have hl6:=Zac (u3.setCell ⟨RB,4,none⟩ (.int .u64 (CH (k+1)))) (.cells #[.int .i64 k,.slice a3 B k3,.int .i64 (RV k),.int .u64 (RO k),.int .u64 (CH (k+1))] 111)
    obtain ⟨R2,HR2⟩:∃ R2:Nat->Rcm,Hid (R2 k=⟨(k:Int),a3,B,k3,RV k,RO k,CH (k+1)⟩/\∀ j,j < k->R2 j=R j):=⟨fun j=>if j=k then ⟨(k:Int),a3,B,k3,RV k,RO k,CH (k+1)⟩ else R j,by exact ⟨if_pos rfl,fun j hj=>if_neg (by omega)⟩⟩
    have own6:OwnR W.heap.size ((u3.setCell ⟨RB,4,none⟩ (.int .u64 (CH (k+1)))).alloc (.cells #[.int .i64 k,.slice a3 B k3,.int .i64 (RV k),.int .u64 (RO k),.int .u64 (CH (k+1))] 111)) (.slice sa k sc) k R2:=(ow5.below hl6).congr (fun j hj=>(HR2.out.2 j hj).symm)
    have row6:((u3.setCell ⟨RB,4,none⟩ (.int .u64 (CH (k+1)))).alloc (.cells #[.int .i64 k,.slice a3 B k3,.int .i64 (RV k),.int .u64 (RO k),.int .u64 (CH (k+1))] 111)).rowIs u3.heap.size 111 5 (fn5 (.int .i64 (R2 k).s) (.slice (R2 k).a (R2 k).n (R2 k).k) (.int .i64 (R2 k).r) (.int .u64 (R2 k).root) (.int .u64 (R2 k).chain)):=by
     rw [HR2.out.1]
     have h:=Zao (u3.setCell ⟨RB,4,none⟩ (.int .u64 (CH (k+1)))) (.int .i64 k) (.slice a3 B k3) (.int .i64 (RV k)) (.int .u64 (RO k)) (.int .u64 (CH (k+1))) 111
     simpa using h
    have HROW:Hid (((u3.setCell ⟨RB,4,none⟩ (.int .u64 (CH (k+1)))).alloc (.cells #[.int .i64 k,.slice a3 B k3,.int .i64 (RV k),.int .u64 (RO k),.int .u64 (CH (k+1))] 111)).rowIs u3.heap.size 111 5 (fn5 (.int .i64 (R2 k).s) (.slice (R2 k).a (R2 k).n (R2 k).k) (.int .i64 (R2 k).r) (.int .u64 (R2 k).root) (.int .u64 (R2 k).chain))):=row6
    have srow6:=srow5.alloc (.cells #[.int .i64 k,.slice a3 B k3,.int .i64 (RV k),.int .u64 (RO k),.int .u64 (CH (k+1))] 111)
    have la6:=la5.below hl6 nr
    have lb6:=lb5.below hl6 nr
    have lt6:=lt5'.below hl6 nr
    have jb6:=jb5.below hl6
    have bW6:=bW5.trans (hl6.mono bW5.size)
    have hb6:=bW6.size
    have ba6:=la6.blkJ (by omega)
    have bb6:=lb6.blkJ (by omega)
    have bs6:=srow6.lt
    have jn7:=hjn.out.push HR2.out.2 (by rw [HR2.out.1]) (by rw [HR2.out.1]) (by rw [HR2.out.1]) (by rw [HR2.out.1])
    have HJN:Hid (JrN (k+1) R2 RV RO CH):=jn7
    have jb7:=jb6.push (R2:=R2) HR2.out.2 (by rw [HR2.out.1]) (by rw [HR2.out.1]; exact lt6) (by rw [HR2.out.1]; exact HGO.out.2.2)
    clear row6 jn7 hjn jb6 jb5 jb4 jb3 ow5 ow4 ow3 lt6 lt5' lt4 lt3 la5 la4 la3 lb5 lb4 lb3 srow5 srow4 srow3 rr3 rr4 hu3
    go_wp2_with (at_builtin; refine wpList_append_rc (by rfl) _ _ (by rfl) W.heap.size (.slice sa k sc) k R2 u3.heap.size (by rfl) (by rfl) (by exact own6) (by exact HROW.out) (by omega) (by exact hb6) ?_; intro v7 w7 hown7 hgr7 hat7; obtain ⟨sa7,sc7,hv7⟩:=hown7.form; subst hv7)
    go_roundw
    case rel =>
     exact ⟨k+1,ga,d1,gb,d2,sa7,sc7,R2,by omega,by go_num,rfl,rfl,hown7,jb7.grown (by omega) hgr7 hat7,HJN,srow6.of_block (hgr7.block _ srow6.lt (fun e=>hob.out.2.2 e.symm)),la6.grownO hgr7 HGO.out.1,lb6.grownO hgr7 HGO.out.2.1,⟨ne_new hat7 HGO.out.1 ba6,ne_new hat7 HGO.out.2.1 bb6,ne_new hat7 hob.out.2.2 bs6⟩,bW6.grown hgr7 hb6 (fun t ht=>by
      rcases own6.blk with h | ⟨g,hg,hge,_⟩
      ·rw [h] at ht; cases ht
      ·rw [hg] at ht; simp at ht; omega)⟩
    case measure=>simp [intOf]; omega
   ·obtain rfl:k=nn:=by omega
    go_wp2_with fail
    go_ret
    obtain ⟨a',c',ev,hrecs⟩:=hown.recs (fun j hj=>(hjb j hj).2.1)
    exact ⟨a',c',R,congrArg Ending.returned ev,hrecs,hjn.out,fun j hj=>(hjb j hj).1,hbW.trans (hbel.mono hbW.size)⟩
theorem rjour_any (c:Cfg) (hs:okW c.seed) (a:Option Addr) (n cap:Nat) (X:Nat->Exm) (DI DO:Nat->List Int) (M:Nat) (q:World) (HX:Exs q a n cap X DI DO) (hF:courseI c n X DI DO=0) (hm:(M:Int)<=c.steps) :
  Calls Tryz.prog 67 #[c.val,.slice a n cap,.int .i64 M] q fun e w'=>∃ b k R,e=.returned (.slice b M k)/\Recs w' b M k R (jrBatch c n)/\JrN M R (mkRV c) (mkRO c n DI DO) (mkCH c n DI DO)/\Below q.heap.size q w':=by
 obtain ⟨hc,hn1,hn2,hex⟩:=Zbr hF
 obtain ⟨⟨i1,i2⟩,⟨h1,h2⟩,⟨o1,o2⟩,⟨b1,b2⟩,_⟩:=Zal hc
 have hzn:=ZaU hc
 obtain ⟨N,hNz⟩:=Int.eq_ofNat_of_zero_le (show 0<=sizeN c by omega)
 have hNt:(sizeN c).toNat=N:=by rw [hNz]; rfl
 have e1:mkRO c n DI DO=jrRoot c n DI DO N:=by unfold mkRO; rw [hNt]
 have e2:mkCH c n DI DO=jrChain c n DI DO N:=by unfold mkCH; rw [hNt]
 have e3:mkRV c=fun j:Nat=>rateV c j:=rfl
 rw [e1,e2,e3]
 clear e1 e2 e3
 obtain ⟨i,h,o,seed,batch,steps,crate,decay,how,keep,clip⟩:=c
 dsimp only at i1 i2 h1 h2 o1 o2 b1 b2 hs hm
 obtain ⟨I,rfl⟩:=Int.eq_ofNat_of_zero_le (show 0<=i by omega)
 obtain ⟨H,rfl⟩:=Int.eq_ofNat_of_zero_le (show 0<=h by omega)
 obtain ⟨O,rfl⟩:=Int.eq_ofNat_of_zero_le (show 0<=o by omega)
 obtain ⟨B,rfl⟩:=Int.eq_ofNat_of_zero_le (show 0<=batch by omega)
 have hN:N=H * I+H+O * H+O:=by have:=hNz.symm; unfold sizeN at this; dsimp only at this; exact_mod_cast this
 refine (rjournal_calls I H O B seed crate decay how keep clip hs steps hc N hN a n cap X DI DO M q HX hn1 hn2 hex (by omega)).mono ?_
 rintro e w' ⟨b,k,R,he,hrc,hjn,_,hbb⟩
 exact ⟨b,k,R,he,hrc,hjn,hbb⟩
theorem raudit_calls (c:Cfg) (hs:okW c.seed) (a:Option Addr) (n cap:Nat) (X:Nat->Exm) (DI DO:Nat->List Int) (la:Option Addr) (ln lc:Nat) (L:Nat->Rcm) (DL:Nat->List Int) (w:World) (hx:Exs w a n cap X DI DO) (hl:Recs w la ln lc L DL) (hL:∀ j,j < ln->(L j).n<=9223372036854775807) (h0:courseI c n X DI DO=0) (hm:(ln:Int)<=c.steps) :
  Calls Tryz.prog 68 #[c.val,.slice a n cap,.slice la ln lc] w fun e w'=>e=.returned (.int .i64 (firstNo (auB c n DI DO L DL) ln:Nat))/\Below w.heap.size w w':=by
 have hal:=Zac w (.cells c.cells 50)
 have KB:Hid (∀ q,Below (w.alloc (.cells c.cells 50)).heap.size (w.alloc (.cells c.cells 50)) q->BoxC q w.heap.size c):=fun q hq=>boxC hq (by simp)
 have MK:=rjour_any c hs a n cap X DI DO ln _ (hx.below hal nr) h0 hm
 have HQ:Hid (∀ (R:Nat->Rcm),JrN ln R (mkRV c) (mkRO c n DI DO) (mkCH c n DI DO)->∀ j,j < ln->auB c n DI DO L DL j=recB (L j) (R j) (DL j) (jrBatch c n j)):=fun R h j hj=>auB_is h L DL hj
 have HF:Hid (∀ k,k<=ln->(∀ j,j < k->auB c n DI DO L DL j=true)->(k < ln->auB c n DI DO L DL k=false)->firstNo (auB c n DI DO L DL) ln=k):=fun k h1 h2 h3=>ZcN _ ln k h1 h2 h3
 have h40:ln<=40:=by
  obtain ⟨_,_,_,_,⟨p1,p2⟩,_⟩:=Zal (Zbr h0).1
  omega
 have HLN:Hid (∀ j,j < ln->(L j).n<=9223372036854775807):=hL
 generalize firstNo (auB c n DI DO L DL) ln=FN at *
 generalize auB c n DI DO L DL=QF at *
 generalize jrBatch c n=DB at *
 generalize mkRV c=RV at *
 generalize mkRO c n DI DO=RO at *
 generalize mkCH c n DI DO=CH at *
 clear hx hs h0 hL
 obtain ⟨i,h,o,seed,batch,steps,crate,decay,how,keep,clip⟩:=c
 simp only [Cfg.val,Cfg.cells] at *
 obtain ⟨c0,c1,c2,c3,c4,c5,c6,c7,c8,c9,c10⟩:=KB.out _ br
 dsimp only at c0 c1 c2 c3 c4 c5 c6 c7 c8 c9 c10
 go_enter Tryz.func68,Tryz.ntmps68
 go_wp2_with fail
 refine MK.mono ?_
 rintro e w2 ⟨b,kc,R,rfl,hR,hJ,hw2⟩
 have T2:=hal.trans (hw2.mono hal.size)
 have HQ2:=HQ.out R hJ
 have HQ3:Hid (∀ j,j < ln->QF j=recB (L j) (R j) (DL j) (DB j)):=HQ2
 have HL2:=hl.below T2 nr
 clear hJ HQ HQ2 MK KB hw2 c0 c1 c2 c3 c4 c5 c6 c7 c8 c9 c10 hl
 go_wp2_with fail
 go_loopw [8] (fun v wr=>∃ k:Nat,k<=ln/\v=.int .i64 k/\Hid (∀ j,j < k->QF j=true)/\Below w2.heap.size w2 wr) (fun v _=>ln - (intOf v).toNat)
 case atStart=>exact ⟨0,Nat.zero_le _,rfl,fun j hj=>by omega,br⟩
 case round =>
  obtain ⟨k,hk,rfl,hg,hbel⟩:=hrel
  by_cases hlt:k < ln
  ·obtain ⟨xb,xo,rfl,hc⟩:=(HL2.below hbel nr).at (by omega)
   obtain ⟨yb,yo,rfl,hd⟩:=(hR.below hbel nr).at (by omega)
   obtain ⟨e0,e1,e2,e3,e4,lx⟩:=hc k hlt
   obtain ⟨f0,f1,f2,f3,f4,ly⟩:=hd k hlt
   have hlen:=HLN.out k hlt
   have hqk:=HQ3.out k hlt
   have hgood:QF k=true->∀ j,j < k+1->QF j=true:=fun q j hj=>by
    by_cases e:j=k
    ·subst e; exact q
    ·exact hg.out j (by omega)
   have hbad:QF k=false->FN=k:=fun q=>HF.out k hk hg.out (fun _=>q)
   have SM0:∀ q,Below wr.heap.size wr q->Calls Tryz.prog 107 #[(L k).val,(R k).val] q fun e w'=>e=.returned (.bool (likeB (L k) (R k) (DL k) (DB k)))/\Below q.heap.size q w':=fun q hq=>rlike_big _ _ _ _ q (lx.below hq nr) (ly.below hq nr) hlen
   have hrb:recB (L k) (R k) (DL k) (DB k)=(likeB (L k) (R k) (DL k) (DB k) && decide ((L k).chain=(R k).chain)):=rfl
   rw [hrb] at hqk
   rw [hqk] at hgood hbad
   obtain ⟨x,hxk⟩:∃ x,L k=x:=⟨_,rfl⟩
   obtain ⟨y,hyk⟩:∃ y,R k=y:=⟨_,rfl⟩
   rw [hxk] at e0 e1 e2 e3 e4 hgood hbad SM0
   rw [hyk] at f0 f1 f2 f3 f4 hgood hbad SM0
   generalize likeB x y (DL k) (DB k)=LB at *
   obtain ⟨ls,lla,lln,llk,lr,lroot,lchain⟩:=x
   obtain ⟨rs,ra,rn,rk,rr,rroot,rchain⟩:=y
   simp only [Rcm.val,Rcm.cells] at *
   have SM:=SM0 _ (Below.drew br)
   have KS:Hid (∀ q,Below wr.heap.size wr q->q.cell? ⟨xb,xo+k * 5,none⟩=some (.int .i64 ls)/\q.cell? ⟨xb,xo+k * 5+1,none⟩=some (.slice lla lln llk)/\q.cell? ⟨xb,xo+k * 5+2,none⟩=some (.int .i64 lr)/\q.cell? ⟨xb,xo+k * 5+3,none⟩=some (.int .u64 lroot)/\q.cell? ⟨xb,xo+k * 5+4,none⟩=some (.int .u64 lchain)/\q.cell? ⟨yb,yo+k * 5,none⟩=some (.int .i64 rs)/\q.cell? ⟨yb,yo+k * 5+1,none⟩=some (.slice ra rn rk)/\q.cell? ⟨yb,yo+k * 5+2,none⟩=some (.int .i64 rr)/\q.cell? ⟨yb,yo+k * 5+3,none⟩=some (.int .u64 rroot)/\q.cell? ⟨yb,yo+k * 5+4,none⟩=some (.int .u64 rchain)):=fun q hq =>
    ⟨(hq.cell (p:=⟨xb,xo+k * 5,none⟩) (Zas e0)).trans e0,(hq.cell (p:=⟨xb,xo+k * 5+1,none⟩) (Zas e1)).trans e1,(hq.cell (p:=⟨xb,xo+k * 5+2,none⟩) (Zas e2)).trans e2,(hq.cell (p:=⟨xb,xo+k * 5+3,none⟩) (Zas e3)).trans e3,(hq.cell (p:=⟨xb,xo+k * 5+4,none⟩) (Zas e4)).trans e4,(hq.cell (p:=⟨yb,yo+k * 5,none⟩) (Zas f0)).trans f0,(hq.cell (p:=⟨yb,yo+k * 5+1,none⟩) (Zas f1)).trans f1,(hq.cell (p:=⟨yb,yo+k * 5+2,none⟩) (Zas f2)).trans f2,(hq.cell (p:=⟨yb,yo+k * 5+3,none⟩) (Zas f3)).trans f3,(hq.cell (p:=⟨yb,yo+k * 5+4,none⟩) (Zas f4)).trans f4⟩
   have S0:=KS.out _ (Below.drew br)
   have k0:(0:Int)<=(k:Int):=by omega
   have kn:(k:Int) < (ln:Int):=by omega
   have HB:Hid ((LB && decide (lchain=rchain))=false->FN=k):=hbad
   have HG:Hid ((LB && decide (lchain=rchain))=true->∀ j,j < k+1->QF j=true):=hgood
   clear hc hd lx ly hlen hqk hgood hbad SM0 hrb hxk hyk hR HL2 HLN HQ3 HF hg
   cases LB with
   | false =>
     have hF:=(HB.out (by rfl)).symm
     subst hF
     go_wp2_with fail
     refine wp_region_held_drew (S:=fun q=>q.cell? ⟨xb,xo+k * 5,none⟩=some (.int .i64 ls)/\q.cell? ⟨xb,xo+k * 5+1,none⟩=some (.slice lla lln llk)/\q.cell? ⟨xb,xo+k * 5+2,none⟩=some (.int .i64 lr)/\q.cell? ⟨xb,xo+k * 5+3,none⟩=some (.int .u64 lroot)/\q.cell? ⟨xb,xo+k * 5+4,none⟩=some (.int .u64 lchain)/\q.cell? ⟨yb,yo+k * 5,none⟩=some (.int .i64 rs)/\q.cell? ⟨yb,yo+k * 5+1,none⟩=some (.slice ra rn rk)/\q.cell? ⟨yb,yo+k * 5+2,none⟩=some (.int .i64 rr)/\q.cell? ⟨yb,yo+k * 5+3,none⟩=some (.int .u64 rroot)/\q.cell? ⟨yb,yo+k * 5+4,none⟩=some (.int .u64 rchain)) (by kernel_rfl) (by with_reducible exact S0) (fun hHeld=>?_)
     refine tk 0 (h:=?_)
     refine tk 1 (h:=?_)
     refine tk 2 (h:=?_)
     refine tk 3 (h:=?_)
     refine tk 4 (h:=?_)
     refine tk 5 (h:=?_)
     refine tk 6 (h:=?_)
     refine tk 7 (h:=?_)
     refine rd 8 (h:=fun K hK=>?_)
     clear hHeld
     go_simp
     (go_at_call 107; refine SM.mono ?_; rintro e q2 ⟨rfl,hq2⟩; have V2:=undrew hq2; have S1':=KS.out _ V2)
     go_wp2_with fail
     refine hK.out _ _ ?_ (fun hHeld=>?_)
     ·with_reducible exact S1'
     clear hK K
     try simp only [Act.put,List.setIfInBounds_toArray,List.set_cons_zero,List.set_cons_succ]
     refine tk 9 (h:=?_)
     refine tk 10 (h:=?_)
     refine tko 11 (h:=?_)
     refine tko 12 (h:=?_)
     refine tko 13 (h:=?_)
     refine tko 14 (h:=?_)
     refine tko 15 (h:=?_)
     refine tko 16 (h:=?_)
     refine tko 17 (h:=?_)
     refine tko 18 (h:=?_)
     refine tko 19 (h:=?_)
     refine tko 20 (h:=?_)
     refine tko 21 (h:=?_)
     refine tk 22 (h:=?_)
     refine wpAnyH_done (by kernel_rfl) ?_ _
     go_wp2_with fail
     go_ret
     exact ⟨rfl,T2.trans ((hbel.trans (V2.mono hbel.size)).mono T2.size)⟩
   | true =>
     clear e0 e1 e2 e3 e4 f0 f1 f2 f3 f4
     obtain ⟨QN,HQN⟩:=nm ((lchain != rchain))
     have q1:(lchain != rchain)=QN:=HQN.out
     have hG:Hid (QN=false->∀ j,j < k+1->QF j=true):=fun h=>HG.out (by
      rw [h] at q1
      rw [decide_eq_true (by simpa using q1)]; rfl)
     have hF:Hid (QN=true->k=FN):=fun h=>(HB.out (by
      rw [h] at q1
      rw [decide_eq_false (by rw [bne_iff_ne] at q1; exact q1)]; rfl)).symm
     clear HB HG HQN
     go_wp2_with fail
     go_region_held3 (fun q=>q.cell? ⟨xb,xo+k * 5,none⟩=some (.int .i64 ls)/\q.cell? ⟨xb,xo+k * 5+1,none⟩=some (.slice lla lln llk)/\q.cell? ⟨xb,xo+k * 5+2,none⟩=some (.int .i64 lr)/\q.cell? ⟨xb,xo+k * 5+3,none⟩=some (.int .u64 lroot)/\q.cell? ⟨xb,xo+k * 5+4,none⟩=some (.int .u64 lchain)/\q.cell? ⟨yb,yo+k * 5,none⟩=some (.int .i64 rs)/\q.cell? ⟨yb,yo+k * 5+1,none⟩=some (.slice ra rn rk)/\q.cell? ⟨yb,yo+k * 5+2,none⟩=some (.int .i64 rr)/\q.cell? ⟨yb,yo+k * 5+3,none⟩=some (.int .u64 rroot)/\q.cell? ⟨yb,yo+k * 5+4,none⟩=some (.int .u64 rchain)) (first | with_reducible exact S1' | with_reducible exact S0) (((go_at_call 107; refine SM.mono ?_; rintro e q2 ⟨rfl,hq2⟩; have V2:=undrew hq2; have S1':=KS.out _ V2)))
     all_goals
      cases QN with
      | false =>
        go_wp2_with fail
        go_roundw
        case rel=>exact ⟨k+1,by omega,by go_num,(hG.out (by trivial)),hbel.trans (V2.mono hbel.size)⟩
        case measure=>simp [intOf]; omega
      | true =>
        have hF2:=hF.out (by trivial)
        subst hF2
        go_wp2_with fail
        go_ret
        exact ⟨rfl,T2.trans ((hbel.trans (V2.mono hbel.size)).mono T2.size)⟩
  ·obtain rfl:k=ln:=by omega
   have hF:=(HF.out k nr hg.out (fun h=>by omega)).symm
   subst hF
   clear hR HL2 HLN HQ3 HF
   go_wp2_with fail
   go_ret
   exact ⟨rfl,T2.trans (hbel.mono T2.size)⟩
end Go.Proofs.YthmiojmlaclgaaaGreatDoor.Fx
