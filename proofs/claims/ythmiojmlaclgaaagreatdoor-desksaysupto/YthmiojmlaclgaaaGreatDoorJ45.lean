/- What the law stands on: RefDkF. -/
import Derived.Test.YthmiojmlaclgaaaGreatDoorJ00
import Derived.Test.YthmiojmlaclgaaaGreatDoorJ43
set_option maxRecDepth 100000
set_option maxHeartbeats 12800000
namespace Go.Proofs.YthmiojmlaclgaaaGreatDoor.Fx
open Go.RowKit
section
variable {base:Nat} {w w':World} {b:Nat} {d:Dsk} {a:Option Addr} {cap:Nat} {X:Nat->Exm}
theorem course_loss_good (h:BnIn base w b d a cap X) (an:Option Addr) (cn:Nat) (z:Int) (hz:Lst w an 1 cn [z]) (la:Option Addr) (lc:Nat) (ls:List Ln) (hB:Beg d.T ls) (hin:0<=z/\z < (d.n:Int)) (hE0:courseI d.c d.n d.X d.DI d.DO=0) (hst:(ls.length:Int)<=d.c.steps) :
  Calls Tryz.prog 43 #[.pointer (some ⟨b,0,none⟩),.string ⟨#[108,111,115,115]⟩,.slice an 1 cn,.slice la ls.length lc] w fun e w'=>BnR base b w (dLoss z d) e w':=by
 obtain ⟨gn,on,rfl,en,h100,hn16,HCO,HWR,hcb,HH,KCN,hlt0,hdr,hd1,hwr,RI⟩:=lossP h hz hB
 have j0:(0:Int) < ((1:Nat):Int):=by omega
 rw [decide_eq_true hin] at RI
 have HDL:Hid (dLoss z d=dNum (lossV z d) (if courseI d.c d.n d.X d.DI d.DO=0 then (if inB (ls.length:Int) 0 d.c.steps=true then 0 else 1) else courseI d.c d.n d.X d.DI d.DO) d):=by show _=_; unfold dLoss; rw [lossE_in hin,en]; rfl
 have HD:Hid (dLoss z d=⟨Lib.itoa (lossV z d),0,d⟩):=by
  show _=_
  rw [HDL.out,if_pos hE0,if_pos (by unfold inB; simp; omega)]
  rfl
 have hF:courseI d.c d.n X d.DI d.DO=0:=by rw [h.course]; exact hE0
 obtain ⟨⟨i1,i4⟩,⟨j1,j4⟩,⟨o1,o4⟩,_⟩:=Zal h.ok.c
 obtain ⟨zi,hzi⟩:∃ zi:Nat,z=(zi:Int):=⟨z.toNat,by omega⟩
 have hzn:zi < d.n:=by omega
 have hex:=exB_is (ZcG (Zbr hF).2.2.2 hzn)
 obtain ⟨I,hI⟩:∃ I:Nat,d.c.i=(I:Int):=⟨d.c.i.toNat,by omega⟩
 obtain ⟨H,hH⟩:∃ I:Nat,d.c.h=(I:Int):=⟨d.c.h.toNat,by omega⟩
 obtain ⟨O,hO⟩:∃ I:Nat,d.c.o=(I:Int):=⟨d.c.o.toNat,by omega⟩
 have HLVV:Hid (lossV z d=lossI (cutD I H O (stW d.c d.n d.DI d.DO ls.length)) (d.DI zi) (d.DO zi) I H O):=by
  show _=_
  unfold lossV
  rw [hI,hH,hO,hzi,en]
  rfl
 have HLV:=Lib.hid (lossV_bd z d)
 have hsz:(sizeN d.c).toNat=H * I+H+O * H+O:=by
  unfold sizeN
  rw [hI,hH,hO]
  have:((H:Int) * (I:Int)+(H:Int)+(O:Int) * (H:Int)+(O:Int))=((H * I+H+O * H+O:Nat):Int):=by push_cast; rfl
  rw [this,Int.toNat_natCast]
 have hSL:(stW d.c d.n d.DI d.DO ls.length).length=H * I+H+O * H+O:=by rw [← hsz]; exact (ZcH d.c d.n d.DI d.DO _ ls.length).1
 obtain ⟨xn,xm,_,_⟩:=hex
 have hxn:(X zi).n=I:=by rw [hI] at xn; omega
 have hxm:(X zi).m=O:=by rw [hO] at xm; omega
 obtain ⟨NN,HNN⟩:=nm (H * I+H+O * H+O)
 have hNN3:3<=NN:=by
  rw [← HNN.out]
  have:=Nat.mul_pos (show 0 < H by omega) (show 0 < I by omega)
  have:=Nat.mul_pos (show 0 < O by omega) (show 0 < H by omega)
  omega
 have HSH:Hid (∀ q (aa:Option Addr) (c:Nat),Lst q aa NN c (stW d.c d.n d.DI d.DO ls.length)->Calls Tryz.prog 69 #[.int .i64 I,.int .i64 H,.int .i64 O,.slice aa NN c] q fun e w'=>∃ a1 k1 a2 k2 b1 t1 b2 t2,e=.returned ((rpup I H O a1 k1 a2 k2 b1 t1 b2 t2).val)/\(∀ W0,Lst W0 aa NN c (stW d.c d.n d.DI d.DO ls.length)->InPup W0 (rpup I H O a1 k1 a2 k2 b1 t1 b2 t2) (cutD I H O (stW d.c d.n d.DI d.DO ls.length)))/\Below q.heap.size q w'):=fun q aa c hl=>rshape_at I H O aa NN c _ q hl (by omega) (by omega) (by omega) (by omega) (by omega) (by omega) HNN.out.symm
 have HLS:Hid (∀ q (a1:Option Addr) (k1:Nat) (a2:Option Addr) (k2:Nat) (b1:Option Addr) (t1:Nat) (b2:Option Addr) (t2:Nat),Below w.heap.size w q->InPup q (rpup I H O a1 k1 a2 k2 b1 t1 b2 t2) (cutD I H O (stW d.c d.n d.DI d.DO ls.length))->Calls Tryz.prog 71 #[(rpup I H O a1 k1 a2 k2 b1 t1 b2 t2).val,.agg #[.slice (X zi).a I (X zi).k,.slice (X zi).b O (X zi).t]] q fun e w'=>e=.returned (.int .i64 (lossV z d))/\Below q.heap.size q w'):=fun q a1 k1 a2 k2 b1 t1 b2 t2 hq hp=>by
  rw [HLVV.out]
  have l:=(h.below hq).ex zi hzn
  have li:=l.i
  have lo:=l.o
  rw [hxn] at li
  rw [hxm] at lo
  exact rloss_calls I H O a1 k1 a2 k2 b1 t1 b2 t2 _ _ _ _ _ _ _ q hp li lo (by omega) (by omega) (by omega) (by omega) (by omega)
 have HST:Hid (∀ q,Below w.heap.size w q->Calls Tryz.prog 70 #[d.c.val,.slice a d.n cap,.int .i64 (ls.length:Nat)] q fun e w'=>∃ gy oy ky ya yk,e=.returned (.slice (some ⟨gy,oy,none⟩) (ls.length+1) ky)/\w'.cell? ⟨gy,oy+ls.length * 2,none⟩=some (.slice ya NN yk)/\Lst w' ya NN yk (stW d.c d.n d.DI d.DO ls.length)/\ls.length+1<=ky/\Below q.heap.size q w'):=fun q hq=>by
  refine (rstates_any d.c h.ok.s a d.n cap X d.DI d.DO ls.length q (h.below hq).exs hF hst).mono ?_
  rintro e w' ⟨bb,k,Y,rfl,hY,hbb⟩
  obtain ⟨gy,oy,rfl,c0,_,hl⟩:=hY.at (show ls.length < ls.length+1 by omega)
  have hln:(Y ls.length).n=NN:=by rw [← HNN.out,← hSL]; exact hl.i.len.symm
  have hli:=hl.i
  rw [hln] at c0 hli
  exact ⟨gy,oy,k,_,_,rfl,c0,hli,hY.1,hbb⟩
 obtain ⟨ga,oa,rfl,_⟩:=h.exs.at hzn
 have KX:Hid (∀ q,Below w.heap.size w q->q.cell? ⟨b,11,none⟩=some (.slice (some ⟨ga,oa,none⟩) d.n cap)/\q.cell? ⟨gn,on,none⟩=some (.int .i64 (zi:Nat))/\q.cell? ⟨ga,oa+zi * 2,none⟩=some (.slice (X zi).a I (X zi).k)/\q.cell? ⟨ga,oa+zi * 2+1,none⟩=some (.slice (X zi).b O (X zi).t)):=fun q hq=>by
  obtain ⟨g2,o2,e,c0,c1,_⟩:=(h.below hq).exs.at hzn
  simp only [Option.some.injEq,Addr.mk.injEq,and_true] at e
  obtain ⟨rfl,rfl⟩:=e
  rw [hxn] at c0
  rw [hxm] at c1
  have kn:=(KCN.out q hq).2
  rw [hzi] at kn
  exact ⟨(h.below hq).cells.2.1,kn,c0,c1⟩
 have KI:Hid (∀ q,Below w.heap.size w q->q.cell? ⟨b,0,none⟩=some (.int .i64 (I:Nat))/\q.cell? ⟨b,1,none⟩=some (.int .i64 (H:Nat))/\q.cell? ⟨b,2,none⟩=some (.int .i64 (O:Nat))/\q.cell? ⟨b,3,none⟩=some (.int .u64 d.c.seed)/\q.cell? ⟨b,4,none⟩=some (.int .i64 d.c.batch)/\q.cell? ⟨b,5,none⟩=some (.int .i64 d.c.steps)/\q.cell? ⟨b,6,none⟩=some (.int .i64 d.c.rate)/\q.cell? ⟨b,7,none⟩=some (.int .i64 d.c.decay)/\q.cell? ⟨b,8,none⟩=some (.int .i64 d.c.how)/\q.cell? ⟨b,9,none⟩=some (.int .i64 d.c.keep)/\q.cell? ⟨b,10,none⟩=some (.int .i64 d.c.clip)/\q.cell? ⟨b,11,none⟩=some (.slice (some ⟨ga,oa,none⟩) d.n cap)):=fun q hq=>by
  have hk:=(KCN.out q hq).1
  rw [hI,hH,hO] at hk
  exact hk
 have HIT:Hid (∀ q,Below w.heap.size w q->Calls Tryz.prog 28 #[.int .i64 (lossV z d)] q fun e w'=>e=.returned (.string ⟨(Lib.itoa (lossV z d)).toArray⟩)/\Below q.heap.size q w'):=fun q hq=>ZaC _ (by have:=HLV.out; omega) (by have:=HLV.out; omega) q (h.below hq).ld
 obtain ⟨IT,HITB⟩:=nm ((⟨(Lib.itoa (lossV z d)).toArray⟩:ByteArray))
 rw [HITB.out] at HIT
 rw [hE0] at HCO
 have Hstw:=hst
 clear HLVV HLV HDL
 generalize lossV z d=LV at *
 generalize stW d.c d.n d.DI d.DO ls.length=SWk at *
 obtain ⟨N,HN⟩:=nm (ls.length)
 rw [HN.out] at HST h100 Hstw
 rw [HN.out]
 have k2:¬ d.c.steps < (N:Int):=by omega
 have p1:(0:Int)<=(N:Int):=by omega
 have p2:(N:Int) < (N:Int)+1:=by omega
 have p3:N < N+1:=by omega
 have p4:(0:Int)<=(zi:Int):=by omega
 have p5:(zi:Int) < (d.n:Int):=by omega
 have HXS:Hid (∀ q:World,True):=fun _=>True.intro
 obtain ⟨xv,HXV⟩:=nm (X zi)
 rw [HXV.out] at KX HLS hxn hxm
 obtain ⟨xa,xnn,xk,xb,xmm,xt⟩:=xv
 dsimp only at KX HLS
 clear HXS hxn hxm
 clear hB en h hcb hz hF hE0 hst xn xm i1 i4 j1 j4 o1 o4 hSL hsz
 simp only [Cfg.val,Cfg.cells] at HCO HST
 rw [hI,hH,hO] at HST HCO
 have KIN:Hid (∀ q,Below w.heap.size w q->(q.cell? ⟨b,0,none⟩=some (.int .i64 (I:Nat))/\q.cell? ⟨b,1,none⟩=some (.int .i64 (H:Nat))/\q.cell? ⟨b,2,none⟩=some (.int .i64 (O:Nat))/\q.cell? ⟨b,3,none⟩=some (.int .u64 d.c.seed)/\q.cell? ⟨b,4,none⟩=some (.int .i64 d.c.batch)/\q.cell? ⟨b,5,none⟩=some (.int .i64 d.c.steps)/\q.cell? ⟨b,6,none⟩=some (.int .i64 d.c.rate)/\q.cell? ⟨b,7,none⟩=some (.int .i64 d.c.decay)/\q.cell? ⟨b,8,none⟩=some (.int .i64 d.c.how)/\q.cell? ⟨b,9,none⟩=some (.int .i64 d.c.keep)/\q.cell? ⟨b,10,none⟩=some (.int .i64 d.c.clip)/\q.cell? ⟨b,11,none⟩=some (.slice (some ⟨ga,oa,none⟩) d.n cap))/\q.cell? ⟨gn,on,none⟩=some (.int .i64 z)):=fun q hq=>⟨KI.out q hq,(KCN.out q hq).2⟩
 clear hI hH hO KCN hzi
 obtain ⟨V,HV⟩:=nm ((⟨#[108,111,115,115]⟩:ByteArray))
 have q0:(V.toList == [108,111,115,115])=true:=by rw [← HV.out]; exact (strEqL [108,111,115,115] [108,111,115,115]).trans (by decide)
 have q1:(V.toList == [115,116,101,112])=false:=by rw [← HV.out]; exact (strEqL [108,111,115,115] [115,116,101,112]).trans (by decide)
 have q2:(V.toList == [97,117,100,105,116])=false:=by rw [← HV.out]; exact (strEqL [108,111,115,115] [97,117,100,105,116]).trans (by decide)
 rw [HV.out]
 go_enter Tryz.func43,Tryz.ntmps43
 go_wp2_with fail
 refine wp_region_held_drew (S:=fun q=>(q.cell? ⟨b,0,none⟩=some (.int .i64 (I:Nat))/\q.cell? ⟨b,1,none⟩=some (.int .i64 (H:Nat))/\q.cell? ⟨b,2,none⟩=some (.int .i64 (O:Nat))/\q.cell? ⟨b,3,none⟩=some (.int .u64 d.c.seed)/\q.cell? ⟨b,4,none⟩=some (.int .i64 d.c.batch)/\q.cell? ⟨b,5,none⟩=some (.int .i64 d.c.steps)/\q.cell? ⟨b,6,none⟩=some (.int .i64 d.c.rate)/\q.cell? ⟨b,7,none⟩=some (.int .i64 d.c.decay)/\q.cell? ⟨b,8,none⟩=some (.int .i64 d.c.how)/\q.cell? ⟨b,9,none⟩=some (.int .i64 d.c.keep)/\q.cell? ⟨b,10,none⟩=some (.int .i64 d.c.clip)/\q.cell? ⟨b,11,none⟩=some (.slice (some ⟨ga,oa,none⟩) d.n cap))/\q.cell? ⟨gn,on,none⟩=some (.int .i64 z)) (by kernel_rfl) (by with_reducible exact (KIN.out _ hdr)) (fun hHeld=>?_)
 refine tk 0 (h:=?_)
 refine tk 1 (h:=?_)
 refine tk 2 (h:=?_)
 refine tk 3 (h:=?_)
 refine tk 4 (h:=?_)
 refine tk 5 (h:=?_)
 refine tk 6 (h:=?_)
 refine tk 7 (h:=?_)
 refine tk 8 (h:=?_)
 refine tk 9 (h:=?_)
 refine tk 10 (h:=?_)
 refine tk 11 (h:=?_)
 refine rd 12 (h:=fun K hK=>?_)
 clear hHeld
 go_simp
 (go_at_call 64; refine (RI.out _).mono ?_; rintro e w' ⟨rfl,hwE⟩; have hwF:=hwE.symm; subst hwF)
 go_wp2_with fail
 refine hK.out _ _ ?_ (fun hHeld=>?_)
 ·with_reducible exact (KIN.out _ hdr)
 clear hK K
 try simp only [Act.put,List.setIfInBounds_toArray,List.set_cons_zero,List.set_cons_succ]
 refine tk 13 (h:=?_)
 refine tk 14 (h:=?_)
 refine wpAnyH_done (by kernel_rfl) ?_ _
 go_wp2_with fail
 refine wp_region_held_drew (S:=fun q=>q.cell? ⟨b,0,none⟩=some (.int .i64 (I:Nat))/\q.cell? ⟨b,1,none⟩=some (.int .i64 (H:Nat))/\q.cell? ⟨b,2,none⟩=some (.int .i64 (O:Nat))/\q.cell? ⟨b,3,none⟩=some (.int .u64 d.c.seed)/\q.cell? ⟨b,4,none⟩=some (.int .i64 d.c.batch)/\q.cell? ⟨b,5,none⟩=some (.int .i64 d.c.steps)/\q.cell? ⟨b,6,none⟩=some (.int .i64 d.c.rate)/\q.cell? ⟨b,7,none⟩=some (.int .i64 d.c.decay)/\q.cell? ⟨b,8,none⟩=some (.int .i64 d.c.how)/\q.cell? ⟨b,9,none⟩=some (.int .i64 d.c.keep)/\q.cell? ⟨b,10,none⟩=some (.int .i64 d.c.clip)/\q.cell? ⟨b,11,none⟩=some (.slice (some ⟨ga,oa,none⟩) d.n cap)) (by kernel_rfl) (by with_reducible exact (KI.out _ hd1)) (fun hHeld=>?_)
 refine tk 0 (h:=?_)
 refine tk 1 (h:=?_)
 refine tk 2 (h:=?_)
 refine tk 3 (h:=?_)
 refine tk 4 (h:=?_)
 refine tk 5 (h:=?_)
 refine tk 6 (h:=?_)
 refine tk 7 (h:=?_)
 refine rd 8 (h:=fun K hK=>?_)
 clear hHeld
 go_simp
 (go_at_call 65; refine (HCO.out _ hd1).mono ?_; rintro e w2 ⟨rfl,bel2⟩; have hd2:=hd1.trans (bel2.mono hd1.size); have Z2:=KI.out _ hd2)
 go_wp2_with fail
 refine hK.out _ _ ?_ (fun hHeld=>?_)
 ·with_reducible exact Z2
 clear hK K
 try simp only [Act.put,List.setIfInBounds_toArray,List.set_cons_zero,List.set_cons_succ]
 refine tk 9 (h:=?_)
 refine wpAnyH_done (by kernel_rfl) ?_ _
 have hd3:Below w.heap.size w w2.drew:=hd2.drew
 obtain ⟨_,_,_,_,_,y5,_,_,_,_,_,_⟩:=KI.out _ hd2
 clear Z2 hHeld
 go_wp2_with fail
 refine wp_region_held_drew (S:=fun q=>q.cell? ⟨b,0,none⟩=some (.int .i64 (I:Nat))/\q.cell? ⟨b,1,none⟩=some (.int .i64 (H:Nat))/\q.cell? ⟨b,2,none⟩=some (.int .i64 (O:Nat))/\q.cell? ⟨b,3,none⟩=some (.int .u64 d.c.seed)/\q.cell? ⟨b,4,none⟩=some (.int .i64 d.c.batch)/\q.cell? ⟨b,5,none⟩=some (.int .i64 d.c.steps)/\q.cell? ⟨b,6,none⟩=some (.int .i64 d.c.rate)/\q.cell? ⟨b,7,none⟩=some (.int .i64 d.c.decay)/\q.cell? ⟨b,8,none⟩=some (.int .i64 d.c.how)/\q.cell? ⟨b,9,none⟩=some (.int .i64 d.c.keep)/\q.cell? ⟨b,10,none⟩=some (.int .i64 d.c.clip)/\q.cell? ⟨b,11,none⟩=some (.slice (some ⟨ga,oa,none⟩) d.n cap)) (by kernel_rfl) (by with_reducible exact (KI.out _ hd3)) (fun hHeld=>?_)
 refine tk 0 (h:=?_)
 refine tk 1 (h:=?_)
 refine tk 2 (h:=?_)
 refine tk 3 (h:=?_)
 refine tk 4 (h:=?_)
 refine tk 5 (h:=?_)
 refine tk 6 (h:=?_)
 refine tk 7 (h:=?_)
 refine tk 8 (h:=?_)
 refine tk 9 (h:=?_)
 refine tk 10 (h:=?_)
 refine tk 11 (h:=?_)
 refine tk 12 (h:=?_)
 refine tk 13 (h:=?_)
 refine tk 14 (h:=?_)
 refine tk 15 (h:=?_)
 refine tk 16 (h:=?_)
 refine tk 17 (h:=?_)
 refine tk 18 (h:=?_)
 refine tk 19 (h:=?_)
 refine tk 20 (h:=?_)
 refine tk 21 (h:=?_)
 refine tk 22 (h:=?_)
 refine tk 23 (h:=?_)
 refine tk 25 (h:=?_)
 refine wpAnyH_ready (rs:=[24,30]) (by kernel_rfl) (by simp) ?_
 refine AllReadyH.cons (o:=_) rfl (fun K hK=>?_) (AllReadyH.cons (o:=_) rfl (fun K hK=>?_) AllReadyH.nil)
 ·clear hHeld
  go_simp
  (go_at_call 70; refine (HST.out _ hd3).mono ?_; rintro e w4 ⟨gy,oy,ky,ya,yk,rfl,yc,yl,hky,bel4⟩; have hd4:Below w.heap.size w w4:=(hd3).trans (bel4.mono (hd3).size); have Z4:=KI.out _ hd4; have hgy:=World.block_lt_of_cell? _ _ yc)
  go_wp2_with fail
  refine hK.out _ _ ?_ (fun hHeld=>?_)
  ·with_reducible exact Z4
  clear hK K
  try simp only [Act.put,List.setIfInBounds_toArray,List.set_cons_zero,List.set_cons_succ]
  have KY:Hid (∀ q,Below w4.heap.size w4 q->(q.cell? ⟨b,0,none⟩=some (.int .i64 (I:Nat))/\q.cell? ⟨b,1,none⟩=some (.int .i64 (H:Nat))/\q.cell? ⟨b,2,none⟩=some (.int .i64 (O:Nat))/\q.cell? ⟨b,3,none⟩=some (.int .u64 d.c.seed)/\q.cell? ⟨b,4,none⟩=some (.int .i64 d.c.batch)/\q.cell? ⟨b,5,none⟩=some (.int .i64 d.c.steps)/\q.cell? ⟨b,6,none⟩=some (.int .i64 d.c.rate)/\q.cell? ⟨b,7,none⟩=some (.int .i64 d.c.decay)/\q.cell? ⟨b,8,none⟩=some (.int .i64 d.c.how)/\q.cell? ⟨b,9,none⟩=some (.int .i64 d.c.keep)/\q.cell? ⟨b,10,none⟩=some (.int .i64 d.c.clip)/\q.cell? ⟨b,11,none⟩=some (.slice (some ⟨ga,oa,none⟩) d.n cap))/\q.cell? ⟨gy,oy+N * 2,none⟩=some (.slice ya NN yk)):=fun q hq=>⟨KI.out _ (hd4.trans (hq.mono hd4.size)),(hq.cell (p:=⟨gy,oy+N * 2,none⟩) hgy).trans yc⟩
  refine wpAnyH_mono (S':=fun q=>(q.cell? ⟨b,0,none⟩=some (.int .i64 (I:Nat))/\q.cell? ⟨b,1,none⟩=some (.int .i64 (H:Nat))/\q.cell? ⟨b,2,none⟩=some (.int .i64 (O:Nat))/\q.cell? ⟨b,3,none⟩=some (.int .u64 d.c.seed)/\q.cell? ⟨b,4,none⟩=some (.int .i64 d.c.batch)/\q.cell? ⟨b,5,none⟩=some (.int .i64 d.c.steps)/\q.cell? ⟨b,6,none⟩=some (.int .i64 d.c.rate)/\q.cell? ⟨b,7,none⟩=some (.int .i64 d.c.decay)/\q.cell? ⟨b,8,none⟩=some (.int .i64 d.c.how)/\q.cell? ⟨b,9,none⟩=some (.int .i64 d.c.keep)/\q.cell? ⟨b,10,none⟩=some (.int .i64 d.c.clip)/\q.cell? ⟨b,11,none⟩=some (.slice (some ⟨ga,oa,none⟩) d.n cap))/\q.cell? ⟨gy,oy+N * 2,none⟩=some (.slice ya NN yk)) (fun q hq=>hq.1) _ _ _ _ ?_
  clear hHeld
  have hHeld:=KY.out _ br
  refine tk 26 (h:=?_)
  refine tk 27 (h:=?_)
  refine tk 28 (h:=?_)
  refine wpAnyH_ready (rs:=[29,30]) (by kernel_rfl) (by simp) ?_
  refine AllReadyH.cons (o:=_) rfl (fun K hK=>?_) (AllReadyH.cons (o:=_) rfl (fun K hK=>?_) AllReadyH.nil)
  ·clear hHeld
   go_simp
   (go_at_call 69; refine (HSH.out _ ya yk (yl)).mono ?_; rintro e w5 ⟨a1,k1',a2,k2',b1,t1,b2,t2,rfl,hpu,bel5⟩; have hd5:Below w.heap.size w w5:=(hd4).trans (bel5.mono (hd4).size); have Z5:=KY.out _ bel5; simp only [Pup.val,Pup.cells,rpup])
   go_wp2_with fail
   refine hK.out _ _ ?_ (fun hHeld=>?_)
   ·with_reducible exact Z5
   clear hK K
   try simp only [Act.put,List.setIfInBounds_toArray,List.set_cons_zero,List.set_cons_succ]
   refine rd 30 (h:=fun K hK=>?_)
   clear hHeld
   go_simp
   refine hK.out _ _ ?_ (fun hHeld=>?_)
   ·with_reducible exact (KY.out _ (alj bel5 nr))
   clear hK K
   try simp only [Act.put,List.setIfInBounds_toArray,List.set_cons_zero,List.set_cons_succ]
   refine rd 31 (h:=fun K hK=>?_)
   clear hHeld
   go_simp
   refine hK.out _ _ ?_ (fun hHeld=>?_)
   ·with_reducible exact (KY.out _ (alj bel5 nr))
   clear hK K
   try simp only [Act.put,List.setIfInBounds_toArray]
   refine wpAnyH_done (by kernel_rfl) ?_ _
   have BX:=Zag (ZaF w5 (.int .i64 (H:Nat)) (.int .i64 (I:Nat)) (.slice a1 (H * I) k1') (.int .i64 (O:Nat)) (.int .i64 (H:Nat)) (.slice a2 (O * H) k2') (.slice b1 H t1) (.slice b2 O t2) 102)
   have BF:Below w.heap.size w (w5.alloc (.cells #[.int .i64 (H:Nat),.int .i64 (I:Nat),.slice a1 (H * I) k1',.int .i64 (O:Nat),.int .i64 (H:Nat),.slice a2 (O * H) k2',.slice b1 H t1,.slice b2 O t2] 102)):=alj hd5 nr
   have hlF:Lst (w5.alloc (.cells #[.int .i64 (H:Nat),.int .i64 (I:Nat),.slice a1 (H * I) k1',.int .i64 (O:Nat),.int .i64 (H:Nat),.slice a2 (O * H) k2',.slice b1 H t1,.slice b2 O t2] 102)) ya NN yk SWk:=yl.below (alj bel5 nr) nr
   obtain ⟨WF,HWF⟩:∃ q,Hid (q=(w5.alloc (.cells #[.int .i64 (H:Nat),.int .i64 (I:Nat),.slice a1 (H * I) k1',.int .i64 (O:Nat),.int .i64 (H:Nat),.slice a2 (O * H) k2',.slice b1 H t1,.slice b2 O t2] 102))):=⟨_,rfl⟩
   rw [← HWF.out] at BX BF hlF
   rw [← HWF.out]
   have hdW:Below WF.heap.size WF WF.drew:=br.drew
   have hdF:Below w.heap.size w WF.drew:=BF.drew
   have hpb:=World.block_lt_of_cell? _ _ BX.c0
   have KS8:Hid (∀ q,Below WF.heap.size WF q->(q.cell? ⟨w5.heap.size,0,none⟩=some (.int .i64 (H:Nat))/\q.cell? ⟨w5.heap.size,1,none⟩=some (.int .i64 (I:Nat))/\q.cell? ⟨w5.heap.size,2,none⟩=some (.slice a1 (H * I) k1')/\q.cell? ⟨w5.heap.size,3,none⟩=some (.int .i64 (O:Nat))/\q.cell? ⟨w5.heap.size,4,none⟩=some (.int .i64 (H:Nat))/\q.cell? ⟨w5.heap.size,5,none⟩=some (.slice a2 (O * H) k2')/\q.cell? ⟨w5.heap.size,6,none⟩=some (.slice b1 H t1)/\q.cell? ⟨w5.heap.size,7,none⟩=some (.slice b2 O t2))/\q.cell? ⟨b,11,none⟩=some (.slice (some ⟨ga,oa,none⟩) d.n cap)/\q.cell? ⟨gn,on,none⟩=some (.int .i64 (zi:Nat))/\q.cell? ⟨ga,oa+zi * 2,none⟩=some (.slice xa I xk)/\q.cell? ⟨ga,oa+zi * 2+1,none⟩=some (.slice xb O xt)):=fun q hq=>⟨⟨(hq.cell (p:=⟨w5.heap.size,0,none⟩) hpb).trans BX.c0,(hq.cell (p:=⟨w5.heap.size,1,none⟩) hpb).trans BX.c1,(hq.cell (p:=⟨w5.heap.size,2,none⟩) hpb).trans BX.c2,(hq.cell (p:=⟨w5.heap.size,3,none⟩) hpb).trans BX.c3,(hq.cell (p:=⟨w5.heap.size,4,none⟩) hpb).trans BX.c4,(hq.cell (p:=⟨w5.heap.size,5,none⟩) hpb).trans BX.c5,(hq.cell (p:=⟨w5.heap.size,6,none⟩) hpb).trans BX.c6,(hq.cell (p:=⟨w5.heap.size,7,none⟩) hpb).trans BX.c7⟩,(KX.out _ (BF.trans (hq.mono BF.size)))⟩
   clear HWF hHeld
   go_wp2_with fail
   refine wp_region_held_drew (S:=fun q=>(q.cell? ⟨w5.heap.size,0,none⟩=some (.int .i64 (H:Nat))/\q.cell? ⟨w5.heap.size,1,none⟩=some (.int .i64 (I:Nat))/\q.cell? ⟨w5.heap.size,2,none⟩=some (.slice a1 (H * I) k1')/\q.cell? ⟨w5.heap.size,3,none⟩=some (.int .i64 (O:Nat))/\q.cell? ⟨w5.heap.size,4,none⟩=some (.int .i64 (H:Nat))/\q.cell? ⟨w5.heap.size,5,none⟩=some (.slice a2 (O * H) k2')/\q.cell? ⟨w5.heap.size,6,none⟩=some (.slice b1 H t1)/\q.cell? ⟨w5.heap.size,7,none⟩=some (.slice b2 O t2))/\q.cell? ⟨b,11,none⟩=some (.slice (some ⟨ga,oa,none⟩) d.n cap)/\q.cell? ⟨gn,on,none⟩=some (.int .i64 (zi:Nat))/\q.cell? ⟨ga,oa+zi * 2,none⟩=some (.slice xa I xk)/\q.cell? ⟨ga,oa+zi * 2+1,none⟩=some (.slice xb O xt)) (by kernel_rfl) (by with_reducible exact (KS8.out _ hdW)) (fun hHeld=>?_)
   refine tk 0 (h:=?_)
   refine tk 1 (h:=?_)
   refine tk 2 (h:=?_)
   refine tk 3 (h:=?_)
   refine tk 4 (h:=?_)
   refine tk 5 (h:=?_)
   refine tk 6 (h:=?_)
   refine tk 7 (h:=?_)
   refine tk 8 (h:=?_)
   refine tk 9 (h:=?_)
   refine rd 10 (h:=fun K hK=>?_)
   clear hHeld
   go_simp
   (go_at_call 71; refine (HLS.out _ a1 k1' a2 k2' b1 t1 b2 t2 hdF (hpu _ (hlF.below br.drew nr))).mono ?_; rintro e w6 ⟨rfl,bel6⟩; have hd6:=hdF.trans (bel6.mono hdF.size); have Z6:=KS8.out _ (hdW.trans bel6))
   go_wp2_with fail
   refine hK.out _ _ ?_ (fun hHeld=>?_)
   ·with_reducible exact Z6
   clear hK K
   try simp only [Act.put,List.setIfInBounds_toArray,List.set_cons_zero,List.set_cons_succ]
   refine rd 11 (h:=fun K hK=>?_)
   clear hHeld
   go_simp
   (go_at_call 28; refine (HIT.out _ hd6).mono ?_; rintro e w7 ⟨rfl,bel7⟩; have hd7:=hd6.trans (bel7.mono hd6.size); have Z7:=KS8.out _ (hdW.trans (bel6.trans (bel7.mono bel6.size))))
   go_wp2_with fail
   refine hK.out _ _ ?_ (fun hHeld=>?_)
   ·with_reducible exact Z7
   clear hK K
   try simp only [Act.put,List.setIfInBounds_toArray,List.set_cons_zero,List.set_cons_succ]
   refine tk 12 (h:=?_)
   refine wpAnyH_done (by kernel_rfl) ?_ _
   go_wp2_with fail
   go_ret
   exact ⟨by rw [HD.out,line_ok,HITB.out]; rfl,⟨_,cap,X,by rw [HD.out]; exact HH.out _ hd7⟩,hd7.mono hlt0⟩
  ·clear hHeld
   go_simp
   refine hK.out _ _ ?_ (fun hHeld=>?_)
   ·with_reducible exact (KY.out _ (alj br nr))
   clear hK K
   try simp only [Act.put,List.setIfInBounds_toArray,List.set_cons_zero,List.set_cons_succ]
   refine rd 29 (h:=fun K hK=>?_)
   clear hHeld
   go_simp
   (go_at_call 69; refine (HSH.out _ ya yk (yl.below (alj br nr) nr)).mono ?_; rintro e w5 ⟨a1,k1',a2,k2',b1,t1,b2,t2,rfl,hpu,bel5⟩; have hd5:Below w.heap.size w w5:=((alj hd4 nr)).trans (bel5.mono ((alj hd4 nr)).size); have R4:(w4.alloc (.cells #[.int .i64 0,.int .i64 0,.slice none 0 0,.int .i64 0,.int .i64 0,.slice none 0 0,.slice none 0 0,.slice none 0 0] 102)).rowIs w4.heap.size 102 8 (fn8 (.int .i64 0) (.int .i64 0) (.slice none 0 0) (.int .i64 0) (.int .i64 0) (.slice none 0 0) (.slice none 0 0) (.slice none 0 0)):=ZaF w4 (.int .i64 0) (.int .i64 0) (.slice none 0 0) (.int .i64 0) (.int .i64 0) (.slice none 0 0) (.slice none 0 0) (.slice none 0 0) 102; have R5:=R4.of_block (bel5.block _ R4.lt); obtain ⟨t0',t1',t2',t3',t4',t5',t6',t7'⟩:=Zag R5; have f0:=R5.frozen 0; have f1:=R5.frozen 1; have f2:=R5.frozen 2; have f3:=R5.frozen 3; have f4:=R5.frozen 4; have f5:=R5.frozen 5; have f6:=R5.frozen 6; have f7:=R5.frozen 7; have b45:Below w4.heap.size w4 w5:=(alj br nr).trans (bel5.mono (by simp)); have Z5:=KY.out _ b45; simp only [Pup.val,Pup.cells,rpup])
   go_wp2_with fail
   refine hK.out _ _ ?_ (fun hHeld=>?_)
   ·with_reducible exact Z5
   clear hK K
   try simp only [Act.put,List.setIfInBounds_toArray,List.set_cons_zero,List.set_cons_succ]
   refine rd 31 (h:=fun K hK=>?_)
   clear hHeld
   go_simp
   refine hK.out _ _ ?_ (fun hHeld=>?_)
   ·with_reducible exact (KY.out _ (setj (setj (setj (setj (setj (setj (setj (setj b45 nr) nr) nr) nr) nr) nr) nr) nr))
   clear hK K
   try simp only [Act.put,List.setIfInBounds_toArray]
   refine wpAnyH_done (by kernel_rfl) ?_ _
   have BX:=Zag (Zbm R5 (.int .i64 (H:Nat)) (.int .i64 (I:Nat)) (.slice a1 (H * I) k1') (.int .i64 (O:Nat)) (.int .i64 (H:Nat)) (.slice a2 (O * H) k2') (.slice b1 H t1) (.slice b2 O t2))
   have BF:Below w.heap.size w ((((((((w5.setCell ⟨w4.heap.size,0,none⟩ (.int .i64 (H:Nat))).setCell ⟨w4.heap.size,1,none⟩ (.int .i64 (I:Nat))).setCell ⟨w4.heap.size,2,none⟩ (.slice a1 (H * I) k1')).setCell ⟨w4.heap.size,3,none⟩ (.int .i64 (O:Nat))).setCell ⟨w4.heap.size,4,none⟩ (.int .i64 (H:Nat))).setCell ⟨w4.heap.size,5,none⟩ (.slice a2 (O * H) k2')).setCell ⟨w4.heap.size,6,none⟩ (.slice b1 H t1)).setCell ⟨w4.heap.size,7,none⟩ (.slice b2 O t2)):=(setj (setj (setj (setj (setj (setj (setj (setj hd5 hd4.size) hd4.size) hd4.size) hd4.size) hd4.size) hd4.size) hd4.size) hd4.size)
   have hlF:Lst ((((((((w5.setCell ⟨w4.heap.size,0,none⟩ (.int .i64 (H:Nat))).setCell ⟨w4.heap.size,1,none⟩ (.int .i64 (I:Nat))).setCell ⟨w4.heap.size,2,none⟩ (.slice a1 (H * I) k1')).setCell ⟨w4.heap.size,3,none⟩ (.int .i64 (O:Nat))).setCell ⟨w4.heap.size,4,none⟩ (.int .i64 (H:Nat))).setCell ⟨w4.heap.size,5,none⟩ (.slice a2 (O * H) k2')).setCell ⟨w4.heap.size,6,none⟩ (.slice b1 H t1)).setCell ⟨w4.heap.size,7,none⟩ (.slice b2 O t2)) ya NN yk SWk:=(yl.below b45 nr).set8 ((yl.below b45 nr).apartP hNN3 R5 (by simp) (by simp)) _ _ _ _ _ _ _ _
   obtain ⟨WF,HWF⟩:∃ q,Hid (q=((((((((w5.setCell ⟨w4.heap.size,0,none⟩ (.int .i64 (H:Nat))).setCell ⟨w4.heap.size,1,none⟩ (.int .i64 (I:Nat))).setCell ⟨w4.heap.size,2,none⟩ (.slice a1 (H * I) k1')).setCell ⟨w4.heap.size,3,none⟩ (.int .i64 (O:Nat))).setCell ⟨w4.heap.size,4,none⟩ (.int .i64 (H:Nat))).setCell ⟨w4.heap.size,5,none⟩ (.slice a2 (O * H) k2')).setCell ⟨w4.heap.size,6,none⟩ (.slice b1 H t1)).setCell ⟨w4.heap.size,7,none⟩ (.slice b2 O t2))):=⟨_,rfl⟩
   rw [← HWF.out] at BX BF hlF
   rw [← HWF.out]
   have hdW:Below WF.heap.size WF WF.drew:=br.drew
   have hdF:Below w.heap.size w WF.drew:=BF.drew
   have hpb:=World.block_lt_of_cell? _ _ BX.c0
   have KS8:Hid (∀ q,Below WF.heap.size WF q->(q.cell? ⟨w4.heap.size,0,none⟩=some (.int .i64 (H:Nat))/\q.cell? ⟨w4.heap.size,1,none⟩=some (.int .i64 (I:Nat))/\q.cell? ⟨w4.heap.size,2,none⟩=some (.slice a1 (H * I) k1')/\q.cell? ⟨w4.heap.size,3,none⟩=some (.int .i64 (O:Nat))/\q.cell? ⟨w4.heap.size,4,none⟩=some (.int .i64 (H:Nat))/\q.cell? ⟨w4.heap.size,5,none⟩=some (.slice a2 (O * H) k2')/\q.cell? ⟨w4.heap.size,6,none⟩=some (.slice b1 H t1)/\q.cell? ⟨w4.heap.size,7,none⟩=some (.slice b2 O t2))/\q.cell? ⟨b,11,none⟩=some (.slice (some ⟨ga,oa,none⟩) d.n cap)/\q.cell? ⟨gn,on,none⟩=some (.int .i64 (zi:Nat))/\q.cell? ⟨ga,oa+zi * 2,none⟩=some (.slice xa I xk)/\q.cell? ⟨ga,oa+zi * 2+1,none⟩=some (.slice xb O xt)):=fun q hq=>⟨⟨(hq.cell (p:=⟨w4.heap.size,0,none⟩) hpb).trans BX.c0,(hq.cell (p:=⟨w4.heap.size,1,none⟩) hpb).trans BX.c1,(hq.cell (p:=⟨w4.heap.size,2,none⟩) hpb).trans BX.c2,(hq.cell (p:=⟨w4.heap.size,3,none⟩) hpb).trans BX.c3,(hq.cell (p:=⟨w4.heap.size,4,none⟩) hpb).trans BX.c4,(hq.cell (p:=⟨w4.heap.size,5,none⟩) hpb).trans BX.c5,(hq.cell (p:=⟨w4.heap.size,6,none⟩) hpb).trans BX.c6,(hq.cell (p:=⟨w4.heap.size,7,none⟩) hpb).trans BX.c7⟩,(KX.out _ (BF.trans (hq.mono BF.size)))⟩
   clear HWF hHeld
   go_wp2_with fail
   refine wp_region_held_drew (S:=fun q=>(q.cell? ⟨w4.heap.size,0,none⟩=some (.int .i64 (H:Nat))/\q.cell? ⟨w4.heap.size,1,none⟩=some (.int .i64 (I:Nat))/\q.cell? ⟨w4.heap.size,2,none⟩=some (.slice a1 (H * I) k1')/\q.cell? ⟨w4.heap.size,3,none⟩=some (.int .i64 (O:Nat))/\q.cell? ⟨w4.heap.size,4,none⟩=some (.int .i64 (H:Nat))/\q.cell? ⟨w4.heap.size,5,none⟩=some (.slice a2 (O * H) k2')/\q.cell? ⟨w4.heap.size,6,none⟩=some (.slice b1 H t1)/\q.cell? ⟨w4.heap.size,7,none⟩=some (.slice b2 O t2))/\q.cell? ⟨b,11,none⟩=some (.slice (some ⟨ga,oa,none⟩) d.n cap)/\q.cell? ⟨gn,on,none⟩=some (.int .i64 (zi:Nat))/\q.cell? ⟨ga,oa+zi * 2,none⟩=some (.slice xa I xk)/\q.cell? ⟨ga,oa+zi * 2+1,none⟩=some (.slice xb O xt)) (by kernel_rfl) (by with_reducible exact (KS8.out _ hdW)) (fun hHeld=>?_)
   refine tk 0 (h:=?_)
   refine tk 1 (h:=?_)
   refine tk 2 (h:=?_)
   refine tk 3 (h:=?_)
   refine tk 4 (h:=?_)
   refine tk 5 (h:=?_)
   refine tk 6 (h:=?_)
   refine tk 7 (h:=?_)
   refine tk 8 (h:=?_)
   refine tk 9 (h:=?_)
   refine rd 10 (h:=fun K hK=>?_)
   clear hHeld
   go_simp
   (go_at_call 71; refine (HLS.out _ a1 k1' a2 k2' b1 t1 b2 t2 hdF (hpu _ (hlF.below br.drew nr))).mono ?_; rintro e w6 ⟨rfl,bel6⟩; have hd6:=hdF.trans (bel6.mono hdF.size); have Z6:=KS8.out _ (hdW.trans bel6))
   go_wp2_with fail
   refine hK.out _ _ ?_ (fun hHeld=>?_)
   ·with_reducible exact Z6
   clear hK K
   try simp only [Act.put,List.setIfInBounds_toArray,List.set_cons_zero,List.set_cons_succ]
   refine rd 11 (h:=fun K hK=>?_)
   clear hHeld
   go_simp
   (go_at_call 28; refine (HIT.out _ hd6).mono ?_; rintro e w7 ⟨rfl,bel7⟩; have hd7:=hd6.trans (bel7.mono hd6.size); have Z7:=KS8.out _ (hdW.trans (bel6.trans (bel7.mono bel6.size))))
   go_wp2_with fail
   refine hK.out _ _ ?_ (fun hHeld=>?_)
   ·with_reducible exact Z7
   clear hK K
   try simp only [Act.put,List.setIfInBounds_toArray,List.set_cons_zero,List.set_cons_succ]
   refine tk 12 (h:=?_)
   refine wpAnyH_done (by kernel_rfl) ?_ _
   go_wp2_with fail
   go_ret
   exact ⟨by rw [HD.out,line_ok,HITB.out]; rfl,⟨_,cap,X,by rw [HD.out]; exact HH.out _ hd7⟩,hd7.mono hlt0⟩
 ·clear hHeld
  go_simp
  refine hK.out _ _ ?_ (fun hHeld=>?_)
  ·with_reducible exact (KI.out _ (Below.drew (alj hd2 nr)))
  clear hK K
  try simp only [Act.put,List.setIfInBounds_toArray,List.set_cons_zero,List.set_cons_succ]
  refine rd 24 (h:=fun K hK=>?_)
  clear hHeld
  go_simp
  (go_at_call 70; refine (HST.out _ (Below.drew (alj hd2 nr))).mono ?_; rintro e w4 ⟨gy,oy,ky,ya,yk,rfl,yc,yl,hky,bel4⟩; have hd4:Below w.heap.size w w4:=((Below.drew (alj hd2 nr))).trans (bel4.mono ((Below.drew (alj hd2 nr))).size); have Z4:=KI.out _ hd4; have hgy:=World.block_lt_of_cell? _ _ yc)
  go_wp2_with fail
  refine hK.out _ _ ?_ (fun hHeld=>?_)
  ·with_reducible exact Z4
  clear hK K
  try simp only [Act.put,List.setIfInBounds_toArray,List.set_cons_zero,List.set_cons_succ]
  refine tk 26 (h:=?_)
  refine tk 27 (h:=?_)
  refine rd 28 (h:=fun K hK=>?_)
  clear hHeld
  go_simp
  refine hK.out _ _ ?_ (fun hHeld=>?_)
  ·with_reducible exact Z4
  clear hK K
  try simp only [Act.put,List.setIfInBounds_toArray,List.set_cons_zero,List.set_cons_succ]
  refine rd 29 (h:=fun K hK=>?_)
  clear hHeld
  go_simp
  (go_at_call 69; refine (HSH.out _ ya yk (yl)).mono ?_; rintro e w5 ⟨a1,k1',a2,k2',b1,t1,b2,t2,rfl,hpu,bel5⟩; have hd5:Below w.heap.size w w5:=(hd4).trans (bel5.mono (hd4).size); have R3:(w2.alloc (.cells #[.int .i64 0,.int .i64 0,.slice none 0 0,.int .i64 0,.int .i64 0,.slice none 0 0,.slice none 0 0,.slice none 0 0] 102)).drew.rowIs w2.heap.size 102 8 (fn8 (.int .i64 0) (.int .i64 0) (.slice none 0 0) (.int .i64 0) (.int .i64 0) (.slice none 0 0) (.slice none 0 0) (.slice none 0 0)):=ZaF w2 (.int .i64 0) (.int .i64 0) (.slice none 0 0) (.int .i64 0) (.int .i64 0) (.slice none 0 0) (.slice none 0 0) (.slice none 0 0) 102; have R4:=R3.of_block (bel4.block _ R3.lt); have R5:=R4.of_block (bel5.block _ R4.lt); obtain ⟨t0',t1',t2',t3',t4',t5',t6',t7'⟩:=Zag R5; have f0:=R5.frozen 0; have f1:=R5.frozen 1; have f2:=R5.frozen 2; have f3:=R5.frozen 3; have f4:=R5.frozen 4; have f5:=R5.frozen 5; have f6:=R5.frozen 6; have f7:=R5.frozen 7; have Z5:=KI.out _ hd5; simp only [Pup.val,Pup.cells,rpup])
  go_wp2_with fail
  refine hK.out _ _ ?_ (fun hHeld=>?_)
  ·with_reducible exact Z5
  clear hK K
  try simp only [Act.put,List.setIfInBounds_toArray,List.set_cons_zero,List.set_cons_succ]
  refine rd 31 (h:=fun K hK=>?_)
  clear hHeld
  go_simp
  refine hK.out _ _ ?_ (fun hHeld=>?_)
  ·with_reducible exact (KI.out _ (setj (setj (setj (setj (setj (setj (setj (setj hd5 hd2.size) hd2.size) hd2.size) hd2.size) hd2.size) hd2.size) hd2.size) hd2.size))
  clear hK K
  try simp only [Act.put,List.setIfInBounds_toArray]
  refine wpAnyH_done (by kernel_rfl) ?_ _
  have BX:=Zag (Zbm R5 (.int .i64 (H:Nat)) (.int .i64 (I:Nat)) (.slice a1 (H * I) k1') (.int .i64 (O:Nat)) (.int .i64 (H:Nat)) (.slice a2 (O * H) k2') (.slice b1 H t1) (.slice b2 O t2))
  have BF:Below w.heap.size w ((((((((w5.setCell ⟨w2.heap.size,0,none⟩ (.int .i64 (H:Nat))).setCell ⟨w2.heap.size,1,none⟩ (.int .i64 (I:Nat))).setCell ⟨w2.heap.size,2,none⟩ (.slice a1 (H * I) k1')).setCell ⟨w2.heap.size,3,none⟩ (.int .i64 (O:Nat))).setCell ⟨w2.heap.size,4,none⟩ (.int .i64 (H:Nat))).setCell ⟨w2.heap.size,5,none⟩ (.slice a2 (O * H) k2')).setCell ⟨w2.heap.size,6,none⟩ (.slice b1 H t1)).setCell ⟨w2.heap.size,7,none⟩ (.slice b2 O t2)):=(setj (setj (setj (setj (setj (setj (setj (setj hd5 hd2.size) hd2.size) hd2.size) hd2.size) hd2.size) hd2.size) hd2.size) hd2.size)
  have hlF:Lst ((((((((w5.setCell ⟨w2.heap.size,0,none⟩ (.int .i64 (H:Nat))).setCell ⟨w2.heap.size,1,none⟩ (.int .i64 (I:Nat))).setCell ⟨w2.heap.size,2,none⟩ (.slice a1 (H * I) k1')).setCell ⟨w2.heap.size,3,none⟩ (.int .i64 (O:Nat))).setCell ⟨w2.heap.size,4,none⟩ (.int .i64 (H:Nat))).setCell ⟨w2.heap.size,5,none⟩ (.slice a2 (O * H) k2')).setCell ⟨w2.heap.size,6,none⟩ (.slice b1 H t1)).setCell ⟨w2.heap.size,7,none⟩ (.slice b2 O t2)) ya NN yk SWk:=(yl.below bel5 nr).set8 ((yl.below bel5 nr).apartP hNN3 R5 (by simp) (by simp)) _ _ _ _ _ _ _ _
  obtain ⟨WF,HWF⟩:∃ q,Hid (q=((((((((w5.setCell ⟨w2.heap.size,0,none⟩ (.int .i64 (H:Nat))).setCell ⟨w2.heap.size,1,none⟩ (.int .i64 (I:Nat))).setCell ⟨w2.heap.size,2,none⟩ (.slice a1 (H * I) k1')).setCell ⟨w2.heap.size,3,none⟩ (.int .i64 (O:Nat))).setCell ⟨w2.heap.size,4,none⟩ (.int .i64 (H:Nat))).setCell ⟨w2.heap.size,5,none⟩ (.slice a2 (O * H) k2')).setCell ⟨w2.heap.size,6,none⟩ (.slice b1 H t1)).setCell ⟨w2.heap.size,7,none⟩ (.slice b2 O t2))):=⟨_,rfl⟩
  rw [← HWF.out] at BX BF hlF
  rw [← HWF.out]
  have hdW:Below WF.heap.size WF WF.drew:=br.drew
  have hdF:Below w.heap.size w WF.drew:=BF.drew
  have hpb:=World.block_lt_of_cell? _ _ BX.c0
  have KS8:Hid (∀ q,Below WF.heap.size WF q->(q.cell? ⟨w2.heap.size,0,none⟩=some (.int .i64 (H:Nat))/\q.cell? ⟨w2.heap.size,1,none⟩=some (.int .i64 (I:Nat))/\q.cell? ⟨w2.heap.size,2,none⟩=some (.slice a1 (H * I) k1')/\q.cell? ⟨w2.heap.size,3,none⟩=some (.int .i64 (O:Nat))/\q.cell? ⟨w2.heap.size,4,none⟩=some (.int .i64 (H:Nat))/\q.cell? ⟨w2.heap.size,5,none⟩=some (.slice a2 (O * H) k2')/\q.cell? ⟨w2.heap.size,6,none⟩=some (.slice b1 H t1)/\q.cell? ⟨w2.heap.size,7,none⟩=some (.slice b2 O t2))/\q.cell? ⟨b,11,none⟩=some (.slice (some ⟨ga,oa,none⟩) d.n cap)/\q.cell? ⟨gn,on,none⟩=some (.int .i64 (zi:Nat))/\q.cell? ⟨ga,oa+zi * 2,none⟩=some (.slice xa I xk)/\q.cell? ⟨ga,oa+zi * 2+1,none⟩=some (.slice xb O xt)):=fun q hq=>⟨⟨(hq.cell (p:=⟨w2.heap.size,0,none⟩) hpb).trans BX.c0,(hq.cell (p:=⟨w2.heap.size,1,none⟩) hpb).trans BX.c1,(hq.cell (p:=⟨w2.heap.size,2,none⟩) hpb).trans BX.c2,(hq.cell (p:=⟨w2.heap.size,3,none⟩) hpb).trans BX.c3,(hq.cell (p:=⟨w2.heap.size,4,none⟩) hpb).trans BX.c4,(hq.cell (p:=⟨w2.heap.size,5,none⟩) hpb).trans BX.c5,(hq.cell (p:=⟨w2.heap.size,6,none⟩) hpb).trans BX.c6,(hq.cell (p:=⟨w2.heap.size,7,none⟩) hpb).trans BX.c7⟩,(KX.out _ (BF.trans (hq.mono BF.size)))⟩
  clear HWF hHeld
  go_wp2_with fail
  refine wp_region_held_drew (S:=fun q=>(q.cell? ⟨w2.heap.size,0,none⟩=some (.int .i64 (H:Nat))/\q.cell? ⟨w2.heap.size,1,none⟩=some (.int .i64 (I:Nat))/\q.cell? ⟨w2.heap.size,2,none⟩=some (.slice a1 (H * I) k1')/\q.cell? ⟨w2.heap.size,3,none⟩=some (.int .i64 (O:Nat))/\q.cell? ⟨w2.heap.size,4,none⟩=some (.int .i64 (H:Nat))/\q.cell? ⟨w2.heap.size,5,none⟩=some (.slice a2 (O * H) k2')/\q.cell? ⟨w2.heap.size,6,none⟩=some (.slice b1 H t1)/\q.cell? ⟨w2.heap.size,7,none⟩=some (.slice b2 O t2))/\q.cell? ⟨b,11,none⟩=some (.slice (some ⟨ga,oa,none⟩) d.n cap)/\q.cell? ⟨gn,on,none⟩=some (.int .i64 (zi:Nat))/\q.cell? ⟨ga,oa+zi * 2,none⟩=some (.slice xa I xk)/\q.cell? ⟨ga,oa+zi * 2+1,none⟩=some (.slice xb O xt)) (by kernel_rfl) (by with_reducible exact (KS8.out _ hdW)) (fun hHeld=>?_)
  refine tk 0 (h:=?_)
  refine tk 1 (h:=?_)
  refine tk 2 (h:=?_)
  refine tk 3 (h:=?_)
  refine tk 4 (h:=?_)
  refine tk 5 (h:=?_)
  refine tk 6 (h:=?_)
  refine tk 7 (h:=?_)
  refine tk 8 (h:=?_)
  refine tk 9 (h:=?_)
  refine rd 10 (h:=fun K hK=>?_)
  clear hHeld
  go_simp
  (go_at_call 71; refine (HLS.out _ a1 k1' a2 k2' b1 t1 b2 t2 hdF (hpu _ (hlF.below br.drew nr))).mono ?_; rintro e w6 ⟨rfl,bel6⟩; have hd6:=hdF.trans (bel6.mono hdF.size); have Z6:=KS8.out _ (hdW.trans bel6))
  go_wp2_with fail
  refine hK.out _ _ ?_ (fun hHeld=>?_)
  ·with_reducible exact Z6
  clear hK K
  try simp only [Act.put,List.setIfInBounds_toArray,List.set_cons_zero,List.set_cons_succ]
  refine rd 11 (h:=fun K hK=>?_)
  clear hHeld
  go_simp
  (go_at_call 28; refine (HIT.out _ hd6).mono ?_; rintro e w7 ⟨rfl,bel7⟩; have hd7:=hd6.trans (bel7.mono hd6.size); have Z7:=KS8.out _ (hdW.trans (bel6.trans (bel7.mono bel6.size))))
  go_wp2_with fail
  refine hK.out _ _ ?_ (fun hHeld=>?_)
  ·with_reducible exact Z7
  clear hK K
  try simp only [Act.put,List.setIfInBounds_toArray,List.set_cons_zero,List.set_cons_succ]
  refine tk 12 (h:=?_)
  refine wpAnyH_done (by kernel_rfl) ?_ _
  go_wp2_with fail
  go_ret
  exact ⟨by rw [HD.out,line_ok,HITB.out]; rfl,⟨_,cap,X,by rw [HD.out]; exact HH.out _ hd7⟩,hd7.mono hlt0⟩
theorem course_loss (h:BnIn base w b d a cap X) (an:Option Addr) (cn:Nat) (z:Int) (hz:Lst w an 1 cn [z]) (la:Option Addr) (lc:Nat) (ls:List Ln) (hB:Beg d.T ls) :
  Calls Tryz.prog 43 #[.pointer (some ⟨b,0,none⟩),.string ⟨#[108,111,115,115]⟩,.slice an 1 cn,.slice la ls.length lc] w fun e w'=>BnR base b w (dLoss z d) e w':=by
 by_cases hin:0<=z/\z < (d.n:Int)
 ·by_cases hb:courseI d.c d.n d.X d.DI d.DO=0/\(ls.length:Int)<=d.c.steps
  ·exact course_loss_good h an cn z hz la lc ls hB hin hb.1 hb.2
  ·exact course_loss_bad h an cn z hz la lc ls hB hin hb
 ·exact course_loss_out h an cn z hz la lc ls hB hin
end
end Go.Proofs.YthmiojmlaclgaaaGreatDoor.Fx
