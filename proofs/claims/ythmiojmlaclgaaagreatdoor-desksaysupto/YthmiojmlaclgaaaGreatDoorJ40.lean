/- What the law stands on: RefDkD. -/
import Derived.Test.YthmiojmlaclgaaaGreatDoorJ00
import Derived.Test.YthmiojmlaclgaaaGreatDoorJ35
import Derived.Test.YthmiojmlaclgaaaGreatDoorJ39
import Derived.Test.YthmiojmlaclgaaaGreatDoorJ22
import Derived.Test.YthmiojmlaclgaaaGreatDoorJ32
import Derived.Test.YthmiojmlaclgaaaGreatDoorJ10
import Derived.Test.YthmiojmlaclgaaaGreatDoorJ21
set_option maxRecDepth 100000
set_option maxHeartbeats 12800000
namespace Go.Proofs.YthmiojmlaclgaaaGreatDoor.Fx
open Go.RowKit
section
section
variable {P:Program} {ops:Array Oper} {Q:Exit->Act->World->Prop} {md:Region.Mode} {S S':World->Prop}
theorem wpAnyH_mono (h:∀ w,S' w->S w):∀ (fuel:Nat) (listed:Array Bool) (a:Act) (w:World),wpAnyH P md ops Q S' fuel listed a w->wpAnyH P md ops Q S fuel listed a w
 | 0,_,_,_,hh=>hh
 | fuel+1,_,_,_,hh=>⟨hh.1,fun i hi=>wpOp_mono (fun a' w' h'=>⟨h _ h'.1,wpAnyH_mono h fuel _ a' w' h'.2⟩) (hh.2 i hi)⟩
end
variable {base:Nat} {w w':World} {b:Nat} {d:Dsk} {a:Option Addr} {cap:Nat} {X:Nat->Exm}
theorem BnIn.lens (h:BnIn base w b d a cap X):∀ i,i < d.n->(X i).n=(d.X i).n/\(X i).m=(d.X i).m:=fun i hi=>⟨(h.ex i hi).i.len.symm,(h.ex i hi).o.len.symm⟩
theorem BnIn.course (h:BnIn base w b d a cap X):courseI d.c d.n X d.DI d.DO=courseI d.c d.n d.X d.DI d.DO:=courseI_X h.lens
theorem ZaE {e:Int} (h:e ≠ 0) (t:List UInt8) (d:Dsk):(⟨t,e,d⟩:Out).line=errA e:=by unfold Out.line; rw [if_neg h]
theorem line_ok (t:List UInt8) (d:Dsk):(⟨t,0,d⟩:Out).line=t:=rfl
theorem cut_last (x:List UInt8):(⟨(x ++ [10]).toArray⟩:ByteArray).extract 0 x.length=⟨x.toArray⟩:=by
 apply Go.WideShapes.bytes_inj
 rw [Lib.extract_data]
 simp
theorem course_step (h:BnIn base w b d a cap X) (an:Option Addr) (nn cn:Nat) (la:Option Addr) (lc:Nat) (R:Nat->Rcm) (ls:List Ln) (hB:Beg d.T ls) (_hR:∀ j,j < ls.length->(R j).ln (lnAt ls j).b=lnAt ls j) (_hRec:Recs w la ls.length lc R (fun j=>(lnAt ls j).b)) :
  Calls Tryz.prog 43 #[.pointer (some ⟨b,0,none⟩),.string ⟨#[115,116,101,112]⟩,.slice an nn cn,.slice la ls.length lc] w fun e w'=>BnR base b w (dTake d) e w':=by
 have eb:=begL_of hB
 have en:d.k=ls.length:=by unfold Dsk.k; rw [eb]
 have h100:ls.length<=100:=hB.toBegTo.len
 have HCO:Hid (∀ q,Below w.heap.size w q->Calls Tryz.prog 65 #[d.c.val,.slice a d.n cap] q fun e w'=>e=.returned (.int .i64 (courseI d.c d.n d.X d.DI d.DO))/\Below q.heap.size q w'):=fun q hq=>by
  rw [← h.course]
  exact Zcb d.c a d.n cap X d.DI d.DO q (h.below hq).exs
 have HWR:Hid (∀ q e0,Below w.heap.size w q->1<=e0->e0<=99->Calls Tryz.prog 39 #[.int .i64 e0] q fun e w'=>e=.returned (.string ⟨(errA e0).toArray⟩)/\Below q.heap.size q w'):=fun q e0 hq h0 h1=>ZaQ e0 h0 h1 q (h.below hq).ld
 have HCB:=Lib.hid (ZbA d.c d.n d.X d.DI d.DO)
 have HH:Hid (∀ q,Below w.heap.size w q->BnIn base q b d a cap X):=fun q hq=>h.below hq
 have KC:Hid (∀ q,Below w.heap.size w q->q.cell? ⟨b,0,none⟩=some (.int .i64 d.c.i)/\q.cell? ⟨b,1,none⟩=some (.int .i64 d.c.h)/\q.cell? ⟨b,2,none⟩=some (.int .i64 d.c.o)/\q.cell? ⟨b,3,none⟩=some (.int .u64 d.c.seed)/\q.cell? ⟨b,4,none⟩=some (.int .i64 d.c.batch)/\q.cell? ⟨b,5,none⟩=some (.int .i64 d.c.steps)/\q.cell? ⟨b,6,none⟩=some (.int .i64 d.c.rate)/\q.cell? ⟨b,7,none⟩=some (.int .i64 d.c.decay)/\q.cell? ⟨b,8,none⟩=some (.int .i64 d.c.how)/\q.cell? ⟨b,9,none⟩=some (.int .i64 d.c.keep)/\q.cell? ⟨b,10,none⟩=some (.int .i64 d.c.clip)/\q.cell? ⟨b,11,none⟩=some (.slice a d.n cap)):=fun q hq=>⟨(h.below hq).cells.1.c0,(h.below hq).cells.1.c1,(h.below hq).cells.1.c2,(h.below hq).cells.1.c3,(h.below hq).cells.1.c4,(h.below hq).cells.1.c5,(h.below hq).cells.1.c6,(h.below hq).cells.1.c7,(h.below hq).cells.1.c8,(h.below hq).cells.1.c9,(h.below hq).cells.1.c10,(h.below hq).cells.2.1⟩
 have hlt0:=h.lt
 have hdr:Below w.heap.size w w.drew:=br.drew
 have hd1:Below w.heap.size w w.drew.drew:=hdr.drew
 have HD0:Hid (dTake d=if mkE d.c d.n d.X d.DI d.DO ((ls.length:Int)+1)=0 then (if 4096 < d.T.length+(jrL d.c d.n d.DI d.DO ls.length).text.length then ⟨[],6,d⟩ else ⟨(jrL d.c d.n d.DI d.DO ls.length).line,0,{ d with T:=d.T ++ (jrL d.c d.n d.DI d.DO ls.length).text }⟩) else ⟨[],mkE d.c d.n d.X d.DI d.DO ((ls.length:Int)+1),d⟩):=by show _=_; unfold dTake; rw [en]
 have HGO:Hid (courseI d.c d.n d.X d.DI d.DO=0->(ls.length:Int)+1<=d.c.steps->(jrL d.c d.n d.DI d.DO ls.length).ok/\(∀ q,Below w.heap.size w q->Calls Tryz.prog 67 #[d.c.val,.slice a d.n cap,.int .i64 ((ls.length:Int)+1)] q fun e w'=>∃ g off k x D,e=.returned (.slice (some ⟨g,off,none⟩) (ls.length+1) k)/\(w'.cell? ⟨g,off+ls.length * 5,none⟩=some (.int .i64 x.s)/\w'.cell? ⟨g,off+ls.length * 5+1,none⟩=some (.slice x.a x.n x.k)/\w'.cell? ⟨g,off+ls.length * 5+2,none⟩=some (.int .i64 x.r)/\w'.cell? ⟨g,off+ls.length * 5+3,none⟩=some (.int .u64 x.root)/\w'.cell? ⟨g,off+ls.length * 5+4,none⟩=some (.int .u64 x.chain))/\Lst w' x.a x.n x.k D/\Rcm.ln x D=jrL d.c d.n d.DI d.DO ls.length/\ls.length+1<=k/\Below q.heap.size q w')):=fun hc hs=>by
  have hF:courseI d.c d.n X d.DI d.DO=0:=by rw [h.course]; exact hc
  obtain ⟨_,_,_,⟨b1,b8⟩,⟨s1,s40⟩,_⟩:=Zal (Zbr hF).1
  refine ⟨(jrL_good hF s40 (by omega) (N:=ls.length+1) (by omega) ls.length (by omega)).1,fun q hq=>?_⟩
  have J:=rjour_any d.c h.ok.s a d.n cap X d.DI d.DO (ls.length+1) q (h.below hq).exs hF (by omega)
  rw [show ((ls.length+1:Nat):Int)=(ls.length:Int)+1 by omega] at J
  refine J.mono ?_
  rintro e w' ⟨bb,k,R2,rfl,hRc,hJn,hbb⟩
  obtain ⟨g,off,rfl,hc2⟩:=hRc.at (by omega)
  obtain ⟨z0,z1,z2,z3,z4,zl⟩:=hc2 ls.length (by omega)
  exact ⟨g,off,k,R2 ls.length,jrBatch d.c d.n ls.length,rfl,⟨z0,z1,z2,z3,z4⟩,zl,jrL_is hJn (by omega),hRc.1,hbb⟩
 have hT:=h.ok.T
 have hsy:=h.ok.sy
 obtain ⟨E,HE⟩:=nm (courseI d.c d.n d.X d.DI d.DO)
 have HME:Hid (∀ m:Int,mkE d.c d.n d.X d.DI d.DO m=if E=0 then (if inB m 0 d.c.steps=true then 0 else 1) else E):=fun m=>by unfold mkE; rw [HE.out]
 rw [HE.out] at HCO HGO HCB
 have hcb:=HCB.out
 obtain ⟨N,HN⟩:=nm (ls.length)
 rw [HN.out] at HD0 HGO h100
 rw [HN.out]
 have HT12:Hid (∀ q,Below w.heap.size w q->q.cell? ⟨b,12,none⟩=some (.string ⟨d.T.toArray⟩)/\q.frozen? ⟨b,12,none⟩=false):=fun q hq=>⟨(h.below hq).cells.2.2.1,(h.below hq).row.frozen 12⟩
 obtain ⟨TB,HTB⟩:=nm ((⟨d.T.toArray⟩:ByteArray))
 have hTB:d.T.length=TB.size:=by rw [← HTB.out]; rfl
 rw [HTB.out] at HT12
 have hwr:IntKind.i64.wrap ((N:Int)+1)=(N:Int)+1:=ZaK _ (by omega) (by omega)
 clear hB _hR _hRec eb en h HCB
 simp only [Cfg.val,Cfg.cells] at HCO HGO
 obtain ⟨V,HV⟩:=nm ((⟨#[115,116,101,112]⟩:ByteArray))
 have q0:(V.toList == [108,111,115,115])=false:=by rw [← HV.out]; exact (strEqL [115,116,101,112] [108,111,115,115]).trans (by decide)
 have q1:(V.toList == [115,116,101,112])=true:=by rw [← HV.out]; exact (strEqL [115,116,101,112] [115,116,101,112]).trans (by decide)
 rw [HV.out]
 go_enter Tryz.func43,Tryz.ntmps43
 go_wp2_with fail
 refine wp_region_held_drew (S:=fun q=>q.cell? ⟨b,0,none⟩=some (.int .i64 d.c.i)/\q.cell? ⟨b,1,none⟩=some (.int .i64 d.c.h)/\q.cell? ⟨b,2,none⟩=some (.int .i64 d.c.o)/\q.cell? ⟨b,3,none⟩=some (.int .u64 d.c.seed)/\q.cell? ⟨b,4,none⟩=some (.int .i64 d.c.batch)/\q.cell? ⟨b,5,none⟩=some (.int .i64 d.c.steps)/\q.cell? ⟨b,6,none⟩=some (.int .i64 d.c.rate)/\q.cell? ⟨b,7,none⟩=some (.int .i64 d.c.decay)/\q.cell? ⟨b,8,none⟩=some (.int .i64 d.c.how)/\q.cell? ⟨b,9,none⟩=some (.int .i64 d.c.keep)/\q.cell? ⟨b,10,none⟩=some (.int .i64 d.c.clip)/\q.cell? ⟨b,11,none⟩=some (.slice a d.n cap)) (by kernel_rfl) (by with_reducible exact (KC.out _ hdr)) (fun hHeld=>?_)
 refine tk 0 (h:=?_)
 refine tk 1 (h:=?_)
 refine tk 2 (h:=?_)
 refine tko 3 (h:=?_)
 refine tko 4 (h:=?_)
 refine tko 5 (h:=?_)
 refine tko 6 (h:=?_)
 refine tko 7 (h:=?_)
 refine tko 8 (h:=?_)
 refine tko 9 (h:=?_)
 refine tko 10 (h:=?_)
 refine tko 11 (h:=?_)
 refine tko 12 (h:=?_)
 refine tko 13 (h:=?_)
 refine tk 14 (h:=?_)
 refine wpAnyH_done (by kernel_rfl) ?_ _
 go_wp2_with fail
 refine wp_region_held_drew (S:=fun q=>q.cell? ⟨b,0,none⟩=some (.int .i64 d.c.i)/\q.cell? ⟨b,1,none⟩=some (.int .i64 d.c.h)/\q.cell? ⟨b,2,none⟩=some (.int .i64 d.c.o)/\q.cell? ⟨b,3,none⟩=some (.int .u64 d.c.seed)/\q.cell? ⟨b,4,none⟩=some (.int .i64 d.c.batch)/\q.cell? ⟨b,5,none⟩=some (.int .i64 d.c.steps)/\q.cell? ⟨b,6,none⟩=some (.int .i64 d.c.rate)/\q.cell? ⟨b,7,none⟩=some (.int .i64 d.c.decay)/\q.cell? ⟨b,8,none⟩=some (.int .i64 d.c.how)/\q.cell? ⟨b,9,none⟩=some (.int .i64 d.c.keep)/\q.cell? ⟨b,10,none⟩=some (.int .i64 d.c.clip)/\q.cell? ⟨b,11,none⟩=some (.slice a d.n cap)) (by kernel_rfl) (by with_reducible exact (KC.out _ hd1)) (fun hHeld=>?_)
 refine tk 0 (h:=?_)
 refine tk 1 (h:=?_)
 refine tk 2 (h:=?_)
 refine tk 3 (h:=?_)
 refine tk 4 (h:=?_)
 refine tk 5 (h:=?_)
 refine tk 6 (h:=?_)
 refine tk 7 (h:=?_)
 refine rd 8 (h:=fun K hK=>?_)
 clear hHeld
 go_simp
 (go_at_call 65; refine (HCO.out _ hd1).mono ?_; rintro e w2 ⟨rfl,bel2⟩; have hd2:=hd1.trans (bel2.mono hd1.size); have Z2:=KC.out _ hd2)
 go_wp2_with fail
 refine hK.out _ _ ?_ (fun hHeld=>?_)
 ·with_reducible exact Z2
 clear hK K
 try simp only [Act.put,List.setIfInBounds_toArray,List.set_cons_zero,List.set_cons_succ]
 refine tk 9 (h:=?_)
 refine wpAnyH_done (by kernel_rfl) ?_ _
 by_cases hE:E=0
 rotate_left
 ·have k1:(E == 0)=false:=by rw [beq_eq_false_iff_ne]; exact hE
  have k1':(E != 0)=true:=by unfold bne; rw [k1]; rfl
  have HD:Hid (dTake d=⟨[],E,d⟩):=by
   show _=_
   rw [HD0.out,HME.out,if_neg hE,if_neg hE]
  go_wp2_with fail
  refine (HWR.out _ E hd2 (by omega) (by omega)).mono ?_
  rintro e w3 ⟨rfl,hw3⟩
  have hd3:=hd2.trans (hw3.mono hd2.size)
  go_wp2_with fail
  go_ret
  exact ⟨by rw [HD.out,ZaE (by omega)]; rfl,⟨a,cap,X,by rw [HD.out]; exact HH.out _ hd3⟩,hd3.mono hlt0⟩
 have k1:(E == 0)=true:=by rw [beq_iff_eq]; exact hE
 have k1':(E != 0)=false:=by unfold bne; rw [k1]; rfl
 obtain ⟨_,_,_,_,_,y5,_,_,_,_,_,_⟩:=KC.out _ hd2
 by_cases hst:(N:Int)+1<=d.c.steps
 rotate_left
 ·have k2:d.c.steps < (N:Int)+1:=by omega
  have HD:Hid (dTake d=⟨[],1,d⟩):=by
   show _=_
   have hm:mkE d.c d.n d.X d.DI d.DO ((N:Int)+1)=1:=by rw [HME.out,if_pos hE,if_neg]; unfold inB; simp; omega
   rw [HD0.out,hm,if_neg (by decide)]
  go_wp2_with fail
  refine (HWR.out _ 1 hd2 (by omega) (by omega)).mono ?_
  rintro e w3 ⟨rfl,hw3⟩
  have hd3:=hd2.trans (hw3.mono hd2.size)
  go_wp2_with fail
  go_ret
  exact ⟨by rw [HD.out,ZaE (by omega)]; rfl,⟨a,cap,X,by rw [HD.out]; exact HH.out _ hd3⟩,hd3.mono hlt0⟩
 have k2:¬ d.c.steps < (N:Int)+1:=by omega
 have HDG:Hid (dTake d=if 4096 < d.T.length+(jrL d.c d.n d.DI d.DO N).text.length then ⟨[],6,d⟩ else ⟨(jrL d.c d.n d.DI d.DO N).line,0,{ d with T:=d.T ++ (jrL d.c d.n d.DI d.DO N).text }⟩):=by
  show _=_
  have hm:mkE d.c d.n d.X d.DI d.DO ((N:Int)+1)=0:=by rw [HME.out,if_pos hE,if_pos]; unfold inB; simp; omega
  rw [HD0.out,hm,if_pos rfl]
 obtain ⟨hok,hjr⟩:=HGO.out hE hst
 have HJR:=Lib.hid hjr
 have HOK:=Lib.hid hok
 clear hjr HGO HD0 HME HCO
 generalize jrL d.c d.n d.DI d.DO N=l at *
 have hsh:=HOK.out.short
 have hd3:Below w.heap.size w w2.drew:=hd2.drew
 have p1:(0:Int)<=(N:Int):=by omega
 have p2:(N:Int) < (N:Int)+1:=by omega
 have p3:N < N+1:=by omega
 go_wp2_with fail
 refine wp_region_held_drew (S:=fun q=>q.cell? ⟨b,0,none⟩=some (.int .i64 d.c.i)/\q.cell? ⟨b,1,none⟩=some (.int .i64 d.c.h)/\q.cell? ⟨b,2,none⟩=some (.int .i64 d.c.o)/\q.cell? ⟨b,3,none⟩=some (.int .u64 d.c.seed)/\q.cell? ⟨b,4,none⟩=some (.int .i64 d.c.batch)/\q.cell? ⟨b,5,none⟩=some (.int .i64 d.c.steps)/\q.cell? ⟨b,6,none⟩=some (.int .i64 d.c.rate)/\q.cell? ⟨b,7,none⟩=some (.int .i64 d.c.decay)/\q.cell? ⟨b,8,none⟩=some (.int .i64 d.c.how)/\q.cell? ⟨b,9,none⟩=some (.int .i64 d.c.keep)/\q.cell? ⟨b,10,none⟩=some (.int .i64 d.c.clip)/\q.cell? ⟨b,11,none⟩=some (.slice a d.n cap)) (by kernel_rfl) (by with_reducible exact (KC.out _ hd3)) (fun hHeld=>?_)
 refine tk 0 (h:=?_)
 refine tk 1 (h:=?_)
 refine tk 2 (h:=?_)
 refine tk 3 (h:=?_)
 refine tk 4 (h:=?_)
 refine tk 5 (h:=?_)
 refine tk 6 (h:=?_)
 refine tk 7 (h:=?_)
 refine tk 8 (h:=?_)
 refine tk 9 (h:=?_)
 refine tk 11 (h:=?_)
 refine rd 10 (h:=fun K hK=>?_)
 clear hHeld
 go_simp
 (go_at_call 67; refine (HJR.out _ hd3).mono ?_; rintro e w4 ⟨g,off,kc,x,D,rfl,zc,zl,zj,hkc,bel4⟩; have hd4:=hd3.trans (bel4.mono hd3.size); have Z4:=KC.out _ hd4; have HZJ:=Lib.hid zj; have hglt:=World.block_lt_of_cell? _ _ zc.1; have HTX:Hid (∀ q,Below w4.heap.size w4 q->Calls Tryz.prog 66 #[x.val] q fun e w'=>e=.returned (.string ⟨l.text.toArray⟩)/\Below q.heap.size q w'):=(fun q hq=>by have h3:=rtext_calls x D q (zl.below hq nr) (by rw [HZJ.out]; exact HOK.out) (HH.out _ (hd4.trans (hq.mono hd4.size))).ld; rw [HZJ.out] at h3; exact h3))
 go_wp2_with fail
 refine hK.out _ _ ?_ (fun hHeld=>?_)
 ·with_reducible exact Z4
 clear hK K
 try simp only [Act.put,List.setIfInBounds_toArray,List.set_cons_zero,List.set_cons_succ]
 obtain ⟨xs,xa,xn,xk,xr,xroot,xchain⟩:=x
 simp only [Rcm.val,Rcm.cells] at zc zl HTX
 have KR:Hid (∀ q,Below w4.heap.size w4 q->(q.cell? ⟨b,0,none⟩=some (.int .i64 d.c.i)/\q.cell? ⟨b,1,none⟩=some (.int .i64 d.c.h)/\q.cell? ⟨b,2,none⟩=some (.int .i64 d.c.o)/\q.cell? ⟨b,3,none⟩=some (.int .u64 d.c.seed)/\q.cell? ⟨b,4,none⟩=some (.int .i64 d.c.batch)/\q.cell? ⟨b,5,none⟩=some (.int .i64 d.c.steps)/\q.cell? ⟨b,6,none⟩=some (.int .i64 d.c.rate)/\q.cell? ⟨b,7,none⟩=some (.int .i64 d.c.decay)/\q.cell? ⟨b,8,none⟩=some (.int .i64 d.c.how)/\q.cell? ⟨b,9,none⟩=some (.int .i64 d.c.keep)/\q.cell? ⟨b,10,none⟩=some (.int .i64 d.c.clip)/\q.cell? ⟨b,11,none⟩=some (.slice a d.n cap))/\(q.cell? ⟨g,off+N * 5,none⟩=some (.int .i64 xs)/\q.cell? ⟨g,off+N * 5+1,none⟩=some (.slice xa xn xk)/\q.cell? ⟨g,off+N * 5+2,none⟩=some (.int .i64 xr)/\q.cell? ⟨g,off+N * 5+3,none⟩=some (.int .u64 xroot)/\q.cell? ⟨g,off+N * 5+4,none⟩=some (.int .u64 xchain))):=fun q hq=>⟨KC.out _ (hd4.trans (hq.mono hd4.size)),(hq.cell (p:=⟨g,off+N * 5,none⟩) hglt).trans zc.1,(hq.cell (p:=⟨g,off+N * 5+1,none⟩) hglt).trans zc.2.1,(hq.cell (p:=⟨g,off+N * 5+2,none⟩) hglt).trans zc.2.2.1,(hq.cell (p:=⟨g,off+N * 5+3,none⟩) hglt).trans zc.2.2.2.1,(hq.cell (p:=⟨g,off+N * 5+4,none⟩) hglt).trans zc.2.2.2.2⟩
 refine wpAnyH_mono (S':=fun q=>(q.cell? ⟨b,0,none⟩=some (.int .i64 d.c.i)/\q.cell? ⟨b,1,none⟩=some (.int .i64 d.c.h)/\q.cell? ⟨b,2,none⟩=some (.int .i64 d.c.o)/\q.cell? ⟨b,3,none⟩=some (.int .u64 d.c.seed)/\q.cell? ⟨b,4,none⟩=some (.int .i64 d.c.batch)/\q.cell? ⟨b,5,none⟩=some (.int .i64 d.c.steps)/\q.cell? ⟨b,6,none⟩=some (.int .i64 d.c.rate)/\q.cell? ⟨b,7,none⟩=some (.int .i64 d.c.decay)/\q.cell? ⟨b,8,none⟩=some (.int .i64 d.c.how)/\q.cell? ⟨b,9,none⟩=some (.int .i64 d.c.keep)/\q.cell? ⟨b,10,none⟩=some (.int .i64 d.c.clip)/\q.cell? ⟨b,11,none⟩=some (.slice a d.n cap))/\(q.cell? ⟨g,off+N * 5,none⟩=some (.int .i64 xs)/\q.cell? ⟨g,off+N * 5+1,none⟩=some (.slice xa xn xk)/\q.cell? ⟨g,off+N * 5+2,none⟩=some (.int .i64 xr)/\q.cell? ⟨g,off+N * 5+3,none⟩=some (.int .u64 xroot)/\q.cell? ⟨g,off+N * 5+4,none⟩=some (.int .u64 xchain))) (fun q hq=>hq.1) _ _ _ _ ?_
 clear hHeld
 have hHeld:=KR.out _ br
 clear zc zl zj
 refine tk 12 (h:=?_)
 refine tk 13 (h:=?_)
 refine rd 14 (h:=fun K hK=>?_)
 clear hHeld
 go_simp
 (go_at_call 66; refine (HTX.out _ br).mono ?_; rintro e w5 ⟨rfl,bel5⟩; have hd5:=hd4.trans (bel5.mono hd4.size); have Z5:=KR.out _ bel5)
 go_wp2_with fail
 refine hK.out _ _ ?_ (fun hHeld=>?_)
 ·with_reducible exact Z5
 clear hK K
 try simp only [Act.put,List.setIfInBounds_toArray,List.set_cons_zero,List.set_cons_succ]
 refine tk 15 (h:=?_)
 refine wpAnyH_done (by kernel_rfl) ?_ _
 obtain ⟨LT,HLT⟩:=nm ((⟨l.text.toArray⟩:ByteArray))
 have hLT:l.text.length=LT.size:=by rw [← HLT.out]; rfl
 have hl1:l.text.length=l.line.length+1:=by unfold Ln.text; rw [List.length_append]; rfl
 rw [HLT.out]
 obtain ⟨y12,f12⟩:=HT12.out _ hd5
 clear Z2 Z4 Z5 hHeld KR HTX HJR
 by_cases hfull:4096 < d.T.length+l.text.length
 ·have k3:(4096:Int) < (TB.size:Int)+(LT.size:Int):=by omega
  have HD:Hid (dTake d=⟨[],6,d⟩):=by show _=_; rw [HDG.out,if_pos hfull]
  go_wp2_with fail
  refine (HWR.out _ 6 hd5 (by omega) (by omega)).mono ?_
  rintro e w6 ⟨rfl,hw6⟩
  have hd6:=hd5.trans (hw6.mono hd5.size)
  go_wp2_with fail
  go_ret
  exact ⟨by rw [HD.out,ZaE (by omega)]; rfl,⟨a,cap,X,by rw [HD.out]; exact HH.out _ hd6⟩,hd6.mono hlt0⟩
 ·have k3:¬ (4096:Int) < (TB.size:Int)+(LT.size:Int):=by omega
  have k4:TB.size+LT.size<=9223372036854775807:=by omega
  have HCAT:Hid (TB ++ LT=⟨(d.T ++ l.text).toArray⟩):=by show _=_; rw [← HTB.out,← HLT.out,arr_cat2]
  have hcat:TB ++ LT=⟨(d.T ++ l.text).toArray⟩:=HCAT.out
  obtain ⟨m,hm⟩:∃ m,LT.size=m+1:=⟨l.line.length,by omega⟩
  have HCUT:Hid (LT.extract 0 m=⟨l.line.toArray⟩):=by
   show _=_
   rw [← HLT.out,show m=l.line.length by omega]
   exact cut_last l.line
  have hcut:LT.extract 0 m=⟨l.line.toArray⟩:=HCUT.out
  have m1:(0:Int)<=(m:Int):=by omega
  have m2:(m:Int)<=(LT.size:Int):=by omega
  have HD:Hid (dTake d=⟨l.line,0,{ d with T:=d.T ++ l.text }⟩):=by show _=_; rw [HDG.out,if_neg hfull]
  have HB5:Hid (BnIn base (w5.setCell ⟨b,12,none⟩ (.string ⟨(d.T ++ l.text).toArray⟩)) b { d with T:=d.T ++ l.text } a cap X):=(HH.out _ hd5).setT (by rw [List.length_append]; omega) (by rw [List.length_append]; omega)
  have hbb:=(HH.out _ hd5).hb
  have HBL:Hid (Below base w (w5.setCell ⟨b,12,none⟩ (.string ⟨(d.T ++ l.text).toArray⟩))):=(hd5.mono hlt0).setCell (p:=⟨b,12,none⟩) hbb _
  obtain ⟨NT,HNT⟩:=nm ((⟨(d.T ++ l.text).toArray⟩:ByteArray))
  obtain ⟨LL,HLL⟩:=nm ((⟨l.line.toArray⟩:ByteArray))
  rw [HNT.out] at hcat HB5 HBL
  rw [HLL.out] at hcut
  clear hLT hl1 hfull
  go_wp2_with fail
  go_ret
  exact ⟨by rw [HD.out,line_ok,HLL.out]; rfl,⟨a,cap,X,by rw [HD.out]; exact HB5.out⟩,HBL.out⟩
theorem course_audit (h:BnIn base w b d a cap X) (an:Option Addr) (nn cn:Nat) (la:Option Addr) (lc:Nat) (R:Nat->Rcm) (ls:List Ln) (hB:Beg d.T ls) (hR:∀ j,j < ls.length->(R j).ln (lnAt ls j).b=lnAt ls j) (hRec:Recs w la ls.length lc R (fun j=>(lnAt ls j).b)) :
  Calls Tryz.prog 43 #[.pointer (some ⟨b,0,none⟩),.string ⟨#[97,117,100,105,116]⟩,.slice an nn cn,.slice la ls.length lc] w fun e w'=>BnR base b w (dAudit d) e w':=by
 have eb:=begL_of hB
 have en:d.k=ls.length:=by unfold Dsk.k; rw [eb]
 have h100:ls.length<=100:=hB.toBegTo.len
 have HCO:Hid (∀ q,Below w.heap.size w q->Calls Tryz.prog 65 #[d.c.val,.slice a d.n cap] q fun e w'=>e=.returned (.int .i64 (courseI d.c d.n d.X d.DI d.DO))/\Below q.heap.size q w'):=fun q hq=>by
  rw [← h.course]
  exact Zcb d.c a d.n cap X d.DI d.DO q (h.below hq).exs
 have HWR:Hid (∀ q e0,Below w.heap.size w q->1<=e0->e0<=99->Calls Tryz.prog 39 #[.int .i64 e0] q fun e w'=>e=.returned (.string ⟨(errA e0).toArray⟩)/\Below q.heap.size q w'):=fun q e0 hq h0 h1=>ZaQ e0 h0 h1 q (h.below hq).ld
 have HCB:=Lib.hid (ZbA d.c d.n d.X d.DI d.DO)
 have HH:Hid (∀ q,Below w.heap.size w q->BnIn base q b d a cap X):=fun q hq=>h.below hq
 have KC:Hid (∀ q,Below w.heap.size w q->q.cell? ⟨b,0,none⟩=some (.int .i64 d.c.i)/\q.cell? ⟨b,1,none⟩=some (.int .i64 d.c.h)/\q.cell? ⟨b,2,none⟩=some (.int .i64 d.c.o)/\q.cell? ⟨b,3,none⟩=some (.int .u64 d.c.seed)/\q.cell? ⟨b,4,none⟩=some (.int .i64 d.c.batch)/\q.cell? ⟨b,5,none⟩=some (.int .i64 d.c.steps)/\q.cell? ⟨b,6,none⟩=some (.int .i64 d.c.rate)/\q.cell? ⟨b,7,none⟩=some (.int .i64 d.c.decay)/\q.cell? ⟨b,8,none⟩=some (.int .i64 d.c.how)/\q.cell? ⟨b,9,none⟩=some (.int .i64 d.c.keep)/\q.cell? ⟨b,10,none⟩=some (.int .i64 d.c.clip)/\q.cell? ⟨b,11,none⟩=some (.slice a d.n cap)):=fun q hq=>⟨(h.below hq).cells.1.c0,(h.below hq).cells.1.c1,(h.below hq).cells.1.c2,(h.below hq).cells.1.c3,(h.below hq).cells.1.c4,(h.below hq).cells.1.c5,(h.below hq).cells.1.c6,(h.below hq).cells.1.c7,(h.below hq).cells.1.c8,(h.below hq).cells.1.c9,(h.below hq).cells.1.c10,(h.below hq).cells.2.1⟩
 have hlt0:=h.lt
 have hdr:Below w.heap.size w w.drew:=br.drew
 have hd1:Below w.heap.size w w.drew.drew:=hdr.drew
 obtain ⟨AN,HAN⟩:=nm (α:=Nat) (firstNo (auB d.c d.n d.DI d.DO R (fun j=>(lnAt ls j).b)) ls.length)
 have HAU:Hid (courseI d.c d.n d.X d.DI d.DO=0->(ls.length:Int)<=d.c.steps->(∀ q,Below w.heap.size w q->Calls Tryz.prog 68 #[d.c.val,.slice a d.n cap,.slice la ls.length lc] q fun e w'=>e=.returned (.int .i64 (AN:Nat))/\Below q.heap.size q w')):=fun hc hs q hq=>by
  have hF:courseI d.c d.n X d.DI d.DO=0:=by rw [h.course]; exact hc
  have A:=raudit_calls d.c h.ok.s a d.n cap X d.DI d.DO la ls.length lc R (fun j=>(lnAt ls j).b) q (h.below hq).exs (hRec.below hq nr) (fun j hj=>by rw [recsN hRec hj]; have:=(hB.ok j hj).n; omega) hF hs
  rw [HAN.out] at A
  exact A
 have HDA:Hid (dAudit d=dNum (if courseI d.c d.n d.X d.DI d.DO=0/\(ls.length:Int)<=d.c.steps then (AN:Nat) else 0:Int) (if courseI d.c d.n d.X d.DI d.DO=0 then (if (ls.length:Int)<=d.c.steps then 0 else 2) else courseI d.c d.n d.X d.DI d.DO) d):=by
  show _=_
  unfold dAudit whN whE
  rw [en,eb]
  have e1:firstNo (auB d.c d.n d.DI d.DO (rcL ls) (fun j=>(lnAt ls j).b)) ls.length=AN:=by
   rw [← HAN.out]
   exact (Zce (fun j hj=>auB_rc (hR j hj))).symm
  rw [e1]
  by_cases c1:courseI d.c d.n d.X d.DI d.DO=0
  ·by_cases c2:(ls.length:Int)<=d.c.steps
   ·simp [c1,c2]
   ·simp [c1,c2]
  ·simp [c1]
 have HNB:Hid (AN<=100):=by show _<=_; rw [← HAN.out]; exact Nat.le_trans (ZcO _ _) h100
 obtain ⟨E,HE⟩:=nm (courseI d.c d.n d.X d.DI d.DO)
 rw [HE.out] at HCO HAU HCB HDA
 have hcb:=HCB.out
 have hnb:=HNB.out
 obtain ⟨N,HN⟩:=nm (ls.length)
 rw [HN.out] at HAU HDA h100
 rw [HN.out]
 have HIT:Hid (∀ q,Below w.heap.size w q->Calls Tryz.prog 28 #[.int .i64 (AN:Nat)] q fun e w'=>e=.returned (.string ⟨(Lib.itoa (AN:Nat)).toArray⟩)/\Below q.heap.size q w'):=fun q hq=>ZaC _ (by omega) (by omega) q (h.below hq).ld
 obtain ⟨IT,HITB⟩:=nm ((⟨(Lib.itoa (AN:Nat)).toArray⟩:ByteArray))
 rw [HITB.out] at HIT
 clear hB hR hRec eb en h HCB
 simp only [Cfg.val,Cfg.cells] at HCO HAU
 obtain ⟨V,HV⟩:=nm ((⟨#[97,117,100,105,116]⟩:ByteArray))
 have q0:(V.toList == [108,111,115,115])=false:=by rw [← HV.out]; exact (strEqL [97,117,100,105,116] [108,111,115,115]).trans (by decide)
 have q1:(V.toList == [115,116,101,112])=false:=by rw [← HV.out]; exact (strEqL [97,117,100,105,116] [115,116,101,112]).trans (by decide)
 have q2:(V.toList == [97,117,100,105,116])=true:=by rw [← HV.out]; exact (strEqL [97,117,100,105,116] [97,117,100,105,116]).trans (by decide)
 rw [HV.out]
 go_enter Tryz.func43,Tryz.ntmps43
 go_wp2_with fail
 refine wp_region_held_drew (S:=fun q=>q.cell? ⟨b,0,none⟩=some (.int .i64 d.c.i)/\q.cell? ⟨b,1,none⟩=some (.int .i64 d.c.h)/\q.cell? ⟨b,2,none⟩=some (.int .i64 d.c.o)/\q.cell? ⟨b,3,none⟩=some (.int .u64 d.c.seed)/\q.cell? ⟨b,4,none⟩=some (.int .i64 d.c.batch)/\q.cell? ⟨b,5,none⟩=some (.int .i64 d.c.steps)/\q.cell? ⟨b,6,none⟩=some (.int .i64 d.c.rate)/\q.cell? ⟨b,7,none⟩=some (.int .i64 d.c.decay)/\q.cell? ⟨b,8,none⟩=some (.int .i64 d.c.how)/\q.cell? ⟨b,9,none⟩=some (.int .i64 d.c.keep)/\q.cell? ⟨b,10,none⟩=some (.int .i64 d.c.clip)/\q.cell? ⟨b,11,none⟩=some (.slice a d.n cap)) (by kernel_rfl) (by with_reducible exact (KC.out _ hdr)) (fun hHeld=>?_)
 refine tk 0 (h:=?_)
 refine tk 1 (h:=?_)
 refine tk 2 (h:=?_)
 refine tko 3 (h:=?_)
 refine tko 4 (h:=?_)
 refine tko 5 (h:=?_)
 refine tko 6 (h:=?_)
 refine tko 7 (h:=?_)
 refine tko 8 (h:=?_)
 refine tko 9 (h:=?_)
 refine tko 10 (h:=?_)
 refine tko 11 (h:=?_)
 refine tko 12 (h:=?_)
 refine tko 13 (h:=?_)
 refine tk 14 (h:=?_)
 refine wpAnyH_done (by kernel_rfl) ?_ _
 go_wp2_with fail
 refine wp_region_held_drew (S:=fun q=>q.cell? ⟨b,0,none⟩=some (.int .i64 d.c.i)/\q.cell? ⟨b,1,none⟩=some (.int .i64 d.c.h)/\q.cell? ⟨b,2,none⟩=some (.int .i64 d.c.o)/\q.cell? ⟨b,3,none⟩=some (.int .u64 d.c.seed)/\q.cell? ⟨b,4,none⟩=some (.int .i64 d.c.batch)/\q.cell? ⟨b,5,none⟩=some (.int .i64 d.c.steps)/\q.cell? ⟨b,6,none⟩=some (.int .i64 d.c.rate)/\q.cell? ⟨b,7,none⟩=some (.int .i64 d.c.decay)/\q.cell? ⟨b,8,none⟩=some (.int .i64 d.c.how)/\q.cell? ⟨b,9,none⟩=some (.int .i64 d.c.keep)/\q.cell? ⟨b,10,none⟩=some (.int .i64 d.c.clip)/\q.cell? ⟨b,11,none⟩=some (.slice a d.n cap)) (by kernel_rfl) (by with_reducible exact (KC.out _ hd1)) (fun hHeld=>?_)
 refine tk 0 (h:=?_)
 refine tk 1 (h:=?_)
 refine tk 2 (h:=?_)
 refine tk 3 (h:=?_)
 refine tk 4 (h:=?_)
 refine tk 5 (h:=?_)
 refine tk 6 (h:=?_)
 refine tk 7 (h:=?_)
 refine rd 8 (h:=fun K hK=>?_)
 clear hHeld
 go_simp
 (go_at_call 65; refine (HCO.out _ hd1).mono ?_; rintro e w2 ⟨rfl,bel2⟩; have hd2:=hd1.trans (bel2.mono hd1.size); have Z2:=KC.out _ hd2)
 go_wp2_with fail
 refine hK.out _ _ ?_ (fun hHeld=>?_)
 ·with_reducible exact Z2
 clear hK K
 try simp only [Act.put,List.setIfInBounds_toArray,List.set_cons_zero,List.set_cons_succ]
 refine tk 9 (h:=?_)
 refine wpAnyH_done (by kernel_rfl) ?_ _
 by_cases hE:E=0
 rotate_left
 ·have k1:(E == 0)=false:=by rw [beq_eq_false_iff_ne]; exact hE
  have k1':(E != 0)=true:=by unfold bne; rw [k1]; rfl
  have HD:Hid (dAudit d=⟨[],E,d⟩):=by
   show _=_
   rw [HDA.out,if_neg hE]
   unfold dNum
   rw [if_neg hE]
  go_wp2_with fail
  refine (HWR.out _ E hd2 (by omega) (by omega)).mono ?_
  rintro e w3 ⟨rfl,hw3⟩
  have hd3:=hd2.trans (hw3.mono hd2.size)
  go_wp2_with fail
  go_ret
  exact ⟨by rw [HD.out,ZaE (by omega)]; rfl,⟨a,cap,X,by rw [HD.out]; exact HH.out _ hd3⟩,hd3.mono hlt0⟩
 have k1:(E == 0)=true:=by rw [beq_iff_eq]; exact hE
 have k1':(E != 0)=false:=by unfold bne; rw [k1]; rfl
 obtain ⟨_,_,_,_,_,y5,_,_,_,_,_,_⟩:=KC.out _ hd2
 by_cases hst:(N:Int)<=d.c.steps
 rotate_left
 ·have k2:d.c.steps < (N:Int):=by omega
  have HD:Hid (dAudit d=⟨[],2,d⟩):=by
   show _=_
   rw [HDA.out,if_pos hE,if_neg hst]
   unfold dNum
   rw [if_neg (by decide)]
  go_wp2_with fail
  refine (HWR.out _ 2 hd2 (by omega) (by omega)).mono ?_
  rintro e w3 ⟨rfl,hw3⟩
  have hd3:=hd2.trans (hw3.mono hd2.size)
  go_wp2_with fail
  go_ret
  exact ⟨by rw [HD.out,ZaE (by omega)]; rfl,⟨a,cap,X,by rw [HD.out]; exact HH.out _ hd3⟩,hd3.mono hlt0⟩
 have k2:¬ d.c.steps < (N:Int):=by omega
 have HD:Hid (dAudit d=⟨Lib.itoa (AN:Nat),0,d⟩):=by
  show _=_
  rw [HDA.out,if_pos hE,if_pos hst,if_pos ⟨hE,hst⟩]
  rfl
 have HAU2:=Lib.hid (HAU.out hE hst)
 have hd3:Below w.heap.size w w2.drew:=hd2.drew
 clear HAU HDA HCO
 go_wp2_with fail
 refine wp_region_held_drew (S:=fun q=>q.cell? ⟨b,0,none⟩=some (.int .i64 d.c.i)/\q.cell? ⟨b,1,none⟩=some (.int .i64 d.c.h)/\q.cell? ⟨b,2,none⟩=some (.int .i64 d.c.o)/\q.cell? ⟨b,3,none⟩=some (.int .u64 d.c.seed)/\q.cell? ⟨b,4,none⟩=some (.int .i64 d.c.batch)/\q.cell? ⟨b,5,none⟩=some (.int .i64 d.c.steps)/\q.cell? ⟨b,6,none⟩=some (.int .i64 d.c.rate)/\q.cell? ⟨b,7,none⟩=some (.int .i64 d.c.decay)/\q.cell? ⟨b,8,none⟩=some (.int .i64 d.c.how)/\q.cell? ⟨b,9,none⟩=some (.int .i64 d.c.keep)/\q.cell? ⟨b,10,none⟩=some (.int .i64 d.c.clip)/\q.cell? ⟨b,11,none⟩=some (.slice a d.n cap)) (by kernel_rfl) (by with_reducible exact (KC.out _ hd3)) (fun hHeld=>?_)
 refine tk 0 (h:=?_)
 refine tk 1 (h:=?_)
 refine tk 2 (h:=?_)
 refine tk 3 (h:=?_)
 refine tk 4 (h:=?_)
 refine tk 5 (h:=?_)
 refine tk 6 (h:=?_)
 refine tk 7 (h:=?_)
 refine tk 8 (h:=?_)
 refine rd 9 (h:=fun K hK=>?_)
 clear hHeld
 go_simp
 (go_at_call 68; refine (HAU2.out _ hd3).mono ?_; rintro e w4 ⟨rfl,bel4⟩; have hd4:=hd3.trans (bel4.mono hd3.size); have Z4:=KC.out _ hd4)
 go_wp2_with fail
 refine hK.out _ _ ?_ (fun hHeld=>?_)
 ·with_reducible exact Z4
 clear hK K
 try simp only [Act.put,List.setIfInBounds_toArray,List.set_cons_zero,List.set_cons_succ]
 refine rd 10 (h:=fun K hK=>?_)
 clear hHeld
 go_simp
 (go_at_call 28; refine (HIT.out _ hd4).mono ?_; rintro e w5 ⟨rfl,bel5⟩; have hd5:=hd4.trans (bel5.mono hd4.size); have Z5:=KC.out _ hd5)
 go_wp2_with fail
 refine hK.out _ _ ?_ (fun hHeld=>?_)
 ·with_reducible exact Z5
 clear hK K
 try simp only [Act.put,List.setIfInBounds_toArray,List.set_cons_zero,List.set_cons_succ]
 refine tk 11 (h:=?_)
 refine wpAnyH_done (by kernel_rfl) ?_ _
 go_wp2_with fail
 go_ret
 exact ⟨by rw [HD.out,line_ok,HITB.out]; rfl,⟨a,cap,X,by rw [HD.out]; exact HH.out _ hd5⟩,hd5.mono hlt0⟩
end
end Go.Proofs.YthmiojmlaclgaaaGreatDoor.Fx
