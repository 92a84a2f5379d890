/- What the law stands on: DkH. -/
import Derived.Test.YthmiojmlaclgaaaGreatDoorJ00
import Derived.Test.YthmiojmlaclgaaaGreatDoorJ34
import Derived.Test.YthmiojmlaclgaaaGreatDoorJ25
set_option maxRecDepth 100000
set_option maxHeartbeats 12800000
namespace Go.Proofs.YthmiojmlaclgaaaGreatDoor.Fx
open Go.RowKit
section
variable {base:Nat} {w w':World} {b s:Nat} {d:Dsk} {a:Option Addr} {cap:Nat} {X:Nat->Exm}
theorem DkIn.lens (h:DkIn base w b s d a cap X):∀ i,i < d.n->(X i).n=(d.X i).n/\(X i).m=(d.X i).m:=fun i hi=>⟨(h.ex i hi).i.len.symm,(h.ex i hi).o.len.symm⟩
theorem DkIn.course (h:DkIn base w b s d a cap X):courseI d.c d.n X d.DI d.DO=courseI d.c d.n d.X d.DI d.DO:=courseI_X h.lens
theorem trim_line (x:List UInt8):Lib.trimSuffix (x ++ [10]) [10]=x:=by
 unfold Lib.trimSuffix Lib.hasSuffix
 simp
theorem mkE_pos {c:Cfg} {n:Nat} {X:Nat->Exm} {DI DO:Nat->List Int} {m:Int} (h:mkE c n X DI DO m=0):courseI c n X DI DO=0/\0<=m/\m<=c.steps:=by
 unfold mkE at h
 by_cases e:courseI c n X DI DO=0
 ·rw [if_pos e] at h
  by_cases e2:inB m 0 c.steps=true
  ·exact ⟨e,by unfold inB at e2; simpa using e2⟩
  ·rw [if_neg e2] at h; cases h
 ·rw [if_neg e] at h; exact absurd h e
theorem dstep_bad (h:DkIn base w b s d a cap X) (hE:mkE d.c d.n d.X d.DI d.DO ((d.k:Int)+1) ≠ 0):Calls Tryz.prog 48 #[.pointer (some ⟨b,0,none⟩)] w fun e w'=>DoR base b s w (dTake d) e w':=by
 have HD:Hid (dTake d=⟨[],mkE d.c d.n d.X d.DI d.DO ((d.k:Int)+1),d⟩):=by show _=_; unfold dTake; rw [if_neg hE]
 have HEX:Hid (mkE d.c d.n X d.DI d.DO ((d.k:Int)+1)=mkE d.c d.n d.X d.DI d.DO ((d.k:Int)+1)):=by show _=_; unfold mkE; rw [h.course]
 have TK:=Zcf h
 have HK40:Hid (d.k<=100):=(begL_is d.T).toBegTo.len
 have HMB0:Hid (∀ q,Below w.heap.size w q->Calls Tryz.prog 78 #[d.c.val,.slice a d.n cap,.int .i64 ((d.k:Int)+1)] q fun e w'=>∃ gb kb Rb,e=.returned (.tuple #[.slice gb (mkN d.c d.n X d.DI d.DO ((d.k:Int)+1)) kb,.int .i64 (mkE d.c d.n d.X d.DI d.DO ((d.k:Int)+1))])/\MadeR q w' d.c d.n d.DI d.DO gb (mkN d.c d.n X d.DI d.DO ((d.k:Int)+1)) kb Rb):=fun q hq=>by
  rw [← HEX.out]
  exact jMake_calls d.c a d.n cap X d.DI d.DO _ q h.ok.s (h.below hq).exs
 obtain ⟨E,HE⟩:=nm (mkE d.c d.n d.X d.DI d.DO ((d.k:Int)+1))
 obtain ⟨MN,HMN⟩:=nm (mkN d.c d.n X d.DI d.DO ((d.k:Int)+1))
 rw [HE.out] at HMB0 HD hE
 rw [HMN.out] at HMB0
 obtain ⟨k,HKK⟩:=nm (α:=Nat) (d.k)
 rw [HKK.out] at HMB0 TK HK40
 have hk40:=HK40.out
 have HH:Hid (∀ q,Below w.heap.size w q->DkIn base q b s d a cap X):=fun q hq=>h.below hq
 have KC:Hid (∀ q,Below w.heap.size w q->q.cell? ⟨b,0,none⟩=some (.int .i64 d.c.i)/\q.cell? ⟨b,1,none⟩=some (.int .i64 d.c.h)/\q.cell? ⟨b,2,none⟩=some (.int .i64 d.c.o)/\q.cell? ⟨b,3,none⟩=some (.int .u64 d.c.seed)/\q.cell? ⟨b,4,none⟩=some (.int .i64 d.c.batch)/\q.cell? ⟨b,5,none⟩=some (.int .i64 d.c.steps)/\q.cell? ⟨b,6,none⟩=some (.int .i64 d.c.rate)/\q.cell? ⟨b,7,none⟩=some (.int .i64 d.c.decay)/\q.cell? ⟨b,8,none⟩=some (.int .i64 d.c.how)/\q.cell? ⟨b,9,none⟩=some (.int .i64 d.c.keep)/\q.cell? ⟨b,10,none⟩=some (.int .i64 d.c.clip)/\q.cell? ⟨b,11,none⟩=some (.slice a d.n cap)):=fun q hq=>⟨(h.below hq).cells.1.c0,(h.below hq).cells.1.c1,(h.below hq).cells.1.c2,(h.below hq).cells.1.c3,(h.below hq).cells.1.c4,(h.below hq).cells.1.c5,(h.below hq).cells.1.c6,(h.below hq).cells.1.c7,(h.below hq).cells.1.c8,(h.below hq).cells.1.c9,(h.below hq).cells.1.c10,(h.below hq).cells.2.1⟩
 have hlt0:=h.lt
 have k1:(E == 0)=false:=by rw [beq_eq_false_iff_ne]; exact hE
 have hwr:IntKind.i64.wrap ((k:Int)+1)=(k:Int)+1:=ZaK _ (by omega) (by omega)
 clear HEX HE HMN h hE
 simp only [Cfg.val,Cfg.cells] at HMB0
 go_enter Tryz.func48,Tryz.ntmps48
 go_wp2_with (go_at_call 57; refine TK.mono ?_; rintro e w1 ⟨rfl,hw1⟩; have hd1:Below w.heap.size w w1.drew:=hw1.drew)
 refine wp_region_held_drew (S:=fun q=>q.cell? ⟨b,0,none⟩=some (.int .i64 d.c.i)/\q.cell? ⟨b,1,none⟩=some (.int .i64 d.c.h)/\q.cell? ⟨b,2,none⟩=some (.int .i64 d.c.o)/\q.cell? ⟨b,3,none⟩=some (.int .u64 d.c.seed)/\q.cell? ⟨b,4,none⟩=some (.int .i64 d.c.batch)/\q.cell? ⟨b,5,none⟩=some (.int .i64 d.c.steps)/\q.cell? ⟨b,6,none⟩=some (.int .i64 d.c.rate)/\q.cell? ⟨b,7,none⟩=some (.int .i64 d.c.decay)/\q.cell? ⟨b,8,none⟩=some (.int .i64 d.c.how)/\q.cell? ⟨b,9,none⟩=some (.int .i64 d.c.keep)/\q.cell? ⟨b,10,none⟩=some (.int .i64 d.c.clip)/\q.cell? ⟨b,11,none⟩=some (.slice a d.n cap)) (by kernel_rfl) (by with_reducible exact (KC.out _ hd1)) (fun hHeld=>?_)
 refine tk 0 (h:=?_)
 refine tk 1 (h:=?_)
 refine tk 2 (h:=?_)
 refine tk 3 (h:=?_)
 refine tk 4 (h:=?_)
 refine tk 5 (h:=?_)
 refine tk 6 (h:=?_)
 refine tk 7 (h:=?_)
 refine tk 8 (h:=?_)
 refine tk 9 (h:=?_)
 refine rd 10 (h:=fun K hK=>?_)
 clear hHeld
 go_simp
 (go_at_call 78; refine (HMB0.out _ hd1).mono ?_; rintro e w2 ⟨gb,kb,Rb,rfl,hmr⟩; have bel2:=hmr.bel; have hd2:=hd1.trans (bel2.mono hd1.size); have Z2:=KC.out _ hd2)
 go_wp2_with fail
 refine hK.out _ _ ?_ (fun hHeld=>?_)
 ·with_reducible exact Z2
 clear hK K
 try simp only [Act.put,List.setIfInBounds_toArray,List.set_cons_zero,List.set_cons_succ]
 refine tk 11 (h:=?_)
 refine tk 12 (h:=?_)
 refine tk 13 (h:=?_)
 refine tk 14 (h:=?_)
 refine tk 15 (h:=?_)
 refine wpAnyH_done (by kernel_rfl) ?_ _
 go_wp2_with fail
 go_ret2
 exact ⟨by rw [HD.out]; rfl,⟨a,cap,X,by rw [HD.out]; exact HH.out _ hd2⟩,DkCh.ofBelow hd2 hlt0⟩
theorem dstep_good (h:DkIn base w b s d a cap X) (hE:mkE d.c d.n d.X d.DI d.DO ((d.k:Int)+1)=0):Calls Tryz.prog 48 #[.pointer (some ⟨b,0,none⟩)] w fun e w'=>DoR base b s w (dTake d) e w':=by
 have HD:Hid (dTake d=if 4096 < d.T.length+(jrL d.c d.n d.DI d.DO d.k).text.length then ⟨[],6,d⟩ else ⟨(jrL d.c d.n d.DI d.DO d.k).line,0,{ d with T:=d.T ++ (jrL d.c d.n d.DI d.DO d.k).text }⟩):=by show _=_; unfold dTake; rw [if_pos hE]
 have TK:=Zcf h
 have HK40:Hid (d.k<=100):=(begL_is d.T).toBegTo.len
 obtain ⟨hF0,_,hks⟩:=mkE_pos hE
 have hF:courseI d.c d.n X d.DI d.DO=0:=by rw [h.course]; exact hF0
 obtain ⟨_,_,_,⟨b1,b8⟩,⟨s1,s40⟩,_⟩:=Zal (Zbr hF).1
 have HOK:Hid ((jrL d.c d.n d.DI d.DO d.k).ok):=(jrL_good hF s40 (by omega) (N:=d.k+1) (by omega) d.k (by omega)).1
 have HJ:Hid (∀ (R:Nat->Rcm),JrN (d.k+1) R (mkRV d.c) (mkRO d.c d.n d.DI d.DO) (mkCH d.c d.n d.DI d.DO)->(R d.k).ln (jrBatch d.c d.n d.k)=jrL d.c d.n d.DI d.DO d.k):=fun R h=>jrL_is h (by omega)
 have HMG0:Hid (∀ q,Below w.heap.size w q->Calls Tryz.prog 78 #[d.c.val,.slice a d.n cap,.int .i64 ((d.k:Int)+1)] q fun e w'=>∃ g R,e=.returned (.tuple #[.slice (some ⟨g,0,none⟩) (d.k+1) (d.k+1),.int .i64 0])/\q.heap.size<=g/\w'.rowIs g 111 ((d.k+1) * 5) (rcsR R (d.k+1))/\JrIn w' g q.heap.size d.c.batch.toNat (d.k+1) R (jrG d.c d.n)/\JrN (d.k+1) R (mkRV d.c) (mkRO d.c d.n d.DI d.DO) (mkCH d.c d.n d.DI d.DO)/\Below q.heap.size q w'):=fun q hq=>jMake_good d.c a d.n cap X d.DI d.DO (d.k+1) q h.ok.s (h.below hq).exs hF (by omega)
 generalize jrL d.c d.n d.DI d.DO d.k=l at *
 obtain ⟨BL,HBL⟩:=nm (jrBatch d.c d.n d.k)
 have HBL2:Hid ((List.range d.c.batch.toNat).map (jrG d.c d.n d.k)=BL):=by show _=_; rw [← HBL.out,jrBatch_is]
 rw [HBL.out] at HJ
 generalize mkRV d.c=RV at *
 generalize mkRO d.c d.n d.DI d.DO=RO at *
 generalize mkCH d.c d.n d.DI d.DO=CH at *
 obtain ⟨k,HKK⟩:=nm (α:=Nat) (d.k)
 rw [HKK.out] at HMG0 TK HK40 HJ HBL2
 have hk40:=HK40.out
 have HH:Hid (∀ q,Below w.heap.size w q->DkIn base q b s d a cap X):=fun q hq=>h.below hq
 have KC:Hid (∀ q,Below w.heap.size w q->q.cell? ⟨b,0,none⟩=some (.int .i64 d.c.i)/\q.cell? ⟨b,1,none⟩=some (.int .i64 d.c.h)/\q.cell? ⟨b,2,none⟩=some (.int .i64 d.c.o)/\q.cell? ⟨b,3,none⟩=some (.int .u64 d.c.seed)/\q.cell? ⟨b,4,none⟩=some (.int .i64 d.c.batch)/\q.cell? ⟨b,5,none⟩=some (.int .i64 d.c.steps)/\q.cell? ⟨b,6,none⟩=some (.int .i64 d.c.rate)/\q.cell? ⟨b,7,none⟩=some (.int .i64 d.c.decay)/\q.cell? ⟨b,8,none⟩=some (.int .i64 d.c.how)/\q.cell? ⟨b,9,none⟩=some (.int .i64 d.c.keep)/\q.cell? ⟨b,10,none⟩=some (.int .i64 d.c.clip)/\q.cell? ⟨b,11,none⟩=some (.slice a d.n cap)):=fun q hq=>⟨(h.below hq).cells.1.c0,(h.below hq).cells.1.c1,(h.below hq).cells.1.c2,(h.below hq).cells.1.c3,(h.below hq).cells.1.c4,(h.below hq).cells.1.c5,(h.below hq).cells.1.c6,(h.below hq).cells.1.c7,(h.below hq).cells.1.c8,(h.below hq).cells.1.c9,(h.below hq).cells.1.c10,(h.below hq).cells.2.1⟩
 have hlt0:=h.lt
 have hsl:=h.st.lt
 have hne:=h.ne
 have hwr:IntKind.i64.wrap ((k:Int)+1)=(k:Int)+1:=ZaK _ (by omega) (by omega)
 have hbb:=h.hs
 clear h hE hF hF0 hks b1 b8 s1 s40
 simp only [Cfg.val,Cfg.cells] at HMG0
 go_enter Tryz.func48,Tryz.ntmps48
 go_wp2_with (go_at_call 57; refine TK.mono ?_; rintro e w1 ⟨rfl,hw1⟩; have hd1:Below w.heap.size w w1.drew:=hw1.drew)
 refine wp_region_held_drew (S:=fun q=>q.cell? ⟨b,0,none⟩=some (.int .i64 d.c.i)/\q.cell? ⟨b,1,none⟩=some (.int .i64 d.c.h)/\q.cell? ⟨b,2,none⟩=some (.int .i64 d.c.o)/\q.cell? ⟨b,3,none⟩=some (.int .u64 d.c.seed)/\q.cell? ⟨b,4,none⟩=some (.int .i64 d.c.batch)/\q.cell? ⟨b,5,none⟩=some (.int .i64 d.c.steps)/\q.cell? ⟨b,6,none⟩=some (.int .i64 d.c.rate)/\q.cell? ⟨b,7,none⟩=some (.int .i64 d.c.decay)/\q.cell? ⟨b,8,none⟩=some (.int .i64 d.c.how)/\q.cell? ⟨b,9,none⟩=some (.int .i64 d.c.keep)/\q.cell? ⟨b,10,none⟩=some (.int .i64 d.c.clip)/\q.cell? ⟨b,11,none⟩=some (.slice a d.n cap)) (by kernel_rfl) (by with_reducible exact (KC.out _ hd1)) (fun hHeld=>?_)
 refine tk 0 (h:=?_)
 refine tk 1 (h:=?_)
 refine tk 2 (h:=?_)
 refine tk 3 (h:=?_)
 refine tk 4 (h:=?_)
 refine tk 5 (h:=?_)
 refine tk 6 (h:=?_)
 refine tk 7 (h:=?_)
 refine tk 8 (h:=?_)
 refine tk 9 (h:=?_)
 refine rd 10 (h:=fun K hK=>?_)
 clear hHeld
 go_simp
 (go_at_call 78; refine (HMG0.out _ hd1).mono ?_; rintro e w2 ⟨g,R,rfl,hg,row,jin,jn,bel2⟩; have hd2:=hd1.trans (bel2.mono hd1.size); have Z2:=KC.out _ hd2)
 go_wp2_with fail
 refine hK.out _ _ ?_ (fun hHeld=>?_)
 ·with_reducible exact Z2
 clear hK K
 try simp only [Act.put,List.setIfInBounds_toArray,List.set_cons_zero,List.set_cons_succ]
 refine tk 11 (h:=?_)
 refine tk 12 (h:=?_)
 refine tk 13 (h:=?_)
 refine tk 14 (h:=?_)
 refine tk 15 (h:=?_)
 refine wpAnyH_done (by kernel_rfl) ?_ _
 have hd:=HH.out _ hd2
 have hs1:=hd1.size
 obtain ⟨r1,r2,bg,r3,r4,r5,rl⟩:=jin k (by omega)
 have hr0:=HJ.out _ jn
 have e0:w2.cell? ⟨g,k * 5,none⟩=some (.int .i64 (R k).s):=ZaT row (by omega) nr (i:=0) (by omega)
 have e1:w2.cell? ⟨g,k * 5+1,none⟩=some (.slice (R k).a (R k).n (R k).k):=ZaT row (by omega) nr (i:=1) (by omega)
 have e2:w2.cell? ⟨g,k * 5+2,none⟩=some (.int .i64 (R k).r):=ZaT row (by omega) nr (i:=2) (by omega)
 have e3:w2.cell? ⟨g,k * 5+3,none⟩=some (.int .u64 (R k).root):=ZaT row (by omega) nr (i:=3) (by omega)
 have e4:w2.cell? ⟨g,k * 5+4,none⟩=some (.int .u64 (R k).chain):=ZaT row (by omega) nr (i:=4) (by omega)
 have hR0:0<=(R k).root/\0<=(R k).chain:=by
  have h1:=HOK.out.root.1
  have h2:=HOK.out.chain.1
  rw [← hr0] at h1 h2
  exact ⟨h1,h2⟩
 have hLst:Lst w2.drew (R k).a (R k).n (R k).k BL:=by
  rw [r1,r2,r3,← HBL2.out]
  exact (rl.lst).below (Below.drew br) nr
 have hfar:∀ bb oo,(R k).a=some ⟨bb,oo,none⟩->bb ≠ s:=fun bb oo e=>by
  rw [r3] at e
  simp only [Option.some.injEq,Addr.mk.injEq,and_true] at e
  omega
 obtain ⟨EE,HEE⟩:=nm (α:=Int) ((if 4096 < d.T.length+l.text.length then 6 else 0))
 obtain ⟨TT,HTT⟩:=nm (α:=List UInt8) ((if 4096 < d.T.length+l.text.length then d.T else d.T ++ l.text))
 have HAp:Hid (Calls Tryz.prog 79 #[.pointer (some ⟨s,0,none⟩),(R k).val] w2.drew fun e w'=>e=.returned (.int .i64 EE)/\StoAt w' s TT 4096 d.sy/\Keeps s w2.drew w'):=by
  refine (append_calls s d.T 4096 d.sy (by have:=hd.ok.T; omega) (R k) BL w2.drew (hd.st.below (Below.drew br)) hLst hR0.1 hR0.2 (hd.ld.below (Below.drew br) nr)).mono ?_
  rintro e w' ⟨E,T',hA,rfl,hS,hK⟩
  rw [hr0] at hA
  rcases hA with ⟨h,_⟩ | ⟨_,h,rfl,rfl⟩ | ⟨_,h,rfl,rfl⟩
  ·exact absurd HOK.out h
  ·rw [if_pos (by omega)] at HEE HTT
   rw [← HEE.out,← HTT.out]
   exact ⟨rfl,hS,hK⟩
  ·rw [if_neg (by omega)] at HEE HTT
   rw [← HEE.out,← HTT.out]
   exact ⟨rfl,hS,hK⟩
 have HPR:Hid (∀ q,Keeps s w2.drew q->LD q->Calls Tryz.prog 80 #[(R k).val] q fun e w'=>PrintR l e/\Below q.heap.size q w'):=fun q hq hL=>by
  have:=print_calls (R k) BL q (hLst.keeps hq (.inr hfar)) hR0.1 hR0.2 hL
  rw [hr0] at this
  exact this
 have c12:=hd.cells.2.2
 generalize R k=x at *
 obtain ⟨xs,xa,xn,xk,xr,xroot,xchain⟩:=x
 simp only [Rcm.val,Rcm.cells] at HAp HPR e0 e1 e2 e3 e4
 have hgs:g ≠ s:=by omega
 have HSS:Hid (∀ q,Keeps s w2 q->q.cell? ⟨b,12,none⟩=some (.pointer (some ⟨s,0,none⟩))/\q.cell? ⟨g,k * 5,none⟩=some (.int .i64 xs)/\q.cell? ⟨g,k * 5+1,none⟩=some (.slice xa xn xk)/\q.cell? ⟨g,k * 5+2,none⟩=some (.int .i64 xr)/\q.cell? ⟨g,k * 5+3,none⟩=some (.int .u64 xroot)/\q.cell? ⟨g,k * 5+4,none⟩=some (.int .u64 xchain)):=fun q h=>⟨(h.cell (a:=⟨b,12,none⟩) (Zas c12) hne).trans c12,(h.cell (a:=⟨g,k * 5,none⟩) (Zas e0) hgs).trans e0,(h.cell (a:=⟨g,k * 5+1,none⟩) (Zas e1) hgs).trans e1,(h.cell (a:=⟨g,k * 5+2,none⟩) (Zas e2) hgs).trans e2,(h.cell (a:=⟨g,k * 5+3,none⟩) (Zas e3) hgs).trans e3,(h.cell (a:=⟨g,k * 5+4,none⟩) (Zas e4) hgs).trans e4⟩
 have SV0:=HSS.out _ (Keeps.ofBelow (Below.drew br))
 have k0:(0:Int)<=(k:Int):=by omega
 have kn:(k:Int) < (k:Int)+1:=by omega
 have knn:k < k+1:=by omega
 clear jin jn row rl r1 r2 r3 r4 r5 hr0 hR0 hLst hfar e0 e1 e2 e3 e4 c12 HMG0 HJ Z2 TK KC HBL HBL2
 go_wp2_with fail
 refine wp_region_held_drew (S:=fun q=>q.cell? ⟨b,12,none⟩=some (.pointer (some ⟨s,0,none⟩))/\q.cell? ⟨g,k * 5,none⟩=some (.int .i64 xs)/\q.cell? ⟨g,k * 5+1,none⟩=some (.slice xa xn xk)/\q.cell? ⟨g,k * 5+2,none⟩=some (.int .i64 xr)/\q.cell? ⟨g,k * 5+3,none⟩=some (.int .u64 xroot)/\q.cell? ⟨g,k * 5+4,none⟩=some (.int .u64 xchain)) (by kernel_rfl) (by with_reducible exact SV0) (fun hHeld=>?_)
 refine tk 0 (h:=?_)
 refine tk 1 (h:=?_)
 refine tk 2 (h:=?_)
 refine tk 3 (h:=?_)
 refine tk 4 (h:=?_)
 refine tk 5 (h:=?_)
 refine tk 6 (h:=?_)
 refine tk 7 (h:=?_)
 refine rd 8 (h:=fun K hK=>?_)
 clear hHeld
 go_simp
 (refine HAp.out.mono ?_; rintro e w3 ⟨rfl,S3,hK3⟩; have SV3:=HSS.out _ ((Keeps.ofBelow (Below.drew br)).trans hK3))
 go_wp2_with fail
 refine hK.out _ _ ?_ (fun hHeld=>?_)
 ·with_reducible exact SV3
 clear hK K
 try simp only [Act.put,List.setIfInBounds_toArray,List.set_cons_zero,List.set_cons_succ]
 refine tk 9 (h:=?_)
 refine wpAnyH_done (by kernel_rfl) ?_ _
 have hK2:Keeps s w2 w3:=(Keeps.ofBelow (Below.drew br)).trans hK3
 have hCh:DkCh base w w3:=(DkCh.ofBelow hd2 hlt0).trans (DkCh.ofKeeps hK2 hd.hs hd.lt hd.st)
 by_cases hroom:4096 < d.T.length+l.text.length
 ·rw [if_pos hroom] at HEE HTT HD
  obtain rfl:(6:Int)=EE:=HEE.out
  rw [← HTT.out] at S3
  have hd3:DkIn base w3 b s d a cap X:=hd.keeps hK2 S3 hd.ok
  go_wp2_with fail
  go_ret2
  exact ⟨by rw [HD.out]; rfl,⟨a,cap,X,by rw [HD.out]; exact hd3⟩,hCh⟩
 ·rw [if_neg hroom] at HEE HTT HD
  obtain rfl:(0:Int)=EE:=HEE.out
  rw [← HTT.out] at S3
  have hok3:Dsk.ok { d with T:=d.T ++ l.text,sy:=d.sy }:=⟨hd.ok.c,hd.ok.s,hd.ok.n,by show (d.T ++ l.text).length<=4096; rw [List.length_append]; omega,by show d.sy<=(d.T ++ l.text).length; have:=hd.ok.sy; rw [List.length_append]; omega⟩
  have hd3:DkIn base w3 b s { d with T:=d.T ++ l.text,sy:=d.sy } a cap X:=hd.keeps hK2 S3 hok3
  have PR:=HPR.out _ hK3 hd3.ld
  obtain ⟨u12,u0,u1,u2,u3,u4⟩:=SV3
  have TS:=trimS_calls ⟨l.text.toArray⟩ ⟨#[10]⟩
  have HTX:Hid (Lib.trimSuffix (⟨l.text.toArray⟩:ByteArray).data.toList (⟨#[10]⟩:ByteArray).data.toList=l.line):=trim_line l.line
  have hsh:(⟨l.text.toArray⟩:ByteArray).size<=9223372036854775807:=by have:=HOK.out.short; show l.text.length<=_; omega
  obtain ⟨Y,HY⟩:=nm ((⟨l.text.toArray⟩:ByteArray))
  rw [HTX.out,HY.out] at TS
  rw [HY.out] at hsh
  clear HTX
  go_wp2_with fail
  refine PR.mono ?_
  rintro e w4 ⟨hpr,hw4⟩
  rcases hpr with ⟨_,rfl⟩ | ⟨hno,_⟩
  ·rw [HY.out]
   have TS4:=TS w4 hsh
   go_wp2_with (go_at_call 81; refine TS4.mono ?_; rintro e w5 ⟨rfl,rfl⟩)
   go_ret2
   exact ⟨by rw [HD.out]; rfl,⟨a,cap,X,by rw [HD.out]; exact hd3.below hw4⟩,hCh.trans (DkCh.ofBelow hw4 hd3.lt)⟩
  ·exact absurd HOK.out hno
theorem dstep_calls (h:DkIn base w b s d a cap X):Calls Tryz.prog 48 #[.pointer (some ⟨b,0,none⟩)] w fun e w'=>DoR base b s w (dTake d) e w':=by
 by_cases hE:mkE d.c d.n d.X d.DI d.DO ((d.k:Int)+1)=0
 ·exact dstep_good h hE
 ·exact dstep_bad h hE
end
end Go.Proofs.YthmiojmlaclgaaaGreatDoor.Fx
